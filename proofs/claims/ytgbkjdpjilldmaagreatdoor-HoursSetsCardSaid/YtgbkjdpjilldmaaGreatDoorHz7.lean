/- Merged: LxRule, LxEv, LxSeqA. -/
import Derived.RangeFuncNested
import Derived.RangeFuncCalls
import Derived.RangeFuncLeaves
import Derived.Test.YtgbkjdpjilldmaaGreatDoorHz2
import Derived.Test.YtgbkjdpjilldmaaGreatDoorHz6
import Derived.RangeFuncBound
import Derived.Shelf.Abstract
import Derived.Shelf.RegionOpen
import Derived.OwnWalkIn
import Derived.TacticsInMore
import Derived.LoopNIn
import Derived.LoopIn
import Derived.Sort.OwnSorted
import Derived.Sort.CutIn
/- A range over an iterator that writes into rows of its own between two rounds (a reader that it made). The library's law asks that what stands between two rounds abides new blocks and the iterators' records; here it abides rows of one type, too. No program is named. -/
namespace Go.Proofs.YtgbkjdpjilldmaaGreatDoor.Rule
open Go.RowKit
section
variable {F : Fence} {n : Nat} {P : Program} {α : Type}
/-- what an iterator may change: new blocks, records, its own rows of type t. -/
def Step (t : TypeId) (B : Nat) (w w' : World) : Prop :=
  ∃ row, w.grownBy w' row ∧ ∀ r, row = some r → B ≤ r ∧ ∃ o : Obj, w.heap[r]? = some o ∧ (o.isWalk = true ∨ ∃ cs, o = .cells cs t (0, 0))
def Lets (t : TypeId) (B : Nat) (J : List α → World → Prop) : Prop := ∀ s W W', J s W → Step t B W W' → J s W'
/-- an iterator's contract. -/
def SeqT (F : Fence) (n : Nat) (P : Program) (t : TypeId) (g : Nat) (lb : Array Value) (encs : α → Array Value) (Kp : World → World → Prop) (S Sp : List α → Prop) (N : Nat) (w : World) : Prop :=
  ∀ (l : Nat) (J Jx : List α → World → Prop) (W : World), Below w.heap.size w W → Lets t W.heap.size J → Lets t W.heap.size Jx →
    (∀ pre x W1, J pre W1 → pre.length < N → YieldAt F (n - 1) P l (encs x) W1 fun e W' =>
      (e = .returned (.bool true) ∧ J (pre ++ [x]) W' ∧ Kp W1 W') ∨ (e = .returned (.bool false) ∧ Jx (pre ++ [x]) W')) →
    J [] W →
    CallsIn F n P g (#[.func (.yield l) #[] #[]] ++ lb) W fun e W' => (∃ v, e = .returned v) ∧ ((∃ xs, S xs ∧ J xs W') ∨ (∃ pre, Sp pre ∧ Jx pre W'))
theorem Step.same {t : TypeId} {B : Nat} {w w' : World} (h : Step t B w w') {k : Nat} {o : Obj} (hk : w.heap[k]? = some o) (h1 : o.isCells = false) (h2 : o.isWalk = false) : w'.heap[k]? = some o := by
  obtain ⟨row, hg, hr⟩ := h
  refine (hg.block k (Array.getElem?_eq_some_iff.1 hk).1 fun e => ?_).trans hk
  obtain ⟨_, o', ho, hc⟩ := hr k e.symm
  rw [hk] at ho
  injection ho with ho
  subst ho
  rcases hc with hc | ⟨cs, rfl⟩
  · rw [hc] at h2; cases h2
  · cases h1
theorem Step.mono {t : TypeId} {B B' : Nat} {w w' : World} (h : Step t B w w') (hB : B' ≤ B) : Step t B' w w' := by
  obtain ⟨row, hg, hr⟩ := h
  exact ⟨row, hg, fun r e => ⟨Nat.le_trans hB (hr r e).1, (hr r e).2⟩⟩
/-- the law. -/
theorem range_own {t : TypeId} {g : Operand} {ps : Array Tmp} {assign body : Code} {Q : Exit → Act → World → Prop} {a : Act} {w : World}
    (hro : F.round = none) (h1 : 1 ≤ n) {gf : Nat} {lb : Array Value} (hg : a.eval g = .func (.func gf) #[] lb) (hFg : F.fn gf) (eg : ∀ args w, (callFunc gf args).run P w = .ok (.enter gf args) w)
    {encs : α → Array Value} {Kp : World → World → Prop} {S Sp : List α → Prop} {N : Nat} {w0 : World} (hseq : SeqT F (n - 1) P t gf lb encs Kp S Sp N w0)
    (hKt : ∀ {A B C : World}, Kp A B → Kp B C → Kp A C) (hKb : ∀ (W : World) (l : Nat) (o o' : Obj), w.heap.size ≤ l → W.heap[l]? = some o → o.isCells = false → o.isWalk = false → Kp W (W.putObj l o')) (hb0 : Below w0.heap.size w0 w) (hps : ∀ x, (encs x).size = ps.size)
    (I : List α → World → Prop) (Ix : Code → List α → World → Prop) (hI : OwnFrom w.heap.size I) (hIx : ∀ c, OwnFrom w.heap.size (Ix c)) (hIt : Lets t w.heap.size I) (hIxt : ∀ c, Lets t w.heap.size (Ix c)) (h0 : I [] w)
    (Ax : α → Act → World → Prop) (hAx : ∀ x a', OwnFrom w.heap.size (fun (_ : Unit) W => Ax x a' W))
    (hassign : ∀ (l : Nat) (pre : List α) (x : α) (W : World) (K : Act → World → Prop), I pre W → (∀ a' W', KeepsFrom w.heap.size W W' → Kp W W' → I pre W' → Ax x a' W' → K a' W') →
      assign.wpIn (F.inRound l) (n - 1 - 1) P (Exit.then K (fun _ _ _ => False)) { tmps := (ps.zip (encs x)).foldl (fun t (p, v) => t.setIfInBounds p v) a.tmps, defers := [] } W)
    (hbody : ∀ (l : Nat) (pre : List α) (x : α) (a' : Act) (W : World), I pre W → Ax x a' W → pre.length < N → body.wpIn (F.inRound l) (n - 1 - 1) P (ownPostG w.heap.size Kp I Ix (pre ++ [x]) W) a' W)
    (hdone : ∀ (D : Nat) (xs : List α) (W : World), w.heap.size ≤ D → S xs → I xs W → W.heap[D]? = some (.deferred (some [])) → Q .normal { a with defers := { target := .collected D, args := #[] } :: a.defers } W)
    (hstop : ∀ (D : Nat) (c : Code) (pre : List α) (W : World), w.heap.size ≤ D → Sp pre → Ix c pre W → W.heap[D]? = some (.deferred (some [])) → c.wpIn F n P Q { a with defers := { target := .collected D, args := #[] } :: a.defers } W) :
    (Code.rangeFunc g ps assign body).wpIn F n P Q a w := by
  refine wpIn_rangeFunc fun fn hfn => ?_
  rw [hro]
  obtain ⟨hz, hhz⟩ : ∃ hz, w.heap.size = hz := ⟨_, rfl⟩
  obtain ⟨L, hL⟩ : ∃ L : LoopState → Option Code → Loop, L = fun st pe => { state := st, pending := pe, fn, tmps := a.tmps, params := ps, assign, body, defers := w.heap.size } := ⟨_, rfl⟩
  obtain ⟨V, hV⟩ : ∃ V, (w.alloc (.deferred (some []))).alloc (.loop (L .ready none)) = V := ⟨_, rfl⟩
  have hVs : V.heap.size = hz + 2 := by rw [← hV, ← hhz]; simp
  have bL : V.heap[hz + 1]? = some (.loop (L .ready none)) := by
    have := World.alloc_heap_new (w.alloc (.deferred (some []))) (.loop (L .ready none))
    rw [World.size_alloc, hhz] at this
    rw [← hV]; exact this
  have bD : V.heap[hz]? = some (.deferred (some [])) := by
    rw [← hV, ← hhz]; exact (Below.heap_alloc _ _ _ (by simp)).trans (World.alloc_heap_new w _)
  have I1 : I [] V := by rw [← hV]; exact hI.alloc _ (hI.alloc _ h0)
  have B1 : Below w0.heap.size w0 V := by
    rw [← hV]; exact hb0.trans ((((Below.refl _ w).alloc (Nat.le_refl _) _).alloc (by simp) _).mono hb0.size)
  have enter : (Instr.enterLoop fn a.tmps ps assign body none).run P w = .ok (hz + 1, [{ target := .collected hz, args := #[] }]) V := by
    rw [← hV, hL, ← hhz]; exact run_enterLoop_outer _ _ _ _ _
  -- both books lie as they lay, whatever the iterator does
  have book : ∀ (st : LoopState) (pe : Option Code) (A A' : World), Step t V.heap.size A A' → A.heap[hz + 1]? = some (.loop (L st pe)) ∧ A.heap[hz]? = some (.deferred (some [])) → A'.heap[hz + 1]? = some (.loop (L st pe)) ∧ A'.heap[hz]? = some (.deferred (some [])) :=
    fun st pe A A' hs h => ⟨hs.same h.1 rfl rfl, hs.same h.2 rfl rfl⟩
  have hle : w.heap.size ≤ V.heap.size := by omega
  refine ⟨hz + 1, [{ target := .collected hz, args := #[] }], V, { target := .fn (.func gf) lb, args := #[.func (.yield (hz + 1)) #[] #[]] }, V, gf, #[.func (.yield (hz + 1)) #[] #[]] ++ lb, V, enter, ?_, ?_, ?_, fun _ => h1, ?_⟩
  · simp only [resolve, hg]
    simp [go_sem]
  · intro f' hf'
    simp [Target.leads] at hf'
    subst hf'
    exact hFg
  · simp [invoke, go_sem, eg]
  refine (hseq (hz + 1)
    (fun pre W => I pre W ∧ (W.heap[hz + 1]? = some (.loop (L .ready none)) ∧ W.heap[hz]? = some (.deferred (some []))))
    (fun pre W => ∃ c, Ix c pre W ∧ (W.heap[hz + 1]? = some (.loop (L .done (some c))) ∧ W.heap[hz]? = some (.deferred (some []))))
    V B1 (fun s A A' h hs => ⟨hIt s A A' h.1 (hs.mono hle), book _ _ A A' hs h.2⟩)
    (fun s A A' h hs => by obtain ⟨c, hc, hb⟩ := h; exact ⟨c, hIxt c s A A' hc (hs.mono hle), book _ _ A A' hs hb⟩)
    ?round ⟨I1, bL, bD⟩).mono ?behind
  case round =>
    rintro pre x W ⟨hi, hl, hk⟩ hlen
    have hy := run_yield (P := P) (args := encs x) hl (by rw [hL]; exact hps x)
    rw [hL] at hy
    refine ⟨fn, _, assign, body, hy, roundIn_of_wpIn hfn (hassign _ pre x W _ hi fun a' U kf kp iu ax => ?_)⟩
    have hl := kf.same _ _ (by omega) hl rfl
    have hk := kf.same _ _ (by omega) hk rfl
    have hlt : hz + 1 < U.heap.size := (Array.getElem?_eq_some_iff.1 hl).1
    refine ⟨_, run_beginRound hl (by rw [hL]), ?_⟩
    obtain ⟨Z, hZ⟩ : ∃ Z, U.putObj (hz + 1) (.loop { L .ready none with state := .busy }) = Z := ⟨_, rfl⟩
    have zl : Z.heap[hz + 1]? = some (.loop { L .ready none with state := .busy }) := hZ ▸ World.putObj_heap_same hlt
    have zk : Z.heap[hz]? = some (.deferred (some [])) := hZ ▸ (World.putObj_heap_other (by omega)).trans hk
    have kz : Kp U Z := hZ ▸ hKb _ _ _ _ (by omega) hl rfl rfl
    rw [hZ]
    refine wpIn_mono (hbody _ pre x a' Z (hZ ▸ hI.putObj _ iu (by omega) hl rfl) (hZ ▸ (hAx x a').putObj (s := ()) _ ax (by omega) hl rfl) hlen) ?_
    have fin : ∀ (jump : Option Code) (X : World), KeepsFrom w.heap.size Z X →
        (Instr.endRound (hz + 1) jump).run P X = .ok (.bool jump.isNone) (X.putObj (hz + 1) (.loop (L (if jump.isNone then .ready else .done) jump))) ∧
        X.heap[hz + 1]? = some (.loop { L .ready none with state := .busy }) ∧
        ((X.putObj (hz + 1) (.loop (L (if jump.isNone then .ready else .done) jump))).heap[hz + 1]? = some (.loop (L (if jump.isNone then .ready else .done) jump)) ∧
        (X.putObj (hz + 1) (.loop (L (if jump.isNone then .ready else .done) jump))).heap[hz]? = some (.deferred (some []))) := fun jump X kx => by
      have xl := kx.same _ _ (by omega) zl rfl
      have r := run_endRound (P := P) jump xl
      rw [hL] at r xl ⊢
      exact ⟨r, xl, World.putObj_heap_same (Array.getElem?_eq_some_iff.1 xl).1, (World.putObj_heap_other (by omega)).trans (kx.same _ _ (by omega) zk rfl)⟩
    have stop : ∀ (c : Code) (X : World), KeepsFrom w.heap.size Z X → Ix c (pre ++ [x]) X → _ := fun c X kx ix =>
      let r := fin (some c) X kx
      (⟨_, _, r.1, .inr ⟨rfl, c, (hIx c).putObj _ ix (by omega) r.2.1 rfl, r.2.2⟩⟩ : ∃ v X', (Instr.endRound (hz + 1) (some c)).run P X = .ok v X' ∧ ((Ending.returned v = .returned (.bool true) ∧ (I (pre ++ [x]) X' ∧ (X'.heap[hz + 1]? = some (.loop (L .ready none)) ∧ X'.heap[hz]? = some (.deferred (some [])))) ∧ Kp W X') ∨ (Ending.returned v = .returned (.bool false) ∧ ∃ c, Ix c (pre ++ [x]) X' ∧ (X'.heap[hz + 1]? = some (.loop (L .done (some c))) ∧ X'.heap[hz]? = some (.deferred (some []))))))
    rintro e a3 X hp
    cases e with
    | normal =>
      obtain ⟨kx, px, ix⟩ := hp
      have r := fin none X kx
      exact ⟨_, _, r.1, .inl ⟨rfl, ⟨hI.putObj _ ix (by omega) r.2.1 rfl, r.2.2⟩, hKt kp (hKt (hKt kz px) (hKb _ _ _ _ (by omega) r.2.1 rfl rfl))⟩⟩
    | ret => exact stop .ret X hp.1 hp.2
    | exit id => exact stop (.exit id) X hp.1 hp.2
    | goto t => exact stop (.goto t) X hp.1 hp.2
    | panic ch => exact hp.elim
    | outgrown => exact hp.elim
  case behind =>
    rintro e W2 ⟨⟨v, rfl⟩, hx⟩
    rcases hx with ⟨xs, hS, hi, hl, hk⟩ | ⟨pre, hSp, c, hi, hl, hk⟩
    · have r := run_endLoop (P := P) hl (by rw [hL]; simp)
      rw [hL] at r
      have hd := hdone hz xs _ (by omega) hS (hI.putObj (.loop { L .ready none with state := .exhausted }) hi (by omega) hl rfl) ((World.putObj_heap_other (by omega)).trans hk)
      rw [hL] at hd
      exact ⟨none, _, r, hd⟩
    · have r := run_endLoop (P := P) hl (by rw [hL]; simp)
      rw [hL] at r
      have hd := hstop hz c pre _ (by omega) hSp ((hIx c).putObj (.loop { L .done (some c) with state := .exhausted }) hi (by omega) hl rfl) ((World.putObj_heap_other (by omega)).trans hk)
      rw [hL] at hd
      exact ⟨some c, _, r, hd⟩
end
end Go.Proofs.YtgbkjdpjilldmaaGreatDoor.Rule
/- Plain mathematics of tokens: what the range function hands on, what Lex makes of it; it is the relation of tokens. -/
namespace Go.Proofs.YtgbkjdpjilldmaaGreatDoor.Lx
/-- what is handed on from an offset on, behind gaps: tokens with 0, or an error. -/
def ev : Nat → Nat → B → List (Tk × Int)
  | 0, _, _ => []
  | _ + 1, _, [] => []
  | f + 1, a, c :: l => match nx (c :: l) with
    | .bad e => [(⟨0, [], a⟩, e)]
    | .tok k t n => (⟨k, t, a⟩, 0) :: ev f (a + n + gp false ((c :: l).drop n)) (((c :: l).drop n).drop (gp false ((c :: l).drop n)))
def evs (a : Nat) (m : B) : List (Tk × Int) := ev m.length a m
theorem ev_fuel : ∀ (f f' a : Nat) (m : B), m.length ≤ f → m.length ≤ f' → ev f a m = ev f' a m
  | 0, 0, _, _, _, _ => rfl
  | 0, f' + 1, a, m, h, _ => by
    obtain rfl : m = [] := List.eq_nil_of_length_eq_zero (by omega)
    rfl
  | f + 1, 0, a, m, _, h => by
    obtain rfl : m = [] := List.eq_nil_of_length_eq_zero (by omega)
    rfl
  | f + 1, f' + 1, a, [], _, _ => rfl
  | f + 1, f' + 1, a, c :: l, h, h' => by
    show (match nx (c :: l) with | .bad e => _ | .tok k t n => _) = (match nx (c :: l) with | .bad e => _ | .tok k t n => _)
    cases hn : nx (c :: l) with
    | bad e => rfl
    | tok k t n =>
      have hw := nx_wr hn
      have hl : (((c :: l).drop n).drop (gp false ((c :: l).drop n))).length ≤ l.length := by
        rw [List.length_drop, List.length_drop, List.length_cons]; omega
      simp only [List.length_cons] at h h'
      dsimp only
      rw [ev_fuel f f' _ _ (by omega) (by omega)]
theorem evs_nil (a : Nat) : evs a [] = [] := rfl
theorem evs_bad {a : Nat} {m : B} {e : Int} (h0 : m ≠ []) (h : nx m = .bad e) : evs a m = [(⟨0, [], a⟩, e)] := by
  cases m with
  | nil => exact absurd rfl h0
  | cons c l => show (match nx (c :: l) with | .bad e => _ | .tok k t n => _) = _; rw [h]
theorem evs_tok {a : Nat} {m : B} {k : Int} {t : B} {n : Nat} (h : nx m = .tok k t n) :
    evs a m = (⟨k, t, a⟩, 0) :: evs (a + n + gp false (m.drop n)) ((m.drop n).drop (gp false (m.drop n))) := by
  have hw := nx_wr h
  cases m with
  | nil => simp [nx] at h
  | cons c l =>
    show (match nx (c :: l) with | .bad e => _ | .tok k t n => _) = _
    rw [h]
    show _ :: _ = _ :: _
    congr 1
    exact ev_fuel _ _ _ _ (by rw [List.length_drop, List.length_drop, List.length_cons]; omega) (Nat.le_refl _)
theorem evs_len : ∀ (f a : Nat) (m : B), m.length ≤ f → (evs a m).length ≤ m.length
  | _, a, [], _ => Nat.le_refl _
  | 0, a, c :: l, h => by simp at h
  | f + 1, a, c :: l, h => by
    cases hn : nx (c :: l) with
    | bad e => rw [evs_bad (by simp) hn]; simp
    | tok k t n =>
      rw [evs_tok hn]
      have hw := nx_wr hn
      have hl : (((c :: l).drop n).drop (gp false ((c :: l).drop n))).length ≤ l.length := by
        rw [List.length_drop, List.length_drop, List.length_cons]; omega
      simp only [List.length_cons] at h ⊢
      have := evs_len f (a + n + gp false ((c :: l).drop n)) _ (Nat.le_trans hl (by omega))
      omega
/-- what Lex makes of it. -/
def scan (acc : List Tk) : List (Tk × Int) → List Tk × Int × Int
  | [] => (acc, 0, 0)
  | (t, e) :: r => if e = 0 ∧ acc.length = 5000 then ([], 2, t.a) else if e ≠ 0 then ([], e, t.a) else scan (acc ++ [t]) r
def evL (s : B) : List (Tk × Int) := evs (gp false s) (s.drop (gp false s))
def lexR (s : B) : List Tk × Int × Int := if 20000 < s.length then ([], 2, -1) else scan [] (evL s)
theorem nx_err {m : B} {e : Int} (h0 : m ≠ []) (h : nx m = .bad e) : e = 2 ∨ e = 3 ∨ e = 4 := by
  cases m with
  | nil => exact absurd rfl h0
  | cons c l =>
    by_cases h1 : isLet c
    · rw [nx_let h1] at h
      split at h
      · injection h with h; exact .inl h.symm
      · cases h
    · have h1' : isLet c = false := by simpa using h1
      by_cases h2 : isDig c
      · rw [nx_dig h1' h2] at h
        split at h
        · injection h with h; exact .inr (.inr h.symm)
        · cases h
      · have h2' : isDig c = false := by simpa using h2
        by_cases h3 : c = 34
        · subst h3
          rw [nx_quo] at h
          cases hq : st false l with
          | none => rw [hq] at h; injection h with h; exact .inr (.inl h.symm)
          | some r => rw [hq] at h; cases h
        · rw [nx_sym h1' h2' h3] at h
          split at h
          · cases h
          · injection h with h; exact .inr (.inl h.symm)
def tail : Option (Int × Nat) → List (Tk × Int)
  | none => []
  | some (e, x) => [(⟨0, [], x⟩, e)]
theorem evs_lx {a : Nat} {l : B} {ts : List Tk} {r : Option (Int × Nat)} (h : Lx a l ts r) : evs (a + gp false l) (l.drop (gp false l)) = ts.map (fun t => (t, 0)) ++ tail r := by
  induction h with
  | done h => rw [h]; rfl
  | bad h h0 hn => rw [h, evs_bad h0 hn]; rfl
  | tok h h0 hn _ ih => rw [h, evs_tok hn, ih]; rfl
theorem lx_any : ∀ (f a : Nat) (l : B), l.length ≤ f → ∃ ts r, Lx a l ts r ∧ ts.length ≤ l.length ∧ ∀ e x, r = some (e, x) → (e = 2 ∨ e = 3 ∨ e = 4) ∧ x < a + l.length ∧ a ≤ x := by
  intro f
  induction f with
  | zero =>
    intro a l h
    obtain rfl : l = [] := List.eq_nil_of_length_eq_zero (by omega)
    exact ⟨[], none, .done rfl, Nat.le_refl _, by intro e x h; cases h⟩
  | succ f ih =>
    intro a l h
    by_cases h0 : l.drop (gp false l) = []
    · exact ⟨[], none, .done h0, Nat.zero_le _, by intro e x h; cases h⟩
    · have hg := gp_le false l
      have hlt : gp false l < l.length := by
        refine Nat.lt_of_not_le fun hge => h0 (List.drop_of_length_le hge)
      cases hn : nx (l.drop (gp false l)) with
      | bad e => exact ⟨[], some (e, a + gp false l), .bad rfl h0 hn, Nat.zero_le _, by intro e' x h; cases h; exact ⟨nx_err h0 hn, by omega, by omega⟩⟩
      | tok k t n =>
        have hw := nx_wr hn
        rw [List.length_drop] at hw
        obtain ⟨ts, r, h1, h2, h3⟩ := ih (a + gp false l + n) ((l.drop (gp false l)).drop n) (by rw [List.length_drop, List.length_drop]; omega)
        rw [List.length_drop, List.length_drop] at h2 h3
        exact ⟨_, r, .tok rfl h0 hn h1, by simp; omega, fun e x hx => ⟨(h3 e x hx).1, by have := (h3 e x hx).2.1; omega, by have := (h3 e x hx).2.2; omega⟩⟩
theorem scan_map (r : Option (Int × Nat)) (hr : ∀ e x, r = some (e, x) → e = 2 ∨ e = 3 ∨ e = 4) : ∀ (ts acc : List Tk), acc.length + ts.length ≤ 5000 →
    scan acc (ts.map (fun t => (t, 0)) ++ tail r) = match r with | none => (acc ++ ts, 0, 0) | some (e, x) => ([], e, x)
  | [], acc, h => by
    cases r with
    | none => show (acc, (0 : Int), (0 : Int)) = _; rw [List.append_nil]
    | some ex =>
      obtain ⟨e, x⟩ := ex
      have := hr e x rfl
      show (if e = 0 ∧ acc.length = 5000 then _ else if e ≠ 0 then _ else _) = _
      rw [if_neg (by omega), if_pos (by omega)]
  | t :: ts, acc, h => by
    show (if (0 : Int) = 0 ∧ acc.length = 5000 then _ else if (0 : Int) ≠ 0 then _ else scan (acc ++ [t]) (ts.map (fun t => (t, 0)) ++ tail r)) = _
    simp only [List.length_cons] at h
    rw [if_neg (by omega), if_neg (by omega), scan_map r hr ts (acc ++ [t]) (by simp; omega)]
    cases r with
    | none => simp
    | some ex => rfl
theorem lx_det {a : Nat} {l : B} {ts ts' : List Tk} {r r' : Option (Int × Nat)} (h : Lx a l ts r) (h' : Lx a l ts' r') : ts = ts' ∧ r = r' := by
  induction h generalizing ts' r' with
  | done h =>
    cases h' with
    | done _ => exact ⟨rfl, rfl⟩
    | bad h2 h0 _ => exact absurd (h2.symm.trans h) h0
    | tok h2 h0 _ _ => exact absurd (h2.symm.trans h) h0
  | bad h h0 hn =>
    cases h' with
    | done h2 => exact absurd (h.symm.trans h2) h0
    | bad h2 _ hn2 => rw [← h2, h, hn] at hn2; cases hn2; exact ⟨rfl, rfl⟩
    | tok h2 _ hn2 _ => rw [← h2, h, hn] at hn2; cases hn2
  | tok h h0 hn _ ih =>
    cases h' with
    | done h2 => exact absurd (h.symm.trans h2) h0
    | bad h2 _ hn2 => rw [← h2, h, hn] at hn2; cases hn2
    | tok h2 _ hn2 hr2 =>
      have e := h2.symm.trans h
      rw [e, hn] at hn2
      cases hn2
      rw [e] at hr2
      obtain ⟨rfl, rfl⟩ := ih hr2
      exact ⟨rfl, rfl⟩
/-- a text of at most 5000 bytes: what Lex returns. -/
theorem lex_lx {s : B} {ts : List Tk} {r : Option (Int × Nat)} (h : Lx 0 s ts r) (hs : s.length ≤ 5000) : lexR s = match r with | none => (ts, 0, 0) | some (e, x) => ([], e, x) := by
  obtain ⟨ts', r', h', h2, h3⟩ := lx_any s.length 0 s (Nat.le_refl _)
  obtain ⟨rfl, rfl⟩ := lx_det h h'
  have e := evs_lx h
  rw [Nat.zero_add] at e
  unfold lexR evL
  rw [if_neg (by omega), e, scan_map r (fun e x hx => (h3 e x hx).1) ts [] (by simp; omega)]
  cases r <;> rfl
end Go.Proofs.YtgbkjdpjilldmaaGreatDoor.Lx
/- lexer: the range function tokens: what stands ahead of its contract. -/
namespace Go.Proofs.YtgbkjdpjilldmaaGreatDoor.Lx
open Go.RowKit Go.Sort Go.Shelf
attribute [local go_sem] Oper.semAt_some
theorem tokens_any (s : ByteArray) (w : World) :
    Calls Tryz.prog 62 #[.string s] w fun e w' => e = .returned (.func (.func 88) #[] #[.pointer (some ⟨w.heap.size, 0, none⟩)]) ∧ w.alloc (.cells #[.string s] 9) = w' := by
  go_enter Tryz.func62, Tryz.ntmps62
  go_wp2
  go_ret
  exact ⟨rfl, rfl⟩
/-- what the body of a loop over the tokens keeps: readers and boxes of strings. -/
def KpR (W W' : World) : Prop := W.heap.size ≤ W'.heap.size ∧ ∀ (k : Nat) (cs : Array Value) (t : TypeId) (f : Nat × Nat), (t = 143 ∨ t = 9) → W.heap[k]? = some (.cells cs t f) → W'.heap[k]? = some (.cells cs t f)
section
variable {W W' W'' : World}
theorem KpR.refl (W : World) : KpR W W := ⟨Nat.le_refl _, fun _ _ _ _ _ h => h⟩
theorem KpR.trans (h : KpR W W') (k : KpR W' W'') : KpR W W'' := ⟨Nat.le_trans h.1 k.1, fun _ _ _ _ hi hc => k.2 _ _ _ _ hi (h.2 _ _ _ _ hi hc)⟩
theorem KpR.of_below (h : Below W.heap.size W W') : KpR W W' := ⟨h.size, fun i _ _ _ _ hc => (h.block i (Array.getElem?_eq_some_iff.1 hc).1).trans hc⟩
theorem KpR.grown {row : Option Nat} (hg : W.grownBy W' row) (hr : ∀ k, row = some k → ∃ cs t, (t ≠ 143 ∧ t ≠ 9) ∧ IsRow W k t cs) : KpR W W' :=
  ⟨hg.size, fun i cs t f hi hc => (hg.block i (Array.getElem?_eq_some_iff.1 hc).1 (fun e => by
    obtain ⟨cs', t', ⟨h1, h2⟩, h3⟩ := hr i e.symm
    rw [show W.heap[i]? = _ from h3] at hc
    injection hc with hc
    injection hc with _ e2 _
    subst e2
    rcases hi with hi | hi
    · exact h1 hi
    · exact h2 hi)).trans hc⟩
theorem KpR.row {g : Nat} {t : TypeId} {cs : Array Value} (h : KpR W W') (hr : IsRow W g t cs) (ht : t = 143 ∨ t = 9) : IsRow W' g t cs := h.2 g cs t (0, 0) ht hr
theorem kpR_b {w : World} (W : World) (l : Nat) (o o' : Obj) (_ : w.heap.size ≤ l) (h : W.heap[l]? = some o) (hc : o.isCells = false) (_ : o.isWalk = false) : KpR W (W.putObj l o') := by
  have hg := grownBy_putObj' W l o'
  refine ⟨hg.size, fun i cs t f _ hi => ?_⟩
  refine (hg.block i (Array.getElem?_eq_some_iff.1 hi).1 (fun e => ?_)).trans hi
  injection e with e
  subst e
  rw [h] at hi
  injection hi with hi
  subst hi
  cases hc
end
abbrev encE (x : Tk × Int) : Array Value := #[.agg #[.int .i64 x.1.k, .string ⟨x.1.t.toArray⟩, .int .i64 (x.1.a : Int)], .int .i64 x.2]
def zerR : Array Value := #[.string ⟨#[]⟩, .int .i64 0] ++ zer
theorem zero_rd (w : World) : Sem.run Tryz.prog (zeroValue 143) w = .ok (.agg zerR) w := by kernel_rfl
theorem built_rd (s : ByteArray) : Tryz.prog.built 143 [(0, .string s), (2, .agg tabC)] = some (rowR s 0) := by kernel_rfl
theorem rd_info : (Tryz.prog.info? 143).map (·.size) = some 258 := by kernel_rfl
theorem rowR_one (s : ByteArray) (i : Nat) : (rowR s i).all (·.oneCell') = true := by
  unfold rowR tabC
  rw [Array.all_append, tabOf_one, Bool.and_true]
  simp [Value.oneCell']
theorem zerR_size : zerR.size = 258 := by unfold zerR zer; simp [tabOf_size]
theorem exec_build {P : Program} (ρ : Operand → Value) (dst : Option Tmp) (t : TypeId) (parts : Array (Nat × Operand)) (ty : TypeId) (pos : String) (after : Array Edge) (guard : Option (Nat × Bool)) (cells : Array Value) (w : World) (l : List (Nat × Value))
    (hl : (parts.map fun (i, x) => (i, ρ x)).toList = l) (hc : P.built t l = some cells) : (execOp ρ { dst, op := .build t parts, type := ty, pos, after, guard }).run P w = .ok (.value (.agg cells)) w := by
  subst hl
  unfold execOp
  simp only [Sem.run_bind, run_build w t _ cells hc, Result.andThen_ok]
  rfl
theorem wanted_free {o : Oper} {t : Nat → Option Bool} (h : o.guard = none) : Region.wanted o t = true := by unfold Region.wanted; rw [h]
theorem store_rd {w : World} {g : Nat} {s : ByteArray} (h : IsRow w g 143 zerR) : (storeCells ⟨g, 0, none⟩ (rowR s 0).toList).run Tryz.prog w = .ok () (w.setRow g (rowR s 0)) := by
  have h1 : (rowR s 0).toList.length = 258 := by rw [Array.length_toList, rowR_size]
  have h2 := run_storeCells_from (P := Tryz.prog) g 143 (rowR s 0).toList 0 zerR w h (by rw [h1, zerR_size]) (fun v hv => (Array.all_eq_true_iff_forall_mem.1 (rowR_one s 0)) v (by simpa using hv))
  rw [List.take_zero, List.nil_append, Array.toArray_toList] at h2
  exact h2
theorem lets_none {α : Type} {t : TypeId} {B : Nat} {J : List α → World → Prop} (h : Rule.Lets t B J) {s : List α} {W W' : World} (hs : J s W) (hg : W.grownBy W' none) : J s W' := h s W W' hs ⟨none, hg, fun r e => by cases e⟩
theorem lets_row {α : Type} {t : TypeId} {B g : Nat} {cs : Array Value} {J : List α → World → Prop} (h : Rule.Lets t B J) {s : List α} {W W' : World} (hs : J s W) (hg : W.grownBy W' (some g)) (hB : B ≤ g) (hr : IsRow W g t cs) : J s W' :=
  h s W W' hs ⟨some g, hg, fun r e => by injection e with e; subst e; exact ⟨hB, _, hr, .inr ⟨_, rfl⟩⟩⟩
theorem grown_none {w w' : World} {g : Nat} (h : w.grownBy w' (some g)) (hg : w.heap.size ≤ g) : w.grownBy w' none :=
  ⟨h.os, h.tape, h.output, h.size, fun i hi _ => h.block i hi (fun e => by injection e with e; omega)⟩
end Go.Proofs.YtgbkjdpjilldmaaGreatDoor.Lx
