/- A range over an iterator that writes into rows of its own between two rounds (a reader that it made). The library's law asks that what stands between two rounds abides new blocks and the iterators' records; here it abides rows of one type, too. No program is named. -/
import Derived.RangeFuncNested
import Derived.RangeFuncCalls
import Derived.RangeFuncLeaves
namespace Go.Proofs.Ytlknbjaippfemaa.Rule
open Go.RowKit
section
variable {F : Fence} {n : Nat} {P : Program} {α : Type}
/-- what an iterator may change: new blocks, records, its own rows of type t. -/
def Step (t : TypeId) (B : Nat) (w w' : World) : Prop :=
  ∃ row, w.grownBy w' row ∧ ∀ r, row = some r → B ≤ r ∧ ∃ o : Obj, w.heap[r]? = some o ∧ (o.isWalk = true ∨ ∃ cs, o = .cells cs t (0, 0))
def Lets (t : TypeId) (B : Nat) (J : List α → World → Prop) : Prop := ∀ s W W', J s W → Step t B W W' → J s W'
/-- an iterator's contract. -/
def SeqT (F : Fence) (n : Nat) (P : Program) (t : TypeId) (g : Nat) (lb : Array Value) (encs : α → Array Value) (Kp : World → World → Prop) (S Sp : List α → Prop) (N : Nat) (w : World) : Prop :=
  ∀ (l : Nat) (J Jx : List α → World → Prop) (W : World), Below w.heap.size w W → Lets t W.heap.size J → Lets t W.heap.size Jx →
    (∀ pre x W1, J pre W1 → pre.length < N → YieldAt F (n - 1) P l (encs x) W1 fun e W' =>
      (e = .returned (.bool true) ∧ J (pre ++ [x]) W' ∧ Kp W1 W') ∨ (e = .returned (.bool false) ∧ Jx (pre ++ [x]) W')) →
    J [] W →
    CallsIn F n P g (#[.func (.yield l) #[] #[]] ++ lb) W fun e W' => (∃ v, e = .returned v) ∧ ((∃ xs, S xs ∧ J xs W') ∨ (∃ pre, Sp pre ∧ Jx pre W'))
theorem Step.same {t : TypeId} {B : Nat} {w w' : World} (h : Step t B w w') {k : Nat} {o : Obj} (hk : w.heap[k]? = some o) (h1 : o.isCells = false) (h2 : o.isWalk = false) : w'.heap[k]? = some o := by
  obtain ⟨row, hg, hr⟩ := h
  refine (hg.block k (Array.getElem?_eq_some_iff.1 hk).1 fun e => ?_).trans hk
  obtain ⟨_, o', ho, hc⟩ := hr k e.symm
  rw [hk] at ho
  injection ho with ho
  subst ho
  rcases hc with hc | ⟨cs, rfl⟩
  · rw [hc] at h2; cases h2
  · cases h1
theorem Step.mono {t : TypeId} {B B' : Nat} {w w' : World} (h : Step t B w w') (hB : B' ≤ B) : Step t B' w w' := by
  obtain ⟨row, hg, hr⟩ := h
  exact ⟨row, hg, fun r e => ⟨Nat.le_trans hB (hr r e).1, (hr r e).2⟩⟩
/-- the law. -/
theorem range_own {t : TypeId} {g : Operand} {ps : Array Tmp} {assign body : Code} {Q : Exit → Act → World → Prop} {a : Act} {w : World}
    (hro : F.round = none) (h1 : 1 ≤ n) {gf : Nat} {lb : Array Value} (hg : a.eval g = .func (.func gf) #[] lb) (hFg : F.fn gf) (eg : ∀ args w, (callFunc gf args).run P w = .ok (.enter gf args) w)
    {encs : α → Array Value} {Kp : World → World → Prop} {S Sp : List α → Prop} {N : Nat} {w0 : World} (hseq : SeqT F (n - 1) P t gf lb encs Kp S Sp N w0)
    (hKt : ∀ {A B C : World}, Kp A B → Kp B C → Kp A C) (hKb : ∀ (W : World) (l : Nat) (o o' : Obj), w.heap.size ≤ l → W.heap[l]? = some o → o.isCells = false → o.isWalk = false → Kp W (W.putObj l o')) (hb0 : Below w0.heap.size w0 w) (hps : ∀ x, (encs x).size = ps.size)
    (I : List α → World → Prop) (Ix : Code → List α → World → Prop) (hI : OwnFrom w.heap.size I) (hIx : ∀ c, OwnFrom w.heap.size (Ix c)) (hIt : Lets t w.heap.size I) (hIxt : ∀ c, Lets t w.heap.size (Ix c)) (h0 : I [] w)
    (Ax : α → Act → World → Prop) (hAx : ∀ x a', OwnFrom w.heap.size (fun (_ : Unit) W => Ax x a' W))
    (hassign : ∀ (l : Nat) (pre : List α) (x : α) (W : World) (K : Act → World → Prop), I pre W → (∀ a' W', KeepsFrom w.heap.size W W' → Kp W W' → I pre W' → Ax x a' W' → K a' W') →
      assign.wpIn (F.inRound l) (n - 1 - 1) P (Exit.then K (fun _ _ _ => False)) { tmps := (ps.zip (encs x)).foldl (fun t (p, v) => t.setIfInBounds p v) a.tmps, defers := [] } W)
    (hbody : ∀ (l : Nat) (pre : List α) (x : α) (a' : Act) (W : World), I pre W → Ax x a' W → pre.length < N → body.wpIn (F.inRound l) (n - 1 - 1) P (ownPostG w.heap.size Kp I Ix (pre ++ [x]) W) a' W)
    (hdone : ∀ (D : Nat) (xs : List α) (W : World), w.heap.size ≤ D → S xs → I xs W → W.heap[D]? = some (.deferred (some [])) → Q .normal { a with defers := { target := .collected D, args := #[] } :: a.defers } W)
    (hstop : ∀ (D : Nat) (c : Code) (pre : List α) (W : World), w.heap.size ≤ D → Sp pre → Ix c pre W → W.heap[D]? = some (.deferred (some [])) → c.wpIn F n P Q { a with defers := { target := .collected D, args := #[] } :: a.defers } W) :
    (Code.rangeFunc g ps assign body).wpIn F n P Q a w := by
  refine wpIn_rangeFunc fun fn hfn => ?_
  rw [hro]
  obtain ⟨hz, hhz⟩ : ∃ hz, w.heap.size = hz := ⟨_, rfl⟩
  obtain ⟨L, hL⟩ : ∃ L : LoopState → Option Code → Loop, L = fun st pe => { state := st, pending := pe, fn, tmps := a.tmps, params := ps, assign, body, defers := w.heap.size } := ⟨_, rfl⟩
  obtain ⟨V, hV⟩ : ∃ V, (w.alloc (.deferred (some []))).alloc (.loop (L .ready none)) = V := ⟨_, rfl⟩
  have hVs : V.heap.size = hz + 2 := by rw [← hV, ← hhz]; simp
  have bL : V.heap[hz + 1]? = some (.loop (L .ready none)) := by
    have := World.alloc_heap_new (w.alloc (.deferred (some []))) (.loop (L .ready none))
    rw [World.size_alloc, hhz] at this
    rw [← hV]; exact this
  have bD : V.heap[hz]? = some (.deferred (some [])) := by
    rw [← hV, ← hhz]; exact (Below.heap_alloc _ _ _ (by simp)).trans (World.alloc_heap_new w _)
  have I1 : I [] V := by rw [← hV]; exact hI.alloc _ (hI.alloc _ h0)
  have B1 : Below w0.heap.size w0 V := by
    rw [← hV]; exact hb0.trans ((((Below.refl _ w).alloc (Nat.le_refl _) _).alloc (by simp) _).mono hb0.size)
  have enter : (Instr.enterLoop fn a.tmps ps assign body none).run P w = .ok (hz + 1, [{ target := .collected hz, args := #[] }]) V := by
    rw [← hV, hL, ← hhz]; exact run_enterLoop_outer _ _ _ _ _
  -- both books lie as they lay, whatever the iterator does
  have book : ∀ (st : LoopState) (pe : Option Code) (A A' : World), Step t V.heap.size A A' → A.heap[hz + 1]? = some (.loop (L st pe)) ∧ A.heap[hz]? = some (.deferred (some [])) → A'.heap[hz + 1]? = some (.loop (L st pe)) ∧ A'.heap[hz]? = some (.deferred (some [])) :=
    fun st pe A A' hs h => ⟨hs.same h.1 rfl rfl, hs.same h.2 rfl rfl⟩
  have hle : w.heap.size ≤ V.heap.size := by omega
  refine ⟨hz + 1, [{ target := .collected hz, args := #[] }], V, { target := .fn (.func gf) lb, args := #[.func (.yield (hz + 1)) #[] #[]] }, V, gf, #[.func (.yield (hz + 1)) #[] #[]] ++ lb, V, enter, ?_, ?_, ?_, fun _ => h1, ?_⟩
  · simp only [resolve, hg]
    simp [go_sem]
  · intro f' hf'
    simp [Target.leads] at hf'
    subst hf'
    exact hFg
  · simp [invoke, go_sem, eg]
  refine (hseq (hz + 1)
    (fun pre W => I pre W ∧ (W.heap[hz + 1]? = some (.loop (L .ready none)) ∧ W.heap[hz]? = some (.deferred (some []))))
    (fun pre W => ∃ c, Ix c pre W ∧ (W.heap[hz + 1]? = some (.loop (L .done (some c))) ∧ W.heap[hz]? = some (.deferred (some []))))
    V B1 (fun s A A' h hs => ⟨hIt s A A' h.1 (hs.mono hle), book _ _ A A' hs h.2⟩)
    (fun s A A' h hs => by obtain ⟨c, hc, hb⟩ := h; exact ⟨c, hIxt c s A A' hc (hs.mono hle), book _ _ A A' hs hb⟩)
    ?round ⟨I1, bL, bD⟩).mono ?behind
  case round =>
    rintro pre x W ⟨hi, hl, hk⟩ hlen
    have hy := run_yield (P := P) (args := encs x) hl (by rw [hL]; exact hps x)
    rw [hL] at hy
    refine ⟨fn, _, assign, body, hy, roundIn_of_wpIn hfn (hassign _ pre x W _ hi fun a' U kf kp iu ax => ?_)⟩
    have hl := kf.same _ _ (by omega) hl rfl
    have hk := kf.same _ _ (by omega) hk rfl
    have hlt : hz + 1 < U.heap.size := (Array.getElem?_eq_some_iff.1 hl).1
    refine ⟨_, run_beginRound hl (by rw [hL]), ?_⟩
    obtain ⟨Z, hZ⟩ : ∃ Z, U.putObj (hz + 1) (.loop { L .ready none with state := .busy }) = Z := ⟨_, rfl⟩
    have zl : Z.heap[hz + 1]? = some (.loop { L .ready none with state := .busy }) := hZ ▸ World.putObj_heap_same hlt
    have zk : Z.heap[hz]? = some (.deferred (some [])) := hZ ▸ (World.putObj_heap_other (by omega)).trans hk
    have kz : Kp U Z := hZ ▸ hKb _ _ _ _ (by omega) hl rfl rfl
    rw [hZ]
    refine wpIn_mono (hbody _ pre x a' Z (hZ ▸ hI.putObj _ iu (by omega) hl rfl) (hZ ▸ (hAx x a').putObj (s := ()) _ ax (by omega) hl rfl) hlen) ?_
    have fin : ∀ (jump : Option Code) (X : World), KeepsFrom w.heap.size Z X →
        (Instr.endRound (hz + 1) jump).run P X = .ok (.bool jump.isNone) (X.putObj (hz + 1) (.loop (L (if jump.isNone then .ready else .done) jump))) ∧
        X.heap[hz + 1]? = some (.loop { L .ready none with state := .busy }) ∧
        ((X.putObj (hz + 1) (.loop (L (if jump.isNone then .ready else .done) jump))).heap[hz + 1]? = some (.loop (L (if jump.isNone then .ready else .done) jump)) ∧
        (X.putObj (hz + 1) (.loop (L (if jump.isNone then .ready else .done) jump))).heap[hz]? = some (.deferred (some []))) := fun jump X kx => by
      have xl := kx.same _ _ (by omega) zl rfl
      have r := run_endRound (P := P) jump xl
      rw [hL] at r xl ⊢
      exact ⟨r, xl, World.putObj_heap_same (Array.getElem?_eq_some_iff.1 xl).1, (World.putObj_heap_other (by omega)).trans (kx.same _ _ (by omega) zk rfl)⟩
    have stop : ∀ (c : Code) (X : World), KeepsFrom w.heap.size Z X → Ix c (pre ++ [x]) X → _ := fun c X kx ix =>
      let r := fin (some c) X kx
      (⟨_, _, r.1, .inr ⟨rfl, c, (hIx c).putObj _ ix (by omega) r.2.1 rfl, r.2.2⟩⟩ : ∃ v X', (Instr.endRound (hz + 1) (some c)).run P X = .ok v X' ∧ ((Ending.returned v = .returned (.bool true) ∧ (I (pre ++ [x]) X' ∧ (X'.heap[hz + 1]? = some (.loop (L .ready none)) ∧ X'.heap[hz]? = some (.deferred (some [])))) ∧ Kp W X') ∨ (Ending.returned v = .returned (.bool false) ∧ ∃ c, Ix c (pre ++ [x]) X' ∧ (X'.heap[hz + 1]? = some (.loop (L .done (some c))) ∧ X'.heap[hz]? = some (.deferred (some []))))))
    rintro e a3 X hp
    cases e with
    | normal =>
      obtain ⟨kx, px, ix⟩ := hp
      have r := fin none X kx
      exact ⟨_, _, r.1, .inl ⟨rfl, ⟨hI.putObj _ ix (by omega) r.2.1 rfl, r.2.2⟩, hKt kp (hKt (hKt kz px) (hKb _ _ _ _ (by omega) r.2.1 rfl rfl))⟩⟩
    | ret => exact stop .ret X hp.1 hp.2
    | exit id => exact stop (.exit id) X hp.1 hp.2
    | goto t => exact stop (.goto t) X hp.1 hp.2
    | panic ch => exact hp.elim
    | outgrown => exact hp.elim
  case behind =>
    rintro e W2 ⟨⟨v, rfl⟩, hx⟩
    rcases hx with ⟨xs, hS, hi, hl, hk⟩ | ⟨pre, hSp, c, hi, hl, hk⟩
    · have r := run_endLoop (P := P) hl (by rw [hL]; simp)
      rw [hL] at r
      have hd := hdone hz xs _ (by omega) hS (hI.putObj (.loop { L .ready none with state := .exhausted }) hi (by omega) hl rfl) ((World.putObj_heap_other (by omega)).trans hk)
      rw [hL] at hd
      exact ⟨none, _, r, hd⟩
    · have r := run_endLoop (P := P) hl (by rw [hL]; simp)
      rw [hL] at r
      have hd := hstop hz c pre _ (by omega) hSp ((hIx c).putObj (.loop { L .done (some c) with state := .exhausted }) hi (by omega) hl rfl) ((World.putObj_heap_other (by omega)).trans hk)
      rw [hL] at hd
      exact ⟨some c, _, r, hd⟩
end
end Go.Proofs.Ytlknbjaippfemaa.Rule
