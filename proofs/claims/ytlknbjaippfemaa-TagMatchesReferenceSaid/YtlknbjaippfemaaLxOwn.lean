/- lexer: owned slices of tokens; what stands between two rounds of a loop over the tokens. -/
import Derived.Test.YtlknbjaippfemaaLxSeq
import Derived.Deep.AppendLies
import Derived.Deep.AppendSrc
namespace Go.Proofs.Ytlknbjaippfemaa.Lx
open Go.RowKit Go.Sort Go.Shelf
attribute [local go_sem] Oper.semAt_some
theorem info_of {P : Program} {t : TypeId} {n b : Nat} {z : Value} (h : (P.info? t).map (fun i => (i.size, i.bytes, i.zero)) = some (n, b, some z)) : ∃ i, P.info? t = some i ∧ i.size = n ∧ i.bytes = b ∧ i.zero = some z := by
  cases hi : P.info? t with
  | none => rw [hi] at h; cases h
  | some i =>
    rw [hi] at h
    simp only [Option.map_some, Option.some.injEq, Prod.mk.injEq] at h
    exact ⟨i, rfl, h.1, h.2.1, h.2.2⟩
def encK (t : Tk) : List Value := [.int .i64 t.k, .string ⟨t.t.toArray⟩, .int .i64 (t.a : Int)]
def flatK (l : List Tk) : List Value := l.flatMap encK
/-- an owned slice of tokens. -/
def OwnK (w : World) (base : Nat) (v : Value) (l : List Tk) : Prop := w.ownsRow base 75 3 v l.length (flatK l)
theorem flatK_app (l m : List Tk) : flatK (l ++ m) = flatK l ++ flatK m := by unfold flatK; rw [List.flatMap_append]
theorem OwnK.row {w : World} {base : Nat} {v : Value} {l : List Tk} (h : OwnK w base v l) : ∀ k, v.ownBlock = some k → base ≤ k ∧ ∃ cs, IsRow w k 75 cs := by
  intro k hk
  obtain ⟨_, ⟨rfl, _⟩ | ⟨g, cap, cur, rfl, hb, hg, _⟩⟩ := h
  · cases hk
  · injection hk with hk
    subst hk
    exact ⟨hb, cur, hg⟩
theorem OwnK.ne {w : World} {base : Nat} {v : Value} {l : List Tk} (h : OwnK w base v l) {g : Nat} {t : TypeId} {cs : Array Value} (hr : IsRow w g t cs) (ht : t ≠ 75) : v.ownBlock ≠ some g := fun e => by
  obtain ⟨_, ds, hd⟩ := h.row g e
  have hd' : w.heap[g]? = some (.cells ds 75 (0, 0)) := hd
  rw [show w.heap[g]? = some (.cells cs t (0, 0)) from hr] at hd'
  injection hd' with hd'
  injection hd' with _ e2 _
  exact ht e2
theorem OwnK.kept {w w' : World} {base : Nat} {v : Value} {l : List Tk} {row : Option Nat} (h : OwnK w base v l) (hg : w.grownBy w' row) (hne : v.ownBlock = none ∨ v.ownBlock ≠ row) : OwnK w' base v l := World.ownsRow.kept h hg hne
theorem OwnK.below {w w' : World} {base : Nat} {v : Value} {l : List Tk} (h : OwnK w base v l) (hb : Below w.heap.size w w') : OwnK w' base v l :=
  h.kept (row := none) (grown_of_below hb none) (by cases hv : v.ownBlock <;> simp)
theorem tok_info : (Try.prog.info? 75).map (fun i => (i.size, i.bytes, i.zero)) = some (3, 32, some (.agg #[.int .i64 0, .string ⟨#[]⟩, .int .i64 0])) := by kernel_rfl
theorem OwnK.put {w : World} {base : Nat} {v : Value} {l : List Tk} (h : OwnK w base v l) {g : Nat} {t : TypeId} {cs : Array Value} (hr : IsRow w g t cs) (ht : t ≠ 75) (i : Nat) (u : Value) : OwnK (w.setCell ⟨g, i, none⟩ u) base v l :=
  h.kept (row := some g) (grown_put w g i u) (.inr (h.ne hr ht))
theorem ownK_snoc {w : World} {base : Nat} {v : Value} {L : List Tk} {s : Tk} (h : w.ownsRow base 75 3 v (L.length + 1) (flatK L ++ encK s)) : OwnK w base v (L ++ [s]) := by
  unfold OwnK
  rw [List.length_append, flatK_app]
  unfold flatK at h ⊢
  simpa using h
theorem ownK_nil (w : World) (base : Nat) : OwnK w base (.slice none 0 0) [] := World.ownsRow_nil w base _ _
theorem encK_one (s : Tk) : ∀ u ∈ encK s, u.oneCell' = true := by intro u hu; simp [encK] at hu; rcases hu with rfl | rfl | rfl <;> rfl
theorem keeps_grown {W W' : World} {row : Option Nat} (B : Nat) (hg : W.grownBy W' row) (hr : ∀ k, row = some k → ∃ cs t, IsRow W k t cs) : KeepsFrom B W W' :=
  (KeepsOthers.of_grownBy hg (fun j o e ho => by
    obtain ⟨cs, t, h⟩ := hr j e
    rw [show W.heap[j]? = some (.cells cs t (0, 0)) from h] at ho
    injection ho with ho
    subst ho
    rfl)).from _
theorem keeps_of_below {W W' : World} (B : Nat) (h : Below W.heap.size W W') : KeepsFrom B W W' := ⟨h.size, fun _ _ _ hk _ => (h.block _ (Array.getElem?_eq_some_iff.1 hk).1).trans hk⟩
/-- a change at the iterator's hand. -/
def Away (B : Nat) (W W' : World) : Prop := ∃ row, W.grownBy W' row ∧ ∀ r, row = some r → B ≤ r ∧ ∃ o : Obj, W.heap[r]? = some o ∧ (o.isCells = false ∨ ∃ cs, o = .cells cs 103 (0, 0))
theorem IsRow.away {B : Nat} {W W' : World} {g : Nat} {t : TypeId} {cs : Array Value} (h : IsRow W g t cs) (ht : t ≠ 103) (ha : Away B W W') : IsRow W' g t cs := by
  obtain ⟨row, hg, hr⟩ := ha
  refine (hg.block g h.inside fun e => ?_).trans h
  obtain ⟨_, o, ho, hc⟩ := hr g e.symm
  rw [show W.heap[g]? = some (.cells cs t (0, 0)) from h] at ho
  injection ho with ho
  subst ho
  rcases hc with hc | ⟨ds, hc⟩
  · cases hc
  · injection hc with _ e2 _
    exact ht e2
theorem OwnK.away {B : Nat} {W W' : World} {base : Nat} {v : Value} {l : List Tk} (h : OwnK W base v l) (ha : Away B W W') : OwnK W' base v l := by
  obtain ⟨row, hg, hr⟩ := ha
  refine h.kept hg ?_
  cases hv : v.ownBlock with
  | none => exact .inl rfl
  | some g =>
    refine .inr fun e => ?_
    obtain ⟨_, o, ho, hc⟩ := hr g e.symm
    obtain ⟨_, ds, hd⟩ := h.row g hv
    rw [show W.heap[g]? = some (.cells ds 75 (0, 0)) from hd] at ho
    injection ho with ho
    subst ho
    rcases hc with hc | ⟨es, hc⟩
    · cases hc
    · injection hc with _ e2 _
      exact absurd e2 (by decide)
theorem below_away {B b : Nat} {w W W' : World} (h : Below b w W) (hw : b ≤ W.heap.size) (hB : b ≤ B) (ha : Away B W W') : Below b w W' := by
  obtain ⟨row, hg, hr⟩ := ha
  exact h.grown hg hw (fun k e => Nat.le_trans hB (hr k e).1)
theorem own_of_away {β : Type} {B : Nat} {I : β → World → Prop} (h : ∀ s W W', I s W → Away B W W' → I s W') : OwnFrom B I := fun s W W' row hs hg hr =>
  h s W W' hs ⟨row, hg, fun r e => ⟨(hr r e).1, by obtain ⟨_, o, ho, hc⟩ := hr r e; exact ⟨o, ho, .inl hc⟩⟩⟩
theorem lets_of_away {α : Type} {B : Nat} {I : List α → World → Prop} (h : ∀ s W W', I s W → Away B W W' → I s W') : Rule.Lets 103 B I := fun s W W' hs ha => by
  obtain ⟨row, hg, hr⟩ := ha
  refine h s W W' hs ⟨row, hg, fun r e => ⟨(hr r e).1, ?_⟩⟩
  obtain ⟨_, o, ho, hc⟩ := hr r e
  exact ⟨o, ho, hc.imp Obj.not_cells_of_walk id⟩
/-- what stands between two rounds of Lex. -/
structure InvL (w : World) (N0 b : Nat) (pre : List (Tk × Int)) (W : World) : Prop where
  list : ∃ v, IsRow W (b + 3) 68 #[v] ∧ OwnK W b v (pre.map (·.1))
  r2 : IsRow W b 68 #[.slice none 0 0]
  r3 : IsRow W (b + 1) 25 #[.int .i64 0]
  r4 : IsRow W (b + 2) 3 #[.int .i64 0]
  lo : Below b w W
  sz : N0 ≤ W.heap.size
  ok : ∀ x ∈ pre, x.2 = 0
  few : pre.length ≤ 5000
theorem InvL.lo_size {w W : World} {N0 b : Nat} {pre : List (Tk × Int)} (h : InvL w N0 b pre W) : b ≤ W.heap.size := Nat.le_of_lt h.r2.inside
theorem InvL.away {w : World} {N0 b : Nat} (hb : b ≤ N0) (s : List (Tk × Int)) (W W' : World) (h : InvL w N0 b s W) (ha : Away N0 W W') : InvL w N0 b s W' := by
  obtain ⟨⟨v, h1, h2⟩, h3, h4, h5, h6, h7, h8, h9⟩ := h
  refine ⟨⟨v, h1.away (by decide) ha, h2.away ha⟩, h3.away (by decide) ha, h4.away (by decide) ha, h5.away (by decide) ha, below_away h6 (Nat.le_trans hb h7) hb ha, ?_, h8, h9⟩
  obtain ⟨row, hg, _⟩ := ha
  exact Nat.le_trans h7 hg.size
/-- how a round of Lex ends the loop. -/
def Ends (pre : List (Tk × Int)) (e a : Int) : Prop :=
  ∃ p x, pre = p ++ [x] ∧ (∀ y ∈ p, y.2 = 0) ∧ p.length ≤ 5000 ∧ ((x.2 = 0 ∧ p.length = 5000 ∧ e = 2) ∨ (x.2 ≠ 0 ∧ e = x.2)) ∧ a = (x.1.a : Int)
structure EndL (w : World) (N0 b : Nat) (c : Code) (pre : List (Tk × Int)) (W : World) : Prop where
  c : c = .ret
  ea : ∃ e a, IsRow W b 68 #[.slice none 0 0] ∧ IsRow W (b + 1) 25 #[.int .i64 e] ∧ IsRow W (b + 2) 3 #[.int .i64 a] ∧ Ends pre e a
  lo : Below b w W
  sz : N0 ≤ W.heap.size
theorem EndL.away {w : World} {N0 b : Nat} (hb : b ≤ N0) (c : Code) (s : List (Tk × Int)) (W W' : World) (h : EndL w N0 b c s W) (ha : Away N0 W W') : EndL w N0 b c s W' := by
  obtain ⟨h1, ⟨e, a, h2, h3, h4, h5⟩, h6, h7⟩ := h
  refine ⟨h1, ⟨e, a, h2.away (by decide) ha, h3.away (by decide) ha, h4.away (by decide) ha, h5⟩, below_away h6 (Nat.le_trans hb h7) hb ha, ?_⟩
  obtain ⟨row, hg, _⟩ := ha
  exact Nat.le_trans h7 hg.size
theorem scan_ok : ∀ (L : List (Tk × Int)) (acc : List Tk), (∀ x ∈ L, x.2 = 0) → acc.length + L.length ≤ 5000 → scan acc L = (acc ++ L.map (·.1), 0, 0)
  | [], acc, _, _ => by simp [scan]
  | (t, e) :: L, acc, h, hl => by
    have he : e = 0 := h (t, e) (by simp)
    subst he
    simp only [List.length_cons] at hl
    rw [scan, if_neg (by omega), if_neg (by omega), scan_ok L (acc ++ [t]) (fun x hx => h x (by simp [hx])) (by simp; omega)]
    simp
theorem scan_end : ∀ (p : List (Tk × Int)) (acc : List Tk) (x : Tk × Int) (r : List (Tk × Int)) (e : Int), (∀ y ∈ p, y.2 = 0) → acc.length + p.length ≤ 5000 →
    ((x.2 = 0 ∧ acc.length + p.length = 5000 ∧ e = 2) ∨ (x.2 ≠ 0 ∧ e = x.2)) → scan acc (p ++ x :: r) = ([], e, (x.1.a : Int))
  | [], acc, (t, e0), r, e, _, _, h => by
    show scan acc ((t, e0) :: r) = _
    rw [scan]
    rcases h with ⟨h1, h2, h3⟩ | ⟨h1, h2⟩
    · rw [if_pos ⟨h1, by simpa using h2⟩, h3]
    · have h1' : e0 ≠ 0 := h1
      rw [if_neg (fun h => h1' h.1), if_pos h1', h2]
  | (t, e0) :: p, acc, x, r, e, h, hl, hx => by
    have he : e0 = 0 := h (t, e0) (by simp)
    subst he
    simp only [List.length_cons] at hl hx
    show scan acc ((t, 0) :: (p ++ x :: r)) = _
    rw [scan, if_neg (by omega), if_neg (by omega)]
    exact scan_end p (acc ++ [t]) x r e (fun y hy => h y (by simp [hy])) (by simp; omega) (by simp; omega)
theorem scan_ends {pre L : List (Tk × Int)} {e a : Int} (h : Ends pre e a) (hp : pre <+: L) : scan [] L = ([], e, a) := by
  obtain ⟨p, x, rfl, h1, h2, h3, rfl⟩ := h
  obtain ⟨r, rfl⟩ := hp
  rw [List.append_assoc]
  exact scan_end p [] x r e h1 (by simpa using h2) (by simpa using h3)
end Go.Proofs.Ytlknbjaippfemaa.Lx
