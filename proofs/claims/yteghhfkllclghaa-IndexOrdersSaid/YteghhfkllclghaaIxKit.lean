/- index: rows of cells, answers, boxes as values. -/
import Derived.Test.YteghhfkllclghaaProg
import Derived.Test.YteghhfkllclghaaChecked
import Derived.Test.YteghhfkllclghaaIxOps
import Derived.WalkKit
import Derived.WalkLawsBesides
import Derived.Lib.Hide
import Derived.Lib.QuietBelow
import Derived.ChangeAlike
import Derived.Below
import Derived.Laws.Rows
namespace Go.Proofs.Yteghhfkllclghaa.Ix
open Go.RowKit Go.Sort
theorem ret_int {k : IntKind} {a b : Int} (h : a = b) : Ending.returned (.int k a) = .returned (.int k b) := by rw [h]
theorem ret_bool {a b : Bool} (h : a = b) : Ending.returned (.bool a) = .returned (.bool b) := by rw [h]
def intOf : Value → Int | .int _ q => q | _ => 0
/-- block g is the row cs of element type t, nothing of it frozen. -/
def IsRow (w : World) (g : Nat) (t : TypeId) (cs : Array Value) : Prop := w.heap[g]? = some (.cells cs t (0, 0))
section
variable {w w' : World} {g : Nat} {t : TypeId} {cs : Array Value}
theorem IsRow.inside (h : IsRow w g t cs) : g < w.heap.size := by
  refine Nat.lt_of_not_le fun hge => ?_
  unfold IsRow at h
  rw [Array.getElem?_eq_none hge] at h
  cases h
theorem IsRow.get (h : IsRow w g t cs) (i : Nat) : w.cell? ⟨g, i, none⟩ = cs[i]? := by unfold IsRow at h; simp [World.cell?, h]
theorem IsRow.open_ (h : IsRow w g t cs) (i : Nat) : w.frozen? ⟨g, i, none⟩ = false := by unfold IsRow at h; simp [World.frozen?, h]
theorem IsRow.made (w : World) (t : TypeId) (cs : Array Value) : IsRow (w.alloc (.cells cs t)) w.heap.size t cs := heap_alloc_new w _
theorem IsRow.later (h : IsRow w g t cs) (o : Obj) : IsRow (w.alloc o) g t cs := (Below.heap_alloc w o g h.inside).trans h
theorem IsRow.put (h : IsRow w g t cs) (i : Nat) (u : Value) : IsRow (w.setCell ⟨g, i, none⟩ u) g t (cs.setIfInBounds i u) := by
  unfold IsRow at h ⊢
  simp [World.setCell, Array.getElem?_modify, h]
theorem IsRow.putOther (h : IsRow w g t cs) {p : Addr} (hp : g ≠ p.block) (u : Value) : IsRow (w.setCell p u) g t cs := (Below.heap_setCell w p u g hp).trans h
theorem IsRow.below {B : Nat} (h : IsRow w g t cs) (hb : Below B w w') (hg : g < B) : IsRow w' g t cs := (hb.block g hg).trans h
end
/-- A call that answers v in whatever world, and leaves all that there was as it was. -/
def Answers (P : Program) (f : FuncId) (args : Array Value) (v : Value) : Prop := ∀ w, Calls P f args w fun e w' => e = .returned v ∧ Below w.heap.size w w'
theorem Answers.quiet {P : Program} {f : FuncId} {args : Array Value} {v : Value} (h : Answers P f args v) (w : World) (d : Nat) (os : Array Obj) :
    Calls P f args (grow (redrawn w d) os) fun e w'' => e = .returned v ∧ ∃ p : Regrown, w'' = grow (redrawn w p.d) p.os := Calls.regrown_of (h _)
theorem Answers.to {P : Program} {f : FuncId} {args : Array Value} {v u : Value} (h : Answers P f args v) (e : v = u) : Answers P f args u := e ▸ h
theorem drew_below (w : World) : Below w.heap.size w w.drew := (Below.refl _ w).drew
theorem alloc1 (w : World) (o : Obj) : Below w.heap.size w (w.alloc o) := (Below.refl _ _).alloc (Nat.le_refl _) _
theorem alloc2 (w : World) (o p : Obj) : Below w.heap.size w ((w.alloc o).alloc p) := ((Below.refl _ _).alloc (Nat.le_refl _) _).alloc (by simp) _
theorem alloc3 (w : World) (o p q : Obj) : Below w.heap.size w (((w.alloc o).alloc p).alloc q) :=
  (((Below.refl _ _).alloc (Nat.le_refl _) _).alloc (by simp) _).alloc (by simp; omega) _
theorem quiet_of {P : Program} {f : FuncId} {args : Array Value} {v : Value} {w : World} (h : ∀ w', Below w.heap.size w w' → Calls P f args w' fun e w'' => e = .returned v ∧ Below w'.heap.size w' w'') (d : Nat) (os : Array Obj) :
    Calls P f args (grow (redrawn w d) os) fun e w'' => e = .returned v ∧ ∃ p : Regrown, w'' = grow (redrawn w p.d) p.os := Calls.regrown_of (h _ (below_regrown w d os))
/-- a box as a value. -/
def cB (b : Bx) : Array Value := #[.int .i64 b.a, .int .i64 b.b, .int .i64 b.c, .int .i64 b.d]
def vB (b : Bx) : Value := .agg #[.int .i64 b.a, .int .i64 b.b, .int .i64 b.c, .int .i64 b.d]
def vP (x y : Int) : Value := .agg #[.int .i64 x, .int .i64 y]
end Go.Proofs.Yteghhfkllclghaa.Ix
