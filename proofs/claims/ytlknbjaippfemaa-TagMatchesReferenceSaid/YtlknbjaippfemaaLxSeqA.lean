/- lexer: the range function tokens: what stands ahead of its contract. -/
import Derived.Test.YtlknbjaippfemaaLxToken
import Derived.Test.YtlknbjaippfemaaLxRule
import Derived.Test.YtlknbjaippfemaaLxEv
import Derived.RangeFuncBound
import Derived.Shelf.Abstract
import Derived.Shelf.RegionOpen
import Derived.OwnWalkIn
import Derived.TacticsInMore
import Derived.LoopNIn
import Derived.LoopIn
import Derived.Sort.OwnSorted
import Derived.Sort.CutIn
namespace Go.Proofs.Ytlknbjaippfemaa.Lx
open Go.RowKit Go.Sort Go.Shelf
attribute [local go_sem] Oper.semAt_some
theorem tokens_any (s : ByteArray) (w : World) :
    Calls Try.prog 52 #[.string s] w fun e w' => e = .returned (.func (.func 62) #[] #[.pointer (some ⟨w.heap.size, 0, none⟩)]) ∧ w.alloc (.cells #[.string s] 9) = w' := by
  go_enter Try.func52, Try.ntmps52
  go_wp2
  go_ret
  exact ⟨rfl, rfl⟩
/-- what the body of a loop over the tokens keeps: readers and boxes of strings. -/
def KpR (W W' : World) : Prop := W.heap.size ≤ W'.heap.size ∧ ∀ (k : Nat) (cs : Array Value) (t : TypeId) (f : Nat × Nat), (t = 103 ∨ t = 9) → W.heap[k]? = some (.cells cs t f) → W'.heap[k]? = some (.cells cs t f)
section
variable {W W' W'' : World}
theorem KpR.refl (W : World) : KpR W W := ⟨Nat.le_refl _, fun _ _ _ _ _ h => h⟩
theorem KpR.trans (h : KpR W W') (k : KpR W' W'') : KpR W W'' := ⟨Nat.le_trans h.1 k.1, fun _ _ _ _ hi hc => k.2 _ _ _ _ hi (h.2 _ _ _ _ hi hc)⟩
theorem KpR.of_below (h : Below W.heap.size W W') : KpR W W' := ⟨h.size, fun i _ _ _ _ hc => (h.block i (Array.getElem?_eq_some_iff.1 hc).1).trans hc⟩
theorem KpR.grown {row : Option Nat} (hg : W.grownBy W' row) (hr : ∀ k, row = some k → ∃ cs t, (t ≠ 103 ∧ t ≠ 9) ∧ IsRow W k t cs) : KpR W W' :=
  ⟨hg.size, fun i cs t f hi hc => (hg.block i (Array.getElem?_eq_some_iff.1 hc).1 (fun e => by
    obtain ⟨cs', t', ⟨h1, h2⟩, h3⟩ := hr i e.symm
    rw [show W.heap[i]? = _ from h3] at hc
    injection hc with hc
    injection hc with _ e2 _
    subst e2
    rcases hi with hi | hi
    · exact h1 hi
    · exact h2 hi)).trans hc⟩
theorem KpR.row {g : Nat} {t : TypeId} {cs : Array Value} (h : KpR W W') (hr : IsRow W g t cs) (ht : t = 103 ∨ t = 9) : IsRow W' g t cs := h.2 g cs t (0, 0) ht hr
theorem kpR_b {w : World} (W : World) (l : Nat) (o o' : Obj) (_ : w.heap.size ≤ l) (h : W.heap[l]? = some o) (hc : o.isCells = false) (_ : o.isWalk = false) : KpR W (W.putObj l o') := by
  have hg := grownBy_putObj' W l o'
  refine ⟨hg.size, fun i cs t f _ hi => ?_⟩
  refine (hg.block i (Array.getElem?_eq_some_iff.1 hi).1 (fun e => ?_)).trans hi
  injection e with e
  subst e
  rw [h] at hi
  injection hi with hi
  subst hi
  cases hc
end
abbrev encE (x : Tk × Int) : Array Value := #[.agg #[.int .i64 x.1.k, .string ⟨x.1.t.toArray⟩, .int .i64 (x.1.a : Int)], .int .i64 x.2]
def zerR : Array Value := #[.string ⟨#[]⟩, .int .i64 0] ++ zer
theorem zero_rd (w : World) : Sem.run Try.prog (zeroValue 103) w = .ok (.agg zerR) w := by kernel_rfl
theorem built_rd (s : ByteArray) : Try.prog.built 103 [(0, .string s), (2, .agg tabC)] = some (rowR s 0) := by kernel_rfl
theorem rd_info : (Try.prog.info? 103).map (·.size) = some 258 := by kernel_rfl
theorem rowR_one (s : ByteArray) (i : Nat) : (rowR s i).all (·.oneCell') = true := by
  unfold rowR tabC
  rw [Array.all_append, tabOf_one, Bool.and_true]
  simp [Value.oneCell']
theorem zerR_size : zerR.size = 258 := by unfold zerR zer; simp [tabOf_size]
theorem exec_build {P : Program} (ρ : Operand → Value) (dst : Option Tmp) (t : TypeId) (parts : Array (Nat × Operand)) (ty : TypeId) (pos : String) (after : Array Edge) (guard : Option (Nat × Bool)) (cells : Array Value) (w : World) (l : List (Nat × Value))
    (hl : (parts.map fun (i, x) => (i, ρ x)).toList = l) (hc : P.built t l = some cells) : (execOp ρ { dst, op := .build t parts, type := ty, pos, after, guard }).run P w = .ok (.value (.agg cells)) w := by
  subst hl
  unfold execOp
  simp only [Sem.run_bind, run_build w t _ cells hc, Result.andThen_ok]
  rfl
theorem wanted_free {o : Oper} {t : Nat → Option Bool} (h : o.guard = none) : Region.wanted o t = true := by unfold Region.wanted; rw [h]
theorem store_rd {w : World} {g : Nat} {s : ByteArray} (h : IsRow w g 103 zerR) : (storeCells ⟨g, 0, none⟩ (rowR s 0).toList).run Try.prog w = .ok () (w.setRow g (rowR s 0)) := by
  have h1 : (rowR s 0).toList.length = 258 := by rw [Array.length_toList, rowR_size]
  have h2 := run_storeCells_from (P := Try.prog) g 103 (rowR s 0).toList 0 zerR w h (by rw [h1, zerR_size]) (fun v hv => (Array.all_eq_true_iff_forall_mem.1 (rowR_one s 0)) v (by simpa using hv))
  rw [List.take_zero, List.nil_append, Array.toArray_toList] at h2
  exact h2
theorem lets_none {α : Type} {t : TypeId} {B : Nat} {J : List α → World → Prop} (h : Rule.Lets t B J) {s : List α} {W W' : World} (hs : J s W) (hg : W.grownBy W' none) : J s W' := h s W W' hs ⟨none, hg, fun r e => by cases e⟩
theorem lets_row {α : Type} {t : TypeId} {B g : Nat} {cs : Array Value} {J : List α → World → Prop} (h : Rule.Lets t B J) {s : List α} {W W' : World} (hs : J s W) (hg : W.grownBy W' (some g)) (hB : B ≤ g) (hr : IsRow W g t cs) : J s W' :=
  h s W W' hs ⟨some g, hg, fun r e => by injection e with e; subst e; exact ⟨hB, _, hr, .inr ⟨_, rfl⟩⟩⟩
theorem grown_none {w w' : World} {g : Nat} (h : w.grownBy w' (some g)) (hg : w.heap.size ≤ g) : w.grownBy w' none :=
  ⟨h.os, h.tape, h.output, h.size, fun i hi _ => h.block i hi (fun e => by injection e with e; omega)⟩
end Go.Proofs.Ytlknbjaippfemaa.Lx
