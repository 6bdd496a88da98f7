/- index: the queue's methods. -/
import Derived.Test.YteghhfkllclghaaIxBefore
import Derived.Deep.RegionWith
import Derived.Deep.RegionHeld3
import Derived.Deep.MidRow
import Derived.BigQuiet
namespace Go.Proofs.Yteghhfkllclghaa.Ix
open Go.RowKit Go.Sort
def flatQ (L : List Qi) : List Value := L.flatMap encQ
def OwnQ (w : World) (base : Nat) (v : Value) (L : List Qi) : Prop := w.ownsRow base 82 3 v L.length (flatQ L)
theorem encQ_len (q : Qi) : (encQ q).length = 3 := rfl
theorem flatQ_len (L : List Qi) : (flatQ L).length = L.length * 3 := by
  unfold flatQ
  induction L with
  | nil => rfl
  | cons q L ih => rw [List.flatMap_cons, List.length_append, ih, encQ_len, List.length_cons]; omega
theorem flatQ_get : ∀ {L : List Qi} {k j : Nat} {q : Qi}, L[k]? = some q → j < 3 → (flatQ L)[k * 3 + j]? = (encQ q)[j]?
  | [], k, j, q, h, _ => by simp at h
  | x :: L, 0, j, q, h, hj => by
    simp at h
    subst h
    unfold flatQ
    rw [List.flatMap_cons, Nat.zero_mul, Nat.zero_add, List.getElem?_append_left (by rw [encQ_len]; exact hj)]
  | x :: L, k + 1, j, q, h, hj => by
    simp at h
    have ih := flatQ_get (L := L) h hj
    unfold flatQ at *
    rw [List.flatMap_cons, List.getElem?_append_right (by rw [encQ_len]; omega), encQ_len, show (k + 1) * 3 + j - 3 = k * 3 + j by omega]
    exact ih
theorem flatQ_take : ∀ (L : List Qi) (m : Nat), (flatQ L).take (m * 3) = flatQ (L.take m)
  | [], m => by simp [flatQ]
  | x :: L, 0 => by simp [flatQ]
  | x :: L, m + 1 => by
    have ih := flatQ_take L m
    unfold flatQ at *
    rw [List.take_succ_cons, List.flatMap_cons, List.flatMap_cons, ← ih, List.take_append, encQ_len, List.take_of_length_le (by rw [encQ_len]; omega), show (m + 1) * 3 - 3 = m * 3 by omega]
theorem flatQ_set : ∀ (L : List Qi) (k : Nat) (q : Qi), k < L.length → (((flatQ L).set (k * 3) (.int .i64 q.sq)).set (k * 3 + 1) (ndV q.nd)).set (k * 3 + 2) (.string ⟨q.id.toArray⟩) = flatQ (L.set k q)
  | [], k, q, h => by simp at h
  | x :: L, 0, q, _ => by simp [flatQ, encQ]
  | x :: L, k + 1, q, h => by
    have ih := flatQ_set L k q (by simpa using h)
    unfold flatQ at *
    rw [show (k + 1) * 3 = k * 3 + 3 by omega]
    simp only [List.flatMap_cons, List.set_cons_succ, ← ih]
    simp [encQ]
theorem nd_one (n : Option Nat) : (ndV n).oneCell' = true := by cases n <;> rfl
theorem encQ_one (q : Qi) : ∀ u ∈ encQ q, u.oneCell' = true := by
  intro u hu
  simp [encQ] at hu
  rcases hu with rfl | rfl | rfl
  · rfl
  · exact nd_one _
  · rfl
theorem item_info : (Try.prog.info? 82).map (fun i => (i.size, i.bytes, i.zero)) = some (3, 32, some (.agg (encQ ⟨0, none, []⟩).toArray)) := by kernel_rfl
/-- a queue: its struct at block q, its items L; all of it from block base on. -/
structure Qu (w : World) (base q : Nat) (v : Value) (L : List Qi) : Prop where
  row : IsRow w q 79 #[v, .func (.func 39) #[] #[]]
  own : OwnQ w base v L
  ge : base ≤ q
theorem OwnQ.shape {w : World} {base : Nat} {v : Value} {L : List Qi} (h : OwnQ w base v L) (h0 : 0 < L.length) : ∃ g cap, v = .slice (some ⟨g, 0, none⟩) L.length cap ∧ base ≤ g ∧ L.length ≤ cap ∧ cap ≤ maxLen := by
  obtain ⟨_, ⟨_, h0'⟩ | ⟨g, cap, cur, hv, hb, hg, h1, h2, _⟩⟩ := h
  · omega
  · exact ⟨g, cap, hv, hb, h1, h2⟩
theorem OwnQ.cells {w : World} {base g cap : Nat} {L : List Qi} (h : OwnQ w base (.slice (some ⟨g, 0, none⟩) L.length cap) L) {k : Nat} {q : Qi} (hk : L[k]? = some q) :
    w.cell? ⟨g, k * 3, none⟩ = some (.int .i64 q.sq) ∧ w.cell? ⟨g, k * 3 + 1, none⟩ = some (ndV q.nd) ∧ w.cell? ⟨g, k * 3 + 2, none⟩ = some (.string ⟨q.id.toArray⟩) := by
  have hlt := (List.getElem?_eq_some_iff.1 hk).1
  have e : ∀ j, j < 3 → w.cell? ⟨g, k * 3 + j, none⟩ = (encQ q)[j]? := fun j hj => by
    rw [World.ownsRow.cellAt h _ (by omega), flatQ_get hk hj]
  exact ⟨e 0 (by decide), e 1 (by decide), e 2 (by decide)⟩
theorem OwnQ.open_ {w : World} {base g cap : Nat} {L : List Qi} (h : OwnQ w base (.slice (some ⟨g, 0, none⟩) L.length cap) L) (j : Nat) : w.frozen? ⟨g, j, none⟩ = false := World.ownsRow.frozenAt h j
theorem OwnQ.kept {w w' : World} {base : Nat} {v : Value} {L : List Qi} {row : Option Nat} (h : OwnQ w base v L) (hg : w.grownBy w' row) (hne : v.ownBlock = none ∨ v.ownBlock ≠ row) : OwnQ w' base v L := World.ownsRow.kept h hg hne
theorem OwnQ.below {w w' : World} {base : Nat} {v : Value} {L : List Qi} (h : OwnQ w base v L) (hb : Below w.heap.size w w') : OwnQ w' base v L := by
  refine h.kept (row := none) ⟨hb.os, hb.tape, hb.output, hb.size, fun k hk _ => hb.block k hk⟩ ?_
  cases hv : v.ownBlock with
  | none => exact .inl rfl
  | some g => exact .inr (by simp)
theorem Qu.below {w w' : World} {base q : Nat} {v : Value} {L : List Qi} (h : Qu w base q v L) (hb : Below w.heap.size w w') : Qu w' base q v L := ⟨h.row.below hb h.row.inside, h.own.below hb, h.ge⟩
/-- the items' block is not the struct's. -/
theorem Qu.ne {w : World} {base q g n cap : Nat} {L : List Qi} (h : Qu w base q (.slice (some ⟨g, 0, none⟩) n cap) L) : g ≠ q := by
  intro e
  obtain ⟨_, ⟨hv, _⟩ | ⟨g', cap', cur, hv, hb, hg, _⟩⟩ := h.own
  · cases hv
  · injection hv with e1 _ _
    injection e1 with e1
    injection e1 with e1 _ _
    subst e1
    rw [e] at hg
    have := h.row
    unfold IsRow at this
    rw [this] at hg
    injection hg with hg
    injection hg with _ e2 _
    exact absurd e2 (by decide)
set_option maxRecDepth 100000 in
set_option maxHeartbeats 1000000 in
theorem len_any (w : World) (base q : Nat) (v : Value) (L : List Qi) (h : Qu w base q v L) : Calls Try.prog 42 #[ptr q] w fun e w' => e = .returned (.int .i64 L.length) ∧ w' = w := by
  have r0 := h.row.get 0
  obtain ⟨n, a, cap, rfl, hn⟩ : ∃ n a cap, v = .slice a n cap ∧ n = L.length := by
    obtain ⟨_, ⟨hv, h0'⟩ | ⟨g, cap, cur, hv, _⟩⟩ := h.own
    · exact ⟨0, none, 0, hv, h0'.symm⟩
    · exact ⟨_, _, cap, hv, rfl⟩
  clear h
  subst hn
  unfold ptr
  go_enter Try.func42, Try.ntmps42
  go_wp2
  go_ret
  exact ⟨rfl, rfl⟩
set_option maxRecDepth 100000 in
set_option maxHeartbeats 1000000 in
theorem less_any (w : World) (base q : Nat) (v : Value) (L : List Qi) (h : Qu w base q v L) {i j : Nat} {a b : Qi} (hi : L[i]? = some a) (hj : L[j]? = some b) :
    Calls Try.prog 91 #[ptr q, .int .i64 i, .int .i64 j] w fun e w' => e = .returned (.bool (bfQ a b)) ∧ Below w.heap.size w w' := by
  have hil := (List.getElem?_eq_some_iff.1 hi).1
  have hjl := (List.getElem?_eq_some_iff.1 hj).1
  obtain ⟨g, cap, rfl, _, _, _⟩ := h.own.shape (by omega)
  have r0 := cell_regrown (h.row.get 0)
  have r1 := cell_regrown (h.row.get 1)
  obtain ⟨x0, x1, x2⟩ := h.own.cells hi
  obtain ⟨y0, y1, y2⟩ := h.own.cells hj
  have g0 := cell_regrown x0
  have g1 := cell_regrown x1
  have g2 := cell_regrown x2
  have k0 := cell_regrown y0
  have k1 := cell_regrown y1
  have k2 := cell_regrown y2
  have q1 := (before_any a b).quiet w
  obtain ⟨R, hR⟩ : ∃ R, bfQ a b = R := ⟨_, rfl⟩
  rw [hR] at q1 ⊢
  have i0 : (0 : Int) ≤ (i : Int) := by omega
  have i1 : (i : Int) < (L.length : Int) := by omega
  have j0 : (0 : Int) ≤ (j : Int) := by omega
  have j1 : (j : Int) < (L.length : Int) := by omega
  clear h hi hj hR x0 x1 x2 y0 y1 y2
  unfold encQ at q1
  unfold ptr
  go_enter Try.func91, Try.ntmps91
  go_upto_region 1 with fail
  refine wp_region_quiet_below (by kernel_rfl) (by kernel_rfl) ?_
  repeat (go_big_quiet_step (first | with_reducible exact q1 _ _))
  refine wpQuiet_nil ?_
  intro _ hw'
  obtain ⟨⟨dq, osq⟩, hw''⟩ := hw'
  subst hw''
  have hb2 := below_regrown w dq osq
  go_wp2
  go_ret
  exact ⟨rfl, hb2⟩
end Go.Proofs.Yteghhfkllclghaa.Ix
