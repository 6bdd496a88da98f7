/- index: the mathematics of Near: what the items of the queue stand for. -/
import Derived.Test.YteghhfkllclghaaIxBefore
import Derived.Test.YteghhfkllclghaaIxOps
namespace Go.Proofs.Yteghhfkllclghaa.Ix
open Go.RowKit Go.Sort
/-- what an item of the queue stands for: a box of its own, or a part of the tree. -/
inductive Prt where
  | one (b : Bx)
  | sub (u : Tr Value)
def Prt.its (i : Id) : Prt → List It
  | one b => [(i, b)]
  | sub u => u.items
def Prt.good (x y : Int) (q : Qi) : Prt → Prop
  | one b => q.nd = none ∧ q.sq = sqN b x y
  | sub u => q.nd = some u.blk ∧ q.sq = sqN u.box x y ∧ u.ok
def itsP (P : List (Qi × Prt)) : List It := P.flatMap fun z => z.2.its z.1.id
theorem itsP_perm {P R : List (Qi × Prt)} (h : P.Perm R) : (itsP P).Perm (itsP R) := h.flatMap_right _
theorem itsP_cons (z : Qi × Prt) (P : List (Qi × Prt)) : itsP (z :: P) = z.2.its z.1.id ++ itsP P := rfl
theorem sub_far {u : Tr Value} (x y : Int) {p : It} (hp : p ∈ u.items) : sqN u.box x y ≤ sqN p.2 x y := by
  obtain ⟨z, hz, hp⟩ := List.mem_flatMap.1 hp
  obtain ⟨i, _, rfl⟩ := List.mem_map.1 hp
  exact sq_sub (Tr.box_sub (List.mem_map.2 ⟨z, hz, rfl⟩)) x y
/-- the first of the queue is a box: it is the next one. -/
theorem near_first {x y : Int} {r : Qi} {b : Bx} {P : List (Qi × Prt)} (hr : r.nd = none) (hs : r.sq = sqN b x y) (hg : ∀ z ∈ P, z.2.good x y z.1) (hmin : ∀ z ∈ P, bfQ z.1 r = false) : ∀ p ∈ itsP P, kLe x y (r.id, b) p = true := by
  intro p hp
  obtain ⟨⟨q, pt⟩, hz, hp⟩ := List.mem_flatMap.1 hp
  have h1 := hg _ hz
  have h2 := hmin _ hz
  dsimp only at h1 h2 hp
  rw [kLe_iff]
  dsimp only
  unfold bfQ at h2
  cases pt with
  | one c =>
    obtain ⟨g1, g2⟩ := h1
    obtain rfl : p = (q.id, c) := by simpa [Prt.its] using hp
    dsimp only
    rw [g1, hr] at h2
    by_cases e : q.sq = r.sq
    · right
      refine ⟨by omega, ?_⟩
      simp [e] at h2
      exact h2
    · rw [if_pos e, decide_eq_false_iff_not] at h2
      left; omega
  | sub u =>
    obtain ⟨g1, g2, g3⟩ := h1
    have h4 := sub_far x y (show p ∈ u.items from hp)
    rw [g1, hr] at h2
    by_cases e : q.sq = r.sq
    · simp [e] at h2
    · rw [if_pos e, decide_eq_false_iff_not] at h2
      left; omega
theorem part_of {P : List (Qi × Prt)} {L M : List Qi} {r : Qi} (hP : L.Perm (P.map Prod.fst)) (hL : L.Perm (r :: M)) : ∃ pt R, P.Perm ((r, pt) :: R) ∧ M.Perm (R.map Prod.fst) := by
  have hr : r ∈ P.map Prod.fst := hP.mem_iff.1 (hL.mem_iff.2 (List.mem_cons_self ..))
  obtain ⟨⟨r', pt⟩, hz, rfl⟩ := List.mem_map.1 hr
  obtain ⟨l1, l2, rfl⟩ := List.append_of_mem hz
  refine ⟨pt, l1 ++ l2, List.perm_middle, ?_⟩
  have h1 : (r' :: M).Perm (r' :: ((l1 ++ l2).map Prod.fst)) := hL.symm.trans (hP.trans (by
    rw [List.map_append, List.map_cons, List.map_append]
    exact List.perm_middle))
  exact h1.cons_inv
/-- how many leaves and boxes of their own there are. -/
def Prt.wt : Prt → Nat
  | .one _ => 1
  | .sub u => u.leaves.length + u.items.length
def cntP (P : List (Qi × Prt)) : Nat := (P.map fun z => z.2.wt).sum
theorem cnt_cons (z : Qi × Prt) (P : List (Qi × Prt)) : cntP (z :: P) = z.2.wt + cntP P := by
  unfold cntP
  rw [List.map_cons, List.sum_cons]
theorem leaves_pos : ∀ u : Tr Value, 0 < u.leaves.length
  | .leaf _ _ _ _ => by simp [Tr.leaves]
  | .fork _ _ l r => by
    have := leaves_pos l
    show 0 < (l.leaves ++ r.leaves).length
    rw [List.length_append]; omega
theorem len_cnt : ∀ P : List (Qi × Prt), P.length ≤ cntP P
  | [] => Nat.le_refl _
  | (q, pt) :: P => by
    have := len_cnt P
    have h : 1 ≤ pt.wt := by
      cases pt with
      | one b => exact Nat.le_refl _
      | sub u => have := leaves_pos u; show 1 ≤ u.leaves.length + u.items.length; omega
    rw [cnt_cons, List.length_cons]
    dsimp only
    omega
theorem cnt_perm {P R : List (Qi × Prt)} (h : P.Perm R) : cntP P = cntP R := (h.map _).sum_nat
end Go.Proofs.Yteghhfkllclghaa.Ix
