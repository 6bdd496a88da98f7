/- The distance of a point from a segment: P3.6. -/
import Derived.Test.YtlagolgmkmdhhaaGmShare
namespace Go.Proofs.Ytlagolgmkmdhhaa.Geo
/-- What the program does, of near points. -/
def awayN (a b p : Pt) : Int :=
  if dt a b p ≤ 0 then sqN a p else if sqN a b ≤ dt a b p then sqN b p else crs a b p * crs a b p / sqN a b
def nearN (a b p : Pt) : Int := if nearB a && nearB b && nearB p then awayN a b p else 0
theorem sq_nonneg (a b : Pt) : 0 ≤ sqN a b := by
  unfold sqN dt
  have := mul_self (b.x - a.x)
  have := mul_self (b.y - a.y)
  omega
theorem sq_swap (a b : Pt) : sqN b a = sqN a b := by unfold sqN dt; grind
theorem sq_zero {a b : Pt} (h : sqN a b ≤ 0) : a = b := by
  unfold sqN dt at h
  have := sqs_zero h
  exact Pt.ext' (by omega) (by omega)
theorem dt_other (a b p : Pt) : dt b a p = sqN a b - dt a b p := by unfold sqN dt; grind
theorem sq_other (a b p : Pt) : sqN b p = sqN a p - 2 * dt a b p + sqN a b := by unfold sqN dt; grind
/-- Lagrange's identity. -/
theorem lagrange (a b p : Pt) : crs a b p * crs a b p + dt a b p * dt a b p = sqN a b * sqN a p := by unfold sqN dt crs; grind
theorem away_back (a b p : Pt) : awayN b a p = awayN a b p := by
  unfold awayN
  rw [dt_other, sq_swap a b, crs_back, Int.neg_mul_neg]
  by_cases h1 : dt a b p ≤ 0
  · by_cases h2 : sqN a b - dt a b p ≤ 0
    · have h3 := sq_zero (a := a) (b := b) (by omega)
      subst h3
      rw [if_pos h2, if_pos h1]
    · rw [if_neg h2, if_pos (by omega), if_pos h1]
  · by_cases h2 : sqN a b ≤ dt a b p
    · rw [if_pos (by omega), if_neg h1, if_pos h2]
    · rw [if_neg (by omega), if_neg (by omega), if_neg h1, if_neg h2]
theorem away_nonneg (a b p : Pt) : 0 ≤ awayN a b p := by
  unfold awayN
  split
  · exact sq_nonneg a p
  · split
    · exact sq_nonneg b p
    · exact Int.ediv_nonneg (mul_self _) (sq_nonneg a b)
theorem div_le {n k m : Int} (hk : 0 < k) (h : n ≤ k * m) : n / k ≤ m := by
  have := Int.ediv_le_ediv hk h
  rwa [Int.mul_ediv_cancel_left _ (Int.ne_of_gt hk)] at this
theorem away_left (a b p : Pt) : awayN a b p ≤ sqN a p := by
  unfold awayN
  split
  · exact Int.le_refl _
  · rename_i h1
    split
    · rename_i h2
      have := sq_other a b p
      have := sq_nonneg a b
      omega
    · rename_i h2
      refine div_le (by omega) ?_
      have := lagrange a b p
      have := mul_self (dt a b p)
      omega
theorem away_right (a b p : Pt) : awayN a b p ≤ sqN b p := by
  rw [← away_back]
  exact away_left b a p
theorem dt_at (a b p : Pt) : dt p a b = sqN a p - dt a b p := by unfold sqN dt; grind
theorem away_on {a b p : Pt} (h : holdsN a b p = true) : awayN a b p = 0 := by
  obtain ⟨h1, h2⟩ := holds_iff.1 h
  rw [dt_at] at h2
  have h3 := sq_nonneg a p
  have h4 := sq_nonneg b p
  have h5 := sq_other a b p
  unfold awayN
  split
  · omega
  · split
    · omega
    · rw [h1]; simp
theorem away_point (a p : Pt) : awayN a a p = sqN a p := by
  unfold awayN
  rw [if_pos]
  unfold dt
  grind
theorem cross_dot (a b p q : Pt) (h : crs a b q = 0) : sqN a b * ((p.x - a.x) * (q.x - a.x) + (p.y - a.y) * (q.y - a.y)) = dt a b p * dt a b q := by
  unfold crs at h; unfold sqN dt; grind
theorem away_aux {a b p q : Pt} (h : holdsN a b q = true) (hl : dt a b p ≤ 0) : sqN a p ≤ sqN q p := by
  obtain ⟨h1, h2⟩ := holds_iff.1 h
  by_cases e : a = b
  · subst e
    rw [holds_point h]
    exact Int.le_refl _
  · have hk := sq_nonneg a b
    have hk0 : sqN a b ≠ 0 := fun g => e (sq_zero (by omega))
    have h3 := cross_dot a b p q h1
    rw [dt_at] at h2
    have h4 := sq_nonneg a q
    have h5 : dt a b p * dt a b q ≤ 0 := Int.mul_nonpos_of_nonpos_of_nonneg hl (by omega)
    have h6 := le_of_scaled (k := sqN a b) (by omega) (by rw [h3]; exact h5)
    have h7 : sqN q p = sqN a p - 2 * ((p.x - a.x) * (q.x - a.x) + (p.y - a.y) * (q.y - a.y)) + sqN a q := by unfold sqN dt; grind
    omega
theorem crs_shift {a b p q : Pt} (h : crs a b q = 0) : crs a b p = (b.x - a.x) * (p.y - q.y) - (b.y - a.y) * (p.x - q.x) := by unfold crs at *; grind
theorem away_other {a b p q : Pt} (h : holdsN a b q = true) : awayN a b p ≤ sqN q p := by
  by_cases h1 : dt a b p ≤ 0
  · have := away_aux h h1
    unfold awayN
    rw [if_pos h1]
    exact this
  · by_cases h2 : sqN a b ≤ dt a b p
    · have := away_aux (a := b) (b := a) (p := p) (q := q) (by rw [holds_back]; exact h) (by rw [dt_other]; omega)
      unfold awayN
      rw [if_neg h1, if_pos h2]
      exact this
    · unfold awayN
      rw [if_neg h1, if_neg h2]
      refine div_le (by omega) ?_
      have e := crs_shift (p := p) (holds_iff.1 h).1
      have l : crs a b p * crs a b p + ((b.x - a.x) * (p.x - q.x) + (b.y - a.y) * (p.y - q.y)) * ((b.x - a.x) * (p.x - q.x) + (b.y - a.y) * (p.y - q.y)) = sqN a b * sqN q p := by
        rw [e]; unfold sqN dt; grind
      have := mul_self ((b.x - a.x) * (p.x - q.x) + (b.y - a.y) * (p.y - q.y))
      omega
/-- Roots. -/
def IsRoot (n r : Int) : Prop := n < 0 ∧ r = 0 ∨ 0 ≤ r ∧ r * r ≤ n ∧ n < (r + 1) * (r + 1)
theorem sq_lt {r s : Int} (hr : 0 ≤ r) (hs : 0 ≤ s) (h : r * r < s * s) : r < s := by
  by_cases g : s ≤ r
  · have := Int.mul_le_mul g g hs hr; omega
  · omega
theorem root_le {m n r s : Int} (hr : IsRoot m r) (hs : IsRoot n s) (h : m ≤ n) : r ≤ s := by
  rcases hr with ⟨h1, rfl⟩ | ⟨h0, h1, h2⟩ <;> rcases hs with ⟨g1, rfl⟩ | ⟨g0, g1, g2⟩
  · omega
  · exact g0
  · have := mul_self r; omega
  · have := sq_lt h0 (show 0 ≤ s + 1 by omega) (by omega)
    omega
theorem root_one {n r s : Int} (hr : IsRoot n r) (hs : IsRoot n s) : r = s :=
  Int.le_antisymm (root_le hr hs (Int.le_refl _)) (root_le hs hr (Int.le_refl _))
theorem root_square {a m : Int} (ha : 0 ≤ a) (h0 : 0 ≤ m) (h : m ≤ 2 * a) : IsRoot (a * a + m) a := by
  refine .inr ⟨ha, by omega, ?_⟩
  have : (a + 1) * (a + 1) = a * a + 2 * a + 1 := by grind
  omega
end Go.Proofs.Ytlagolgmkmdhhaa.Geo
