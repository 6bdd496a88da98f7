/- Signs of a side and a way that have no common point: plain mathematics (no text of the program is named). -/
import Derived.Test.YtlagolgmkmdhhaaGmShare
namespace Go.Proofs.Ytlagolgmkmdhhaa.Pl
open Go.Proofs.Ytlagolgmkmdhhaa.Geo
/-- signs of four turns and heights: side a b, way p q, with no common point. A, B: p and q seen from the side; C, D: a and b seen from the way. -/
structure Quad (A B C D a b p q : Int) : Prop where
  i1 : A * (q - a) - B * (p - a) = -(C * (b - a))
  i2 : A * (q - b) - B * (p - b) = D * (a - b)
  i3 : A * (q - p) = D * (a - p) - C * (b - p)
  i4 : B * (q - p) = D * (a - q) - C * (b - q)
  n0 : ¬ ((A < 0 ∧ 0 < B ∨ 0 < A ∧ B < 0) ∧ (C < 0 ∧ 0 < D ∨ 0 < C ∧ D < 0))
  nP : ¬ (A = 0 ∧ a ≠ b ∧ (a ≤ p ∧ p ≤ b ∨ b ≤ p ∧ p ≤ a))
  nQ : ¬ (B = 0 ∧ a ≠ b ∧ (a ≤ q ∧ q ≤ b ∨ b ≤ q ∧ q ≤ a))
  nA : ¬ (C = 0 ∧ p ≠ q ∧ (p ≤ a ∧ a ≤ q ∨ q ≤ a ∧ a ≤ p))
  nB : ¬ (D = 0 ∧ p ≠ q ∧ (p ≤ b ∧ b ≤ q ∨ q ≤ b ∧ b ≤ p))
  mP : ¬ (A = 0 ∧ (C < 0 ∧ 0 < D ∨ 0 < C ∧ D < 0))
  mQ : ¬ (B = 0 ∧ (C < 0 ∧ 0 < D ∨ 0 < C ∧ D < 0))
  mA : ¬ (C = 0 ∧ (A < 0 ∧ 0 < B ∨ 0 < A ∧ B < 0))
  mB : ¬ (D = 0 ∧ (A < 0 ∧ 0 < B ∨ 0 < A ∧ B < 0))
section
variable {A B C D a b p q : Int}
theorem Quad.ab (h : Quad A B C D a b p q) : Quad (-A) (-B) D C b a p q where
  i1 := by have := h.i2; rw [Int.neg_mul, Int.neg_mul]; omega
  i2 := by
    have := h.i1
    have e : C * (b - a) = C * (b - a) := rfl
    rw [Int.neg_mul, Int.neg_mul]; omega
  i3 := by have := h.i3; rw [Int.neg_mul]; omega
  i4 := by have := h.i4; rw [Int.neg_mul]; omega
  n0 := by have := h.n0; omega
  nP := by have := h.nP; omega
  nQ := by have := h.nQ; omega
  nA := by have := h.nB; omega
  nB := by have := h.nA; omega
  mP := by have := h.mP; omega
  mQ := by have := h.mQ; omega
  mA := by have := h.mB; omega
  mB := by have := h.mA; omega
theorem Quad.pq (h : Quad A B C D a b p q) : Quad B A (-C) (-D) a b q p where
  i1 := by have := h.i1; rw [Int.neg_mul]; omega
  i2 := by have := h.i2; rw [Int.neg_mul]; omega
  i3 := by
    have := h.i4
    have e : B * (p - q) = -(B * (q - p)) := by rw [← Int.mul_neg]; congr 1; omega
    rw [Int.neg_mul, Int.neg_mul, e]; omega
  i4 := by
    have := h.i3
    have e : A * (p - q) = -(A * (q - p)) := by rw [← Int.mul_neg]; congr 1; omega
    rw [Int.neg_mul, Int.neg_mul, e]; omega
  n0 := by have := h.n0; omega
  nP := by have := h.nQ; omega
  nQ := by have := h.nP; omega
  nA := by have := h.nA; omega
  nB := by have := h.nB; omega
  mP := by have := h.mQ; omega
  mQ := by have := h.mP; omega
  mA := by have := h.mA; omega
  mB := by have := h.mB; omega
/-- a sign of a product, for omega. -/
theorem sg (x d : Int) : (0 < x ∧ 0 < d ∧ 0 < x * d) ∨ (0 < x ∧ d < 0 ∧ x * d < 0) ∨ (x < 0 ∧ 0 < d ∧ x * d < 0) ∨ (x < 0 ∧ d < 0 ∧ 0 < x * d) ∨ (x = 0 ∧ x * d = 0) ∨ (d = 0 ∧ x * d = 0) := by
  rcases Int.lt_trichotomy x 0 with h | h | h
  · rcases Int.lt_trichotomy d 0 with k | k | k
    · exact .inr (.inr (.inr (.inl ⟨h, k, Int.mul_pos_of_neg_of_neg h k⟩)))
    · exact .inr (.inr (.inr (.inr (.inr ⟨k, by rw [k, Int.mul_zero]⟩))))
    · exact .inr (.inr (.inl ⟨h, k, Int.mul_neg_of_neg_of_pos h k⟩))
  · exact .inr (.inr (.inr (.inr (.inl ⟨h, by rw [h, Int.zero_mul]⟩))))
  · rcases Int.lt_trichotomy d 0 with k | k | k
    · exact .inr (.inl ⟨h, k, Int.mul_neg_of_pos_of_neg h k⟩)
    · exact .inr (.inr (.inr (.inr (.inr ⟨k, by rw [k, Int.mul_zero]⟩))))
    · exact .inl ⟨h, k, Int.mul_pos h k⟩
/-- p and q are level with the side. -/
theorem Quad.kx (h : Quad A B C D a b p q) (h1 : a ≤ p) (h2 : a ≤ q) (h3 : p < b) (h4 : q < b) : (0 < A) ↔ (0 < B) := by
  obtain ⟨i1, i2, -, -, n0, nP, nQ, -, -, -, -, mA, mB⟩ := h
  have s1 := sg A (q - a)
  have s2 := sg B (p - a)
  have s3 := sg C (b - a)
  have s4 := sg A (q - b)
  have s5 := sg B (p - b)
  have s6 := sg D (a - b)
  generalize A * (q - a) = x1 at *
  generalize B * (p - a) = x2 at *
  generalize C * (b - a) = x3 at *
  generalize A * (q - b) = x4 at *
  generalize B * (p - b) = x5 at *
  generalize D * (a - b) = x6 at *
  have sA : A < 0 ∨ A = 0 ∨ 0 < A := by omega
  have sB : B < 0 ∨ B = 0 ∨ 0 < B := by omega
  rcases sA with sA | sA | sA <;> rcases sB with sB | sB | sB <;> first
    | (exfalso; omega)
    | omega
/-- a and b are level with the way. -/
theorem Quad.ky (h : Quad A B C D a b p q) (h1 : p < a) (h2 : a ≤ q) (h3 : p < b) (h4 : b ≤ q) : (C < 0) ↔ (D < 0) := by
  obtain ⟨-, -, i3, i4, n0, -, -, nA, nB, mP, mQ, -, -⟩ := h
  have s1 := sg A (q - p)
  have s2 := sg D (a - p)
  have s3 := sg C (b - p)
  have s4 := sg B (q - p)
  have s5 := sg D (a - q)
  have s6 := sg C (b - q)
  generalize A * (q - p) = x1 at *
  generalize D * (a - p) = x2 at *
  generalize C * (b - p) = x3 at *
  generalize B * (q - p) = x4 at *
  generalize D * (a - q) = x5 at *
  generalize C * (b - q) = x6 at *
  have sC : C < 0 ∨ C = 0 ∨ 0 < C := by omega
  have sD : D < 0 ∨ D = 0 ∨ 0 < D := by omega
  rcases sC with sC | sC | sC <;> rcases sD with sD | sD | sD <;> first
    | (exfalso; omega)
    | omega
/-- only p is not below a. -/
theorem Quad.kz (h : Quad A B C D a b p q) (h1 : a ≤ p) (h2 : q < a) (h3 : p < b) : (0 < A) ↔ (0 < C) := by
  obtain ⟨i1, -, i3, -, n0, nP, -, nA, -, -, -, -, -⟩ := h
  have s1 := sg A (q - a)
  have s2 := sg B (p - a)
  have s3 := sg C (b - a)
  have s4 := sg A (q - p)
  have s5 := sg D (a - p)
  have s6 := sg C (b - p)
  generalize A * (q - a) = x1 at *
  generalize B * (p - a) = x2 at *
  generalize C * (b - a) = x3 at *
  generalize A * (q - p) = x4 at *
  generalize D * (a - p) = x5 at *
  generalize C * (b - p) = x6 at *
  have sA : A < 0 ∨ A = 0 ∨ 0 < A := by omega
  have sC : C < 0 ∨ C = 0 ∨ 0 < C := by omega
  rcases sA with sA | sA | sA <;> rcases sC with sC | sC | sC <;> first
    | (exfalso; omega)
    | omega
/-- only p is below a. -/
theorem Quad.kw (h : Quad A B C D a b p q) (h1 : p < a) (h2 : a ≤ q) (h3 : b ≤ p) : (A < 0) ↔ (C < 0) := by
  obtain ⟨i1, -, i3, -, n0, nP, -, nA, -, -, -, -, -⟩ := h
  have s1 := sg A (q - a)
  have s2 := sg B (p - a)
  have s3 := sg C (b - a)
  have s4 := sg A (q - p)
  have s5 := sg D (a - p)
  have s6 := sg C (b - p)
  generalize A * (q - a) = x1 at *
  generalize B * (p - a) = x2 at *
  generalize C * (b - a) = x3 at *
  generalize A * (q - p) = x4 at *
  generalize D * (a - p) = x5 at *
  generalize C * (b - p) = x6 at *
  have sA : A < 0 ∨ A = 0 ∨ 0 < A := by omega
  have sC : C < 0 ∨ C = 0 ∨ 0 < C := by omega
  rcases sA with sA | sA | sA <;> rcases sC with sC | sC | sC <;> first
    | (exfalso; omega)
    | omega
end
theorem sq_pos' {n : Int} (h : n ≠ 0) : 0 < n * n := by
  rcases Int.lt_or_gt_of_ne h with h | h
  · exact Int.mul_pos_of_neg_of_neg h h
  · exact Int.mul_pos h h
/-- a point of a line that is level with a segment of it is on the segment. -/
theorem holds_level {a b p : Pt} (h : crs a b p = 0) (hy : a.y ≠ b.y) (hb : a.y ≤ p.y ∧ p.y ≤ b.y ∨ b.y ≤ p.y ∧ p.y ≤ a.y) : holdsN a b p = true := by
  rw [holds_iff]
  refine ⟨h, ?_⟩
  have hq := sq_pos' (show b.y - a.y ≠ 0 by omega)
  apply le_of_scaled hq
  have e : (b.y - a.y) * (b.y - a.y) * dt p a b = -(((p.y - a.y) * (b.y - p.y)) * ((b.x - a.x) * (b.x - a.x) + (b.y - a.y) * (b.y - a.y))) := by
    have x1 : (p.x - a.x) * (b.y - a.y) = (b.x - a.x) * (p.y - a.y) := by unfold crs at h; grind
    have x2 : (p.x - b.x) * (b.y - a.y) = (b.x - a.x) * (p.y - b.y) := by unfold crs at h; grind
    have : (b.y - a.y) * (b.y - a.y) * dt p a b = ((p.x - a.x) * (b.y - a.y)) * ((p.x - b.x) * (b.y - a.y)) + (b.y - a.y) * (b.y - a.y) * ((a.y - p.y) * (b.y - p.y)) := by unfold dt; grind
    rw [this, x1, x2]
    grind
  have h1 : 0 ≤ (p.y - a.y) * (b.y - p.y) := by
    rcases hb with ⟨h1, h2⟩ | ⟨h1, h2⟩
    · exact Int.mul_nonneg (by omega) (by omega)
    · exact Int.mul_nonneg_of_nonpos_of_nonpos (by omega) (by omega)
  have h2 := mul_self (b.x - a.x)
  have h3 := mul_self (b.y - a.y)
  have := Int.mul_nonneg h1 (show 0 ≤ (b.x - a.x) * (b.x - a.x) + (b.y - a.y) * (b.y - a.y) by omega)
  omega
/-- a point of a line through two others that are on different sides of a line through it is between them. -/
theorem holds_sides {a b p q : Pt} (h : crs p q a = 0) (hs : crs a b p < 0 ∧ 0 < crs a b q ∨ 0 < crs a b p ∧ crs a b q < 0) : holdsN p q a = true := by
  rw [holds_iff]
  refine ⟨h, ?_⟩
  have hq := sq_pos' (show crs a b p ≠ 0 by omega)
  apply le_of_scaled hq
  have k : crs a b p * dt a p q = crs a b q * ((p.x - a.x) * (p.x - a.x) + (p.y - a.y) * (p.y - a.y)) := by
    have : crs a b p * dt a p q = crs a b q * ((p.x - a.x) * (p.x - a.x) + (p.y - a.y) * (p.y - a.y)) - crs p q a * ((b.x - a.x) * (p.x - a.x) + (b.y - a.y) * (p.y - a.y)) ∨ crs a b p * dt a p q = crs a b q * ((p.x - a.x) * (p.x - a.x) + (p.y - a.y) * (p.y - a.y)) + crs p q a * ((b.x - a.x) * (p.x - a.x) + (b.y - a.y) * (p.y - a.y)) := by
      first
        | (left; unfold crs dt; grind)
        | (right; unfold crs dt; grind)
    rcases this with e | e <;> (rw [e, h]; simp)
  have e : crs a b p * crs a b p * dt a p q = crs a b p * crs a b q * ((p.x - a.x) * (p.x - a.x) + (p.y - a.y) * (p.y - a.y)) := by
    rw [Int.mul_assoc, k, Int.mul_assoc]
  have h1 : crs a b p * crs a b q ≤ 0 := by
    rcases hs with ⟨h1, h2⟩ | ⟨h1, h2⟩
    · exact Int.le_of_lt (Int.mul_neg_of_neg_of_pos h1 h2)
    · exact Int.le_of_lt (Int.mul_neg_of_pos_of_neg h1 h2)
  have h2 := mul_self (p.x - a.x)
  have h3 := mul_self (p.y - a.y)
  rw [e]
  exact Int.mul_nonpos_of_nonpos_of_nonneg h1 (by omega)
theorem quad_of {a b p q : Pt} (hP : holdsN a b p = false) (hQ : holdsN a b q = false) (hA : holdsN p q a = false) (hB : holdsN p q b = false) (hX : ¬ Apart a b p q) :
    Quad (crs a b p) (crs a b q) (crs p q a) (crs p q b) a.y b.y p.y q.y where
  i1 := by unfold crs; grind
  i2 := by unfold crs; grind
  i3 := by unfold crs; grind
  i4 := by unfold crs; grind
  n0 := fun ⟨h1, h2⟩ => hX ⟨by
      rcases h1 with ⟨h1, h3⟩ | ⟨h1, h3⟩
      · exact Int.mul_neg_of_neg_of_pos h1 h3
      · exact Int.mul_neg_of_pos_of_neg h1 h3, by
      rcases h2 with ⟨h1, h3⟩ | ⟨h1, h3⟩
      · exact Int.mul_neg_of_neg_of_pos h1 h3
      · exact Int.mul_neg_of_pos_of_neg h1 h3⟩
  nP := fun ⟨h1, h2, h3⟩ => by rw [holds_level h1 h2 h3] at hP; cases hP
  nQ := fun ⟨h1, h2, h3⟩ => by rw [holds_level h1 h2 h3] at hQ; cases hQ
  nA := fun ⟨h1, h2, h3⟩ => by rw [holds_level h1 h2 h3] at hA; cases hA
  nB := fun ⟨h1, h2, h3⟩ => by rw [holds_level h1 h2 h3] at hB; cases hB
  mP := fun ⟨h1, h2⟩ => by rw [holds_sides h1 h2] at hP; cases hP
  mQ := fun ⟨h1, h2⟩ => by
    have e : crs b a q = 0 := by rw [crs_back, h1]; rfl
    rw [← holds_back, holds_sides (a := q) (b := p) (p := b) (q := a) e (by rw [crs_back p q b, crs_back p q a]; omega)] at hQ; cases hQ
  mA := fun ⟨h1, h2⟩ => by rw [holds_sides h1 h2] at hA; cases hA
  mB := fun ⟨h1, h2⟩ => by
    have e : crs q p b = 0 := by rw [crs_back, h1]; rfl
    rw [← holds_back, holds_sides (a := b) (b := a) (p := q) (q := p) e (by rw [crs_back a b q, crs_back a b p]; omega)] at hB; cases hB
end Go.Proofs.Ytlagolgmkmdhhaa.Pl
