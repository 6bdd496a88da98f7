/- Points and segments over the integers: what geom's functions compute, and what is true of it. Nothing of the program is named. -/
namespace Go.Proofs.Ytlagolgmkmdhhaa.Geo
structure Pt where
  x : Int
  y : Int
theorem Pt.ext' {p q : Pt} (h1 : p.x = q.x) (h2 : p.y = q.y) : p = q := by cases p; cases q; simp_all
def eqP (p q : Pt) : Bool := decide (p.x = q.x ∧ p.y = q.y)
def nearB (p : Pt) : Bool := decide (-2097152 ≤ p.x ∧ p.x ≤ 2097152 ∧ -2097152 ≤ p.y ∧ p.y ≤ 2097152)
def crs (a b c : Pt) : Int := (b.x - a.x) * (c.y - a.y) - (b.y - a.y) * (c.x - a.x)
def dt (a b c : Pt) : Int := (b.x - a.x) * (c.x - a.x) + (b.y - a.y) * (c.y - a.y)
def sgn (n : Int) : Int := if n < 0 then -1 else if 0 < n then 1 else 0
def sideN (a b c : Pt) : Int := sgn (crs a b c)
def orientN (a b c : Pt) : Int := if nearB a && nearB b && nearB c then sideN a b c else 0
def cmpN (a b : Pt) : Int := if a.x < b.x then -1 else if b.x < a.x then 1 else if a.y < b.y then -1 else if b.y < a.y then 1 else 0
def sqN (a b : Pt) : Int := dt a b b
def distN (a b : Pt) : Int := if nearB a && nearB b then sqN a b else 0
/-- p lies on the segment from a to b. -/
def holdsN (a b p : Pt) : Bool := decide (crs a b p = 0 ∧ dt p a b ≤ 0)
def onN (a b p : Pt) : Bool := nearB a && nearB b && nearB p && holdsN a b p
theorem mul_self (a : Int) : 0 ≤ a * a := by
  rcases Int.le_total 0 a with h | h
  · exact Int.mul_nonneg h h
  · exact Int.mul_nonneg_of_nonpos_of_nonpos h h
theorem sqs_zero {a b : Int} (h : a * a + b * b ≤ 0) : a = 0 ∧ b = 0 := by
  have h1 := mul_self a
  have h2 := mul_self b
  exact ⟨by rcases Int.mul_eq_zero.1 (show a * a = 0 by omega) with h | h <;> exact h, by rcases Int.mul_eq_zero.1 (show b * b = 0 by omega) with h | h <;> exact h⟩
theorem eqP_iff {p q : Pt} : eqP p q = true ↔ p = q := by
  unfold eqP
  rw [decide_eq_true_iff]
  exact ⟨fun h => Pt.ext' h.1 h.2, fun h => h ▸ ⟨rfl, rfl⟩⟩
theorem eqP_not {p q : Pt} : eqP p q = false ↔ p ≠ q := by
  rw [← Bool.not_eq_true, eqP_iff]
theorem sgn_zero {n : Int} : sgn n = 0 ↔ n = 0 := by unfold sgn; split <;> (try split) <;> omega
theorem sgn_neg (n : Int) : sgn (-n) = -sgn n := by unfold sgn; split <;> split <;> (try split) <;> (try split) <;> omega
theorem sgn_mul_neg {m n : Int} : sgn m * sgn n < 0 ↔ m * n < 0 := by
  unfold sgn
  rcases Int.lt_trichotomy m 0 with h | h | h <;> rcases Int.lt_trichotomy n 0 with g | g | g
  · have := Int.mul_pos_of_neg_of_neg h g; grind
  · subst g; grind
  · have := Int.mul_neg_of_neg_of_pos h g; grind
  · subst h; grind
  · subst h; grind
  · subst h; grind
  · have := Int.mul_neg_of_pos_of_neg h g; grind
  · subst g; grind
  · have := Int.mul_pos h g; grind
/-- P3.2: the turn of three points. -/
theorem side_swap1 (a b c : Pt) : sideN b a c = -sideN a b c := by
  unfold sideN; rw [← sgn_neg]; congr 1; unfold crs; grind
theorem side_swap2 (a b c : Pt) : sideN a c b = -sideN a b c := by
  unfold sideN; rw [← sgn_neg]; congr 1; unfold crs; grind
theorem side_cycle (a b c : Pt) : sideN b c a = sideN a b c := by
  unfold sideN; congr 1; unfold crs; grind
theorem side_same1 (a c : Pt) : sideN a a c = 0 := by
  unfold sideN; rw [sgn_zero]; unfold crs; grind
theorem side_same2 (a b : Pt) : sideN a b b = 0 := by
  unfold sideN; rw [sgn_zero]; unfold crs; grind
def movedN (p d : Pt) : Pt := ⟨p.x + d.x, p.y + d.y⟩
theorem crs_moved (a b c d : Pt) : crs (movedN a d) (movedN b d) (movedN c d) = crs a b c := by
  unfold crs movedN; grind
theorem sq_moved (a b d : Pt) : sqN (movedN a d) (movedN b d) = sqN a b := by
  unfold sqN dt movedN; grind
/-- P3.3: the order of points. -/
theorem cmp_zero {a b : Pt} : cmpN a b = 0 ↔ a = b := by
  unfold cmpN
  constructor
  · intro h
    apply Pt.ext' <;> grind
  · rintro rfl
    grind
theorem cmp_swap (a b : Pt) : cmpN b a = -cmpN a b := by unfold cmpN; grind
theorem cmp_range (a b : Pt) : -1 ≤ cmpN a b ∧ cmpN a b ≤ 1 := by unfold cmpN; grind
theorem cmp_trans {a b c : Pt} (h1 : cmpN a b ≤ 0) (h2 : cmpN b c ≤ 0) : cmpN a c ≤ 0 ∧ (cmpN a c < 0 ∨ cmpN a b = 0 ∧ cmpN b c = 0) := by
  unfold cmpN at *; grind
theorem cmp_le {a b : Pt} : cmpN a b ≤ 0 ↔ a.x < b.x ∨ a.x = b.x ∧ a.y ≤ b.y := by unfold cmpN; grind
theorem cmp_lt {a b : Pt} : cmpN a b < 0 ↔ a.x < b.x ∨ a.x = b.x ∧ a.y < b.y := by unfold cmpN; grind
end Go.Proofs.Ytlagolgmkmdhhaa.Geo
