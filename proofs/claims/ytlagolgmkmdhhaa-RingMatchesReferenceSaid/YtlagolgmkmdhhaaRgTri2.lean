/- Triangles: simple, and where a point is. -/
import Derived.Test.YtlagolgmkmdhhaaRgTri
namespace Go.Proofs.Ytlagolgmkmdhhaa.Rg
open Go.Proofs.Ytlagolgmkmdhhaa.Geo hiding intOf
theorem crs_turn (a b c : Pt) : crs b c a = crs a b c := by unfold crs; grind
theorem holds_same {a b c p : Pt} (hT : crs a b c ≠ 0) (hA : crs a b p = 0) (hs : 0 ≤ crs b c p ∧ 0 ≤ crs c a p ∨ crs b c p ≤ 0 ∧ crs c a p ≤ 0) : holdsN a b p = true := by
  rw [holds_iff]
  refine ⟨hA, ?_⟩
  have x1 : crs a b c * (a.x - p.x) = crs c a p * (a.x - b.x) := by
    have : crs a b c * (a.x - p.x) = crs c a p * (a.x - b.x) + crs a b p * (a.x - c.x) := by unfold crs; grind
    rw [this, hA]; simp
  have y1 : crs a b c * (a.y - p.y) = crs c a p * (a.y - b.y) := by
    have : crs a b c * (a.y - p.y) = crs c a p * (a.y - b.y) + crs a b p * (a.y - c.y) := by unfold crs; grind
    rw [this, hA]; simp
  have x2 : crs a b c * (b.x - p.x) = crs b c p * (b.x - a.x) := by
    have : crs a b c * (b.x - p.x) = crs b c p * (b.x - a.x) + crs a b p * (b.x - c.x) := by unfold crs; grind
    rw [this, hA]; simp
  have y2 : crs a b c * (b.y - p.y) = crs b c p * (b.y - a.y) := by
    have : crs a b c * (b.y - p.y) = crs b c p * (b.y - a.y) + crs a b p * (b.y - c.y) := by unfold crs; grind
    rw [this, hA]; simp
  have hq : 0 < crs a b c * crs a b c := by
    rcases Int.lt_or_gt_of_ne hT with h | h
    · exact Int.mul_pos_of_neg_of_neg h h
    · exact Int.mul_pos h h
  apply le_of_scaled hq
  have e : crs a b c * crs a b c * dt p a b = -((crs c a p * crs b c p) * ((a.x - b.x) * (a.x - b.x) + (a.y - b.y) * (a.y - b.y))) := by
    have : crs a b c * crs a b c * dt p a b = (crs a b c * (a.x - p.x)) * (crs a b c * (b.x - p.x)) + (crs a b c * (a.y - p.y)) * (crs a b c * (b.y - p.y)) := by
      generalize crs a b c = T
      unfold dt; grind
    rw [this, x1, x2, y1, y2]
    generalize crs c a p = C
    generalize crs b c p = B
    grind
  have h1 : 0 ≤ crs c a p * crs b c p := by
    rcases hs with ⟨h1, h2⟩ | ⟨h1, h2⟩
    · exact Int.mul_nonneg h2 h1
    · exact Int.mul_nonneg_of_nonpos_of_nonpos h2 h1
  have h2 : 0 ≤ (a.x - b.x) * (a.x - b.x) + (a.y - b.y) * (a.y - b.y) := by
    have := mul_self (a.x - b.x)
    have := mul_self (a.y - b.y)
    omega
  have := Int.mul_nonneg h1 h2
  omega
theorem tri_of {a b c p : Pt} (hT : crs a b c ≠ 0) (h1 : holdsN a b p = false) (h2 : holdsN b c p = false) (h3 : holdsN c a p = false) :
    Tri (crs a b p) (crs b c p) (crs c a p) (crs a b c) (a.y - p.y) (b.y - p.y) (c.y - p.y) where
  sum := by unfold crs; grind
  bar := by unfold crs; grind
  ne := hT
  flat := fun ⟨e1, e2, e3⟩ => hT (by
    have f1 : b.y - a.y = 0 := by omega
    have f2 : c.y - a.y = 0 := by omega
    unfold crs
    rw [f1, f2]; simp)
  n1 := fun ⟨hA, hs⟩ => by rw [holds_same hT hA hs] at h1; cases h1
  n2 := fun ⟨hA, hs⟩ => by rw [holds_same (by rw [crs_turn]; exact hT) hA hs] at h2; cases h2
  n3 := fun ⟨hA, hs⟩ => by rw [holds_same (a := c) (b := a) (c := b) (by rw [← crs_turn]; exact hT) hA hs] at h3; cases h3
theorem sgn_pos {n : Int} : 0 < sgn n ↔ 0 < n := by unfold sgn; split <;> (try split) <;> omega
theorem sgn_eq {m n : Int} (hn : n ≠ 0) : sgn m = sgn n ↔ (0 < n ∧ 0 < m) ∨ (n < 0 ∧ m < 0) := by
  unfold sgn
  rcases Int.lt_or_gt_of_ne hn with h | h
  · rw [if_pos h]
    split <;> (try split) <;> omega
  · have h' : 0 < n := h
    rw [if_neg (show ¬ n < 0 by omega), if_pos h']
    split <;> (try split) <;> omega
theorem pass_cross {a b p : Pt} (na : nearB a = true) (nb : nearB b = true) (np : nearB p = true) : passN a b p = cross1 (a.y - p.y) (b.y - p.y) (crs a b p) := by
  have o1 : orientN a b p = sgn (crs a b p) := by unfold orientN; rw [na, nb, np]; rfl
  have o2 : orientN b a p = sgn (crs b a p) := by unfold orientN; rw [na, nb, np]; rfl
  have e := crs_back a b p
  unfold passN
  by_cases h : a.y > b.y
  · simp only [h, if_true]
    rw [o2, Bool.eq_iff_iff]
    unfold cross1
    simp [sgn_pos, e]
    omega
  · simp only [h, if_false]
    rw [o1, Bool.eq_iff_iff]
    unfold cross1
    simp [sgn_pos]
    omega
theorem loc_three (a b c p : Pt) : locN [a, b, c] p = if onN a b p || onN b c p || onN c a p then 0 else
    (if ((passN a b p ^^ passN b c p) ^^ passN c a p) then 1 else -1) := by
  have e : locN [a, b, c] p = if onN a b p || (onN b c p || (onN c a p || false)) then 0 else
      (if passN c a p then -(if passN b c p then -(if passN a b p then -(-1) else -1) else (if passN a b p then -(-1) else -1)) else (if passN b c p then -(if passN a b p then -(-1) else -1) else (if passN a b p then -(-1) else -1))) := rfl
  rw [e, Bool.or_false, ← Bool.or_assoc]
  cases passN a b p <;> cases passN b c p <;> cases passN c a p <;> rfl
def wantT (a b c p : Pt) : Int := if onN a b p || onN b c p || onN c a p then 0 else if sideN a b p = sideN a b c ∧ sideN b c p = sideN a b c ∧ sideN c a p = sideN a b c then 1 else -1
theorem loc_tri {a b c p : Pt} (na : nearB a = true) (nb : nearB b = true) (nc : nearB c = true) (np : nearB p = true) (hT : sideN a b c ≠ 0) : locN [a, b, c] p = wantT a b c p := by
  have hT' : crs a b c ≠ 0 := fun h => hT (sgn_zero.2 h)
  rw [loc_three]
  unfold wantT
  have o1 : onN a b p = holdsN a b p := by unfold onN; rw [na, nb, np]; rfl
  have o2 : onN b c p = holdsN b c p := by unfold onN; rw [nb, nc, np]; rfl
  have o3 : onN c a p = holdsN c a p := by unfold onN; rw [nc, na, np]; rfl
  rw [o1, o2, o3]
  cases h1 : holdsN a b p with
  | true => rfl
  | false =>
    cases h2 : holdsN b c p with
    | true => rfl
    | false =>
      cases h3 : holdsN c a p with
      | true => rfl
      | false =>
        rw [pass_cross na nb np, pass_cross nb nc np, pass_cross nc na np, tri_par (tri_of hT' h1 h2 h3)]
        have key : insideP (crs a b p) (crs b c p) (crs c a p) (crs a b c) = true ↔ sideN a b p = sideN a b c ∧ sideN b c p = sideN a b c ∧ sideN c a p = sideN a b c := by
          unfold insideP sideN
          rw [Bool.or_eq_true, decide_eq_true_iff, decide_eq_true_iff, sgn_eq hT', sgn_eq hT', sgn_eq hT']
          omega
        by_cases hk : insideP (crs a b p) (crs b c p) (crs c a p) (crs a b c) = true
        · rw [if_pos hk, if_neg (by simp), if_pos (key.1 hk)]
          rfl
        · rw [if_neg hk, if_neg (by simp), if_neg (fun h => hk (key.2 h))]
          rfl
theorem meets_one {a b c : Pt} (hT : crs a b c ≠ 0) : meetsN a b b c = 1 := by
  refine (meets_kind a b b c).one (.inr ⟨?_, .inr (.inl ⟨b, .inl (.inr rfl), ⟨holds_right _ _, holds_left _ _⟩, ?_, .inl ⟨.inr rfl, .inl rfl, rfl⟩⟩)⟩)
  · rintro (⟨h, h'⟩ | ⟨h, _⟩)
    · subst h; exact hT (by unfold crs; grind)
    · subst h; exact hT (by unfold crs; grind)
  · rintro q hq ⟨h1, h2⟩
    rw [holds_iff] at h1 h2
    rcases hq with (rfl | rfl) | (rfl | rfl)
    · exact absurd (by rw [← crs_turn]; exact h2.1) hT
    · rfl
    · rfl
    · exact absurd h1.1 hT
theorem tri_flat {a b c : Pt} (hT : crs a b c = 0) : ¬ (meetsN a b b c = 1 ∧ meetsN a b c a = 1 ∧ meetsN b c c a = 1) := by
  rintro ⟨h1, h2, h3⟩
  have two : ∀ {a b c d p q : Pt}, meetsN a b c d = 1 → Com a b c d p → Com a b c d q → p = q := by
    intro a b c d p q h hp hq
    by_cases e2 : p = q
    · exact e2
    · rcases meets_two hp hq e2 with h' | h' <;> omega
  have hb : dt b a c ≤ 0 ∨ dt c a b ≤ 0 ∨ dt a b c ≤ 0 := by
    have s : dt b a c + dt c a b = (b.x - c.x) * (b.x - c.x) + (b.y - c.y) * (b.y - c.y) := by unfold dt; grind
    have s2 : dt b a c + dt a b c = (b.x - a.x) * (b.x - a.x) + (b.y - a.y) * (b.y - a.y) := by unfold dt; grind
    have L : dt b a c * dt c a b + dt a b c * (dt b a c + dt c a b) = crs a b c * crs a b c := by unfold dt crs; grind
    rw [hT] at L
    by_cases g1 : dt b a c ≤ 0
    · exact .inl g1
    · by_cases g2 : dt c a b ≤ 0
      · exact .inr (.inl g2)
      · right; right
        have m := Int.mul_pos (show 0 < dt b a c by omega) (show 0 < dt c a b by omega)
        by_cases g3 : dt a b c ≤ 0
        · exact g3
        · have m2 := Int.mul_pos (show 0 < dt a b c by omega) (show 0 < dt b a c + dt c a b by omega)
          omega
  rcases hb with hb | hb | hb
  · -- b lies between a and c
    have e : crs a c b = -crs a b c := by unfold crs; grind
    have hh : holdsN c a b = true := by rw [holds_back, holds_iff]; exact ⟨by rw [e, hT]; rfl, hb⟩
    have e1 := two h2 ⟨holds_left a b, holds_right c a⟩ ⟨holds_right a b, hh⟩
    have e2 := two h3 ⟨holds_left b c, hh⟩ ⟨holds_right b c, holds_left c a⟩
    subst e1 e2
    rw [meets_self] at h1
    omega
  · have hh : holdsN a b c = true := by rw [holds_iff]; exact ⟨hT, hb⟩
    have e1 := two h1 ⟨holds_right a b, holds_left b c⟩ ⟨hh, holds_right b c⟩
    have e2 := two h2 ⟨holds_left a b, holds_right c a⟩ ⟨hh, holds_left c a⟩
    subst e1 e2
    rw [meets_self] at h3
    omega
  · have hh : holdsN b c a = true := by rw [holds_iff]; exact ⟨by rw [crs_turn]; exact hT, hb⟩
    have e1 := two h1 ⟨holds_left a b, hh⟩ ⟨holds_right a b, holds_left b c⟩
    have e2 := two h3 ⟨hh, holds_right c a⟩ ⟨holds_right b c, holds_left c a⟩
    subst e1 e2
    rw [meets_self] at h2
    omega
theorem simple_tri {a b c : Pt} (na : nearB a = true) (nb : nearB b = true) (nc : nearB c = true) : simpleN [a, b, c] = decide (sideN a b c ≠ 0) := by
  have hf : fitsN [a, b, c] = true := by unfold fitsN; simp [na, nb, nc]
  have hm : ∀ x y z u : Pt, nearB x = true → nearB y = true → nearB z = true → nearB u = true → meetsF x y z u = meetsN x y z u := fun x y z u h1 h2 h3 h4 => by unfold meetsF; rw [h1, h2, h3, h4]; rfl
  unfold simpleN
  rw [hf, Bool.true_and, Bool.eq_iff_iff, decide_eq_true_iff]
  have e : simpleB [a, b, c] = true ↔ meetsN a b b c = 1 ∧ meetsN a b c a = 1 ∧ meetsN b c c a = 1 := by
    rw [← hm a b b c na nb nb nc, ← hm a b c a na nb nc na, ← hm b c c a nb nc nc na]
    rw [simpleB_iff]
    constructor
    · intro h
      exact ⟨(h 0 1 (by decide) (show 1 < 3 by decide)).trans (show wantN 0 1 3 = 1 by decide), (h 0 2 (by decide) (show 2 < 3 by decide)).trans (show wantN 0 2 3 = 1 by decide), (h 1 2 (by decide) (show 2 < 3 by decide)).trans (show wantN 1 2 3 = 1 by decide)⟩
    · rintro ⟨h1, h2, h3⟩ i j hij hj
      have hj' : j < 3 := hj
      have h9 : (i = 0 ∧ j = 1) ∨ (i = 0 ∧ j = 2) ∨ (i = 1 ∧ j = 2) := by omega
      rcases h9 with ⟨rfl, rfl⟩ | ⟨rfl, rfl⟩ | ⟨rfl, rfl⟩
      · exact h1.trans (show 1 = wantN 0 1 3 by decide)
      · exact h2.trans (show 1 = wantN 0 2 3 by decide)
      · exact h3.trans (show 1 = wantN 1 2 3 by decide)
  rw [e]
  constructor
  · intro h hs
    exact tri_flat (sgn_zero.1 hs) h
  · intro hs
    have hT : crs a b c ≠ 0 := fun h => hs (sgn_zero.2 h)
    refine ⟨meets_one hT, ?_, meets_one (by rw [crs_turn]; exact hT)⟩
    rw [meets_swap]
    exact meets_one (by rw [← crs_turn]; exact hT)
theorem side_tri {a b c p : Pt} (na : nearB a = true) (nb : nearB b = true) (nc : nearB c = true) (np : nearB p = true) : sideQ [a, b, c] p = if sideN a b c = 0 then -1 else wantT a b c p := by
  unfold sideQ
  rw [simple_tri na nb nc, np, Bool.and_true]
  by_cases h : sideN a b c = 0
  · rw [if_pos h, if_neg (by simp [h])]
  · rw [if_neg h, if_pos (by simp [h]), loc_tri na nb nc np h]
end Go.Proofs.Ytlagolgmkmdhhaa.Rg
