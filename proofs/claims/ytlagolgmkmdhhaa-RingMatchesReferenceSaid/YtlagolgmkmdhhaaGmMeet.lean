/- How two segments meet: a relation between four points and a kind, which is symmetric, and has just one kind. -/
import Derived.Test.YtlagolgmkmdhhaaGmMath
namespace Go.Proofs.Ytlagolgmkmdhhaa.Geo
theorem par {ux uy vx vy dx dy : Int} (hd : ¬ (dx = 0 ∧ dy = 0)) (h1 : ux * dy = uy * dx) (h2 : vx * dy = vy * dx) : ux * vy = uy * vx := by
  by_cases h : dx = 0
  · have hy : dy ≠ 0 := fun e => hd ⟨h, e⟩
    subst h
    have e1 : ux * dy = 0 := by omega
    have e2 : vx * dy = 0 := by omega
    rcases Int.mul_eq_zero.1 e1 with g | g
    · rcases Int.mul_eq_zero.1 e2 with k | k
      · subst g; subst k; omega
      · exact absurd k hy
    · exact absurd g hy
  · have e : (ux * vy - uy * vx) * dx = 0 := by grind
    rcases Int.mul_eq_zero.1 e with g | g
    · omega
    · exact absurd g h
theorem lt_of_scaled {k m : Int} (hk : 0 < k) (h : k * m < 0) : m < 0 := by
  by_cases hm : 0 ≤ m
  · have := Int.mul_nonneg (Int.le_of_lt hk) hm; omega
  · omega
theorem le_of_scaled {k m : Int} (hk : 0 < k) (h : k * m ≤ 0) : m ≤ 0 := by
  by_cases hm : 0 < m
  · have := Int.mul_pos hk hm; omega
  · omega
theorem sq_pos {a b : Int} (h : ¬ (a = 0 ∧ b = 0)) : 0 < a * a + b * b := by
  by_cases g : a * a + b * b ≤ 0
  · exact absurd (sqs_zero g) h
  · omega
theorem pt_ne {a b : Pt} (h : a ≠ b) : ¬ (b.x - a.x = 0 ∧ b.y - a.y = 0) := fun g => h (Pt.ext' (by omega) (by omega))
/-- On a line, between is between in the order of points. -/
theorem between {a b p : Pt} (hc : crs a b p = 0) (hs : cmpN a b ≤ 0) : dt p a b ≤ 0 ↔ cmpN a p ≤ 0 ∧ cmpN p b ≤ 0 := by
  rw [cmp_le] at hs ⊢
  rw [cmp_le]
  unfold crs at hc
  unfold dt
  obtain ⟨ax, ay⟩ := a
  obtain ⟨bx, bY⟩ := b
  obtain ⟨px, py⟩ := p
  simp only at *
  obtain ⟨ux, hux⟩ : ∃ u, u = bx - ax := ⟨_, rfl⟩
  obtain ⟨uy, huy⟩ : ∃ u, u = bY - ay := ⟨_, rfl⟩
  obtain ⟨rx, hrx⟩ : ∃ u, u = px - ax := ⟨_, rfl⟩
  obtain ⟨ry, hry⟩ : ∃ u, u = py - ay := ⟨_, rfl⟩
  have hc' : ux * ry = uy * rx := by grind
  have hd : (ax - px) * (bx - px) + (ay - py) * (bY - py) = rx * (rx - ux) + ry * (ry - uy) := by grind
  rw [hd]
  have goal : rx * (rx - ux) + ry * (ry - uy) ≤ 0 ↔ (0 < rx ∨ rx = 0 ∧ 0 ≤ ry) ∧ (rx < ux ∨ rx = ux ∧ ry ≤ uy) := by
    rcases hs with hs | ⟨hs, hs'⟩
    · have hu : 0 < ux := by omega
      have h0 : rx = 0 → ry = 0 := by
        intro h; subst h
        rcases Int.mul_eq_zero.1 (show ux * ry = 0 by omega) with g | g <;> omega
      have h1 : rx = ux → ry = uy := by
        intro h; subst h
        have : rx * (ry - uy) = 0 := by grind
        rcases Int.mul_eq_zero.1 this with g | g <;> omega
      have hk : 0 < ux * ux + uy * uy := by have := mul_self uy; have := Int.mul_pos hu hu; omega
      have e : (ux * ux) * (rx * (rx - ux) + ry * (ry - uy)) = (ux * ux + uy * uy) * (rx * (rx - ux)) := by grind
      have hq : 0 < ux * ux := Int.mul_pos hu hu
      constructor
      · intro h
        have h' : rx * (rx - ux) ≤ 0 := le_of_scaled hk (by rw [← e]; exact Int.mul_nonpos_of_nonneg_of_nonpos (by omega) h)
        have : 0 ≤ rx ∧ rx ≤ ux := by
          constructor
          · by_cases g : rx < 0
            · have := Int.mul_pos_of_neg_of_neg g (show rx - ux < 0 by omega); omega
            · omega
          · by_cases g : ux < rx
            · have := Int.mul_pos (show 0 < rx by omega) (show 0 < rx - ux by omega); omega
            · omega
        constructor
        · by_cases g : rx = 0
          · exact .inr ⟨g, by have := h0 g; omega⟩
          · exact .inl (by omega)
        · by_cases g : rx = ux
          · exact .inr ⟨g, by have := h1 g; omega⟩
          · exact .inl (by omega)
      · rintro ⟨h, g⟩
        have h2 : 0 ≤ rx := by omega
        have h3 : rx ≤ ux := by omega
        exact le_of_scaled hq (by rw [e]; exact Int.mul_nonpos_of_nonneg_of_nonpos (by omega) (Int.mul_nonpos_of_nonneg_of_nonpos h2 (by omega)))
    · have hu : ux = 0 := by omega
      have hv : 0 ≤ uy := by omega
      subst hu
      have hz : uy * rx = 0 := by omega
      constructor
      · intro h
        have hr : rx = 0 := by
          rcases Int.mul_eq_zero.1 hz with g | g
          · subst g; exact (sqs_zero (a := rx) (b := ry) (by grind)).1
          · exact g
        subst hr
        have h' : ry * (ry - uy) ≤ 0 := by grind
        refine ⟨.inr ⟨rfl, ?_⟩, .inr ⟨rfl, ?_⟩⟩
        · by_cases g : ry < 0
          · have := Int.mul_pos_of_neg_of_neg g (show ry - uy < 0 by omega); omega
          · omega
        · by_cases g : uy < ry
          · have := Int.mul_pos (show 0 < ry by omega) (show 0 < ry - uy by omega); omega
          · omega
      · rintro ⟨h, g⟩
        have hr : rx = 0 := by omega
        subst hr
        have := Int.mul_nonpos_of_nonneg_of_nonpos (show 0 ≤ ry by omega) (show ry - uy ≤ 0 by omega)
        grind
  rw [goal]
  omega
/-- The reference's way to ask. -/
theorem box {a b p : Pt} (hc : crs a b p = 0) : dt p a b ≤ 0 ↔ min a.x b.x ≤ p.x ∧ p.x ≤ max a.x b.x ∧ min a.y b.y ≤ p.y ∧ p.y ≤ max a.y b.y := by
  unfold crs at hc
  unfold dt
  obtain ⟨X, hX⟩ : ∃ X, X = (a.x - p.x) * (b.x - p.x) := ⟨_, rfl⟩
  obtain ⟨Y, hY⟩ : ∃ Y, Y = (a.y - p.y) * (b.y - p.y) := ⟨_, rfl⟩
  have hXY : X * Y = ((a.x - p.x) * (b.y - p.y)) * ((a.x - p.x) * (b.y - p.y)) := by grind
  have hn := mul_self ((a.x - p.x) * (b.y - p.y))
  have one : ∀ s t q : Int, (s - q) * (t - q) ≤ 0 ↔ min s t ≤ q ∧ q ≤ max s t := by
    intro s t q
    constructor
    · intro h
      by_cases h1 : q < s ∧ q < t
      · have := Int.mul_pos (show 0 < s - q by omega) (show 0 < t - q by omega); omega
      · by_cases h2 : s < q ∧ t < q
        · have := Int.mul_pos_of_neg_of_neg (show s - q < 0 by omega) (show t - q < 0 by omega); omega
        · omega
    · intro h
      by_cases g : s ≤ q ∧ q ≤ t
      · exact Int.mul_nonpos_of_nonpos_of_nonneg (by omega) (by omega)
      · exact Int.mul_nonpos_of_nonneg_of_nonpos (by omega) (by omega)
  have e1 := one a.x b.x p.x
  have e2 := one a.y b.y p.y
  rw [← hX] at e1 ⊢
  rw [← hY] at e2 ⊢
  constructor
  · intro h
    have hx : X ≤ 0 := by
      by_cases g : 0 < X
      · have := Int.mul_neg_of_pos_of_neg g (show Y < 0 by omega); omega
      · omega
    have hy : Y ≤ 0 := by
      by_cases g : 0 < Y
      · have := Int.mul_neg_of_neg_of_pos (show X < 0 by omega) g; omega
      · omega
    have := e1.1 hx
    have := e2.1 hy
    omega
  · intro h
    have := e1.2 (by omega)
    have := e2.2 (by omega)
    omega
def Com (a b c d p : Pt) : Prop := holdsN a b p = true ∧ holdsN c d p = true
def End2 (a b p : Pt) : Prop := p = a ∨ p = b
def Sm (a b c d : Pt) : Prop := a = c ∧ b = d ∨ a = d ∧ b = c
def Apart (a b c d : Pt) : Prop := crs a b c * crs a b d < 0 ∧ crs c d a * crs c d b < 0
def Line (a b c d : Pt) : Prop := crs a b c = 0 ∧ crs a b d = 0 ∧ crs c d a = 0
theorem holds_iff {a b p : Pt} : holdsN a b p = true ↔ crs a b p = 0 ∧ dt p a b ≤ 0 := by unfold holdsN; rw [decide_eq_true_iff]
theorem holds_left (a b : Pt) : holdsN a b a = true := by rw [holds_iff]; unfold crs dt; constructor <;> grind
theorem holds_right (a b : Pt) : holdsN a b b = true := by rw [holds_iff]; unfold crs dt; constructor <;> grind
theorem crs_back (a b p : Pt) : crs b a p = -crs a b p := by unfold crs; grind
theorem dt_back (a b p : Pt) : dt p b a = dt p a b := by unfold dt; grind
theorem holds_back (a b p : Pt) : holdsN b a p = holdsN a b p := by
  rw [Bool.eq_iff_iff, holds_iff, holds_iff, crs_back, dt_back]; omega
theorem Line.fourth {a b c d : Pt} (h : Line a b c d) : crs c d b = 0 := by
  obtain ⟨h1, h2, h3⟩ := h
  unfold crs at *
  by_cases e : a = b
  · subst e; exact h3
  · have := par (ux := d.x - c.x) (uy := d.y - c.y) (vx := b.x - c.x) (vy := b.y - c.y) (pt_ne e) (by grind) (by grind)
    grind
/-- The kind by which two segments meet. -/
def Kind (a b c d : Pt) (k : Int) : Prop :=
  Sm a b c d ∧ k = 4 ∨ ¬ Sm a b c d ∧ (
    (∃ p q, (End2 a b p ∨ End2 c d p) ∧ (End2 a b q ∨ End2 c d q) ∧ p ≠ q ∧ Com a b c d p ∧ Com a b c d q) ∧ k = 5 ∨
    (∃ p, (End2 a b p ∨ End2 c d p) ∧ Com a b c d p ∧ (∀ q, (End2 a b q ∨ End2 c d q) → Com a b c d q → q = p) ∧ (End2 a b p ∧ End2 c d p ∧ k = 1 ∨ ¬ (End2 a b p ∧ End2 c d p) ∧ k = 2)) ∨
    (∀ p, End2 a b p ∨ End2 c d p → ¬ Com a b c d p) ∧ (Apart a b c d ∧ k = 3 ∨ ¬ Apart a b c d ∧ k = 0))
theorem Kind.one {a b c d : Pt} {k l : Int} (h : Kind a b c d k) (g : Kind a b c d l) : k = l := by
  rcases h with ⟨h, rfl⟩ | ⟨h, h'⟩
  · rcases g with ⟨_, rfl⟩ | ⟨g, _⟩
    · rfl
    · exact absurd h g
  · rcases g with ⟨g, _⟩ | ⟨_, g'⟩
    · exact absurd g h
    · rcases h' with ⟨⟨p, q, hp, hq, hn, cp, cq⟩, rfl⟩ | ⟨p, hp, cp, hu, hk⟩ | ⟨hno, hk⟩
      · rcases g' with ⟨_, rfl⟩ | ⟨r, _, _, gu, _⟩ | ⟨gno, _⟩
        · rfl
        · exact absurd ((gu p hp cp).trans (gu q hq cq).symm) hn
        · exact absurd cp (gno p hp)
      · rcases g' with ⟨⟨r, s, hr, hs, hn, cr, cs⟩, _⟩ | ⟨r, gr, cr, gu, gk⟩ | ⟨gno, _⟩
        · exact absurd ((hu r hr cr).trans (hu s hs cs).symm) hn
        · obtain rfl := gu p hp cp
          rcases hk with ⟨h1, h2, rfl⟩ | ⟨h1, rfl⟩ <;> rcases gk with ⟨g1, g2, rfl⟩ | ⟨g1, rfl⟩
          · rfl
          · exact absurd ⟨h1, h2⟩ g1
          · exact absurd ⟨g1, g2⟩ h1
          · rfl
        · exact absurd cp (gno p hp)
      · rcases g' with ⟨⟨r, s, hr, hs, hn, cr, cs⟩, _⟩ | ⟨r, gr, cr, gu, gk⟩ | ⟨gno, gk⟩
        · exact absurd cr (hno r hr)
        · exact absurd cr (hno r gr)
        · rcases hk with ⟨h1, rfl⟩ | ⟨h1, rfl⟩ <;> rcases gk with ⟨g1, rfl⟩ | ⟨g1, rfl⟩
          · rfl
          · exact absurd h1 g1
          · exact absurd g1 h1
          · rfl
theorem Kind.map {a b c d a' b' c' d' : Pt} {k : Int} (h : Kind a b c d k) (hs : Sm a b c d ↔ Sm a' b' c' d') (h1 : ∀ p, (End2 a b p ∨ End2 c d p) ↔ (End2 a' b' p ∨ End2 c' d' p)) (h2 : ∀ p, (End2 a b p ∧ End2 c d p) ↔ (End2 a' b' p ∧ End2 c' d' p))
    (hc : ∀ p, Com a b c d p ↔ Com a' b' c' d' p) (ha : Apart a b c d ↔ Apart a' b' c' d') : Kind a' b' c' d' k := by
  unfold Kind at *
  rw [← hs, ← ha]
  simp only [← h1, ← hc]
  rcases h with h | ⟨h, h'⟩
  · exact .inl h
  · refine .inr ⟨h, ?_⟩
    rcases h' with g | ⟨p, hp, cp, hu, hk⟩ | g
    · exact .inl g
    · refine .inr (.inl ⟨p, hp, cp, hu, ?_⟩)
      rw [← and_assoc, ← h2, and_assoc]
      exact hk
    · exact .inr (.inr g)
theorem Kind.swap {a b c d : Pt} {k : Int} (h : Kind a b c d k) : Kind c d a b k := by
  refine h.map ?_ (fun p => or_comm) (fun p => and_comm) (fun p => and_comm) and_comm
  unfold Sm
  constructor <;> rintro (⟨h1, h2⟩ | ⟨h1, h2⟩) <;> subst h1 <;> subst h2 <;> simp
theorem Kind.back {a b c d : Pt} {k : Int} (h : Kind a b c d k) : Kind b a c d k := by
  have hE : ∀ p, End2 a b p ↔ End2 b a p := fun p => or_comm
  refine h.map ?_ (fun p => by rw [hE]) (fun p => by rw [hE]) (fun p => by unfold Com; rw [holds_back]) ?_
  · unfold Sm
    constructor <;> rintro (⟨h1, h2⟩ | ⟨h1, h2⟩) <;> subst h1 <;> subst h2 <;> simp
  · unfold Apart
    rw [crs_back a b c, crs_back a b d, Int.neg_mul_neg, Int.mul_comm (crs c d b)]
theorem Kind.back2 {a b c d : Pt} {k : Int} (h : Kind a b c d k) : Kind a b d c k := h.swap.back.swap
/-- Two different common points: all four ends are on one line. -/
theorem Com.line {a b c d p q : Pt} (hp : Com a b c d p) (hq : Com a b c d q) (hn : p ≠ q) : Line a b c d := by
  obtain ⟨h1, h2⟩ := hp
  obtain ⟨g1, g2⟩ := hq
  rw [holds_iff] at h1 h2 g1 g2
  obtain ⟨h1, k1⟩ := h1
  obtain ⟨h2, k2⟩ := h2
  obtain ⟨g1, l1⟩ := g1
  obtain ⟨g2, l2⟩ := g2
  have hv : c ≠ d := by
    rintro rfl
    unfold dt at k2 l2
    have e1 := sqs_zero k2
    have e2 := sqs_zero l2
    exact hn (Pt.ext' (by omega) (by omega))
  have hu : a ≠ b := by
    rintro rfl
    unfold dt at k1 l1
    have e1 := sqs_zero k1
    have e2 := sqs_zero l1
    exact hn (Pt.ext' (by omega) (by omega))
  have hd := pt_ne hn
  unfold Line
  unfold crs at *
  have p1 : (b.x - a.x) * (q.y - p.y) = (b.y - a.y) * (q.x - p.x) := by grind
  have p2 : (d.x - c.x) * (q.y - p.y) = (d.y - c.y) * (q.x - p.x) := by grind
  have p3 := par hd p1 p2
  have p4 : (c.x - p.x) * (q.y - p.y) = (c.y - p.y) * (q.x - p.x) := by
    have := par (ux := c.x - p.x) (uy := c.y - p.y) (vx := q.x - p.x) (vy := q.y - p.y) (pt_ne hv) (by grind) (by grind)
    grind
  have p5 : (a.x - p.x) * (q.y - p.y) = (a.y - p.y) * (q.x - p.x) := by
    have := par (ux := a.x - p.x) (uy := a.y - p.y) (vx := q.x - p.x) (vy := q.y - p.y) (pt_ne hu) (by grind) (by grind)
    grind
  have p6 : (c.x - a.x) * (q.y - p.y) = (c.y - a.y) * (q.x - p.x) := by grind
  have q1 := par hd p1 p6
  have q2 := par hd p2 p6
  refine ⟨by grind, by grind, by grind⟩
end Go.Proofs.Ytlagolgmkmdhhaa.Geo
