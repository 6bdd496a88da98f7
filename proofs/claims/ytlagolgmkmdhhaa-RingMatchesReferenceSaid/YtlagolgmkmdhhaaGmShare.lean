/- A common point means that two segments meet: P3.5. -/
import Derived.Test.YtlagolgmkmdhhaaGmKind
namespace Go.Proofs.Ytlagolgmkmdhhaa.Geo
theorem strict {a b p : Pt} (hd : dt p a b ≤ 0) (ha : p ≠ a) (hb : p ≠ b) :
    0 < (b.x - a.x) * (p.x - a.x) + (b.y - a.y) * (p.y - a.y) ∧ 0 < (b.x - a.x) * (b.x - p.x) + (b.y - a.y) * (b.y - p.y) := by
  have h1 := sq_pos (pt_ne (Ne.symm ha))
  have h2 := sq_pos (pt_ne hb)
  unfold dt at hd
  constructor <;> grind
theorem opp_core {ux uy rx ry vx vy : Int} (h : ux * ry = uy * rx) : (ux * ux + uy * uy) * (vx * ry - vy * rx) = (ux * rx + uy * ry) * (vx * uy - vy * ux) := by grind
theorem opp_left {a c d p : Pt} (hp : crs c d p = 0) : crs c d a = -((d.x - c.x) * (p.y - a.y) - (d.y - c.y) * (p.x - a.x)) := by
  unfold crs at *; grind
theorem opp_mul {k s t m n z : Int} (h1 : k * s = m * z) (h2 : k * t = n * z) : k * (k * (-s * t)) = -(m * n * (z * z)) := by grind
theorem on_line {a b c p : Pt} (hc : crs a b p = 0) (h : (c.x - p.x) * (b.y - a.y) = (c.y - p.y) * (b.x - a.x)) : crs a b c = 0 := by
  unfold crs at *; grind
/-- The other line's turns at the ends have opposite signs, where a point between the ends is on it. -/
theorem opposite {a b c d p : Pt} (hc : crs a b p = 0) (hd : dt p a b ≤ 0) (ha : p ≠ a) (hb : p ≠ b) (hp : crs c d p = 0) (hv : c ≠ d) (hn : ¬ (crs a b c = 0 ∧ crs a b d = 0)) : crs c d a * crs c d b < 0 := by
  have ⟨h1, h2⟩ := strict hd ha hb
  have hu : ¬ (b.x - a.x = 0 ∧ b.y - a.y = 0) := by
    rintro ⟨e1, e2⟩
    rw [e1, e2] at h1
    omega
  have hk := sq_pos hu
  have hcr : (b.x - a.x) * (p.y - a.y) = (b.y - a.y) * (p.x - a.x) := by unfold crs at hc; omega
  have hcr' : (b.x - a.x) * (b.y - p.y) = (b.y - a.y) * (b.x - p.x) := by
    clear h1 h2 hk hc hp hd hu hn; grind
  have f1 := opp_core (vx := d.x - c.x) (vy := d.y - c.y) hcr
  have f2 := opp_core (vx := d.x - c.x) (vy := d.y - c.y) hcr'
  have e1 := opp_left (a := a) hp
  have e2 : crs c d b = (d.x - c.x) * (b.y - p.y) - (d.y - c.y) * (b.x - p.x) := by
    clear f1 f2 e1 h1 h2 hk hc hd hu hn hcr hcr'; unfold crs at *; grind
  have hz0 : (d.x - c.x) * (b.y - a.y) - (d.y - c.y) * (b.x - a.x) ≠ 0 := by
    intro e
    clear f1 f2 e1 e2 h1 h2 hk hd hu hcr hcr'
    apply hn
    have hq : (c.x - p.x) * (d.y - c.y) = (c.y - p.y) * (d.x - c.x) := by clear e hc hn; unfold crs at hp; grind
    have hq' : (d.x - p.x) * (d.y - c.y) = (d.y - p.y) * (d.x - c.x) := by clear e hc hn; unfold crs at hp; grind
    have hx : (b.x - a.x) * (d.y - c.y) = (b.y - a.y) * (d.x - c.x) := by clear hp hc hn hq hq'; grind
    exact ⟨on_line hc (par (pt_ne hv) hq hx), on_line hc (par (pt_ne hv) hq' hx)⟩
  have hz2 : 0 < ((d.x - c.x) * (b.y - a.y) - (d.y - c.y) * (b.x - a.x)) * ((d.x - c.x) * (b.y - a.y) - (d.y - c.y) * (b.x - a.x)) := by
    have hzz := mul_self ((d.x - c.x) * (b.y - a.y) - (d.y - c.y) * (b.x - a.x))
    by_cases g : ((d.x - c.x) * (b.y - a.y) - (d.y - c.y) * (b.x - a.x)) * ((d.x - c.x) * (b.y - a.y) - (d.y - c.y) * (b.x - a.x)) = 0
    · rcases Int.mul_eq_zero.1 g with g | g <;> exact absurd g hz0
    · omega
  have e3 := opp_mul f1 f2
  rw [← e1, ← e2] at e3
  have g1 := Int.mul_pos (Int.mul_pos h1 h2) hz2
  have g2 : -(((b.x - a.x) * (p.x - a.x) + (b.y - a.y) * (p.y - a.y)) * ((b.x - a.x) * (b.x - p.x) + (b.y - a.y) * (b.y - p.y)) * (((d.x - c.x) * (b.y - a.y) - (d.y - c.y) * (b.x - a.x)) * ((d.x - c.x) * (b.y - a.y) - (d.y - c.y) * (b.x - a.x)))) < 0 := Int.neg_neg_of_pos g1
  rw [← e3] at g2
  exact lt_of_scaled hk (lt_of_scaled hk g2)
theorem line_of {a b c d : Pt} (hu : a ≠ b) (h : crs a b c = 0 ∧ crs a b d = 0) : Line a b c d := by
  refine ⟨h.1, h.2, ?_⟩
  have h1 : (c.x - a.x) * (b.y - a.y) = (c.y - a.y) * (b.x - a.x) := by have := h.1; clear h; unfold crs at this; grind
  have h2 : (d.x - a.x) * (b.y - a.y) = (d.y - a.y) * (b.x - a.x) := by have := h.2; clear h h1; unfold crs at this; grind
  have h3 := par (pt_ne hu) h1 h2
  clear h h1 h2
  unfold crs
  grind
theorem Line.swap {a b c d : Pt} (h : Line a b c d) : Line c d a b := ⟨h.2.2, h.fourth, h.1⟩
theorem Line.back {a b c d : Pt} (h : Line a b c d) : Line b a c d := by
  have h4 := h.fourth
  obtain ⟨h1, h2, h3⟩ := h
  exact ⟨by rw [crs_back, h1]; rfl, by rw [crs_back, h2]; rfl, h4⟩
theorem Com.swap {a b c d p : Pt} (h : Com a b c d p) : Com c d a b p := ⟨h.2, h.1⟩
theorem Com.back {a b c d p : Pt} (h : Com a b c d p) : Com b a c d p := ⟨by rw [holds_back]; exact h.1, h.2⟩
theorem common_apart {a b c d p : Pt} (hp : Com a b c d p) (hl : ¬ Line a b c d) (hno : ∀ q, End2 a b q ∨ End2 c d q → ¬ Com a b c d q) : Apart a b c d := by
  have na : p ≠ a := by rintro rfl; exact hno _ (.inl (.inl rfl)) hp
  have nb : p ≠ b := by rintro rfl; exact hno _ (.inl (.inr rfl)) hp
  have nc : p ≠ c := by rintro rfl; exact hno _ (.inr (.inl rfl)) hp
  have nd : p ≠ d := by rintro rfl; exact hno _ (.inr (.inr rfl)) hp
  have hu : a ≠ b := by rintro rfl; exact na (holds_point hp.1)
  have hv : c ≠ d := by rintro rfl; exact nc (holds_point hp.2)
  have h1 := holds_iff.1 hp.1
  have h2 := holds_iff.1 hp.2
  constructor
  · exact opposite h2.1 h2.2 nc nd h1.1 hu (fun g => hl (line_of hv g).swap)
  · exact opposite h1.1 h1.2 na nb h2.1 hv (fun g => hl (line_of hu g))
theorem common_end {a b c d p : Pt} (hp : Com a b c d p) (hl : Line a b c d) : ∃ q, (End2 a b q ∨ End2 c d q) ∧ Com a b c d q := by
  have one : ∀ {a b c d : Pt}, Com a b c d p → Line a b c d → cmpN a b ≤ 0 → cmpN c d ≤ 0 → ∃ q, (End2 a b q ∨ End2 c d q) ∧ Com a b c d q := by
    intro a b c d hp hl hs ht
    have hm := max_end a b c d
    have em := hl.ends hm
    have h1 := (line_com_iff hs ht (holds_iff.1 hp.1).1 (holds_iff.1 hp.2).1).1 hp
    exact ⟨_, hm, (line_com_iff hs ht em.1 em.2).2 ⟨by rw [cmp_self]; omega, cmp_le_trans h1.1 h1.2⟩⟩
  have two : ∀ {a b c d : Pt}, Com a b c d p → Line a b c d → cmpN c d ≤ 0 → ∃ q, (End2 a b q ∨ End2 c d q) ∧ Com a b c d q := by
    intro a b c d hp hl ht
    by_cases hs : cmpN a b ≤ 0
    · exact one hp hl hs ht
    · obtain ⟨q, hq, cq⟩ := one hp.back hl.back (by rw [cmp_swap a b]; omega) ht
      exact ⟨q, hq.imp_left Or.symm, cq.back⟩
  by_cases ht : cmpN c d ≤ 0
  · exact two hp hl ht
  · obtain ⟨q, hq, cq⟩ := two hp.swap.back.swap hl.swap.back.swap (by rw [cmp_swap c d]; omega)
    exact ⟨q, hq.imp_right Or.symm, cq.swap.back.swap⟩
theorem common_kind {a b c d p : Pt} (hp : Com a b c d p) : meetsN a b c d ≠ 0 := by
  intro e
  have h := meets_kind a b c d
  rw [e] at h
  rcases h with ⟨_, h⟩ | ⟨_, ⟨_, h⟩ | ⟨q, _, _, _, ⟨_, _, h⟩ | ⟨_, h⟩⟩ | ⟨hno, ⟨_, h⟩ | ⟨ha, _⟩⟩⟩ <;> (try omega)
  by_cases hl : Line a b c d
  · obtain ⟨q, hq, cq⟩ := common_end hp hl
    exact hno q hq cq
  · exact ha (common_apart hp hl hno)
theorem meets_cross {a b c d : Pt} : meetsN a b c d = 3 ↔ Apart a b c d := by
  have h := meets_kind a b c d
  constructor
  · intro e
    rw [e] at h
    rcases h with ⟨_, h⟩ | ⟨_, ⟨_, h⟩ | ⟨q, _, _, _, ⟨_, _, h⟩ | ⟨_, h⟩⟩ | ⟨hno, ⟨ha, _⟩ | ⟨_, h⟩⟩⟩ <;> first | omega | exact ha
  · intro g
    refine h.one (.inr ⟨?_, .inr (.inr ⟨?_, .inl ⟨g, rfl⟩⟩)⟩)
    · rintro (⟨rfl, rfl⟩ | ⟨rfl, rfl⟩)
      · have := g.1; unfold crs at this; grind
      · have := g.1; unfold crs at this; grind
    · obtain ⟨g1, g2⟩ := g
      rintro p ((rfl | rfl) | (rfl | rfl)) ⟨k1, k2⟩
      · rw [(holds_iff.1 k2).1] at g2; omega
      · rw [(holds_iff.1 k2).1] at g2; omega
      · rw [(holds_iff.1 k1).1] at g1; omega
      · rw [(holds_iff.1 k1).1] at g1; omega
theorem meets_ends {a b c d : Pt} : (holdsN c d a = true ∨ holdsN c d b = true ∨ holdsN a b c = true ∨ holdsN a b d = true) ↔ meetsN a b c d ≠ 0 ∧ meetsN a b c d ≠ 3 := by
  have h := meets_kind a b c d
  have key : (∃ p, (End2 a b p ∨ End2 c d p) ∧ Com a b c d p) ↔ (holdsN c d a = true ∨ holdsN c d b = true ∨ holdsN a b c = true ∨ holdsN a b d = true) := by
    constructor
    · rintro ⟨p, (rfl | rfl) | (rfl | rfl), k1, k2⟩
      · exact .inl k2
      · exact .inr (.inl k2)
      · exact .inr (.inr (.inl k1))
      · exact .inr (.inr (.inr k1))
    · rintro (k | k | k | k)
      · exact ⟨a, .inl (.inl rfl), holds_left a b, k⟩
      · exact ⟨b, .inl (.inr rfl), holds_right a b, k⟩
      · exact ⟨c, .inr (.inl rfl), k, holds_left c d⟩
      · exact ⟨d, .inr (.inr rfl), k, holds_right c d⟩
  rw [← key]
  rcases h with ⟨hs, e⟩ | ⟨_, ⟨⟨p, q, hp, _, _, cp, _⟩, e⟩ | ⟨p, hp, cp, _, ⟨_, _, e⟩ | ⟨_, e⟩⟩ | ⟨hno, ⟨_, e⟩ | ⟨_, e⟩⟩⟩
  · refine ⟨fun _ => by omega, fun _ => ?_⟩
    rcases hs with ⟨rfl, rfl⟩ | ⟨rfl, rfl⟩
    · exact ⟨_, .inl (.inl rfl), holds_left _ _, holds_left _ _⟩
    · exact ⟨_, .inl (.inl rfl), holds_left _ _, holds_right _ _⟩
  · exact ⟨fun _ => by omega, fun _ => ⟨p, hp, cp⟩⟩
  · exact ⟨fun _ => by omega, fun _ => ⟨p, hp, cp⟩⟩
  · exact ⟨fun _ => by omega, fun _ => ⟨p, hp, cp⟩⟩
  · exact ⟨fun ⟨q, hq, cq⟩ => absurd cq (hno q hq), fun g => by omega⟩
  · exact ⟨fun ⟨q, hq, cq⟩ => absurd cq (hno q hq), fun g => by omega⟩
end Go.Proofs.Ytlagolgmkmdhhaa.Geo
