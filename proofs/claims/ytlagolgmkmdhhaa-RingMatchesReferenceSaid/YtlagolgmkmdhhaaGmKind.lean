/- What the program and the reference answer for two segments is the kind by which they meet. -/
import Derived.Test.YtlagolgmkmdhhaaGmMeet
namespace Go.Proofs.Ytlagolgmkmdhhaa.Geo
theorem cmp_nle {a b : Pt} : ¬ cmpN a b ≤ 0 ↔ cmpN b a < 0 := by rw [cmp_swap a b]; omega
/-- On one line: the common points among the ends are those between the greater of the lesser ends and the lesser of the greater ends. -/
theorem line_com {a b c d p : Pt} (hs : cmpN a b ≤ 0) (ht : cmpN c d ≤ 0) (h1 : crs a b p = 0) (h2 : crs c d p = 0) :
    Com a b c d p ↔ (cmpN a p ≤ 0 ∧ cmpN p b ≤ 0) ∧ (cmpN c p ≤ 0 ∧ cmpN p d ≤ 0) := by
  unfold Com
  rw [holds_iff, holds_iff, between h1 hs, between h2 ht]
  simp [h1, h2]
theorem Line.ends {a b c d p : Pt} (h : Line a b c d) (hp : End2 a b p ∨ End2 c d p) : crs a b p = 0 ∧ crs c d p = 0 := by
  have h4 := h.fourth
  obtain ⟨h1, h2, h3⟩ := h
  rcases hp with (rfl | rfl) | (rfl | rfl)
  · exact ⟨by unfold crs; grind, h3⟩
  · exact ⟨by unfold crs; grind, h4⟩
  · exact ⟨h1, by unfold crs; grind⟩
  · exact ⟨h2, by unfold crs; grind⟩
def maxN (a c : Pt) : Pt := if 0 < cmpN c a then c else a
def minN (b d : Pt) : Pt := if cmpN d b < 0 then d else b
theorem max_le {a c p : Pt} : cmpN (maxN a c) p ≤ 0 ↔ cmpN a p ≤ 0 ∧ cmpN c p ≤ 0 := by
  unfold maxN cmpN; grind
theorem le_min {b d p : Pt} : cmpN p (minN b d) ≤ 0 ↔ cmpN p b ≤ 0 ∧ cmpN p d ≤ 0 := by
  unfold minN cmpN; grind
theorem max_end (a b c d : Pt) : End2 a b (maxN a c) ∨ End2 c d (maxN a c) := by
  unfold maxN End2; split <;> simp
theorem min_end (a b c d : Pt) : End2 a b (minN b d) ∨ End2 c d (minN b d) := by
  unfold minN End2; split <;> simp
theorem cmp_self (a : Pt) : cmpN a a = 0 := cmp_zero.2 rfl
theorem cmp_anti {a b : Pt} (h : cmpN a b ≤ 0) (g : cmpN b a ≤ 0) : a = b := cmp_zero.1 (by rw [cmp_swap a b] at g; omega)
theorem line_com_iff {a b c d p : Pt} (hs : cmpN a b ≤ 0) (ht : cmpN c d ≤ 0) (h1 : crs a b p = 0) (h2 : crs c d p = 0) :
    Com a b c d p ↔ cmpN (maxN a c) p ≤ 0 ∧ cmpN p (minN b d) ≤ 0 := by
  rw [line_com hs ht h1 h2, max_le, le_min]
  constructor <;> rintro ⟨⟨h1, h2⟩, h3, h4⟩ <;> exact ⟨⟨h1, h3⟩, h2, h4⟩
theorem cmp_le_trans {a b c : Pt} (h : cmpN a b ≤ 0) (g : cmpN b c ≤ 0) : cmpN a c ≤ 0 := (cmp_trans h g).1
def atN (a b c d p : Pt) : Int := if (eqP p a || eqP p b) && (eqP p c || eqP p d) then 1 else 2
theorem at_iff (a b c d p : Pt) : ((eqP p a || eqP p b) && (eqP p c || eqP p d)) = true ↔ End2 a b p ∧ End2 c d p := by
  simp [eqP_iff, End2]
theorem at_kind (a b c d p : Pt) : End2 a b p ∧ End2 c d p ∧ atN a b c d p = 1 ∨ ¬ (End2 a b p ∧ End2 c d p) ∧ atN a b c d p = 2 := by
  have h := at_iff a b c d p
  unfold atN
  by_cases g : End2 a b p ∧ End2 c d p
  · rw [if_pos (h.2 g)]; exact .inl ⟨g.1, g.2, rfl⟩
  · rw [if_neg (fun k => g (h.1 k))]; exact .inr ⟨g, rfl⟩
def lineN (a b c d : Pt) : Int := if cmpN (maxN a c) (minN b d) = 1 then 0 else if cmpN (maxN a c) (minN b d) = 0 then atN a b c d (maxN a c) else 5
theorem sm_sorted {a b c d : Pt} (hs : cmpN a b ≤ 0) (ht : cmpN c d ≤ 0) (hn : ¬ (a = c ∧ b = d)) : ¬ Sm a b c d := by
  rintro (h | ⟨rfl, rfl⟩)
  · exact hn h
  · have := cmp_anti hs ht; subst this; exact hn ⟨rfl, rfl⟩
theorem Line.not_apart {a b c d : Pt} (h : Line a b c d) : ¬ Apart a b c d := by
  rintro ⟨g, _⟩
  rw [h.1] at g
  omega
theorem line_kind {a b c d : Pt} (h : Line a b c d) (hs : cmpN a b ≤ 0) (ht : cmpN c d ≤ 0) (hn : ¬ (a = c ∧ b = d)) : Kind a b c d (lineN a b c d) := by
  refine .inr ⟨sm_sorted hs ht hn, ?_⟩
  have hr := cmp_range (maxN a c) (minN b d)
  have hm := max_end a b c d
  have hm' := min_end a b c d
  unfold lineN
  by_cases h1 : cmpN (maxN a c) (minN b d) = 1
  · rw [if_pos h1]
    refine .inr (.inr ⟨fun p hp hc => ?_, .inr ⟨h.not_apart, rfl⟩⟩)
    have e := h.ends hp
    rw [line_com_iff hs ht e.1 e.2] at hc
    have := cmp_le_trans hc.1 hc.2
    omega
  · rw [if_neg h1]
    have hle : cmpN (maxN a c) (minN b d) ≤ 0 := by omega
    have em := h.ends hm
    have em' := h.ends hm'
    have c1 : Com a b c d (maxN a c) := (line_com_iff hs ht em.1 em.2).2 ⟨by rw [cmp_self]; omega, hle⟩
    have c2 : Com a b c d (minN b d) := (line_com_iff hs ht em'.1 em'.2).2 ⟨hle, by rw [cmp_self]; omega⟩
    by_cases h0 : cmpN (maxN a c) (minN b d) = 0
    · rw [if_pos h0]
      refine .inr (.inl ⟨maxN a c, hm, c1, fun q hq cq => ?_, at_kind a b c d _⟩)
      have e := h.ends hq
      rw [line_com_iff hs ht e.1 e.2, ← cmp_zero.1 h0] at cq
      exact cmp_anti cq.2 cq.1
    · rw [if_neg h0]
      exact .inl ⟨⟨_, _, hm, hm', fun e => h0 (cmp_zero.2 e), c1, c2⟩, rfl⟩
def crossN (a b c d : Pt) : Int :=
  if holdsN a b c then atN a b c d c else if holdsN a b d then atN a b c d d else if holdsN c d a then atN a b c d a else if holdsN c d b then atN a b c d b
  else if decide (sideN a b c * sideN a b d < 0) && decide (sideN c d a * sideN c d b < 0) then 3 else 0
theorem apart_iff (a b c d : Pt) : (decide (sideN a b c * sideN a b d < 0) && decide (sideN c d a * sideN c d b < 0)) = true ↔ Apart a b c d := by
  unfold Apart sideN
  rw [Bool.and_eq_true, decide_eq_true_iff, decide_eq_true_iff, sgn_mul_neg, sgn_mul_neg]
theorem cross_kind {a b c d : Pt} (h : ¬ Line a b c d) (hn : ¬ Sm a b c d) : Kind a b c d (crossN a b c d) := by
  refine .inr ⟨hn, ?_⟩
  have one : ∀ p, End2 a b p ∨ End2 c d p → Com a b c d p → ∀ q, End2 a b q ∨ End2 c d q → Com a b c d q → q = p := by
    intro p _ cp q _ cq
    by_cases e : q = p
    · exact e
    · exact absurd (cq.line cp e) h
  have fin : ∀ p, End2 a b p ∨ End2 c d p → Com a b c d p → (∃ p, (End2 a b p ∨ End2 c d p) ∧ Com a b c d p ∧ (∀ q, (End2 a b q ∨ End2 c d q) → Com a b c d q → q = p) ∧ (End2 a b p ∧ End2 c d p ∧ atN a b c d p = 1 ∨ ¬ (End2 a b p ∧ End2 c d p) ∧ atN a b c d p = 2)) :=
    fun p hp cp => ⟨p, hp, cp, one p hp cp, at_kind a b c d p⟩
  unfold crossN
  by_cases h1 : holdsN a b c = true
  · rw [if_pos h1]
    obtain ⟨p, g1, g2, g3, _⟩ := fin c (.inr (.inl rfl)) ⟨h1, holds_left c d⟩
    exact .inr (.inl ⟨c, .inr (.inl rfl), ⟨h1, holds_left c d⟩, one _ (.inr (.inl rfl)) ⟨h1, holds_left c d⟩, at_kind a b c d c⟩)
  · rw [if_neg h1]
    by_cases h2 : holdsN a b d = true
    · rw [if_pos h2]
      exact .inr (.inl ⟨d, .inr (.inr rfl), ⟨h2, holds_right c d⟩, one _ (.inr (.inr rfl)) ⟨h2, holds_right c d⟩, at_kind a b c d d⟩)
    · rw [if_neg h2]
      by_cases h3 : holdsN c d a = true
      · rw [if_pos h3]
        exact .inr (.inl ⟨a, .inl (.inl rfl), ⟨holds_left a b, h3⟩, one _ (.inl (.inl rfl)) ⟨holds_left a b, h3⟩, at_kind a b c d a⟩)
      · rw [if_neg h3]
        by_cases h4 : holdsN c d b = true
        · rw [if_pos h4]
          exact .inr (.inl ⟨b, .inl (.inr rfl), ⟨holds_right a b, h4⟩, one _ (.inl (.inr rfl)) ⟨holds_right a b, h4⟩, at_kind a b c d b⟩)
        · rw [if_neg h4]
          refine .inr (.inr ⟨?_, ?_⟩)
          · rintro p ((rfl | rfl) | (rfl | rfl)) ⟨k1, k2⟩
            · exact h3 k2
            · exact h4 k2
            · exact h1 k1
            · exact h2 k1
          · have := apart_iff a b c d
            by_cases g : Apart a b c d
            · rw [if_pos (this.2 g)]; exact .inl ⟨g, rfl⟩
            · rw [if_neg (fun k => g (this.1 k))]; exact .inr ⟨g, rfl⟩
def inLineB (a b c d : Pt) : Bool := decide (sideN a b c = 0) && decide (sideN a b d = 0) && decide (sideN c d a = 0)
theorem inLine_iff (a b c d : Pt) : inLineB a b c d = true ↔ Line a b c d := by
  unfold inLineB Line sideN
  simp only [Bool.and_eq_true, decide_eq_true_iff, sgn_zero, and_assoc]
/-- What the program does, of two sorted segments. -/
def sortedN (a b c d : Pt) : Int := if eqP a c && eqP b d then 4 else if inLineB a b c d then lineN a b c d else crossN a b c d
theorem sorted_kind {a b c d : Pt} (hs : cmpN a b ≤ 0) (ht : cmpN c d ≤ 0) : Kind a b c d (sortedN a b c d) := by
  unfold sortedN
  by_cases h : a = c ∧ b = d
  · rw [if_pos (by rw [h.1, h.2]; simp [eqP_iff])]
    exact .inl ⟨.inl h, rfl⟩
  · rw [if_neg (by simpa [eqP_iff] using h)]
    by_cases hl : Line a b c d
    · rw [if_pos ((inLine_iff a b c d).2 hl)]
      exact line_kind hl hs ht h
    · rw [if_neg (fun k => hl ((inLine_iff a b c d).1 k))]
      exact cross_kind hl (sm_sorted hs ht h)
def lowN (a b : Pt) : Pt := if 0 < cmpN a b then b else a
def highN (a b : Pt) : Pt := if 0 < cmpN a b then a else b
theorem low_high (a b : Pt) : cmpN (lowN a b) (highN a b) ≤ 0 := by
  unfold lowN highN
  split
  · rw [cmp_swap a b]; omega
  · omega
/-- What the program does. -/
def meetsN (a b c d : Pt) : Int := sortedN (lowN a b) (highN a b) (lowN c d) (highN c d)
theorem unsort {a b c d : Pt} {k : Int} (h : Kind (lowN a b) (highN a b) c d k) : Kind a b c d k := by
  unfold lowN highN at h
  split at h
  · exact h.back
  · exact h
theorem meets_kind (a b c d : Pt) : Kind a b c d (meetsN a b c d) :=
  unsort (unsort (sorted_kind (low_high a b) (low_high c d)).swap).swap
/-- P3.4. -/
theorem meets_swap (a b c d : Pt) : meetsN c d a b = meetsN a b c d := (meets_kind c d a b).one (meets_kind a b c d).swap
theorem meets_back (a b c d : Pt) : meetsN b a c d = meetsN a b c d := (meets_kind b a c d).one (meets_kind a b c d).back
theorem meets_back2 (a b c d : Pt) : meetsN a b d c = meetsN a b c d := (meets_kind a b d c).one (meets_kind a b c d).back2
theorem meets_self (a b : Pt) : meetsN a b a b = 4 := (meets_kind a b a b).one (.inl ⟨.inl ⟨rfl, rfl⟩, rfl⟩)
theorem holds_point {a p : Pt} (h : holdsN a a p = true) : p = a := by
  rw [holds_iff] at h
  have := sqs_zero (a := a.x - p.x) (b := a.y - p.y) (by have := h.2; unfold dt at this; exact this)
  exact Pt.ext' (by omega) (by omega)
theorem meets_end {a b : Pt} (h : a ≠ b) : meetsN a b a a = 1 := by
  refine (meets_kind a b a a).one (.inr ⟨?_, .inr (.inl ⟨a, .inl (.inl rfl), ⟨holds_left a b, holds_left a a⟩, fun q _ cq => holds_point cq.2, .inl ⟨.inl rfl, .inl rfl, rfl⟩⟩)⟩)
  rintro (⟨_, e⟩ | ⟨_, e⟩) <;> exact h e.symm
theorem meets_range (a b c d : Pt) : 0 ≤ meetsN a b c d ∧ meetsN a b c d ≤ 5 := by
  rcases meets_kind a b c d with ⟨_, e⟩ | ⟨_, ⟨_, e⟩ | ⟨p, _, _, _, ⟨_, _, e⟩ | ⟨_, e⟩⟩ | ⟨_, ⟨_, e⟩ | ⟨_, e⟩⟩⟩ <;> omega
/-- P3.5. -/
theorem meets_two {a b c d p q : Pt} (hp : Com a b c d p) (hq : Com a b c d q) (hn : p ≠ q) : meetsN a b c d = 4 ∨ meetsN a b c d = 5 := by
  suffices H : ∀ {a b c d : Pt}, cmpN a b ≤ 0 → cmpN c d ≤ 0 → Com a b c d p → Com a b c d q → sortedN a b c d = 4 ∨ sortedN a b c d = 5 by
    have back : ∀ {a b c d r : Pt}, Com a b c d r → Com (lowN a b) (highN a b) (lowN c d) (highN c d) r := by
      intro a b c d r h
      unfold Com lowN highN at *
      obtain ⟨h1, h2⟩ := h
      constructor
      · split
        · rw [holds_back]; exact h1
        · exact h1
      · split
        · rw [holds_back]; exact h2
        · exact h2
    exact H (low_high a b) (low_high c d) (back hp) (back hq)
  intro a b c d hs ht hp hq
  have hl := hp.line hq hn
  unfold sortedN
  by_cases h : a = c ∧ b = d
  · rw [if_pos (by rw [h.1, h.2]; simp [eqP_iff])]
    exact .inl rfl
  · rw [if_neg (by simpa [eqP_iff] using h), if_pos ((inLine_iff a b c d).2 hl)]
    right
    have h1 := (line_com_iff hs ht (holds_iff.1 hp.1).1 (holds_iff.1 hp.2).1).1 hp
    have h2 := (line_com_iff hs ht (holds_iff.1 hq.1).1 (holds_iff.1 hq.2).1).1 hq
    have hle := cmp_le_trans h1.1 h1.2
    unfold lineN
    rw [if_neg (by omega), if_neg]
    intro h0
    rw [← cmp_zero.1 h0] at h1 h2
    exact hn ((cmp_anti h1.2 h1.1).trans (cmp_anti h2.1 h2.2))
end Go.Proofs.Ytlagolgmkmdhhaa.Geo
