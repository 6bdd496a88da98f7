/- Triangles: plain mathematics of P4.8. -/
import Derived.Test.YtlagolgmkmdhhaaRgHead
namespace Go.Proofs.Ytlagolgmkmdhhaa.Rg
open Go.Proofs.Ytlagolgmkmdhhaa.Geo hiding intOf
/-- signs of a product. -/
theorem mul_up {a d : Int} (h : 0 < d) : (0 < a → 0 < a * d) ∧ (a < 0 → a * d < 0) ∧ (a = 0 → a * d = 0) :=
  ⟨fun k => Int.mul_pos k h, fun k => Int.mul_neg_of_neg_of_pos k h, fun k => by rw [k, Int.zero_mul]⟩
theorem mul_dn {a d : Int} (h : d ≤ 0) : (0 < a → a * d ≤ 0 ∧ (a * d = 0 → d = 0)) ∧ (a < 0 → 0 ≤ a * d ∧ (a * d = 0 → d = 0)) ∧ (a = 0 → a * d = 0) :=
  ⟨fun k => ⟨Int.mul_nonpos_of_nonneg_of_nonpos (by omega) h, fun e => (Int.mul_eq_zero.1 e).resolve_left (by omega)⟩, fun k => ⟨Int.mul_nonneg_of_nonpos_of_nonpos (by omega) h, fun e => (Int.mul_eq_zero.1 e).resolve_left (by omega)⟩, fun k => by rw [k, Int.zero_mul]⟩
def cross1 (d e A : Int) : Bool := (decide (d ≤ 0) && decide (0 < e) && decide (0 < A)) || (decide (e ≤ 0) && decide (0 < d) && decide (A < 0))
theorem cross_up {d e A : Int} (h : d ≤ 0) (k : 0 < e) : cross1 d e A = decide (0 < A) := by
  have h1 : ¬ 0 < d := by omega
  unfold cross1; simp [h, k, h1]
theorem cross_dn {d e A : Int} (h : 0 < d) (k : e ≤ 0) : cross1 d e A = decide (A < 0) := by
  have h1 : ¬ d ≤ 0 := by omega
  unfold cross1; simp [h, k, h1]
theorem cross_lo {d e A : Int} (h : d ≤ 0) (k : e ≤ 0) : cross1 d e A = false := by
  have h1 : ¬ 0 < d := by omega
  have h2 : ¬ 0 < e := by omega
  unfold cross1; simp [h1, h2]
theorem cross_hi {d e A : Int} (h : 0 < d) (k : 0 < e) : cross1 d e A = false := by
  have h1 : ¬ d ≤ 0 := by omega
  have h2 : ¬ e ≤ 0 := by omega
  unfold cross1; simp [h1, h2]
def insideP (A B C T : Int) : Bool := decide (0 < T ∧ 0 < A ∧ 0 < B ∧ 0 < C) || decide (T < 0 ∧ A < 0 ∧ B < 0 ∧ C < 0)
theorem inside_turn (A B C T : Int) : insideP A B C T = insideP B C A T := by unfold insideP; rw [Bool.eq_iff_iff]; simp; omega
structure Tri (A B C T da db dc : Int) : Prop where
  sum : A + B + C = T
  bar : A * dc + B * da + C * db = 0
  ne : T ≠ 0
  flat : ¬ (da = 0 ∧ db = 0 ∧ dc = 0)
  n1 : ¬ (A = 0 ∧ (0 ≤ B ∧ 0 ≤ C ∨ B ≤ 0 ∧ C ≤ 0))
  n2 : ¬ (B = 0 ∧ (0 ≤ C ∧ 0 ≤ A ∨ C ≤ 0 ∧ A ≤ 0))
  n3 : ¬ (C = 0 ∧ (0 ≤ A ∧ 0 ≤ B ∨ A ≤ 0 ∧ B ≤ 0))
theorem Tri.turn {A B C T da db dc : Int} (h : Tri A B C T da db dc) : Tri B C A T db dc da :=
  ⟨by have := h.sum; omega, by have := h.bar; omega, h.ne, by have := h.flat; omega, h.n2, h.n3, h.n1⟩
/-- one corner below, two above. -/
theorem tri_one {A B C T da db dc : Int} (h : Tri A B C T da db dc) (ha : da ≤ 0) (hb : 0 < db) (hc : 0 < dc) : (decide (0 < A) ^^ decide (C < 0)) = insideP A B C T := by
  obtain ⟨E0, E1, hT, hd, N1, N2, N3⟩ := h
  obtain ⟨m1, m2, m3⟩ := mul_up (a := A) hc
  obtain ⟨p1, p2, p3⟩ := mul_dn (a := B) ha
  obtain ⟨q1, q2, q3⟩ := mul_up (a := C) hb
  generalize A * dc = x at *
  generalize B * da = y at *
  generalize C * db = z at *
  have sA : A < 0 ∨ A = 0 ∨ 0 < A := by omega
  have sB : B < 0 ∨ B = 0 ∨ 0 < B := by omega
  have sC : C < 0 ∨ C = 0 ∨ 0 < C := by omega
  unfold insideP
  rcases sA with sA | sA | sA <;> rcases sB with sB | sB | sB <;> rcases sC with sC | sC | sC <;> first
    | (exfalso; omega)
    | (rw [Bool.eq_iff_iff]; simp; omega)
/-- two corners below, one above. -/
theorem tri_two {A B C T da db dc : Int} (h : Tri A B C T da db dc) (ha : da ≤ 0) (hb : db ≤ 0) (hc : 0 < dc) : (decide (0 < B) ^^ decide (C < 0)) = insideP A B C T := by
  obtain ⟨E0, E1, hT, hd, N1, N2, N3⟩ := h
  obtain ⟨m1, m2, m3⟩ := mul_up (a := A) hc
  obtain ⟨p1, p2, p3⟩ := mul_dn (a := B) ha
  obtain ⟨q1, q2, q3⟩ := mul_dn (a := C) hb
  generalize A * dc = x at *
  generalize B * da = y at *
  generalize C * db = z at *
  have sA : A < 0 ∨ A = 0 ∨ 0 < A := by omega
  have sB : B < 0 ∨ B = 0 ∨ 0 < B := by omega
  have sC : C < 0 ∨ C = 0 ∨ 0 < C := by omega
  unfold insideP
  rcases sA with sA | sA | sA <;> rcases sB with sB | sB | sB <;> rcases sC with sC | sC | sC <;> first
    | (exfalso; omega)
    | (rw [Bool.eq_iff_iff]; simp; omega)
theorem tri_none {A B C T da db dc : Int} (h : Tri A B C T da db dc) (hs : (da ≤ 0 ∧ db ≤ 0 ∧ dc ≤ 0) ∨ (0 < da ∧ 0 < db ∧ 0 < dc)) : insideP A B C T = false := by
  obtain ⟨E0, E1, hT, hd, N1, N2, N3⟩ := h
  cases hi : insideP A B C T with
  | false => rfl
  | true =>
    exfalso
    unfold insideP at hi
    rw [Bool.or_eq_true, decide_eq_true_iff, decide_eq_true_iff] at hi
    rcases hs with ⟨ha, hb, hc⟩ | ⟨ha, hb, hc⟩
    · have m := mul_dn (a := A) hc
      have p := mul_dn (a := B) ha
      have q := mul_dn (a := C) hb
      generalize A * dc = x at *
      generalize B * da = y at *
      generalize C * db = z at *
      rcases hi with ⟨hi, h1, h2, h3⟩ | ⟨hi, h1, h2, h3⟩
      · have m' := m.1 h1; have p' := p.1 h2; have q' := q.1 h3
        clear m p q
        omega
      · have m' := m.2.1 h1; have p' := p.2.1 h2; have q' := q.2.1 h3
        clear m p q
        omega
    · have m := mul_up (a := A) hc
      have p := mul_up (a := B) ha
      have q := mul_up (a := C) hb
      generalize A * dc = x at *
      generalize B * da = y at *
      generalize C * db = z at *
      rcases hi with ⟨hi, h1, h2, h3⟩ | ⟨hi, h1, h2, h3⟩
      · have m' := m.1 h1; have p' := p.1 h2; have q' := q.1 h3
        omega
      · have m' := m.2.1 h1; have p' := p.2.1 h2; have q' := q.2.1 h3
        omega
theorem tri_par {A B C T da db dc : Int} (h : Tri A B C T da db dc) : ((cross1 da db A ^^ cross1 db dc B) ^^ cross1 dc da C) = insideP A B C T := by
  have ha : da ≤ 0 ∨ 0 < da := by omega
  have hb : db ≤ 0 ∨ 0 < db := by omega
  have hc : dc ≤ 0 ∨ 0 < dc := by omega
  rcases ha with ha | ha <;> rcases hb with hb | hb <;> rcases hc with hc | hc
  · rw [cross_lo ha hb, cross_lo hb hc, cross_lo hc ha, tri_none h (.inl ⟨ha, hb, hc⟩)]; rfl
  · rw [cross_lo ha hb, cross_up hb hc, cross_dn hc ha, ← tri_two h ha hb hc]; simp
  · rw [cross_up ha hb, cross_dn hb hc, cross_lo hc ha, ← inside_turn C A B, ← tri_two h.turn.turn hc ha hb]; simp
  · rw [cross_up ha hb, cross_hi hb hc, cross_dn hc ha, ← tri_one h ha hb hc]; simp
  · rw [cross_dn ha hb, cross_lo hb hc, cross_up hc ha, inside_turn A B C, ← tri_two h.turn hb hc ha, Bool.xor_comm]; simp
  · rw [cross_dn ha hb, cross_up hb hc, cross_hi hc ha, inside_turn A B C, ← tri_one h.turn hb hc ha]; simp [Bool.xor_comm]
  · rw [cross_hi ha hb, cross_dn hb hc, cross_up hc ha, ← inside_turn C A B, ← tri_one h.turn.turn hc ha hb]; simp [Bool.xor_comm]
  · rw [cross_hi ha hb, cross_hi hb hc, cross_hi hc ha, tri_none h (.inr ⟨ha, hb, hc⟩)]; rfl
end Go.Proofs.Ytlagolgmkmdhhaa.Rg
