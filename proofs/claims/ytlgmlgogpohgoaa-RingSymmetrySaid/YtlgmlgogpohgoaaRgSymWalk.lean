/- P4.5, RingSymmetry: its walk. -/
import Derived.Test.YtlgmlgogpohgoaaRgSym
import Derived.Test.YtlgmlgogpohgoaaRgHead
namespace Go.Proofs.Ytlgmlgogpohgoaa.Rg
open Go.RowKit Go.Sort Go.Shelf
open Go.Proofs.Ytlgmlgogpohgoaa.Geo hiding intOf Apart
/-- the answers of the two calls, and of the ring with itself. -/
theorem sym_cases (l m : List Pt) : (relN l m = 2 ∧ relN m l = 3 ∧ relN l l = 4 ∧ simpleN l = true) ∨ (relN l m = 3 ∧ relN m l = 2 ∧ relN l l = 4 ∧ simpleN l = true) ∨
    (∃ A, (A == 2) = false ∧ (A == 3) = false ∧ relN l m = A ∧ relN m l = A ∧ relN l l = 4 ∧ simpleN l = true) ∨ (relN l m = 0 ∧ relN m l = 0 ∧ relN l l = 0 ∧ simpleN l = false) := by
  have h1 := rel_swap l m
  have h2 := rel_self l
  cases hs : simpleN l with
  | false =>
    rw [hs] at h2
    have h3 := rel_not hs m
    rw [h3] at h1
    exact .inr (.inr (.inr ⟨h3, h1, h2, rfl⟩))
  | true =>
    rw [hs] at h2
    by_cases a : relN l m = 2
    · rw [a] at h1; exact .inl ⟨a, h1, h2, rfl⟩
    · by_cases b : relN l m = 3
      · rw [b] at h1; exact .inr (.inl ⟨b, h1, h2, rfl⟩)
      · rw [if_neg a, if_neg b] at h1
        exact .inr (.inr (.inl ⟨_, by rw [beq_eq_false_iff_ne]; exact a, by rw [beq_eq_false_iff_ne]; exact b, rfl, h1, h2, rfl⟩))
set_option maxRecDepth 100000 in
set_option maxHeartbeats 16000000 in
theorem symmetry_any (a1 a2 : Option Addr) (n1 c1 n2 c2 : Nat) (l m : List Pt) (w : World) (hl : Pts w w.heap.size a1 l) (hm : Pts w w.heap.size a2 m) (e1 : n1 = l.length) (e2 : n2 = m.length) (hc1 : n1 ≤ c1) (hc2 : n2 ≤ c2)
    (hx1 : c1 ≤ maxLen) (hx2 : c2 ≤ maxLen) :
    Calls Try.prog 7 #[.slice a1 n1 c1, .slice a2 n2 c2] w fun e w' => e = .returned (.bool true) ∧ Below w.heap.size w w' := by
  have L0 := Lib.hid hl
  have M0 := Lib.hid hm
  have E1 := Lib.hid e1
  have E2 := Lib.hid e2
  have X1 := Lib.hid hx1
  have X2 := Lib.hid hx2
  have HC := Lib.hid (sym_cases l m)
  clear hl hm e1 e2 hx1 hx2
  go_enter Try.func7, Try.ntmps7
  go_wp2_with fail
  refine (head_any w).mono ?_
  rintro e w1 ⟨rfl, b1⟩
  have B1 := Lib.hid b1
  have L1 := Lib.hid (L0.out.later b1)
  have M1 := Lib.hid (M0.out.later b1)
  clear b1 L0 M0
  by_cases hg1 : n1 ≤ 40
  · by_cases hg2 : n2 ≤ 40
    · have i1 : ¬ (40 : Int) < (n1 : Int) := by omega
      have i2 : ¬ (40 : Int) < (n2 : Int) := by omega
      clear hg1 hg2
      go_wp2_with fail
      rcases HC.out with ⟨v1, v2, v3, v4⟩ | ⟨v1, v2, v3, v4⟩ | ⟨A, z1, z2, v1, v2, v3, v4⟩ | ⟨v1, v2, v3, v4⟩ <;> clear HC
      all_goals
        have V1 := Lib.hid v1
        have V2 := Lib.hid v2
        have V3 := Lib.hid v3
        have V4 := Lib.hid v4
        clear v1 v2 v3 v4
        refine (rl_is a1 a2 n1 c1 n2 c2 l m w1 V1.out L1.out M1.out E1.out E2.out hc1 hc2 X1.out X2.out).mono ?_
        rintro e w2 ⟨rfl, b2⟩
        have B2 := Lib.hid (B1.out.trans (b2.mono B1.out.size))
        have L2 := Lib.hid (L1.out.later b2)
        have M2 := Lib.hid (M1.out.later b2)
        clear b2 B1 L1 M1
        go_wp2_with fail
        refine (rl_is a2 a1 n2 c2 n1 c1 m l w2 V2.out M2.out L2.out E2.out E1.out hc2 hc1 X2.out X1.out).mono ?_
        rintro e w3 ⟨rfl, b3⟩
        have B3 := Lib.hid (B2.out.trans (b3.mono B2.out.size))
        have L3 := Lib.hid (L2.out.later b3)
        clear b3 B2 L2 M2
        go_wp2_with fail
        refine (rl_is a1 a1 n1 c1 n1 c1 l l w3 V3.out L3.out L3.out E1.out E1.out hc1 hc1 X1.out X1.out).mono ?_
        rintro e w4 ⟨rfl, b4⟩
        have B4 := Lib.hid (B3.out.trans (b4.mono B3.out.size))
        have L4 := Lib.hid (L3.out.later b4)
        clear b4 B3 L3
        go_wp2_with fail
        refine (sm_is a1 n1 c1 l w4 V4.out L4.out E1.out hc1 X1.out).mono ?_
        rintro e w5 ⟨rfl, b5⟩
        have B5 := Lib.hid (B4.out.trans (b5.mono B4.out.size))
        have L5 := Lib.hid (L4.out.later b5)
        clear b5 B4 L4
        go_wp2_with fail
        refine (sm_is a1 n1 c1 l w5 V4.out L5.out E1.out hc1 X1.out).mono ?_
        rintro e w6 ⟨rfl, b6⟩
        have B6 := Lib.hid (B5.out.trans (b6.mono B5.out.size))
        clear b6 B5 L5
        go_wp2
        go_ret
        exact ⟨rfl, B6.out⟩
    · have i1 : ¬ (40 : Int) < (n1 : Int) := by omega
      have i2 : (40 : Int) < (n2 : Int) := by omega
      go_wp2
      go_ret
      exact ⟨rfl, B1.out⟩
  · have i1 : (40 : Int) < (n1 : Int) := by omega
    go_wp2
    go_ret
    exact ⟨rfl, B1.out⟩
end Go.Proofs.Ytlgmlgogpohgoaa.Rg
