/- The reference's times: a * b / c, bit by bit. -/
import Derived.Test.YtcckdckikjbfdaaGmRoot
import Derived.Deep.CutRange
namespace Go.Proofs.Ytcckdckikjbfdaa.Geo
open Go.RowKit Go.Sort
/-- What holds behind the bits of a from 50 down to j: h is what they make, h * b = q * c + r. -/
structure Tm (a b c j q r : Nat) : Prop where
  e : a / 2 ^ j * b = q * c + r
  lt : r < c
theorem Tm.start {a b c : Nat} (ha : a < 2251799813685248) (hc : 0 < c) : Tm a b c 51 0 0 := ⟨by
  rw [Nat.div_eq_of_lt (show a < 2 ^ 51 from ha)]; simp, hc⟩
theorem bit_split (a j : Nat) : a / 2 ^ j = 2 * (a / 2 ^ (j + 1)) + a / 2 ^ j % 2 := by
  rw [Nat.pow_succ, ← Nat.div_div_eq_div_mul]; omega
theorem Tm.next {a b c j q r : Nat} (h : Tm a b c (j + 1) q r) : a / 2 ^ j * b = (2 * q) * c + (2 * r + a / 2 ^ j % 2 * b) := by
  rw [bit_split a j, Nat.add_mul, Nat.mul_assoc, h.e, Nat.mul_add, Nat.mul_assoc]
  have := bit_split a j
  rw [← this]
  omega
theorem Tm.done {a b c q r : Nat} (h : Tm a b c 0 q r) (hc : 0 < c) : q = a * b / c := by
  have h1 := h.e
  rw [Nat.pow_zero, Nat.div_one] at h1
  rw [h1, Nat.mul_comm, Nat.mul_add_div hc, Nat.div_eq_of_lt h.lt]
  omega
theorem Tm.small {a b c j q r : Nat} (h : Tm a b c j q r) (hb : b < c) : q ≤ a := by
  have h1 : q * c ≤ a * b := Nat.le_trans (Nat.le_add_right _ r) (h.e ▸ Nat.mul_le_mul_right b (Nat.div_le_self _ _))
  have h2 : a * b ≤ a * c := Nat.mul_le_mul_left a (Nat.le_of_lt hb)
  exact Nat.le_of_mul_le_mul_right (Nat.le_trans h1 h2) (by omega)
theorem step_small {a i d c s t : Nat} (h : a / 2 ^ i * d = s * c + t) (hb : d < c) : s ≤ a := by
  have h1 : s * c ≤ a * d := Nat.le_trans (Nat.le_add_right _ t) (h ▸ Nat.mul_le_mul_right d (Nat.div_le_self _ _))
  have h2 : a * d ≤ a * c := Nat.mul_le_mul_left a (Nat.le_of_lt hb)
  exact Nat.le_of_mul_le_mul_right (Nat.le_trans h1 h2) (by omega)
theorem and_one64 (n : Int) : bits .and .i64 n 1 = n % 2 := by
  have one : (BitVec.ofInt 64 1).toNat = 1 := by decide
  have low : (BitVec.ofInt 64 n &&& BitVec.ofInt 64 1).toNat = (n % ((2 ^ 64 : Nat) : Int)).toNat % 2 := by
    rw [BitVec.toNat_and, BitVec.toNat_ofInt, one, Nat.and_one_is_mod]
  show IntKind.i64.wrap ((BitVec.ofInt 64 n &&& BitVec.ofInt 64 1).toNat : Nat) = n % 2
  rw [low, IntKind.wrap_i64]
  omega
theorem bit_and (a i : Nat) : bits .and .i64 ((a : Int) / 2 ^ i) 1 = ((a / 2 ^ i % 2 : Nat) : Int) := by
  rw [and_one64, show ((a : Int) / 2 ^ i) = ((a / 2 ^ i : Nat) : Int) by rw [Int.natCast_ediv, Int.natCast_pow]; rfl]
  omega
set_option maxRecDepth 100000 in
set_option maxHeartbeats 2000000 in
theorem times_any (a b c : Nat) (w : World) (ha : a ≤ 70368744177664) (hb : b ≤ 70368744177664) (hc : 0 < c) (hc2 : c ≤ 70368744177664) (hq : a * b / c < 9223372036854775807) :
    Calls Try.prog 46 #[.int .i64 a, .int .i64 b, .int .i64 c] w fun e w' => e = .returned (.int .i64 ((a * b / c : Nat) : Int)) ∧ w = w' := by
  have hb1 : b % c < c := Nat.mod_lt _ hc
  have hmul : a * (b / c) + a * (b % c) / c = a * b / c := by
    conv => rhs; rw [← Nat.div_add_mod b c, Nat.mul_add, Nat.mul_left_comm, Nat.mul_add_div hc]
  have w1 : wrap64 ((a : Int) * wrap64 ((b : Int) / (c : Int))) = ((a * (b / c) : Nat) : Int) := by
    have h1 : a * (b / c) ≤ a * b / c := by rw [← hmul]; exact Nat.le_add_right _ _
    have h2 : b / c ≤ b := Nat.div_le_self _ _
    rw [← Int.natCast_ediv]
    generalize b / c = y at *
    rw [show wrap64 (y : Int) = (y : Int) by unfold wrap64; omega, ← Int.natCast_mul]
    generalize a * y = X at *
    unfold wrap64; omega
  have hmod : (b : Int) % (c : Int) = ((b % c : Nat) : Int) := (Int.natCast_emod b c).symm
  have W1 := Lib.hid w1
  have HM := Lib.hid hmul
  have HD := Lib.hid hmod
  have HQ := Lib.hid hq
  clear w1 hmul hmod hq
  go_enter Try.func46, Try.ntmps46
  go_wp2
  rw [W1.out, HD.out]
  clear W1 HD
  obtain ⟨out, ho⟩ : ∃ x, a * (b / c) = x := ⟨_, rfl⟩
  obtain ⟨d, hd⟩ : ∃ x, b % c = x := ⟨_, rfl⟩
  rw [ho, hd]
  rw [hd] at hb1
  have HM2 : Hid (out + a * d / c = a * b / c) := by rw [← ho, ← hd]; exact HM.out
  clear ho hd HM
  have HS : Hid (Tm a d c 51 0 0) := Tm.start (by omega) hc
  go_loop [8, 9, 10] (fun q r i => ∃ k x y : Nat, k ≤ 51 ∧ i = .int .i64 ((k : Int) - 1) ∧ q = .int .i64 x ∧ r = .int .i64 y ∧ Hid (Tm a d c k x y)) (fun _ _ i => ((intOf i) + 1).toNat)
  case atStart => exact ⟨51, 0, 0, by omega, rfl, rfl, rfl, HS⟩
  case round =>
    obtain ⟨k, x, y, hk, rfl, rfl, rfl, hst⟩ := hrel
    rcases Nat.eq_zero_or_pos k with rfl | hp
    · have hx := hst.out.done hc
      have hle : out + x < 9223372036854775807 := by rw [hx, HM2.out]; exact HQ.out
      have HE := Lib.hid (show out + x = a * b / c by rw [hx]; exact HM2.out)
      clear hx
      go_wp2
      go_ret
      exact ⟨ret_int (by rw [← Int.natCast_mul, ← Int.natCast_ediv, ← HE.out, Int.natCast_add]), rfl⟩
    · obtain ⟨i, rfl⟩ : ∃ i, k = i + 1 := ⟨k - 1, by omega⟩
      have e : ((i + 1 : Nat) : Int) - 1 = (i : Int) := by omega
      rw [e]
      clear e
      have hx := hst.out.small hb1
      have hy := hst.out.lt
      have HN := Lib.hid hst.out.next
      have hi : i ≤ 50 := by omega
      have HB := bit_and a i
      rcases (show a / 2 ^ i % 2 = 0 ∨ a / 2 ^ i % 2 = 1 by omega) with hbit | hbit
      · have hbf : (bits .and .i64 ((a : Int) / 2 ^ i) 1 == 1) = false := by rw [HB, hbit]; decide
        clear HB
        have E0 : Hid (a / 2 ^ i * d = 2 * x * c + (2 * y)) := by
          have h := HN.out
          rw [hbit] at h
          rw [h, Nat.zero_mul, Nat.add_zero]
          exact Lib.hid rfl
        clear HN
        go_wp2
        go_loop [8, 9] (fun q r => ∃ s t : Nat, q = .int .i64 s ∧ r = .int .i64 t ∧ t < 3 * c ∧ Hid (a / 2 ^ i * d = s * c + t)) (fun _ r => (intOf r).toNat)
        case atStart => exact ⟨2 * x, 2 * y, congrArg (Value.int .i64) (by omega), congrArg (Value.int .i64) (by omega), by omega, E0⟩
        case round =>
          obtain ⟨s, t, rfl, rfl, ht, hE⟩ := hrel
          have hs := step_small hE.out hb1
          by_cases hge : c ≤ t
          · have hE' := Lib.hid (show a / 2 ^ i * d = (s + 1) * c + (t - c) by
              have h := hE.out
              rw [h, Nat.add_mul, Nat.one_mul]
              generalize s * c = m at *
              omega)
            clear hE E0
            go_wp2
            go_round
            case rel => exact ⟨s + 1, t - c, by go_num, congrArg (Value.int .i64) (by omega), by omega, hE'⟩
            case measure => simp only [intOf]; omega
          · have hT : Hid (Tm a d c i s t) := ⟨hE.out, by omega⟩
            clear hE E0
            go_wp2
            go_round
            case rel => exact ⟨i, s, t, by omega, rfl, rfl, rfl, hT⟩
            case measure => exact down i
      · have hbf : (bits .and .i64 ((a : Int) / 2 ^ i) 1 == 1) = true := by rw [HB, hbit]; decide
        clear HB
        have E0 : Hid (a / 2 ^ i * d = 2 * x * c + (2 * y + d)) := by
          have h := HN.out
          rw [hbit] at h
          rw [h, Nat.one_mul]
          exact Lib.hid rfl
        clear HN
        go_wp2
        go_loop [8, 9] (fun q r => ∃ s t : Nat, q = .int .i64 s ∧ r = .int .i64 t ∧ t < 3 * c ∧ Hid (a / 2 ^ i * d = s * c + t)) (fun _ r => (intOf r).toNat)
        case atStart => exact ⟨2 * x, 2 * y + d, congrArg (Value.int .i64) (by omega), congrArg (Value.int .i64) (by omega), by omega, E0⟩
        case round =>
          obtain ⟨s, t, rfl, rfl, ht, hE⟩ := hrel
          have hs := step_small hE.out hb1
          by_cases hge : c ≤ t
          · have hE' := Lib.hid (show a / 2 ^ i * d = (s + 1) * c + (t - c) by
              have h := hE.out
              rw [h, Nat.add_mul, Nat.one_mul]
              generalize s * c = m at *
              omega)
            clear hE E0
            go_wp2
            go_round
            case rel => exact ⟨s + 1, t - c, by go_num, congrArg (Value.int .i64) (by omega), by omega, hE'⟩
            case measure => simp only [intOf]; omega
          · have hT : Hid (Tm a d c i s t) := ⟨hE.out, by omega⟩
            clear hE E0
            go_wp2
            go_round
            case rel => exact ⟨i, s, t, by omega, rfl, rfl, rfl, hT⟩
            case measure => exact down i
end Go.Proofs.Ytcckdckikjbfdaa.Geo
