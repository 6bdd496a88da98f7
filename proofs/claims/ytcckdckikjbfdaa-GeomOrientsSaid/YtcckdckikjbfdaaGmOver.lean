/- geom.squareOver: the square of a number, divided, by a long division over 128 bits. -/
import Derived.Test.YtcckdckikjbfdaaGmMul
namespace Go.Proofs.Ytcckdckikjbfdaa.Geo
open Go.RowKit Go.Sort
structure St (N d k a b c e : Nat) : Prop where
  ha : a < 18446744073709551616
  hb : b < 18446744073709551616
  hab : a * 18446744073709551616 + b = N * 2 ^ k % 340282366920938463463374607431768211456
  hc : c = N / 2 ^ (128 - k) / d
  he : e = N / 2 ^ (128 - k) % d
theorem pow_split (k : Nat) (h : k < 128) : 2 ^ (128 - k) = 2 * 2 ^ (128 - (k + 1)) := by
  rw [show 128 - k = (128 - (k + 1)) + 1 by omega, Nat.pow_succ]; omega
theorem mod_scale (a b c : Nat) : (c * a) % (c * b) = c * (a % b) := Nat.mul_mod_mul_left c a b
/-- The next bit. -/
theorem top_bit {N k : Nat} (h : k < 128) : N / 2 ^ (128 - (k + 1)) = 2 * (N / 2 ^ (128 - k)) + N * 2 ^ k % 340282366920938463463374607431768211456 / 170141183460469231731687303715884105728 := by
  have e1 : 340282366920938463463374607431768211456 = 2 ^ k * 2 ^ (128 - k) := by rw [← Nat.pow_add, show k + (128 - k) = 128 by omega]
  have e2 : 170141183460469231731687303715884105728 = 2 ^ k * 2 ^ (128 - (k + 1)) := by rw [← Nat.pow_add, show k + (128 - (k + 1)) = 127 by omega]
  rw [e1, Nat.mul_comm N, mod_scale, e2, Nat.mul_div_mul_left _ _ (Nat.two_pow_pos k), pow_split k h]
  have hp := Nat.two_pow_pos (128 - (k + 1))
  generalize 2 ^ (128 - (k + 1)) = p at *
  have h1 := Nat.div_add_mod N (2 * p)
  have h2 := Nat.mod_lt N (show 0 < 2 * p by omega)
  generalize N % (2 * p) = r at *
  generalize N / (2 * p) = q at *
  rw [← h1, show 2 * p * q + r = r + p * (2 * q) by rw [Nat.mul_comm 2 p, Nat.mul_assoc]; omega, Nat.add_mul_div_left _ _ hp]
  omega
theorem next_word {N k : Nat} : N * 2 ^ (k + 1) % 340282366920938463463374607431768211456 = 2 * (N * 2 ^ k % 340282366920938463463374607431768211456) % 340282366920938463463374607431768211456 := by
  rw [Nat.pow_succ, ← Nat.mul_assoc]
  omega
theorem div_step {t d b : Nat} (hd : 0 < d) : (2 * t + b) / d = 2 * (t / d) + (2 * (t % d) + b) / d ∧ (2 * t + b) % d = (2 * (t % d) + b) % d := by
  have h := Nat.div_add_mod t d
  have e : 2 * t + b = (2 * (t % d) + b) + d * (2 * (t / d)) := by
    have : d * (2 * (t / d)) = 2 * (d * (t / d)) := by rw [Nat.mul_left_comm]
    omega
  constructor
  · rw [e, Nat.add_mul_div_left _ _ hd]; omega
  · rw [e, Nat.add_mul_mod_self_left]
theorem word_step (a b : Nat) (_ : a < 18446744073709551616) (hb : b < 18446744073709551616) :
    (2 * a % 18446744073709551616 + b / 9223372036854775808) * 18446744073709551616 + 2 * b % 18446744073709551616 = 2 * (a * 18446744073709551616 + b) % 340282366920938463463374607431768211456 := by
  rw [show (340282366920938463463374607431768211456 : Nat) = 18446744073709551616 * 18446744073709551616 from rfl]
  have h1 : 2 * b = b / 9223372036854775808 * 18446744073709551616 + 2 * b % 18446744073709551616 := by omega
  have h2 : 2 * (a * 18446744073709551616 + b) = 2 * b % 18446744073709551616 + 18446744073709551616 * (2 * a + b / 9223372036854775808) := by omega
  have h3 : 2 * b % 18446744073709551616 < 18446744073709551616 := Nat.mod_lt _ (by decide)
  have h4 : (2 * a + b / 9223372036854775808) % 18446744073709551616 = 2 * a % 18446744073709551616 + b / 9223372036854775808 := by omega
  rw [Nat.mod_mul, h2, Nat.add_mul_mod_self_left, Nat.add_mul_div_left _ _ (by decide), Nat.div_eq_of_lt h3, Nat.zero_add, h4, Nat.mod_eq_of_lt h3]
  omega
theorem St.next {N d k a b c e : Nat} (h : St N d k a b c e) (hk : k < 128) (hd : 0 < d) (hq : N / d < 9223372036854775808) :
    (2 * c + 1 < 18446744073709551616) ∧ a / 9223372036854775808 ≤ 1 ∧ b / 9223372036854775808 ≤ 1 ∧ e < d ∧
    (2 * e + a / 9223372036854775808 < d → St N d (k + 1) (2 * a % 18446744073709551616 + b / 9223372036854775808) (2 * b % 18446744073709551616) (2 * c) (2 * e + a / 9223372036854775808)) ∧
    (d ≤ 2 * e + a / 9223372036854775808 → St N d (k + 1) (2 * a % 18446744073709551616 + b / 9223372036854775808) (2 * b % 18446744073709551616) (2 * c + 1) (2 * e + a / 9223372036854775808 - d)) := by
  obtain ⟨ha, hb, hab, hc, he⟩ := h
  have hT := top_bit (N := N) hk
  have hW := next_word (N := N) (k := k)
  have hbit : N * 2 ^ k % 340282366920938463463374607431768211456 / 170141183460469231731687303715884105728 = a / 9223372036854775808 := by
    rw [← hab]; omega
  rw [hbit] at hT
  have hed : e < d := by rw [he]; exact Nat.mod_lt _ hd
  obtain ⟨s1, s2⟩ := div_step (t := N / 2 ^ (128 - k)) (b := a / 9223372036854775808) hd
  rw [← hc, ← he] at s1
  rw [← he] at s2
  rw [← hT] at s1 s2
  have hbig : N / 2 ^ (128 - (k + 1)) / d < 9223372036854775808 := by
    refine Nat.lt_of_le_of_lt ?_ hq
    exact Nat.div_le_div_right (Nat.div_le_self _ _)
  have hle : 2 * c ≤ N / 2 ^ (128 - (k + 1)) / d := by rw [s1]; exact Nat.le_add_right _ _
  have hword : (2 * a % 18446744073709551616 + b / 9223372036854775808) * 18446744073709551616 + 2 * b % 18446744073709551616 = N * 2 ^ (k + 1) % 340282366920938463463374607431768211456 := by
    rw [hW, ← hab]; exact word_step a b ha hb
  have a1 : a / 9223372036854775808 ≤ 1 := by omega
  have b1 : b / 9223372036854775808 ≤ 1 := by omega
  refine ⟨by omega, a1, b1, hed, fun hlt => ⟨by omega, by omega, hword, ?_, ?_⟩, fun hge => ⟨by omega, by omega, hword, ?_, ?_⟩⟩
  · rw [s1, Nat.div_eq_of_lt hlt]; omega
  · rw [s2, Nat.mod_eq_of_lt hlt]
  · rw [s1, show (2 * e + a / 9223372036854775808) / d = 1 from Nat.div_eq_of_lt_le (by omega) (by omega)]
  · rw [s2, Nat.mod_eq_sub_mod hge, Nat.mod_eq_of_lt (by omega)]
theorem St.start {N d : Nat} (hN : N < 340282366920938463463374607431768211456) : St N d 0 (N / 18446744073709551616) (N % 18446744073709551616) 0 0 := by
  have e : N / 2 ^ 128 = 0 := Nat.div_eq_of_lt hN
  refine ⟨by omega, by omega, ?_, ?_, ?_⟩
  · rw [Nat.pow_zero, Nat.mul_one, Nat.mod_eq_of_lt hN]; omega
  · rw [Nat.sub_zero, e, Nat.zero_div]
  · rw [Nat.sub_zero, e, Nat.zero_mod]
theorem St.done {N d a b c e : Nat} (h : St N d 128 a b c e) : c = N / d := by
  have := h.hc
  simpa using this
theorem or_u64 (a b : Nat) (ha : a < 18446744073709551616) (he : a % 2 = 0) (hb : b ≤ 1) : bits .or .u64 (a : Int) (b : Int) = ((a + b : Nat) : Int) := by
  rw [bits_or_u64_nat a b ha (by omega)]
  obtain ⟨c, rfl⟩ : ∃ c, a = 2 * c := ⟨a / 2, by omega⟩
  have h := Nat.shiftLeft_add_eq_or_of_lt (i := 1) (b := b) (by omega) c
  rw [Nat.shiftLeft_eq, Nat.mul_comm] at h
  rw [h]
theorem or_half (e a : Nat) (he : 2 * e < 18446744073709551616) (h : a / 9223372036854775808 ≤ 1) : bits .or .u64 ((e : Int) * 2) ((a : Int) / 9223372036854775808) = ((2 * e + a / 9223372036854775808 : Nat) : Int) := by
  rw [← or_u64 (2 * e) (a / 9223372036854775808) he (by omega) h]
  congr 1
  rw [Int.natCast_mul, Int.mul_comm]; rfl
theorem or_wrap (a b : Nat) (h : b / 9223372036854775808 ≤ 1) : bits .or .u64 (IntKind.u64.wrap ((a : Int) * 2)) ((b : Int) / 9223372036854775808) = ((2 * a % 18446744073709551616 + b / 9223372036854775808 : Nat) : Int) := by
  rw [← or_u64 (2 * a % 18446744073709551616) (b / 9223372036854775808) (by omega) (by omega) h, IntKind.wrap_u64]
  congr 1
  omega
theorem or_one (c : Nat) (h : 2 * c + 1 < 18446744073709551616) : bits .or .u64 ((c : Int) * 2) 1 = ((2 * c + 1 : Nat) : Int) := by
  rw [← or_u64 (2 * c) 1 (by omega) (by omega) (by omega)]
  congr 1
  rw [Int.natCast_mul, Int.mul_comm]; rfl
theorem wrap_twice (b : Nat) : IntKind.u64.wrap ((b : Int) * 2) = ((2 * b % 18446744073709551616 : Nat) : Int) := by
  rw [IntKind.wrap_u64]; omega
theorem wrap_sub {x k : Nat} (h : k ≤ x) (hx : x < 18446744073709551616) : IntKind.u64.wrap ((x : Int) - (k : Int)) = ((x - k : Nat) : Int) := by
  rw [IntKind.wrap_u64]; omega
set_option maxRecDepth 100000 in
set_option maxHeartbeats 1000000 in
theorem squareOver_any (n d : Int) (m k : Nat) (w : World) (hn : n.natAbs = m) (hd : d = (k : Int)) (hm : m ≤ 35184372088832) (hk : 0 < k) (hk2 : k ≤ 70368744177664) (hq : m * m / k < 9223372036854775808) :
    Calls Try.prog 44 #[.int .i64 n, .int .i64 d] w fun e w' => e = .returned (.int .i64 ((m * m / k : Nat) : Int)) ∧ w = w' := by
  subst hd
  have hneg' : wrap64 (-n) = -n := by unfold wrap64; omega
  have hmax : ∀ ts t w, (Builtin.max_ ts t #[.int .i64 n, .int .i64 (wrap64 (-n))]).run Try.prog w = .ok (.int .i64 (m : Int)) w := by
    intro ts t w
    rw [hneg', run_max_int2]
    by_cases h : n < -n
    · rw [if_pos h, show -n = (m : Int) by omega]
    · rw [if_neg h, show n = (m : Int) by omega]
  clear hneg' hn
  go_enter Try.func44, Try.ntmps44
  go_wp2_with fail
  refine (mul64_any m m _ (by omega) (by omega)).mono ?_
  rintro e w' ⟨rfl, rfl⟩
  have HS : St (m * m) k 0 (m * m / 18446744073709551616) (m * m % 18446744073709551616) 0 0 := St.start (by
    have := Nat.mul_le_mul hm hm
    omega)
  go_wp2
  go_loop [6, 7, 8, 9, 21] (fun h l q r i => ∃ j a b c e : Nat, j ≤ 128 ∧ i = .int .i64 j ∧ h = .int .u64 a ∧ l = .int .u64 b ∧ q = .int .u64 c ∧ r = .int .u64 e ∧ Hid (St (m * m) k j a b c e)) (fun _ _ _ _ i => 128 - (intOf i).toNat)
  case atStart => exact ⟨0, _, _, 0, 0, by omega, rfl, rfl, rfl, rfl, rfl, HS⟩
  case round =>
    obtain ⟨j, a, b, c, e, hj, rfl, rfl, rfl, rfl, rfl, hst⟩ := hrel
    by_cases hlt : j < 128
    · obtain ⟨g1, g2, g3, g4, g5, g6⟩ := hst.out.next hlt hk hq
      have ha := hst.out.ha
      have hb := hst.out.hb
      have O1 := Lib.hid (or_half e a (by omega) g2)
      have O2 := Lib.hid (or_wrap a b g3)
      have O3 := Lib.hid (or_one c g1)
      have O4 := Lib.hid (wrap_twice b)
      go_wp2
      · rename_i hcmp
        rw [O1.out] at hcmp
        have hge : k ≤ 2 * e + a / 9223372036854775808 := by omega
        go_round
        case rel => exact ⟨j + 1, _, _, _, _, by omega, by go_num, congrArg (Value.int .u64) O2.out, congrArg (Value.int .u64) O4.out, congrArg (Value.int .u64) O3.out, congrArg (Value.int .u64) (by rw [O1.out]; exact wrap_sub hge (by omega)), Lib.hid (g6 hge)⟩
        case measure => simp [intOf]; omega
      · rename_i hcmp
        rw [O1.out] at hcmp
        go_round
        case rel => exact ⟨j + 1, _, _, _, _, by omega, by go_num, congrArg (Value.int .u64) O2.out, congrArg (Value.int .u64) O4.out, congrArg (Value.int .u64) (by rw [Int.mul_comm]; rfl), congrArg (Value.int .u64) O1.out, Lib.hid (g5 (by omega))⟩
        case measure => simp [intOf]; omega
    · obtain rfl : j = 128 := by omega
      have HC := Lib.hid hst.out.done
      have hc : c < 9223372036854775808 := by rw [HC.out]; exact hq
      go_wp2
      go_ret
      exact ⟨ret_int (by rw [HC.out, Int.natCast_ediv, Int.natCast_mul]), rfl⟩
end Go.Proofs.Ytcckdckikjbfdaa.Geo
