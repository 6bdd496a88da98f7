/- geom.Root and the reference's Root, by contract. -/
import Derived.Test.YtcckdckikjbfdaaGmOver
import Derived.Deep.CutRange
namespace Go.Proofs.Ytcckdckikjbfdaa.Geo
open Go.RowKit Go.Sort
/-- The bits of a root, from the greatest one: r is a multiple of 2 ^ j, and the root lies from r to r + 2 ^ j. -/
structure Rt (n j r : Nat) : Prop where
  lo : r * r ≤ n
  hi : n < (r + 2 ^ j) * (r + 2 ^ j)
  mul : r % 2 ^ j = 0
  top : r + 2 ^ j ≤ 4294967296
theorem Rt.start {n : Nat} (h : n < 18446744073709551616) : Rt n 32 0 := ⟨by omega, by simpa using h, by simp, by decide⟩
theorem Rt.next {n j r : Nat} (h : Rt n (j + 1) r) : r + 2 ^ j < 4294967296 ∧ (r + 2 ^ j) * (r + 2 ^ j) < 18446744073709551616 ∧
    ((r + 2 ^ j) * (r + 2 ^ j) ≤ n → Rt n j (r + 2 ^ j)) ∧ (n < (r + 2 ^ j) * (r + 2 ^ j) → Rt n j r) := by
  obtain ⟨lo, hi, mul, top⟩ := h
  rw [Nat.pow_succ] at hi mul top
  have hp := Nat.two_pow_pos j
  obtain ⟨p, hpe⟩ : ∃ p, 2 ^ j = p := ⟨_, rfl⟩
  rw [hpe] at hi mul top hp ⊢
  have m1 : r % p = 0 := by
    rw [← Nat.mod_mul_right_mod r p 2, mul]; simp
  have l1 : r + p < 4294967296 := by omega
  refine ⟨l1, ?_, fun h => ⟨h, ?_, ?_, by rw [hpe]; omega⟩, fun h => ⟨lo, by rw [hpe]; exact h, by rw [hpe]; exact m1, by rw [hpe]; omega⟩⟩
  · have := Nat.mul_le_mul (show r + p ≤ 4294967295 by omega) (show r + p ≤ 4294967295 by omega)
    omega
  · rw [hpe, show r + p + p = r + p * 2 by omega]; exact hi
  · rw [hpe, Nat.add_mod_right]; exact m1
theorem Rt.done {n r : Nat} (h : Rt n 0 r) : IsRoot (n : Int) (r : Int) := by
  obtain ⟨lo, hi, _, _⟩ := h
  refine .inr ⟨by omega, by exact_mod_cast lo, ?_⟩
  have : (n : Int) < ((r + 2 ^ 0 : Nat) : Int) * ((r + 2 ^ 0 : Nat) : Int) := by exact_mod_cast hi
  simpa using this
theorem or_bit {r i : Nat} (hr : r % 2 ^ (i + 1) = 0) (h : r < 18446744073709551616) (hi : i ≤ 31) : bits .or .u64 (r : Int) (IntKind.u64.wrap (2 ^ i)) = ((r + 2 ^ i : Nat) : Int) := by
  have hp : 2 ^ i ≤ 2 ^ 31 := Nat.pow_le_pow_right (by decide) hi
  have e : IntKind.u64.wrap (2 ^ i) = ((2 ^ i : Nat) : Int) := by
    rw [IntKind.wrap_u64, show ((2 : Int) ^ i) = ((2 ^ i : Nat) : Int) by rw [Int.natCast_pow]; rfl]
    omega
  rw [e, bits_or_u64_nat r (2 ^ i) h (by omega)]
  congr 1
  have hlt : 2 ^ i < 2 ^ (i + 1) := by rw [Nat.pow_succ]; have := Nat.two_pow_pos i; omega
  have h2 := Nat.shiftLeft_add_eq_or_of_lt hlt (r / 2 ^ (i + 1))
  rw [Nat.shiftLeft_eq, show r / 2 ^ (i + 1) * 2 ^ (i + 1) = r by have := Nat.div_add_mod r (2 ^ (i + 1)); rw [hr, Nat.mul_comm] at this; omega] at h2
  exact h2.symm
theorem wrap_sq {x : Nat} (h : x * x < 18446744073709551616) : IntKind.u64.wrap ((x : Int) * (x : Int)) = ((x * x : Nat) : Int) := by
  rw [IntKind.wrap_u64, ← Int.natCast_mul]; omega
set_option maxRecDepth 100000 in
set_option maxHeartbeats 1000000 in
theorem root_any (n : Int) (w : World) (h1 : -9223372036854775808 ≤ n) (h2 : n ≤ 9223372036854775807) :
    Calls Try.prog 23 #[.int .i64 n] w fun e w' => ∃ r, e = .returned (.int .i64 r) ∧ IsRoot n r ∧ w = w' := by
  by_cases h0 : n < 0
  · go_enter Try.func23, Try.ntmps23
    go_wp2
    go_ret
    exact ⟨0, rfl, .inl ⟨h0, rfl⟩, rfl⟩
  · obtain ⟨m, rfl⟩ : ∃ m : Nat, n = m := ⟨n.toNat, by omega⟩
    have HS : Rt m 32 0 := Rt.start (by omega)
    go_enter Try.func23, Try.ntmps23
    go_wp2
    go_loop [3, 8] (fun q i => ∃ j r : Nat, j ≤ 32 ∧ i = .int .i64 j ∧ q = .int .u64 r ∧ Hid (Rt m (32 - j) r)) (fun _ i => 32 - (intOf i).toNat)
    case atStart => exact ⟨0, 0, by omega, rfl, rfl, HS⟩
    case round =>
      obtain ⟨j, r, hj, rfl, rfl, hst⟩ := hrel
      by_cases hlt : j < 32
      · have hst' : Rt m ((31 - j) + 1) r := by have := hst.out; rwa [show 32 - j = 31 - j + 1 by omega] at this
        obtain ⟨g1, g2, g3, g4⟩ := hst'.next
        have HM := Lib.hid (or_bit (i := 31 - j) hst'.mul (Nat.lt_of_le_of_lt (Nat.le_trans (Nat.le_add_right _ _) hst'.top) (by decide)) (by omega))
        have HQ := Lib.hid (wrap_sq g2)
        clear hst'
        go_wp2
        · rename_i hcmp
          rw [HM.out, HQ.out] at hcmp
          go_round
          case rel => exact ⟨j + 1, _, by omega, by go_num, congrArg (Value.int .u64) HM.out, Lib.hid (by rw [show 32 - (j + 1) = 31 - j by omega]; exact g3 (by exact_mod_cast hcmp))⟩
          case measure => simp [intOf]; omega
        · rename_i hcmp
          rw [HM.out, HQ.out] at hcmp
          go_round
          case rel => exact ⟨j + 1, r, by omega, by go_num, rfl, Lib.hid (by rw [show 32 - (j + 1) = 31 - j by omega]; exact g4 (by exact_mod_cast hcmp))⟩
          case measure => simp [intOf]; omega
      · obtain rfl : j = 32 := by omega
        have HD := Lib.hid ((show Rt m 0 r from hst.out).done)
        have ht := hst.out.top
        go_wp2
        go_ret
        exact ⟨(r : Int), ret_int (by simp), HD.out, rfl⟩
theorem down (i : Nat) : (intOf (Value.int .i64 ((i : Int) - 1)) + 1).toNat < (intOf (Value.int .i64 (i : Int)) + 1).toNat := by simp only [intOf]; omega
theorem two_le {i : Nat} (hi : i ≤ 31) : 2 ^ i ≤ 2147483648 := Nat.pow_le_pow_right (by decide) hi
theorem two_wrap {i : Nat} (hi : i ≤ 31) : wrap64 (2 ^ i) = ((2 ^ i : Nat) : Int) := by
  have := two_le hi
  rw [show ((2 : Int) ^ i) = ((2 ^ i : Nat) : Int) by rw [Int.natCast_pow]; rfl]
  generalize 2 ^ i = p at *
  unfold wrap64
  omega
theorem add_wrap {x : Nat} (h : x < 4294967296) : wrap64 (x : Int) = (x : Int) := by unfold wrap64; omega
theorem two_wrap2 {i : Nat} (hi : i ≤ 31) : wrap64 ((2 ^ i : Nat) : Int) = ((2 ^ i : Nat) : Int) := add_wrap (by have := two_le hi; omega)
theorem two_sq {i : Nat} (hi : i ≤ 31) : wrap64 (((2 ^ i : Nat) : Int) * ((2 ^ i : Nat) : Int)) = ((2 ^ i * 2 ^ i : Nat) : Int) := by
  have h := two_le hi
  have := Nat.mul_le_mul h h
  rw [← Int.natCast_mul]
  unfold wrap64
  omega
theorem sq_wrap (x : Nat) : wrap64 ((x : Int) * (x : Int)) = ((x * x : Nat) : Int) ∨ 3037000499 < x := by
  by_cases h : x ≤ 3037000499
  · left
    have := Nat.mul_le_mul h h
    rw [← Int.natCast_mul]
    generalize x * x = y at *
    unfold wrap64
    omega
  · right; omega
theorem Rt.small {n j r : Nat} (h : Rt n (j + 1) r) (hn : n < 9223372036854775808) (hb : 3037000499 < r + 2 ^ j) : Rt n j r := by
  refine h.next.2.2.2 ?_
  have := Nat.mul_le_mul (show 3037000500 ≤ r + 2 ^ j from hb) (show 3037000500 ≤ r + 2 ^ j from hb)
  omega
theorem Rt.le {n r : Nat} (h : Rt n 0 r) (hn : n < 9223372036854775808) : r ≤ 3037000499 := by
  have := h.lo
  by_cases g : 3037000500 ≤ r
  · have := Nat.mul_le_mul g g
    omega
  · omega
set_option maxRecDepth 100000 in
set_option maxHeartbeats 1000000 in
theorem refroot_neg (n : Int) (w : World) (h1 : -9223372036854775808 ≤ n) (h2 : n ≤ 9223372036854775807) (h0 : n < 0) :
    Calls Try.prog 24 #[.int .i64 n] w fun e w' => ∃ r, e = .returned (.int .i64 r) ∧ IsRoot n r ∧ w = w' := by
  go_enter Try.func24, Try.ntmps24
  go_wp2
  go_loop [3, 4] (fun q i => ∃ k : Nat, k ≤ 32 ∧ i = .int .i64 ((k : Int) - 1) ∧ q = .int .i64 0) (fun _ i => ((intOf i) + 1).toNat)
  case atStart => exact ⟨32, by omega, rfl, rfl⟩
  case round =>
    obtain ⟨k, hk, rfl, rfl⟩ := hrel
    match k, hk with
    | 0, _ =>
      go_wp2
      go_ret
      exact ⟨0, rfl, .inl ⟨h0, rfl⟩, rfl⟩
    | i + 1, hk =>
      rw [show ((i + 1 : Nat) : Int) - 1 = (i : Int) by omega]
      have hk' : i ≤ 31 := by omega
      have hp := two_le hk'
      go_upto_region 6 with fail
      rw [two_wrap hk', two_wrap2 hk']
      have HQ := Lib.hid (sq_wrap (2 ^ i))
      generalize 2 ^ i = x at *
      go_wp2
      all_goals first
        | (go_round
           case rel => exact ⟨i, by omega, rfl, rfl⟩
           case measure => exact down i)
        | (exfalso
           rename_i hb hc
           rcases HQ.out with hq | hq
           · rw [hq] at hc
             have := Int.natCast_nonneg (x * x)
             omega
           · omega)
set_option maxRecDepth 100000 in
set_option maxHeartbeats 1000000 in
theorem refroot_pos (m : Nat) (w : World) (h2 : (m : Int) ≤ 9223372036854775807) :
    Calls Try.prog 24 #[.int .i64 m] w fun e w' => ∃ r, e = .returned (.int .i64 r) ∧ IsRoot (m : Int) r ∧ w = w' := by
  have HS : Rt m 32 0 := Rt.start (by omega)
  have hm : m < 9223372036854775808 := by omega
  go_enter Try.func24, Try.ntmps24
  go_wp2
  go_loop [3, 4] (fun q i => ∃ k r : Nat, k ≤ 32 ∧ i = .int .i64 ((k : Int) - 1) ∧ q = .int .i64 r ∧ Hid (Rt m k r)) (fun _ i => ((intOf i) + 1).toNat)
  case atStart => exact ⟨32, 0, by omega, rfl, rfl, HS⟩
  case round =>
    obtain ⟨k, r, hk, rfl, rfl, hst⟩ := hrel
    match k, hk with
    | 0, _ =>
      go_wp2
      go_ret
      exact ⟨(r : Int), rfl, hst.out.done, rfl⟩
    | i + 1, hk =>
      rw [show ((i + 1 : Nat) : Int) - 1 = (i : Int) by omega]
      have hk' : i ≤ 31 := by omega
      have hst' : Hid (Rt m (i + 1) r) := hst
      have ht := hst'.out.next
      have HP := Lib.hid (two_wrap hk')
      have HN := Lib.hid (show wrap64 ((r : Int) + ((2 ^ i : Nat) : Int)) = ((r + 2 ^ i : Nat) : Int) by rw [← Int.natCast_add]; exact add_wrap ht.1)
      have HQ := Lib.hid (show wrap64 (((r + 2 ^ i : Nat) : Int) * ((r + 2 ^ i : Nat) : Int)) = (((r + 2 ^ i) * (r + 2 ^ i) : Nat) : Int) ∨ 3037000499 < r + 2 ^ i from sq_wrap _)
      have HG := Lib.hid ht
      clear hst ht
      go_upto_region 6 with fail
      rw [HP.out, HN.out]
      have HS := Lib.hid (Rt.small hst'.out hm)
      generalize r + 2 ^ i = x at *
      go_wp2
      all_goals first
        | (rename_i hb hc
           rcases HQ.out with hq | hq
           · rw [hq] at hc
             go_round
             case rel => exact ⟨i, r, by omega, rfl, rfl, Lib.hid (HG.out.2.2.2 (by exact_mod_cast hc))⟩
             case measure => exact down i
           · exfalso; omega)
        | (rename_i hb hc
           rcases HQ.out with hq | hq
           · rw [hq] at hc
             go_round
             case rel => exact ⟨i, x, by omega, rfl, rfl, Lib.hid (HG.out.2.2.1 (by exact_mod_cast hc))⟩
             case measure => exact down i
           · exfalso; omega)
        | (rename_i hb
           go_round
           case rel => exact ⟨i, r, by omega, rfl, rfl, Lib.hid (HS.out (by omega))⟩
           case measure => exact down i)
theorem refroot_any (n : Int) (w : World) (h1 : -9223372036854775808 ≤ n) (h2 : n ≤ 9223372036854775807) :
    Calls Try.prog 24 #[.int .i64 n] w fun e w' => ∃ r, e = .returned (.int .i64 r) ∧ IsRoot n r ∧ w = w' := by
  by_cases h0 : n < 0
  · exact refroot_neg n w h1 h2 h0
  · obtain ⟨m, rfl⟩ : ∃ m : Nat, n = m := ⟨n.toNat, by omega⟩
    exact refroot_pos m w h2
end Go.Proofs.Ytcckdckikjbfdaa.Geo
