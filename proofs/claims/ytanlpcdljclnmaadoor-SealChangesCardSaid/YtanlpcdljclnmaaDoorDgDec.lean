/- The reference's decimal numerals by contract: digits, Decimal. -/
import Derived.Test.YtanlpcdljclnmaaDoorDgRef
namespace Go.Proofs.YtanlpcdljclnmaaDoor.Dg
open Go.RowKit
def preDec (n : Nat) : List UInt8 := if n = 0 then [] else Lib.decDigits n
theorem preDec_next (n : Nat) (h : 0 < n) : preDec (n / 10) ++ [UInt8.ofNat (48 + n % 10)] = preDec n := by
  unfold preDec
  rw [if_neg (by omega : ¬ n = 0)]
  by_cases h10 : n < 10
  · rw [if_pos (by omega), Lib.decDigits_one h10, Nat.mod_eq_of_lt h10]; rfl
  · rw [if_neg (by omega)]
    conv => rhs; rw [Lib.decDigits, dif_neg h10]
theorem preDec_first (n : Nat) : preDec (n / 10) ++ [UInt8.ofNat (48 + n % 10)] = Lib.decDigits n := by
  by_cases h : n = 0
  · subst h; rw [Lib.decDigits_one (by decide)]; rfl
  · rw [preDec_next n (by omega), preDec, if_neg h]
theorem dec_piece (d : Nat) (h : d < 10) : (ByteArray.mk #[48, 49, 50, 51, 52, 53, 54, 55, 56, 57]).extract d (d + 1) = ⟨#[UInt8.ofNat (48 + d)]⟩ := by
  have : ∀ d : Fin 10, (ByteArray.mk #[48, 49, 50, 51, 52, 53, 54, 55, 56, 57]).extract d.val (d.val + 1) = ⟨#[UInt8.ofNat (48 + d.val)]⟩ := by decide
  exact this ⟨d, h⟩
theorem str_cons {c d : UInt8} (t : List UInt8) (A : ByteArray) (hA : A = ⟨t.toArray⟩) (h : c = d) : Value.string (ByteArray.mk #[c] ++ A) = .string ⟨(d :: t).toArray⟩ := by
  subst h hA
  congr 1
set_option maxRecDepth 100000 in
set_option maxHeartbeats 1000000 in
theorem digits_any (n : Nat) (w : World) (hn : n < 18446744073709551616) :
    Calls Tryd.prog 42 #[.int .u64 n] w fun e w' => e = .returned (.string ⟨(Lib.decDigits n).toArray⟩) ∧ w = w' := by
  have hmod : n % 10 < 10 := Nat.mod_lt _ (by decide)
  go_enter Tryd.func42, Tryd.ntmps42
  go_wp2
  rw [dec_piece _ hmod]
  go_loop [0, 3] (fun m s => ∃ (k : Nat) (t : List UInt8), m = .int .u64 k ∧ k < 18446744073709551616 ∧ s = .string ⟨t.toArray⟩ ∧ Hid (preDec k ++ t = Lib.decDigits n)) (fun m _ => (intOf m).toNat)
  case atStart => exact ⟨n / 10, [UInt8.ofNat (48 + n % 10)], by simp, by omega, rfl, preDec_first n⟩
  case round =>
    obtain ⟨k, t, rfl, hkl, rfl, hp⟩ := hrel
    by_cases hk : 0 < k
    · have hm : k % 10 < 10 := Nat.mod_lt _ (by decide)
      have ht : t.length ≤ 20 := by
        have h := congrArg List.length hp.out
        rw [List.length_append, Lib.decDigits_length] at h
        have := Lib.nDigits_le20 n hn
        omega
      have n1 : ¬ 9223372036854775807 < 1 + (ByteArray.mk t.toArray).size := by rw [str_len]; omega
      have hp' : Hid (preDec (k / 10) ++ (UInt8.ofNat (48 + k % 10) :: t) = Lib.decDigits n) := by
        have h := hp.out
        rw [← preDec_next k hk, List.append_assoc] at h
        exact h
      have hpiece := dec_piece _ hm
      clear hp
      go_wp2
      go_round
      case rel => exact ⟨k / 10, UInt8.ofNat (48 + k % 10) :: t, by simp, by omega, str_cons _ _ rfl (by simp), hp'⟩
      case measure => simp [intOf]; omega
    · obtain rfl : k = 0 := by omega
      go_wp2
      go_ret
      exact ⟨ret_str hp.out, rfl⟩
set_option maxRecDepth 100000 in
set_option maxHeartbeats 400000 in
theorem decimal_any (n : Nat) (w : World) (hn : n ≤ 9223372036854775807) :
    Calls Tryd.prog 28 #[.int .i64 n] w fun e w' => e = .returned (.string ⟨(Lib.itoa n).toArray⟩) ∧ w = w' := by
  go_enter Tryd.func28, Tryd.ntmps28
  go_wp2_with fail
  refine (digits_any n _ (by omega)).mono ?_
  rintro e w' ⟨rfl, rfl⟩
  go_wp2
  go_ret
  exact ⟨ret_str (by unfold Lib.itoa; rw [if_neg (by omega)]; simp), rfl⟩
end Go.Proofs.YtanlpcdljclnmaaDoor.Dg
