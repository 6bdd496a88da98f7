/- The reference's Digit, Is, Sum and List by contract. -/
import Derived.Test.YtanlpcdljclnmaaDoorDgRefJoin
namespace Go.Proofs.YtanlpcdljclnmaaDoor.Dg
open Go.RowKit
def digv (c : UInt8) : Int := if 48 ≤ (c.toNat : Int) ∧ (c.toNat : Int) ≤ 57 then (c.toNat : Int) - 48 else if 97 ≤ (c.toNat : Int) ∧ (c.toNat : Int) ≤ 102 then (c.toNat : Int) - 97 + 10 else -1
theorem digv_neg (c : UInt8) : (digv c < 0) = (isHexB c = false) := by
  have h : (digv c < 0) ↔ ¬ isHexB c = true := by
    unfold digv isHexB
    simp only [Bool.or_eq_true, Bool.and_eq_true, decide_eq_true_eq]
    split
    · omega
    · split <;> omega
  rw [h, Bool.not_eq_true]
set_option maxRecDepth 100000 in
set_option maxHeartbeats 400000 in
theorem refdigit_any (c : UInt8) (w : World) :
    Calls Tryd.prog 43 #[.int .u8 c.toNat] w fun e w' => e = .returned (.int .i64 (digv c)) ∧ w = w' := by
  have hx := c.toNat_lt
  go_enter Tryd.func43, Tryd.ntmps43
  go_wp2
  all_goals go_ret
  all_goals exact ⟨ret_int (by unfold digv; first | (rw [if_pos (by omega)]) | (rw [if_neg (by omega), if_pos (by omega)]) | (rw [if_neg (by omega), if_neg (by omega)])), rfl⟩
theorem hex_piece (d : Nat) (h : d < 16) : (ByteArray.mk #[48, 49, 50, 51, 52, 53, 54, 55, 56, 57, 97, 98, 99, 100, 101, 102]).extract d (d + 1) = ⟨#[hexd d]⟩ := by
  have : ∀ d : Fin 16, (ByteArray.mk #[48, 49, 50, 51, 52, 53, 54, 55, 56, 57, 97, 98, 99, 100, 101, 102]).extract d.val (d.val + 1) = ⟨#[hexd d.val]⟩ := by decide
  exact this ⟨d, h⟩
theorem bl_small (l : List UInt8) (p j : Nat) (hj : j < 8) : bl l p j < 72057594037927936 := by
  have h1 := bl_lt l p j
  have h3 : 256 ^ j ≤ 256 ^ 7 := Nat.pow_le_pow_right (by decide) (by omega)
  have h4 : (256 : Nat) ^ 7 = 72057594037927936 := by decide
  exact Nat.lt_of_lt_of_le h1 (h4 ▸ h3)
theorem wrap_small (x : Nat) (h : x < 18446744073709551616) : IntKind.u64.wrap (x : Int) = (x : Int) := by
  rw [IntKind.wrap_u64]; omega
theorem times256 {x c : Nat} (h : x < 72057594037927936) (hc : c < 256) : x * 256 + c < 18446744073709551616 := by omega
theorem bl_fit (l : List UInt8) (p j : Nat) (hj : j < 8) : IntKind.u64.wrap ((bl l p j : Int) * 256) = ((bl l p j * 256 : Nat) : Int) := by
  have h := times256 (c := 0) (bl_small l p j hj) (by decide)
  rw [Nat.add_zero] at h
  have e := wrap_small _ h
  rw [Int.natCast_mul] at e
  rw [Int.natCast_mul]
  exact e
theorem bl_next (l : List UInt8) (p j : Nat) (hj : j < 8) : IntKind.u64.wrap (IntKind.u64.wrap ((bl l p j : Int) * 256) + IntKind.u64.wrap ((l.getD (p + j) 0).toNat : Int)) = ((bl l p (j + 1) : Nat) : Int) := by
  have h2 := byte_lt (l.getD (p + j) 0)
  have h3 := times256 (bl_small l p j hj) h2
  rw [bl_fit l p j hj, wrap_small _ (Nat.lt_trans h2 (by decide)), ← Int.natCast_add, wrap_small _ h3]
  rfl
theorem bl_more (l : List UInt8) (p j : Nat) (hj : j < 8) (hl : l.length ≤ p + j) : IntKind.u64.wrap ((bl l p j : Int) * 256) = ((bl l p (j + 1) : Nat) : Int) := by
  have h0 : (0 : UInt8).toNat = 0 := rfl
  rw [bl_fit l p j hj, bl, getD_long hl, h0, Nat.add_zero]
theorem refmix_of (a : Int) (x : Nat) (w : World) (h : a = (x : Int)) :
    Calls Tryd.prog 41 #[.int .u64 a] w fun e w' => e = .returned (.int .u64 (mixN x)) ∧ w = w' := by
  subst h; exact refmix_any x w
set_option maxRecDepth 100000 in
set_option maxHeartbeats 2000000 in
theorem refsum_any (s : ByteArray) (w : World) (hs : s.size ≤ 100000) :
    Calls Tryd.prog 25 #[.string s] w fun e w' => e = .returned (.string ⟨(dsum s.data.toList).toArray⟩) ∧ w = w' := by
  have hlm : s.data.toList.length < M := by rw [len_data]; unfold M; omega
  have HL := Lib.hid hlm
  clear hlm
  go_enter Tryd.func25, Tryd.ntmps25
  go_wp2
  go_loop [3, 4] (fun n i => ∃ k : Nat, k ≤ s.size / 8 + 1 ∧ i = .int .i64 (8 * (k : Int)) ∧ n = .int .u64 (st s.data.toList k)) (fun _ i => s.size + 8 - (intOf i).toNat)
  case atStart => exact ⟨0, by omega, by simp, val_int (by rw [st, len_data, start_eq s.size (by omega)])⟩
  case round =>
    obtain ⟨k, hk, rfl, rfl⟩ := hrel
    by_cases hlt : 8 * k ≤ s.size
    · go_wp2
      go_loop [5, 6] (fun b i => ∃ j : Nat, j ≤ 8 ∧ i = .int .i64 (8 * (k : Int) + j) ∧ b = .int .u64 (bl s.data.toList (8 * k) j)) (fun _ i => 8 * k + 8 - (intOf i).toNat)
      case atStart => exact ⟨0, by omega, by simp, rfl⟩
      case round =>
        obtain ⟨j, hj, rfl, rfl⟩ := hrel
        by_cases hj8 : j < 8
        · by_cases hin : 8 * k + j < s.size
          · have hb : Hid (IntKind.u64.wrap (IntKind.u64.wrap ((bl s.data.toList (8 * k) j : Int) * 256) + IntKind.u64.wrap (s[8 * k + j].toNat : Int)) = ((bl s.data.toList (8 * k) (j + 1) : Nat) : Int)) := by
              have h := bl_next s.data.toList (8 * k) j hj8
              rw [List.getD_eq_getElem?_getD, List.getElem?_eq_getElem (by rw [len_data]; exact hin), Option.getD_some] at h
              exact h
            have hy : (8 * (k : Int) + (j : Int)).toNat = 8 * k + j := by omega
            go_wp2
            go_round
            case rel => exact ⟨j + 1, by omega, val_int (by omega), val_int hb.out⟩
            case measure => simp [intOf]; omega
          · have hb := bl_more s.data.toList (8 * k) j hj8 (by rw [len_data]; omega)
            go_wp2
            go_round
            case rel => exact ⟨j + 1, by omega, val_int (by omega), rfl⟩
            case measure => simp [intOf]; omega
        · obtain rfl : j = 8 := by omega
          have hk1 : k + 1 ≤ s.size / 8 + 1 := by omega
          go_wp2_with fail
          refine (refmix_of _ (st s.data.toList k ^^^ bl s.data.toList (8 * k) 8) _ ?hm1).mono ?hm2
          case hm1 => exact u64_xor_nat _ _ (st_lt _ _ HL.out) (bl8_lt _ _)
          case hm2 =>
            rintro e w' ⟨rfl, rfl⟩
            go_wp2
            go_round
            case rel => exact ⟨k + 1, hk1, val_int (by omega), rfl⟩
            case measure => simp [intOf]; omega
    · obtain rfl : k = s.size / 8 + 1 := by omega
      have hx := st_lt s.data.toList (s.size / 8 + 1) HL.out
      have hfin : Hid (dsum s.data.toList = hexN (st s.data.toList (s.size / 8 + 1)) 16) := by
        show _ = _
        unfold dsum
        rw [len_data]
      go_wp2
      generalize st s.data.toList (s.size / 8 + 1) = x at *
      unfold M at hx
      go_loop [3, 7, 8] (fun n t i => ∃ j : Nat, j ≤ 16 ∧ i = .int .i64 j ∧ n = .int .u64 ((x / 16 ^ j : Nat) : Int) ∧ t = .string ⟨(hexN x j).toArray⟩) (fun _ _ i => 16 - (intOf i).toNat)
      case atStart => exact ⟨0, by omega, rfl, by simp, rfl⟩
      case round =>
        obtain ⟨j, hj, rfl, rfl, rfl⟩ := hrel
        by_cases hj16 : j < 16
        · have hy16 : x / 16 ^ (j + 1) = x / 16 ^ j / 16 := by rw [Nat.pow_succ, Nat.div_div_eq_div_mul]
          have hyl : x / 16 ^ j < 18446744073709551616 := Nat.lt_of_le_of_lt (Nat.div_le_self _ _) hx
          have hh : Hid (hexN x (j + 1) = hexd (x / 16 ^ j % 16) :: hexN x j) := rfl
          have HY := Lib.hid hy16
          clear hy16
          generalize x / 16 ^ j = y at *
          have hm : y % 16 < 16 := Nat.mod_lt _ (by decide)
          have hpiece := hex_piece _ hm
          have n1 : ¬ 9223372036854775807 < 1 + (ByteArray.mk (hexN x j).toArray).size := by rw [str_len, hexN_length]; omega
          go_wp2
          go_round
          case rel => exact ⟨j + 1, by omega, by go_num, val_int (by rw [HY.out]; simp), by rw [hh.out]; exact str_cons _ _ rfl rfl⟩
          case measure => simp [intOf]; omega
        · obtain rfl : j = 16 := by omega
          go_wp2
          go_ret
          exact ⟨ret_str hfin.out.symm, rfl⟩
end Go.Proofs.YtanlpcdljclnmaaDoor.Dg
