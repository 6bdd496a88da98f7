/- grid: the reference's leaves. -/
import Derived.Test.YtenacgeahaoglaaDoorGdParse2
import Derived.Lib.ItoaLen
import Derived.WalkSpells
import Derived.WalkLawsBesides
import Derived.Lib.Strings
import Derived.Lib.AppendStr
import Derived.Laws.CopyOwn
import Derived.Laws.BytesString
import Derived.StillTailTactics
namespace Go.Proofs.YtenacgeahaoglaaDoor.Gd
open Go.RowKit Go.Sort
theorem ret_str {a b : List UInt8} (h : a = b) : Ending.returned (.string ⟨a.toArray⟩) = .returned (.string ⟨b.toArray⟩) := by rw [h]
def preDec (n : Nat) : List UInt8 := if n = 0 then [] else Lib.decDigits n
theorem preDec_next (n : Nat) (h : 0 < n) : preDec (n / 10) ++ [UInt8.ofNat (48 + n % 10)] = preDec n := by
  unfold preDec
  rw [if_neg (by omega : ¬ n = 0)]
  by_cases h10 : n < 10
  · rw [if_pos (by omega), Lib.decDigits_one h10, Nat.mod_eq_of_lt h10]; rfl
  · rw [if_neg (by omega)]
    conv => rhs; rw [Lib.decDigits, dif_neg h10]
theorem preDec_first (n : Nat) : preDec (n / 10) ++ [UInt8.ofNat (48 + n % 10)] = Lib.decDigits n := by
  by_cases h : n = 0
  · subst h; rw [Lib.decDigits_one (by decide)]; rfl
  · rw [preDec_next n (by omega), preDec, if_neg h]
theorem dec_piece (d : Nat) (h : d < 10) : (ByteArray.mk #[48, 49, 50, 51, 52, 53, 54, 55, 56, 57]).extract d (d + 1) = ⟨#[UInt8.ofNat (48 + d)]⟩ := by
  have : ∀ d : Fin 10, (ByteArray.mk #[48, 49, 50, 51, 52, 53, 54, 55, 56, 57]).extract d.val (d.val + 1) = ⟨#[UInt8.ofNat (48 + d.val)]⟩ := by decide
  exact this ⟨d, h⟩
theorem str_cons {c d : UInt8} (t : List UInt8) (A : ByteArray) (hA : A = ⟨t.toArray⟩) (h : c = d) : Value.string (ByteArray.mk #[c] ++ A) = .string ⟨(d :: t).toArray⟩ := by
  subst h hA
  congr 1
set_option maxRecDepth 100000 in
set_option maxHeartbeats 1000000 in
theorem digits_any (n : Nat) (w : World) (hn : n < 18446744073709551616) :
    Calls Tryd.prog 52 #[.int .u64 n] w fun e w' => e = .returned (.string ⟨(Lib.decDigits n).toArray⟩) ∧ w = w' := by
  have hmod : n % 10 < 10 := Nat.mod_lt _ (by decide)
  go_enter Tryd.func52, Tryd.ntmps52
  go_wp2
  rw [dec_piece _ hmod]
  go_loop [0, 3] (fun m s => ∃ (k : Nat) (t : List UInt8), m = .int .u64 k ∧ k < 18446744073709551616 ∧ s = .string ⟨t.toArray⟩ ∧ Hid (preDec k ++ t = Lib.decDigits n)) (fun m _ => (intOf m).toNat)
  case atStart => exact ⟨n / 10, [UInt8.ofNat (48 + n % 10)], by simp, by omega, rfl, preDec_first n⟩
  case round =>
    obtain ⟨k, t, rfl, hkl, rfl, hp⟩ := hrel
    by_cases hk : 0 < k
    · have hm : k % 10 < 10 := Nat.mod_lt _ (by decide)
      have ht : t.length ≤ 20 := by
        have h := congrArg List.length hp.out
        rw [List.length_append, Lib.decDigits_length] at h
        have := Lib.nDigits_le20 n hn
        omega
      have n1 : ¬ 9223372036854775807 < 1 + (ByteArray.mk t.toArray).size := by rw [str_size]; omega
      have hp' : Hid (preDec (k / 10) ++ (UInt8.ofNat (48 + k % 10) :: t) = Lib.decDigits n) := by
        have h := hp.out
        rw [← preDec_next k hk, List.append_assoc] at h
        exact h
      have hpiece := dec_piece _ hm
      clear hp
      go_wp2
      go_round
      case rel => exact ⟨k / 10, UInt8.ofNat (48 + k % 10) :: t, by simp, by omega, str_cons _ _ rfl (by simp), hp'⟩
      case measure => simp [intOf]; omega
    · obtain rfl : k = 0 := by omega
      go_wp2
      go_ret
      exact ⟨ret_str hp.out, rfl⟩
set_option maxRecDepth 100000 in
set_option maxHeartbeats 400000 in
theorem decimal_any (n : Nat) (w : World) (hn : n ≤ 9223372036854775807) :
    Calls Tryd.prog 45 #[.int .i64 n] w fun e w' => e = .returned (.string ⟨(Lib.itoa n).toArray⟩) ∧ w = w' := by
  go_enter Tryd.func45, Tryd.ntmps45
  go_wp2_with fail
  refine (digits_any n _ (by omega)).mono ?_
  rintro e w' ⟨rfl, rfl⟩
  go_wp2
  go_ret
  exact ⟨ret_str (by unfold Lib.itoa; rw [if_neg (by omega)]; simp), rfl⟩

theorem decimal_still (n : Nat) (hn : n ≤ 9223372036854775807) (w : World) : Calls Tryd.prog 45 #[.int .i64 n] w fun e w' => e = .returned (.string ⟨(Lib.itoa n).toArray⟩) ∧ w' = w :=
  (decimal_any n w hn).mono fun _ _ ⟨a, b⟩ => ⟨a, b.symm⟩
/-- halving down. -/
theorem half_down : ∀ k : Nat, k ≤ 20 → (2 : Int) ^ (20 - k) / 2 = 2 ^ (20 - (k + 1)) ∨ k = 20 := by
  intro k hk
  by_cases h : k = 20
  · exact .inr h
  · refine .inl ?_
    rw [show 20 - k = (20 - (k + 1)) + 1 by omega, Int.pow_succ]
    omega
set_option maxRecDepth 100000 in
set_option maxHeartbeats 1000000 in
theorem side_any (n : Nat) (hn : n ≤ 17) (w : World) : Calls Tryd.prog 34 #[.int .i64 n] w fun e w' => e = .returned (.int .i64 (sd n)) ∧ w = w' := by
  have hn1 : (n : Int) ≤ 17 := by omega
  go_enter Tryd.func34, Tryd.ntmps34
  go_wp2
  go_loop [3, 4] (fun m i => ∃ k : Nat, k ≤ n ∧ i = .int .i64 k ∧ m = .int .i64 (sd k)) (fun _ i => n - (intOf i).toNat)
  case atStart => exact ⟨0, by omega, rfl, rfl⟩
  case round =>
    obtain ⟨k, hk, rfl, rfl⟩ := hrel
    by_cases hlt : k < n
    · have hd : (sd k).tdiv 2 = sd (k + 1 : Nat) := by
        rw [Int.tdiv_eq_ediv_of_nonneg (by have := sd_pos (z := (k : Int)); omega)]
        rcases half_down k (by omega) with h | h
        · unfold sd; simpa using h
        · omega
      have hbb := sd_bounds (z := ((k + 1 : Nat) : Int)) ⟨by omega, by omega⟩
      obtain ⟨a, ha⟩ : ∃ a, sd (k : Int) = a := ⟨_, rfl⟩
      obtain ⟨b, hb⟩ : ∃ b, sd ((k + 1 : Nat) : Int) = b := ⟨_, rfl⟩
      have HB := Lib.hid hb
      rw [ha, hb] at hd
      rw [hb] at hbb
      rw [ha]
      clear ha hb
      have hw : wrap64 b = b := by unfold wrap64; omega
      go_wp2
      go_round
      case rel => exact ⟨k + 1, by omega, by go_num, by rw [HB.out]⟩
      case measure => simp [intOf]; omega
    · obtain rfl : k = n := by omega
      obtain ⟨a, ha⟩ : ∃ a, sd (k : Int) = a := ⟨_, rfl⟩
      have HA := Lib.hid ha
      rw [ha]
      clear ha
      go_wp2
      go_ret
      exact ⟨ret_int HA.out.symm, rfl⟩
theorem side_still {z : Int} (hz : isZ z) (w : World) : Calls Tryd.prog 34 #[.int .i64 z] w fun e w' => e = .returned (.int .i64 (sd z)) ∧ w' = w := by
  obtain ⟨n, rfl, _, _, h, _⟩ := z_facts hz
  exact (side_any n (by omega) w).mono fun _ _ ⟨a, b⟩ => ⟨a, b.symm⟩
set_option maxRecDepth 100000 in
set_option maxHeartbeats 400000 in
theorem level_still {z : Int} {V : Bool} (hV : decide (isZ z) = V) (w : World) : Calls Tryd.prog 32 #[.int .i64 z] w fun e w' => e = .returned (.bool V) ∧ w' = w := by
  subst hV
  go_enter Tryd.func32, Tryd.ntmps32
  go_wp2
  all_goals
    go_ret
    first
      | (refine ⟨ret_bool (decide_eq_false ?_).symm, rfl⟩; unfold isZ; omega)
      | (refine ⟨ret_bool (dec_eq ?_), rfl⟩; unfold isZ; omega)
set_option maxRecDepth 100000 in
set_option maxHeartbeats 400000 in
theorem refIn_any (p : Pn) : Answers Tryd.prog 33 #[vP p] (.bool (decide (okP p))) := by
  intro w
  unfold vP
  go_enter Tryd.func33, Tryd.ntmps33
  go_wp2
  all_goals
    go_ret
    first
      | (refine ⟨ret_bool (decide_eq_false ?_).symm, alloc1 _ _⟩; unfold okP; omega)
      | (refine ⟨ret_bool (dec_eq ?_), alloc1 _ _⟩; unfold okP; omega)
set_option maxRecDepth 100000 in
set_option maxHeartbeats 400000 in
theorem far_any {c : Int} {V : Bool} (hV : decide (¬ near c) = V) (w : World) : Calls Tryd.prog 42 #[.int .i64 c] w fun e w' => e = .returned (.bool V) ∧ w' = w := by
  subst hV
  go_enter Tryd.func42, Tryd.ntmps42
  go_wp2
  all_goals
    go_ret
    first
      | (refine ⟨ret_bool (decide_eq_true ?_).symm, rfl⟩; unfold near; omega)
      | (refine ⟨ret_bool (dec_eq ?_), rfl⟩; unfold near; omega)
      | (refine ⟨ret_bool ?_, rfl⟩; rw [Bool.eq_iff_iff]; simp only [Bool.or_eq_true, decide_eq_true_iff]; unfold near; omega)
      | (refine ⟨ret_bool ?_, rfl⟩; rw [eq_comm, Bool.not_eq_true', decide_eq_false_iff_not]; unfold near; omega)
set_option maxRecDepth 100000 in
set_option maxHeartbeats 1000000 in
theorem refFloor_still (a s : Int) (hs : 8 ≤ s ∧ s ≤ 1048576) (h1 : -2147483648 ≤ a) (h2 : a ≤ 2147483648) (w : World) :
    Calls Tryd.prog 43 #[.int .i64 a, .int .i64 s] w fun e w' => e = .returned (.int .i64 (a / s)) ∧ w' = w := by
  have hf := floor_of (a := a) (s := s) (by omega)
  have hs0 : s ≠ 0 := by omega
  have hs1 : s ≠ -1 := by omega
  have hb1 : -2147483648 ≤ a.tdiv s ∧ a.tdiv s ≤ 2147483648 := by
    have e := Int.natAbs_tdiv_le_natAbs a s
    have : a.natAbs ≤ 2147483648 := by omega
    generalize a.tdiv s = n at *
    omega
  have h3 := Int.mul_tdiv_add_tmod a s
  have h4 := Int.tmod_lt_of_pos a (show 0 < s by omega)
  have h5 : -s < a.tmod s := by
    have := Int.tmod_lt_of_pos (-a) (show 0 < s by omega)
    rw [Int.neg_tmod] at this
    omega
  rw [Int.mul_comm] at h3
  generalize a / s = q at *
  obtain ⟨n, hn⟩ : ∃ n, a.tdiv s = n := ⟨_, rfl⟩
  rw [hn] at hf hb1 h3
  generalize a.tmod s = r at *
  have hw2 : IntKind.i64.wrap (n * s) = n * s := IntWalk.i64_in _ (by omega)
  have hw4 : wrap64 (n * s) = n * s := by
    generalize n * s = m at *
    unfold wrap64; omega
  have hw3 : IntKind.i64.wrap (n - 1) = n - 1 := IntWalk.i64_in _ (by omega)
  obtain ⟨m, hm⟩ : ∃ m, n * s = m := ⟨_, rfl⟩
  rw [hm] at hf h3
  have hw5 : wrap64 (n * s) = m := hw4.trans hm
  have hw6 : IntKind.i64.wrap (n * s) = m := hw2.trans hm
  clear hw2 hw4 hm
  go_enter Tryd.func43, Tryd.ntmps43
  go_wp2
  all_goals
    go_ret
    refine ⟨ret_int ?_, rfl⟩
    rw [← hf]
    split <;> omega
end Go.Proofs.YtenacgeahaoglaaDoor.Gd
