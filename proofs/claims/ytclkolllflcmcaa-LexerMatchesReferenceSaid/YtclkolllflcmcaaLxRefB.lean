/- The reference: has, gap, Gaps, Name. -/
import Derived.Test.YtclkolllflcmcaaLxPartsWalk
namespace Go.Proofs.Ytclkolllflcmcaa.Lx
open Go.RowKit
def hasB (l : B) (c : UInt8) : Bool := l.any (· == c)
set_option maxRecDepth 100000 in
set_option maxHeartbeats 400000 in
theorem has_any (s : ByteArray) (c : UInt8) (w : World) (hm : s.size ≤ 1000) :
    Calls Try.prog 38 #[.string s, .int .u8 c.toNat] w fun e w' => e = .returned (.bool (hasB s.data.toList c)) ∧ w = w' := by
  go_enter Try.func38, Try.ntmps38
  go_wp2
  go_loop [5] (fun i => ∃ k : Nat, k ≤ s.size ∧ i = .int .i64 k ∧ Hid (hasB (s.data.toList.take k) c = false)) (fun i => s.size - (intOf i).toNat)
  case atStart => exact ⟨0, Nat.zero_le _, rfl, Lib.hid rfl⟩
  case round =>
    obtain ⟨k, hk, rfl, hall⟩ := hrel
    by_cases hlt : k < s.size
    · have ht := take_snoc s k hlt
      by_cases he : s[k] = c
      · have e1 : ((s[k].toNat : Int) == (c.toNat : Int)) = true := by rw [he]; simp
        have HF := Lib.hid (show hasB s.data.toList c = true by
          unfold hasB
          rw [List.any_eq_true]
          exact ⟨s[k], by have := List.getElem_mem (l := s.data.toList) (n := k) (by rw [len_data]; exact hlt); exact this, by rw [he]; simp⟩)
        clear he ht
        go_wp2
        go_ret
        exact ⟨ret_bool HF.out.symm, rfl⟩
      · have e1 : ((s[k].toNat : Int) == (c.toNat : Int)) = false := by
          rw [beq_eq_false_iff_ne]
          intro e
          exact he (UInt8.toNat_inj.mp (by omega))
        have HN := Lib.hid (show hasB (s.data.toList.take (k + 1)) c = false by
          have := hall.out
          unfold hasB at this ⊢
          rw [ht, List.any_append, this]
          simpa using he)
        clear he ht
        go_wp2
        go_round
        case rel => exact ⟨k + 1, by omega, by go_num, HN⟩
        case measure => simp [intOf]; omega
    · obtain rfl : k = s.size := by omega
      have HA := hall.out
      rw [List.take_of_length_le (by rw [len_data]; exact Nat.le_refl _)] at HA
      have HA2 := Lib.hid HA
      clear HA hall
      go_wp2
      go_ret
      exact ⟨ret_bool HA2.out.symm, rfl⟩
theorem has_blk (c : UInt8) (w : World) : Calls Try.prog 38 #[.string ⟨#[32, 9, 10]⟩, .int .u8 c.toNat] w fun e w' => e = .returned (.bool (isBlk c)) ∧ w = w' := by
  have h := has_any ⟨#[32, 9, 10]⟩ c w (by decide)
  have e : hasB (ByteArray.mk #[32, 9, 10]).data.toList c = isBlk c := (all_u8 (P := fun c => (([32, 9, 10] : B).any (· == c)) = isBlk c) (by decide +kernel)) c
  rw [e] at h
  exact h
theorem has_sym (c : UInt8) (w : World) : Calls Try.prog 38 #[.string ⟨#[59, 44, 46, 58, 40, 41, 123, 125, 91, 93, 61, 60, 62, 47, 45]⟩, .int .u8 c.toNat] w fun e w' => e = .returned (.bool (isSym c)) ∧ w = w' := by
  have h := has_any ⟨#[59, 44, 46, 58, 40, 41, 123, 125, 91, 93, 61, 60, 62, 47, 45]⟩ c w (by decide)
  have e : hasB (ByteArray.mk #[59, 44, 46, 58, 40, 41, 123, 125, 91, 93, 61, 60, 62, 47, 45]).data.toList c = isSym c := (all_u8 (P := fun c => (([59, 44, 46, 58, 40, 41, 123, 125, 91, 93, 61, 60, 62, 47, 45] : B).any (· == c)) = isSym c) (by decide +kernel)) c
  rw [e] at h
  exact h
theorem has_esc (c : UInt8) (w : World) : Calls Try.prog 38 #[.string ⟨#[92, 34, 110]⟩, .int .u8 c.toNat] w fun e w' => e = .returned (.bool (prk [c])) ∧ w = w' := by
  have h := has_any ⟨#[92, 34, 110]⟩ c w (by decide)
  have e : hasB (ByteArray.mk #[92, 34, 110]).data.toList c = prk [c] := (all_u8 (P := fun c => (([92, 34, 110] : B).any (· == c)) = prk [c]) (by decide +kernel)) c
  rw [e] at h
  exact h
theorem u8_t (c : UInt8) (k : Nat) (hk : k < 256) (h : c = UInt8.ofNat k) : ((c.toNat : Int) == (k : Int)) = true := by rw [u8_beq c k hk, h]; simp
theorem u8_f (c : UInt8) (k : Nat) (hk : k < 256) (h : c ≠ UInt8.ofNat k) : ((c.toNat : Int) == (k : Int)) = false := by rw [u8_beq c k hk, beq_eq_false_iff_ne]; exact h
set_option maxRecDepth 100000 in
set_option maxHeartbeats 1000000 in
theorem gap_any (s : ByteArray) (i : Nat) (w : World) (hi : i ≤ s.size) (hm : s.size ≤ 100000) :
    Calls Try.prog 25 #[.string s, .int .i64 i] w fun e w' => e = .returned (.int .i64 ((i + gp false (s.data.toList.drop i) : Nat) : Int)) ∧ w = w' := by
  obtain ⟨n, hn⟩ : ∃ n, i + gp false (s.data.toList.drop i) = n := ⟨_, rfl⟩
  rw [hn]
  have HN := Lib.hid hn
  clear hn
  go_enter Try.func25, Try.ntmps25
  go_wp2
  go_loop [1] (fun a => ∃ k : Nat, k ≤ s.size ∧ a = .int .i64 k ∧ Hid (k + gp false (s.data.toList.drop k) = n)) (fun a => s.size - (intOf a).toNat)
  case atStart => exact ⟨i, hi, rfl, HN⟩
  case round =>
    obtain ⟨k, hk, rfl, HK⟩ := hrel
    clear HN
    by_cases hlt : k < s.size
    · have hd := drop_at s k hlt
      have HK2 := HK.out
      rw [hd, gp] at HK2
      cases hb : isBlk s[k] with
      | true =>
        rw [if_pos hb] at HK2
        have HK3 := Lib.hid (show k + 1 + gp false (s.data.toList.drop (k + 1)) = n by omega)
        have KB := fun W => has_blk s[k] W
        rw [hb] at KB
        clear HK2 HK hd hb
        go_wp2_with ((with_reducible refine (KB _).mono ?_); rintro e w' ⟨rfl, rfl⟩)
        go_round
        case rel => exact ⟨k + 1, by omega, by go_num, HK3⟩
        case measure => simp [intOf]; omega
      | false =>
        rw [if_neg (by rw [hb]; decide)] at HK2
        have KB := fun W => has_blk s[k] W
        rw [hb] at KB
        by_cases h35 : s[k] = 35
        · rw [if_pos h35] at HK2
          have e1 : ((s[k].toNat : Int) == 35) = true := u8_t s[k] 35 (by decide) h35
          have HK3 : Hid (k + gp true (s.data.toList.drop k) = n) := Lib.hid (by
            rw [hd, gp, if_neg (by rw [h35]; decide)]; exact HK2)
          have H35 := Lib.hid h35
          clear HK2 HK hd hb h35
          go_wp2_with ((with_reducible refine (KB _).mono ?_); rintro e w' ⟨rfl, rfl⟩)
          clear e1 KB
          go_loop [1] (fun a => ∃ j : Nat, k ≤ j ∧ j ≤ s.size ∧ a = .int .i64 j ∧ Hid (j + gp true (s.data.toList.drop j) = n)) (fun a => s.size - (intOf a).toNat)
          case atStart => exact ⟨k, Nat.le_refl _, hk, rfl, HK3⟩
          case round =>
            obtain ⟨j, hkj, hj, rfl, HJ⟩ := hrel
            clear HK3
            by_cases hlj : j < s.size
            · have hdj := drop_at s j hlj
              by_cases h10 : s[j] = 10
              · have e2 : ((s[j].toNat : Int) == 10) = true := u8_t s[j] 10 (by decide) h10
                have e3 : ((s[j].toNat : Int) != 10) = false := by simp [bne, e2]
                have HJ2 := HJ.out
                have HJ3 : Hid (j + gp false (s.data.toList.drop j) = n) := Lib.hid (by
                  rw [hdj, gp, if_pos (by rw [h10]; decide)]
                  rw [hdj, gp, if_pos h10] at HJ2
                  exact HJ2)
                have hkj2 : k < j := by
                  refine Nat.lt_of_le_of_ne hkj fun e => ?_
                  subst e
                  have := H35.out
                  rw [h10] at this
                  exact absurd this (by decide)
                clear HJ2 HJ hdj h10
                go_wp2
                go_round
                case rel => exact ⟨j, by omega, rfl, HJ3⟩
                case measure => simp [intOf]; omega
              · have e2 : ((s[j].toNat : Int) == 10) = false := u8_f s[j] 10 (by decide) h10
                have e3 : ((s[j].toNat : Int) != 10) = true := by simp [bne, e2]
                have HJ2 := HJ.out
                have HJ3 : Hid (j + 1 + gp true (s.data.toList.drop (j + 1)) = n) := Lib.hid (by
                  rw [hdj, gp, if_neg h10] at HJ2
                  omega)
                clear HJ2 HJ hdj h10
                go_wp2
                go_round
                case rel => exact ⟨j + 1, by omega, by omega, by go_num, HJ3⟩
                case measure => simp [intOf]; omega
            · obtain rfl : j = s.size := by omega
              have HJ3 : Hid (s.size + gp false (s.data.toList.drop s.size) = n) := Lib.hid (by
                have := HJ.out
                rw [List.drop_of_length_le (by rw [len_data]; exact Nat.le_refl _)] at this ⊢
                exact this)
              clear HJ
              go_wp2
              go_round
              case rel => exact ⟨s.size, Nat.le_refl _, rfl, HJ3⟩
              case measure => simp [intOf]; omega
        · rw [if_neg h35] at HK2
          have e1 : ((s[k].toNat : Int) == 35) = false := u8_f s[k] 35 (by decide) h35
          obtain rfl : k = n := by omega
          clear HK2 HK hd hb h35
          go_wp2_with ((with_reducible refine (KB _).mono ?_); rintro e w' ⟨rfl, rfl⟩)
          go_ret
          exact ⟨rfl, rfl⟩
    · obtain rfl : k = s.size := by omega
      have HK2 := HK.out
      rw [List.drop_of_length_le (by rw [len_data]; exact Nat.le_refl _)] at HK2
      obtain rfl : s.size = n := HK2
      clear HK
      go_wp2
      go_ret
      exact ⟨rfl, rfl⟩
/-- are there only gaps. -/
def gpsB (l : B) : Bool := gp false l == l.length
set_option maxRecDepth 100000 in
set_option maxHeartbeats 1000000 in
theorem gaps_ref (s : ByteArray) (w : World) (hm : s.size ≤ 100000) :
    Calls Try.prog 19 #[.string s] w fun e w' => e = .returned (.bool (gpsB s.data.toList)) ∧ w = w' := by
  have KG : ∀ W, Calls Try.prog 25 #[.string s, .int .i64 0] W fun e w' => e = .returned (.int .i64 ((0 + gp false (s.data.toList.drop 0) : Nat) : Int)) ∧ W = w' := fun W => gap_any s 0 W (Nat.zero_le _) hm
  have HG : Hid (∀ n, gp false s.data.toList = n → ((n : Int) == (s.size : Int)) = gpsB s.data.toList) := Lib.hid fun n h => by
    unfold gpsB
    rw [h, len_data, Bool.eq_iff_iff, beq_iff_eq, beq_iff_eq]; omega
  obtain ⟨n, hn⟩ : ∃ n, gp false s.data.toList = n := ⟨_, rfl⟩
  have HB := Lib.hid (HG.out n hn)
  rw [List.drop_zero, hn, Nat.zero_add] at KG
  clear HG hn
  go_enter Try.func19, Try.ntmps19
  go_wp2_with ((with_reducible refine (KG _).mono ?_); rintro e w' ⟨rfl, rfl⟩)
  go_ret
  exact ⟨ret_bool HB.out, rfl⟩
end Go.Proofs.Ytclkolllflcmcaa.Lx
