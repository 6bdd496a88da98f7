/- lexer.Name; the reference's Name. -/
import Derived.Test.YtlknbjaippfemaaLxLex
namespace Go.Proofs.Ytlknbjaippfemaa.Lx
open Go.RowKit
/-- is a text a name. -/
def nmB (l : B) : Bool := hd isLet l && decide (l.length ≤ 24) && l.all isWord
theorem all_take_succ {p : UInt8 → Bool} {l : B} {k : Nat} (h : k < l.length) : (l.take (k + 1)).all p = ((l.take k).all p && p l[k]) := by
  rw [List.take_succ_eq_append_getElem h, List.all_append]
  simp only [List.all_cons, List.all_nil, Bool.and_true]
theorem all_false {p : UInt8 → Bool} {l : B} {k : Nat} (h : k < l.length) (hc : p l[k] = false) : l.all p = false := by
  rw [List.all_eq_false]; exact ⟨l[k], List.getElem_mem h, by simp [hc]⟩
theorem hd_at (s : ByteArray) (p : UInt8 → Bool) (h : 0 < s.size) : hd p s.data.toList = p s[0] := by
  have := drop_at s 0 h
  rw [List.drop_zero] at this
  rw [this]; rfl
set_option maxRecDepth 100000 in
set_option maxHeartbeats 400000 in
theorem name_any (s : ByteArray) (w : World) (hs : s.size ≤ 100000) :
    Calls Try.prog 23 #[.string s] w fun e w' => e = .returned (.bool (nmB s.data.toList)) ∧ w = w' := by
  by_cases h0 : s.size = 0
  · obtain rfl : s = ⟨#[]⟩ := by
      have : s.data.toList = [] := List.eq_nil_of_length_eq_zero (by rw [len_data]; exact h0)
      exact str_of this
    clear h0
    go_enter Try.func23, Try.ntmps23
    go_wp2
    go_ret
    exact ⟨rfl, rfl⟩
  · have hpos : 0 < s.size := by omega
    have hne2 : s.data.toList ≠ [] := fun e => h0 (by have := congrArg List.length e; rw [len_data] at this; exact this)
    have hne : ¬ s.toList = [] := by rw [Lib.toList_data]; exact hne2
    have hne3 : s.toList.isEmpty = false := by rw [Lib.toList_data, List.isEmpty_eq_false_iff]; exact hne2
    clear h0
    by_cases h24 : 24 < s.size
    · have hz : (24 : Int) < (s.size : Int) := by omega
      have HR : Hid (nmB s.data.toList = false) := Lib.hid (by unfold nmB; rw [len_data, decide_eq_false (by omega), Bool.and_false, Bool.false_and])
      go_enter Try.func23, Try.ntmps23
      go_wp2
      all_goals
        go_ret
        exact ⟨ret_bool HR.out.symm, rfl⟩
    · have hz : (s.size : Int) ≤ 24 := by omega
      have hz2 : ¬ (24 : Int) < (s.size : Int) := by omega
      have h1 := Lib.hid (hd_at s isLet hpos)
      cases hL : isLet s[0] with
      | false =>
        have HR : Hid (nmB s.data.toList = false) := Lib.hid (by unfold nmB; rw [h1.out, hL, Bool.false_and, Bool.false_and])
        go_enter Try.func23, Try.ntmps23
        go_wp2_with ((with_reducible refine (isLetter_any _ _).mono ?_); rintro e w' ⟨rfl, rfl⟩)
        all_goals
          go_ret
          exact ⟨ret_bool HR.out.symm, rfl⟩
      | true =>
        have HR : Hid (nmB s.data.toList = s.data.toList.all isWord) := Lib.hid (by unfold nmB; rw [h1.out, hL, len_data, decide_eq_true (by omega), Bool.true_and, Bool.true_and])
        go_enter Try.func23, Try.ntmps23
        go_wp2_with ((with_reducible refine (isLetter_any _ _).mono ?_); rintro e w' ⟨rfl, rfl⟩)
        clear hL h1 hne2 hz2 hne hne3
        go_loop [19] (fun i => ∃ k : Nat, k ≤ s.size ∧ i = .int .i64 k ∧ Hid ((s.data.toList.take k).all isWord = true)) (fun i => s.size - (intOf i).toNat)
        case atStart => exact ⟨0, Nat.zero_le _, rfl, Lib.hid rfl⟩
        case round =>
          obtain ⟨k, hk, rfl, hall⟩ := hrel
          by_cases hlt : k < s.size
          · have hu := Lib.hid (u8_beq s[k] 95 (by decide))
            have hx := s[k].toNat_lt
            cases hw : isWord s[k] with
            | true =>
              have HN := Lib.hid (show (s.data.toList.take (k + 1)).all isWord = true by rw [all_take_succ (by rw [len_data]; exact hlt), hall.out, Bool.true_and]; exact hw)
              have hw2 : (isLet s[k] || isDig s[k] || s[k] == 95) = true := hw
              cases h1 : isLet s[k] with
              | true =>
                clear hw hw2
                go_wp2_with (first | ((with_reducible refine (isLetter_any _ _).mono ?_); rintro e w' ⟨rfl, rfl⟩) | ((with_reducible refine (isDigit_any _ _).mono ?_); rintro e w' ⟨rfl, rfl⟩))
                go_round
                case rel => exact ⟨k + 1, by omega, by go_num, HN⟩
                case measure => simp [intOf]; omega
              | false =>
                cases h2 : isDig s[k] with
                | true =>
                  clear hw hw2
                  go_wp2_with (first | ((with_reducible refine (isLetter_any _ _).mono ?_); rintro e w' ⟨rfl, rfl⟩) | ((with_reducible refine (isDigit_any _ _).mono ?_); rintro e w' ⟨rfl, rfl⟩))
                  go_round
                  case rel => exact ⟨k + 1, by omega, by go_num, HN⟩
                  case measure => simp [intOf]; omega
                | false =>
                  have h3 : ((s[k].toNat : Int) == 95) = true := by
                    have := hu.out
                    rw [show ((95 : Nat) : Int) = 95 from rfl] at this
                    rw [this]
                    rw [h1, h2] at hw2
                    simpa using hw2
                  have h4 : ((s[k].toNat : Int) != 95) = false := by simp [bne, h3]
                  clear hw hw2
                  go_wp2_with (first | ((with_reducible refine (isLetter_any _ _).mono ?_); rintro e w' ⟨rfl, rfl⟩) | ((with_reducible refine (isDigit_any _ _).mono ?_); rintro e w' ⟨rfl, rfl⟩))
                  go_round
                  case rel => exact ⟨k + 1, by omega, by go_num, HN⟩
                  case measure => simp [intOf]; omega
            | false =>
              have hw2 : (isLet s[k] || isDig s[k] || s[k] == 95) = false := hw
              rw [Bool.or_eq_false_iff, Bool.or_eq_false_iff] at hw2
              obtain ⟨⟨h1, h2⟩, h5⟩ := hw2
              have h3 : ((s[k].toNat : Int) == 95) = false := by
                have := hu.out
                rw [show ((95 : Nat) : Int) = 95 from rfl] at this
                rw [this]; exact h5
              have h4 : ((s[k].toNat : Int) != 95) = true := by simp [bne, h3]
              have HF := Lib.hid (show s.data.toList.all isWord = false from all_false (k := k) (by rw [len_data]; exact hlt) hw)
              clear hw h5
              go_wp2_with (first | ((with_reducible refine (isLetter_any _ _).mono ?_); rintro e w' ⟨rfl, rfl⟩) | ((with_reducible refine (isDigit_any _ _).mono ?_); rintro e w' ⟨rfl, rfl⟩))
              go_ret
              exact ⟨ret_bool (by rw [HR.out, HF.out]), rfl⟩
          · obtain rfl : k = s.size := by omega
            have HA := hall.out
            rw [List.take_of_length_le (by rw [len_data]; exact Nat.le_refl _)] at HA
            have HA2 := Lib.hid HA
            clear HA hall
            go_wp2
            go_ret
            exact ⟨ret_bool (by rw [HR.out, HA2.out]), rfl⟩
end Go.Proofs.Ytlknbjaippfemaa.Lx
