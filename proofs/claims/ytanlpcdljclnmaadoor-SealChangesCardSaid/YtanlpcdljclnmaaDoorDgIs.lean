/- digest.Is by contract. -/
import Derived.Test.YtanlpcdljclnmaaDoorDgLeaf
namespace Go.Proofs.YtanlpcdljclnmaaDoor.Dg
open Go.RowKit
theorem all_take_succ {l : List UInt8} {k : Nat} (h : k < l.length) : (l.take (k + 1)).all isHexB = ((l.take k).all isHexB && isHexB l[k]) := by
  rw [List.take_succ_eq_append_getElem h, List.all_append]
  simp only [List.all_cons, List.all_nil, Bool.and_true]
theorem all_false {l : List UInt8} {k : Nat} (h : k < l.length) (hc : isHexB l[k] = false) : l.all isHexB = false := by
  rw [List.all_eq_false]; exact ⟨l[k], List.getElem_mem h, by simp [hc]⟩
set_option maxRecDepth 100000 in
set_option maxHeartbeats 400000 in
theorem is_any (s : ByteArray) (w : World) (hs : s.size ≤ maxLen) :
    Calls Tryd.prog 49 #[.string s] w fun e w' => e = .returned (.bool (isDig s.data.toList)) ∧ w = w' := by
  unfold maxLen at hs
  go_enter Tryd.func49, Tryd.ntmps49
  by_cases h16 : s.size = 16
  · have h16' : ((s.size : Int) != 16) = false := by simp [h16]
    have H16 := Lib.hid h16
    clear h16
    go_wp2
    go_loop [9] (fun i => ∃ k : Nat, k ≤ s.size ∧ i = .int .i64 k ∧ Hid ((s.data.toList.take k).all isHexB = true)) (fun i => s.size - (intOf i).toNat)
    case atStart => exact ⟨0, Nat.zero_le _, rfl, rfl⟩
    case round =>
      obtain ⟨k, hk, rfl, hall⟩ := hrel
      by_cases hlt : k < s.size
      · go_wp2_with (go_at_call 56; refine (isDigit_any _ _).mono ?_; rintro e w' ⟨rfl, rfl⟩)
        · have hc : (!isHexB s[k]) = true := by assumption
          go_ret
          exact ⟨ret_bool (by
            have hf : s.data.toList.all isHexB = false := all_false (k := k) (by simpa using hlt) (show isHexB s[k] = false by simpa using hc)
            unfold isDig; rw [hf, Bool.and_false]), rfl⟩
        · have hc : (!isHexB s[k]) = false := by assumption
          have hn : (s.data.toList.take (k + 1)).all isHexB = true := by
            have hl := hall.out
            rw [all_take_succ (by simpa using hlt), hl, Bool.true_and]; exact (show isHexB s[k] = true by simpa using hc)
          go_round
          case rel => exact ⟨k + 1, by omega, by go_num, hn⟩
          case measure => simp [intOf]; omega
      · have hk : k = s.size := by omega
        subst hk
        go_wp2
        go_ret
        exact ⟨ret_bool (by have := hall.out; unfold isDig; rw [List.take_of_length_le (by simp)] at this; rw [this, len_data, H16.out]; rfl), rfl⟩
  · have h16' : ((s.size : Int) != 16) = true := by simp; omega
    have H16 := Lib.hid h16
    clear h16
    go_wp2
    go_ret
    exact ⟨ret_bool (by unfold isDig; rw [len_data]; simp [H16.out]), rfl⟩
end Go.Proofs.YtanlpcdljclnmaaDoor.Dg
