/- The reference: the string that begins at an offset. -/
import Derived.Test.YtclkolllflcmcaaLxRefC
import Derived.OwnWalk
namespace Go.Proofs.Ytclkolllflcmcaa.Lx
open Go.RowKit
/-- what str answers: bytes so far, where it is, what comes. -/
def strW (q : B) (k : Nat) : Option (B × Nat) → Value
  | none => .tuple #[.string ⟨#[]⟩, .int .i64 0, .bool false]
  | some r => .tuple #[.string ⟨(q ++ r.1).toArray⟩, .int .i64 ((k + r.2 : Nat) : Int), .bool true]
theorem strW_map (q : B) (k : Nat) (c : UInt8) (o : Option (B × Nat)) (j : Nat) : strW q k (o.map fun r => (c :: r.1, r.2 + j)) = strW (q ++ [c]) (k + j) o := by
  cases o with
  | none => rfl
  | some r =>
    show Value.tuple #[.string ⟨(q ++ c :: r.1).toArray⟩, .int .i64 ((k + (r.2 + j) : Nat) : Int), .bool true] = Value.tuple #[.string ⟨(q ++ [c] ++ r.1).toArray⟩, .int .i64 ((k + j + r.2 : Nat) : Int), .bool true]
    rw [show q ++ [c] ++ r.1 = q ++ c :: r.1 by simp, show k + (r.2 + j) = k + j + r.2 by omega]
theorem map_map2 (c : UInt8) (o : Option (B × Nat)) : ((o.map fun r => (c :: r.1, r.2 + 1)).map fun r => (r.1, r.2 + 1)) = o.map fun r => (c :: r.1, r.2 + 2) := by cases o <;> rfl
theorem ext_one (s : ByteArray) (k : Nat) (h : k < s.size) : (s.extract k (k + 1)).data.toList = [s[k]] := by
  rw [ext_list, drop_at s k h, show k + 1 - k = 1 by omega]; rfl
theorem add_list (q : ByteArray) (s : ByteArray) (k : Nat) (h : k < s.size) : (q ++ s.extract k (k + 1)).data.toList = q.data.toList ++ [s[k]] := by rw [app_list, ext_one s k h]
theorem ret_val {a b : Value} (h : b = a) : Ending.returned a = .returned b := by rw [h]
set_option maxRecDepth 100000 in
set_option maxHeartbeats 1000000 in
theorem str_any (s : ByteArray) (i : Nat) (w : World) (hi : i < s.size) (hm : s.size ≤ 100000) :
    Calls Try.prog 40 #[.string s, .int .i64 i] w fun e w' => e = .returned (strW [] (i + 1) (st false (s.data.toList.drop (i + 1)))) ∧ w = w' := by
  obtain ⟨V, hV⟩ : ∃ V, strW [] (i + 1) (st false (s.data.toList.drop (i + 1))) = V := ⟨_, rfl⟩
  rw [hV]
  have HV := Lib.hid hV
  clear hV
  go_enter Try.func40, Try.ntmps40
  go_wp2
  go_loop [7, 8] (fun o j => ∃ (q : ByteArray) (k : Nat), k ≤ s.size ∧ q.size ≤ k ∧ o = .string q ∧ j = .int .i64 k ∧ Hid (strW q.data.toList k (st false (s.data.toList.drop k)) = V)) (fun _ j => s.size - (intOf j).toNat)
  case atStart => exact ⟨⟨#[]⟩, i + 1, by omega, Nat.zero_le _, rfl, rfl, HV⟩
  case round =>
    obtain ⟨q, k, hk, hq, rfl, rfl, HI⟩ := hrel
    clear HV
    by_cases hlt : k < s.size
    · have hks : (k : Int) < (s.size : Int) := by omega
      have HI2 := HI.out
      have hd := drop_at s k hlt
      rw [hd, st] at HI2
      by_cases h34 : s[k] = 34
      · rw [if_pos h34] at HI2
        have z1 : ((s[k].toNat : Int) == 34) = true := u8_t s[k] 34 (by decide) h34
        have HF := Lib.hid (show V = .tuple #[.string q, .int .i64 ((k : Int) + 1), .bool true] by
          rw [← HI2]
          show Value.tuple #[.string ⟨(q.data.toList ++ []).toArray⟩, .int .i64 ((k + 1 : Nat) : Int), .bool true] = _
          rw [List.append_nil, str_self]; rfl)
        clear HI HI2 hd h34
        go_wp2
        go_ret3
        exact ⟨ret_val HF.out, rfl⟩
      · rw [if_neg h34] at HI2
        have z1 : ((s[k].toNat : Int) == 34) = false := u8_f s[k] 34 (by decide) h34
        by_cases h10 : s[k] = 10
        · rw [if_pos h10] at HI2
          have z2 : ((s[k].toNat : Int) == 10) = true := u8_t s[k] 10 (by decide) h10
          have HF := Lib.hid (show V = .tuple #[.string ⟨#[]⟩, .int .i64 0, .bool false] from HI2.symm)
          clear HI HI2 hd h34 h10
          go_wp2
          go_ret3
          exact ⟨ret_val HF.out, rfl⟩
        · rw [if_neg h10] at HI2
          have z2 : ((s[k].toNat : Int) == 10) = false := u8_f s[k] 10 (by decide) h10
          by_cases h92 : s[k] = 92
          · rw [if_pos h92] at HI2
            have z3 : ((s[k].toNat : Int) == 92) = true := u8_t s[k] 92 (by decide) h92
            have z4 : ((s[k].toNat : Int) != 92) = false := by simp [bne, z3]
            clear HI hd h34 h10 h92
            by_cases hlt2 : k + 1 < s.size
            · have hd2 := drop_at s (k + 1) hlt2
              rw [hd2, st] at HI2
              have KE := fun W => has_esc s[k + 1] W
              by_cases hq3 : s[k + 1] = 92 ∨ s[k + 1] = 34
              · rw [if_pos hq3, map_map2, strW_map] at HI2
                have hn : prk [s[k + 1]] = true := by rcases hq3 with e | e <;> (rw [e]; decide)
                have z5 : ((s[k + 1].toNat : Int) == 110) = false := u8_f s[k + 1] 110 (by decide) (by rcases hq3 with e | e <;> (rw [e]; decide))
                rw [hn] at KE
                have HN := Lib.hid (show strW (q ++ s.extract (k + 1) (k + 1 + 1)).data.toList (k + 1 + 1) (st false (s.data.toList.drop (k + 1 + 1))) = V by rw [add_list q s (k + 1) hlt2]; exact HI2)
                clear HI2 hd2 hq3 hn
                go_wp2_with ((with_reducible refine (KE _).mono ?_); rintro e w' ⟨rfl, rfl⟩)
                go_round
                case rel => exact ⟨_, k + 1 + 1, by omega, by rw [ByteArray.size_append, ByteArray.size_extract]; omega, rfl, by go_num, HN⟩
                case measure => simp [intOf]; omega
              · rw [if_neg hq3] at HI2
                by_cases h110 : s[k + 1] = 110
                · rw [if_pos h110, map_map2, strW_map] at HI2
                  have hn : prk [s[k + 1]] = true := by rw [h110]; decide
                  have z5 : ((s[k + 1].toNat : Int) == 110) = true := u8_t s[k + 1] 110 (by decide) h110
                  rw [hn] at KE
                  have HN := Lib.hid (show strW (q ++ ⟨#[10]⟩).data.toList (k + 1 + 1) (st false (s.data.toList.drop (k + 1 + 1))) = V by rw [app_list]; exact HI2)
                  clear HI2 hd2 hq3 hn h110
                  go_wp2_with ((with_reducible refine (KE _).mono ?_); rintro e w' ⟨rfl, rfl⟩)
                  go_round
                  case rel => exact ⟨_, k + 1 + 1, by omega, by rw [ByteArray.size_append]; show q.size + 1 ≤ _; omega, rfl, by go_num, HN⟩
                  case measure => simp [intOf]; omega
                · rw [if_neg h110] at HI2
                  have hn : prk [s[k + 1]] = false := (all_u8 (P := fun c => ¬ (c = 92 ∨ c = 34) → c ≠ 110 → prk [c] = false) (by decide +kernel)) s[k + 1] hq3 h110
                  rw [hn] at KE
                  have HF := Lib.hid (show V = .tuple #[.string ⟨#[]⟩, .int .i64 0, .bool false] from HI2.symm)
                  clear HI2 hd2 hq3 hn h110
                  go_wp2_with ((with_reducible refine (KE _).mono ?_); rintro e w' ⟨rfl, rfl⟩)
                  go_ret3
                  exact ⟨ret_val HF.out, rfl⟩
            · rw [List.drop_of_length_le (by rw [len_data]; omega)] at HI2
              have HF := Lib.hid (show V = .tuple #[.string ⟨#[]⟩, .int .i64 0, .bool false] from HI2.symm)
              clear HI2
              go_wp2
              go_ret3
              exact ⟨ret_val HF.out, rfl⟩
          · rw [if_neg h92, strW_map] at HI2
            have z3 : ((s[k].toNat : Int) == 92) = false := u8_f s[k] 92 (by decide) h92
            have z4 : ((s[k].toNat : Int) != 92) = true := by simp [bne, z3]
            have HN := Lib.hid (show strW (q ++ s.extract k (k + 1)).data.toList (k + 1) (st false (s.data.toList.drop (k + 1))) = V by rw [add_list q s k hlt]; exact HI2)
            clear HI HI2 hd h34 h10 h92
            go_wp2
            go_round
            case rel => exact ⟨_, k + 1, by omega, by rw [ByteArray.size_append, ByteArray.size_extract]; omega, rfl, by go_num, HN⟩
            case measure => simp [intOf]; omega
    · obtain rfl : k = s.size := by omega
      have HI2 := HI.out
      rw [List.drop_of_length_le (by rw [len_data]; exact Nat.le_refl _)] at HI2
      have HF := Lib.hid (show V = .tuple #[.string ⟨#[]⟩, .int .i64 0, .bool false] from HI2.symm)
      clear HI HI2
      go_wp2
      go_ret3
      exact ⟨ret_val HF.out, rfl⟩
end Go.Proofs.Ytclkolllflcmcaa.Lx
