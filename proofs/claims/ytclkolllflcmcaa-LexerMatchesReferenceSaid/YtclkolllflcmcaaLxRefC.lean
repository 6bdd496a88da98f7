/- The reference: Name, Quote, Written; the laws' written. -/
import Derived.Test.YtclkolllflcmcaaLxRefB
namespace Go.Proofs.Ytclkolllflcmcaa.Lx
open Go.RowKit
set_option maxRecDepth 100000 in
set_option maxHeartbeats 1000000 in
theorem name_ref (s : ByteArray) (w : World) (hm : s.size ≤ 100000) :
    Calls Try.prog 16 #[.string s] w fun e w' => e = .returned (.bool (nmB s.data.toList)) ∧ w = w' := by
  go_enter Try.func16, Try.ntmps16
  go_wp2
  go_loop [3] (fun i => ∃ k : Nat, k ≤ s.size ∧ i = .int .i64 k ∧ Hid ((s.data.toList.take k).all isWord = true)) (fun i => s.size - (intOf i).toNat)
  case atStart => exact ⟨0, Nat.zero_le _, rfl, Lib.hid rfl⟩
  case round =>
    obtain ⟨k, hk, rfl, hall⟩ := hrel
    by_cases hlt : k < s.size
    · have KW := fun W => word_any s[k] W
      cases hw : isWord s[k] with
      | true =>
        have HN := Lib.hid (show (s.data.toList.take (k + 1)).all isWord = true by rw [all_take_succ (by rw [len_data]; exact hlt), hall.out, Bool.true_and]; exact hw)
        rw [hw] at KW
        clear hw
        go_wp2_with ((with_reducible refine (KW _).mono ?_); rintro e w' ⟨rfl, rfl⟩)
        go_round
        case rel => exact ⟨k + 1, by omega, by go_num, HN⟩
        case measure => simp [intOf]; omega
      | false =>
        have HF := Lib.hid (show nmB s.data.toList = false by unfold nmB; rw [all_false (p := isWord) (k := k) (by rw [len_data]; exact hlt) hw, Bool.and_false])
        rw [hw] at KW
        clear hw
        go_wp2_with ((with_reducible refine (KW _).mono ?_); rintro e w' ⟨rfl, rfl⟩)
        go_ret
        exact ⟨ret_bool HF.out.symm, rfl⟩
    · obtain rfl : k = s.size := by omega
      have HA := hall.out
      rw [List.take_of_length_le (by rw [len_data]; exact Nat.le_refl _)] at HA
      have HA2 := Lib.hid (show nmB s.data.toList = (hd isLet s.data.toList && decide (s.size ≤ 24)) by unfold nmB; rw [HA, Bool.and_true, len_data])
      clear HA hall
      by_cases h0 : 0 < s.size
      · have h1 := Lib.hid (hd_at s isLet h0)
        have KL := fun W => letter_any s[0] W
        have z0 : (0 : Int) < (s.size : Int) := by omega
        by_cases h24 : s.size ≤ 24
        · have z1 : (s.size : Int) ≤ 24 := by omega
          have HR := Lib.hid (show nmB s.data.toList = isLet s[0] by rw [HA2.out, h1.out, decide_eq_true h24, Bool.and_true])
          generalize isLet s[0] = q at *
          clear h24
          go_wp2_with ((with_reducible refine (KL _).mono ?_); rintro e w' ⟨rfl, rfl⟩)
          go_ret
          exact ⟨ret_bool (by rw [HR.out]), rfl⟩
        · have z1 : ¬ (s.size : Int) ≤ 24 := by omega
          have z2 : (24 : Int) < (s.size : Int) := by omega
          have HR := Lib.hid (show nmB s.data.toList = false by rw [HA2.out, decide_eq_false h24, Bool.and_false])
          clear h24
          go_wp2
          go_ret
          exact ⟨ret_bool (by rw [HR.out]), rfl⟩
      · have z0 : ¬ (0 : Int) < (s.size : Int) := by omega
        have HR := Lib.hid (show nmB s.data.toList = false by
          rw [HA2.out, show s.data.toList = [] from List.eq_nil_of_length_eq_zero (by rw [len_data]; omega)]; rfl)
        clear h0
        go_wp2
        go_ret
        exact ⟨ret_bool (by rw [HR.out]), rfl⟩
theorem ext_snoc (s : ByteArray) (f k : Nat) (hf : f ≤ k) (hk : k < s.size) : (s.data.toList.drop f).take (k + 1 - f) = (s.data.toList.drop f).take (k - f) ++ [s[k]] := by
  rw [show k + 1 - f = (k - f) + 1 by omega, List.take_succ_eq_append_getElem (by rw [List.length_drop, len_data]; omega), List.getElem_drop]
  congr 2
  have e : f + (k - f) = k := by omega
  simp only [e]
  rfl
set_option maxRecDepth 100000 in
set_option maxHeartbeats 1000000 in
theorem quote_ref (s : ByteArray) (w : World) (hm : s.size ≤ 100000) :
    Calls Try.prog 18 #[.string s] w fun e w' => e = .returned (.string ⟨(quote s.data.toList).toArray⟩) ∧ w = w' := by
  go_enter Try.func18, Try.ntmps18
  go_wp2
  go_loop [3, 4, 5] (fun o f i => ∃ (q : ByteArray) (k j : Nat), k ≤ s.size ∧ j ≤ k ∧ q.size ≤ 2 * k + 1 ∧ o = .string q ∧ f = .int .i64 j ∧ i = .int .i64 k ∧ Hid (q.data.toList ++ (s.data.toList.drop j).take (k - j) = 34 :: esc (s.data.toList.take k))) (fun _ _ i => s.size - (intOf i).toNat)
  case atStart => exact ⟨⟨#[34]⟩, 0, 0, Nat.zero_le _, Nat.le_refl _, by decide, rfl, rfl, rfl, Lib.hid rfl⟩
  case round =>
    obtain ⟨q, k, j, hk, hj, hq, rfl, rfl, rfl, HI⟩ := hrel
    have e1 : (s.extract j k).size = k - j := by rw [ByteArray.size_extract]; omega
    have hjk : (j : Int) ≤ (k : Int) := by omega
    by_cases hlt : k < s.size
    · have HT := Lib.hid (take_snoc s k hlt)
      have hks : (k : Int) ≤ (s.size : Int) := by omega
      by_cases h10 : s[k] = 10
      · have z1 : ((s[k].toNat : Int) == 10) = true := u8_t s[k] 10 (by decide) h10
        have HN : Hid ((q ++ s.extract j k ++ ⟨#[92, 110]⟩).data.toList ++ (s.data.toList.drop (k + 1)).take (k + 1 - (k + 1)) = 34 :: esc (s.data.toList.take (k + 1))) := Lib.hid (by
          rw [app_list, app_list, ext_list, HI.out, Nat.sub_self, List.take_zero, List.append_nil, HT.out, esc_app, h10]; rfl)
        have hq2 : (q ++ s.extract j k ++ ⟨#[92, 110]⟩).size ≤ 2 * (k + 1) + 1 := by
          have := congrArg List.length HN.out
          rw [List.length_append, len_data, List.length_cons] at this
          have h3 := esc_len (s.data.toList.take (k + 1))
          have h4 : (s.data.toList.take (k + 1)).length ≤ k + 1 := List.length_take_le _ _
          omega
        clear h10
        go_wp2
        go_round
        case rel => exact ⟨_, k + 1, k + 1, by omega, Nat.le_refl _, hq2, rfl, by go_num, by go_num, HN⟩
        case measure => simp [intOf]; omega
      · have z1 : ((s[k].toNat : Int) == 10) = false := u8_f s[k] 10 (by decide) h10
        by_cases h92 : s[k] = 92 ∨ s[k] = 34
        · have HN : Hid ((q ++ s.extract j k ++ ⟨#[92]⟩).data.toList ++ (s.data.toList.drop k).take (k + 1 - k) = 34 :: esc (s.data.toList.take (k + 1))) := Lib.hid (by
            rw [app_list, app_list, ext_list, HI.out, show k + 1 - k = 1 by omega, drop_at s k hlt, HT.out, esc_app, show esc [s[k]] = [92, s[k]] by rw [esc, if_pos h92]; rfl]; simp)
          have hq2 : (q ++ s.extract j k ++ ⟨#[92]⟩).size ≤ 2 * (k + 1) + 1 := by
            have := congrArg List.length HN.out
            rw [List.length_append, len_data, List.length_cons] at this
            have h3 := esc_len (s.data.toList.take (k + 1))
            have h4 : (s.data.toList.take (k + 1)).length ≤ k + 1 := List.length_take_le _ _
            omega
          by_cases h34 : s[k] = 34
          · have z2 : ((s[k].toNat : Int) == 34) = true := u8_t s[k] 34 (by decide) h34
            clear h10 h92 h34
            go_wp2
            go_round
            case rel => exact ⟨_, k + 1, k, by omega, by omega, hq2, rfl, rfl, by go_num, HN⟩
            case measure => simp [intOf]; omega
          · have z2 : ((s[k].toNat : Int) == 34) = false := u8_f s[k] 34 (by decide) h34
            have z3 : ((s[k].toNat : Int) == 92) = true := u8_t s[k] 92 (by decide) (h92.resolve_right h34)
            clear h10 h92 h34
            go_wp2
            go_round
            case rel => exact ⟨_, k + 1, k, by omega, by omega, hq2, rfl, rfl, by go_num, HN⟩
            case measure => simp [intOf]; omega
        · have z2 : ((s[k].toNat : Int) == 34) = false := u8_f s[k] 34 (by decide) (fun e => h92 (.inr e))
          have z3 : ((s[k].toNat : Int) == 92) = false := u8_f s[k] 92 (by decide) (fun e => h92 (.inl e))
          have HN : Hid (q.data.toList ++ (s.data.toList.drop j).take (k + 1 - j) = 34 :: esc (s.data.toList.take (k + 1))) := Lib.hid (by
            rw [ext_snoc s j k hj hlt, ← List.append_assoc, HI.out, HT.out, esc_app, show esc [s[k]] = [s[k]] by rw [esc, if_neg h92, if_neg h10]; rfl]; rfl)
          clear h10 h92
          go_wp2
          go_round
          case rel => exact ⟨q, k + 1, j, by omega, by omega, by omega, rfl, rfl, by go_num, HN⟩
          case measure => simp [intOf]; omega
    · obtain rfl : k = s.size := by omega
      have HF : Hid (q ++ s.extract j s.size ++ ⟨#[34]⟩ = ⟨(quote s.data.toList).toArray⟩) := Lib.hid (str_of (by
        rw [app_list, app_list, ext_list, HI.out, List.take_of_length_le (by rw [len_data]; exact Nat.le_refl _)]; rfl))
      go_wp2
      go_ret
      exact ⟨ret_str HF.out, rfl⟩
set_option maxRecDepth 100000 in
set_option maxHeartbeats 1000000 in
theorem written_ref (k a : Int) (t : B) (w : World) (hm : t.length ≤ 100000) :
    Calls Try.prog 22 #[.agg #[.int .i64 k, .string ⟨t.toArray⟩, .int .i64 a]] w fun e w' => e = .returned (.string ⟨(wr k t).toArray⟩) ∧ Below w.heap.size w w' := by
  have KQ := fun W => quote_ref ⟨t.toArray⟩ W (by rw [str_size]; exact hm)
  rw [str_eq] at KQ
  by_cases hk : k = 3
  · subst hk
    go_enter Try.func22, Try.ntmps22
    go_wp2_with ((with_reducible refine (KQ _).mono ?_); rintro e w' ⟨rfl, rfl⟩)
    go_ret
    exact ⟨by unfold wr; rw [if_pos rfl]; rfl, alloc1 _ _⟩
  · have hk1 : (k == 3) = false := by rw [beq_eq_false_iff_ne]; exact hk
    have HW := Lib.hid (show wr k t = t by unfold wr; rw [if_neg hk])
    clear hk
    go_enter Try.func22, Try.ntmps22
    go_wp2
    go_ret
    exact ⟨by rw [HW.out]; rfl, alloc1 _ _⟩
theorem written_app (a b : List Tk) : written (a ++ b) = written a ++ written b := by
  induction a with
  | nil => rfl
  | cons t a ih => show wr t.k t.t ++ 32 :: written (a ++ b) = _; rw [ih]; simp [written]
theorem written_take (l : List Tk) (k : Nat) : (written (l.take k)).length ≤ (written l).length := by
  have : written l = written (l.take k) ++ written (l.drop k) := by rw [← written_app, List.take_append_drop]
  rw [this, List.length_append]; omega
set_option maxRecDepth 100000 in
set_option maxHeartbeats 1000000 in
theorem written_law (ao : Option Addr) (n cap : Nat) (l : List Tk) (w : World) (hn : l.length = n) (ha : Toks w w.heap.size ao l) (hc : n ≤ cap) (hn2 : n ≤ 100000) (hl : (written l).length ≤ 100000) (ht : ∀ t ∈ l, t.t.length ≤ 100000) :
    Calls Try.prog 20 #[.slice ao n cap] w fun e w' => e = .returned (.string ⟨(written l).toArray⟩) ∧ Below w.heap.size w w' := by
  have HA := Lib.hid ha
  have HN := Lib.hid hn
  have HT := Lib.hid ht
  have hc' : (n : Int) ≤ (cap : Int) := by omega
  clear ha hn ht
  go_enter Try.func20, Try.ntmps20
  go_wp2
  go_loopw [3, 4] (fun s i wr => ∃ (q : ByteArray) (k : Nat), k ≤ n ∧ q.size ≤ 100000 ∧ s = .string q ∧ i = .int .i64 k ∧ Hid (q = ⟨(written (l.take k)).toArray⟩) ∧ Hid (Below w.heap.size w wr)) (fun _ i _ => n - (intOf i).toNat)
  case atStart => exact ⟨⟨#[]⟩, 0, by omega, by decide, rfl, rfl, Lib.hid rfl, Lib.hid (Below.refl _ _)⟩
  case round =>
    obtain ⟨q, k, hk, hq, rfl, rfl, HQ, HW⟩ := hrel
    by_cases hlt : k < n
    · have hkl : k < l.length := by rw [HN.out]; exact hlt
      obtain ⟨g1, o1, rfl, hg1, a0, a1, a2⟩ := (HA.out.below HW.out (Nat.le_refl _)).at_ hkl
      have KW := fun W => written_ref l[k].k (l[k].a : Int) l[k].t W (HT.out _ (List.getElem_mem hkl))
      have HS : Hid (q ++ (⟨(Lx.wr l[k].k l[k].t).toArray⟩ ++ ⟨#[32]⟩) = ⟨(written (l.take (k + 1))).toArray⟩) := Lib.hid (str_of (by
        rw [app_list, app_list, HQ.out, str_eq, str_eq, List.take_succ_eq_append_getElem hkl, written_app]; rfl))
      have hs2 : (q ++ (⟨(Lx.wr l[k].k l[k].t).toArray⟩ ++ ⟨#[32]⟩)).size ≤ 100000 := by
        rw [HS.out, str_size]
        exact Nat.le_trans (written_take l (k + 1)) hl
      have hs3 : (ByteArray.mk (Lx.wr l[k].k l[k].t).toArray).size ≤ 100000 := by
        have : (q ++ (⟨(Lx.wr l[k].k l[k].t).toArray⟩ ++ ⟨#[32]⟩)).size = q.size + ((ByteArray.mk (Lx.wr l[k].k l[k].t).toArray).size + 1) := by rw [ByteArray.size_append, ByteArray.size_append]; rfl
        omega
      generalize l[k].k = k0 at *
      generalize l[k].t = t0 at *
      generalize l[k].a = x0 at *
      generalize ByteArray.mk (Lx.wr k0 t0).toArray = q2 at *
      go_wp2_with ((with_reducible refine (KW _).mono ?_); rintro e w2 ⟨rfl, hb2⟩)
      have HW2 := Lib.hid (HW.out.trans (hb2.mono HW.out.size))
      go_roundw
      case rel => exact ⟨_, k + 1, by omega, hs2, rfl, by go_num, HS, HW2⟩
      case measure => simp [intOf]; omega
    · obtain rfl : k = n := by omega
      have HF : Hid (q = ⟨(written l).toArray⟩) := Lib.hid (by rw [HQ.out, ← HN.out, List.take_length])
      go_wp2
      go_ret
      exact ⟨ret_str HF.out, HW.out⟩
end Go.Proofs.Ytclkolllflcmcaa.Lx
