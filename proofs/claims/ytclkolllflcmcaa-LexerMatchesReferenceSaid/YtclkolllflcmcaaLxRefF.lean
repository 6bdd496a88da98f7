/- The reference: Lex. -/
import Derived.Test.YtclkolllflcmcaaLxRefE
namespace Go.Proofs.Ytclkolllflcmcaa.Lx
open Go.RowKit Go.Sort Go.Shelf
theorem evs_end (s : ByteArray) (k : Nat) (h : s.size ≤ k) (pre : List Tk) : scan pre (evs k (s.data.toList.drop k)) = (pre, 0, 0) := by
  rw [List.drop_of_length_le (by rw [len_data]; exact h)]; rfl
set_option maxRecDepth 100000 in
set_option maxHeartbeats 2000000 in
theorem lexref_fit (s : ByteArray) (w : World) (hm : s.size ≤ 20000) : Calls Try.prog 13 #[.string s] w (LOut w (scan [] (evL s.data.toList))) := by
  obtain ⟨R, hR⟩ : ∃ R, scan [] (evL s.data.toList) = R := ⟨_, rfl⟩
  rw [hR]
  have hz : ¬ (20000 : Int) < (s.size : Int) := by omega
  have hz2 : (s.size : Int) ≤ 20000 := by omega
  have hg0 := gp_le false s.data.toList
  rw [len_data] at hg0
  unfold evL at hR
  have KG0 : ∀ W, Calls Try.prog 25 #[.string s, .int .i64 0] W fun e w' => e = .returned (.int .i64 ((0 + gp false (s.data.toList.drop 0) : Nat) : Int)) ∧ W = w' := fun W => gap_any s 0 W (Nat.zero_le _) (by omega)
  rw [List.drop_zero, Nat.zero_add] at KG0
  obtain ⟨q0, hq0⟩ : ∃ q, gp false s.data.toList = q := ⟨_, rfl⟩
  rw [hq0] at hR hg0 KG0
  have HR := Lib.hid hR
  clear hR hq0
  obtain ⟨i0, hi0, hs0', hb0', hz0'⟩ := info_of tok_info
  have HT := Lib.hid (And.intro hi0 (And.intro hs0' (And.intro hb0' hz0')))
  clear hi0 hs0' hb0' hz0'
  obtain ⟨base, hbase⟩ : ∃ b, w.heap.size = b := ⟨_, rfl⟩
  have HBase := Lib.hid hbase
  go_enter Try.func13, Try.ntmps13
  go_wp2_with ((with_reducible refine (KG0 _).mono ?_); rintro e w' ⟨rfl, rfl⟩)
  clear KG0
  go_loopw [5, 6] (fun o a wr => ∃ (pre : List Tk) (k : Nat) (ao : Option Addr) (cap : Nat), k ≤ s.size ∧ pre.length ≤ 5000 ∧ o = .slice ao pre.length cap ∧ a = .int .i64 k ∧ Hid (OwnK wr base (.slice ao pre.length cap) pre) ∧ Hid (Below base w wr) ∧ Hid (scan pre (evs k (s.data.toList.drop k)) = R)) (fun _ a _ => s.size - (intOf a).toNat)
  case atStart => exact ⟨[], q0, none, 0, hg0, by simp, rfl, rfl, Lib.hid (ownK_nil _ _), Lib.hid (Below.refl _ _), HR⟩
  case round =>
    clear HR
    obtain ⟨pre, k, ao, cap, hk, hpl, rfl, rfl, HO, HB, HS⟩ := hrel
    have hbw : base ≤ wr.heap.size := by have := HB.out.size; omega
    by_cases hlt : k < s.size
    · have hlt2 : (k : Int) < (s.size : Int) := by omega
      have KN := fun W => next_any s k W hlt hm
      have hne : s.data.toList.drop k ≠ [] := fun e => by
        have := congrArg List.length e
        rw [List.length_drop, len_data, List.length_nil] at this; omega
      cases hn : nx (s.data.toList.drop k) with
      | bad x =>
        rw [hn] at KN
        dsimp only [NOut, vTok] at KN
        have he := nx_err hne hn
        have hF := HS.out
        rw [evs_bad hne hn] at hF
        have hF2 : R = ([], x, (k : Int)) := by
          rw [← hF]; show (if _ then _ else _) = _
          rw [if_neg (by omega), if_pos (by omega)]
        subst hF2
        have e1 : (x == 0) = false := by rw [beq_eq_false_iff_ne]; omega
        have e2 : (x != 0) = true := by simp [bne, e1]
        clear hF HS hn hne he
        go_wp2_with ((with_reducible refine (KN _).mono ?_); rintro e w1 ⟨rfl, hb1⟩)
        go_ret3
        exact ⟨⟨_, rfl, ownK_nil _ _⟩, by rw [HBase.out]; exact HB.out.trans ((hb1.trans ((alloc1 w1 _).mono hb1.size)).mono hbw)⟩
      | tok kk t n =>
        rw [hn] at KN
        dsimp only [NOut, vTok] at KN
        have hw := nx_wr hn
        have hF := HS.out
        rw [evs_tok hn] at hF
        by_cases h5 : pre.length = 5000
        · have hF2 : R = ([], 2, (k : Int)) := by
            rw [← hF]; show (if _ then _ else _) = _
            rw [if_pos ⟨rfl, h5⟩]
          subst hF2
          have hl5 : ((pre.length : Int) == 5000) = true := by rw [h5]; rfl
          clear hF HS hn hne hw h5
          go_wp2_with ((with_reducible refine (KN _).mono ?_); rintro e w1 ⟨rfl, hb1⟩)
          go_ret3
          exact ⟨⟨_, rfl, ownK_nil _ _⟩, by rw [HBase.out]; exact HB.out.trans ((hb1.trans ((alloc1 w1 _).mono hb1.size)).mono hbw)⟩
        · have hl5 : ((pre.length : Int) == 5000) = false := by rw [beq_eq_false_iff_ne]; omega
          have hl6 : pre.length < 5000 := by omega
          have hF2 : scan (pre ++ [⟨kk, t, k⟩]) (evs (k + n + gp false ((s.data.toList.drop k).drop n)) (((s.data.toList.drop k).drop n).drop (gp false ((s.data.toList.drop k).drop n)))) = R := by
            rw [← hF]; symm; show (if _ then _ else _) = _
            rw [if_neg (fun h => h5 h.2), if_neg (fun h => h rfl)]
          have hkn : k + n ≤ s.size := by
            have := hw.2.1
            rw [List.length_drop, len_data] at this; omega
          have KG : ∀ W, Calls Try.prog 25 #[.string s, .int .i64 ((k : Int) + (n : Int))] W fun e w' => e = .returned (.int .i64 ((k + n + gp false (s.data.toList.drop (k + n)) : Nat) : Int)) ∧ W = w' := fun W => gap_any s (k + n) W hkn (by omega)
          have hgn := gp_le false (s.data.toList.drop (k + n))
          rw [List.length_drop, len_data] at hgn
          rw [List.drop_drop, List.drop_drop] at hF2
          obtain ⟨q, hq⟩ : ∃ q, k + n + gp false (s.data.toList.drop (k + n)) = q := ⟨_, rfl⟩
          rw [hq] at hF2 KG
          have hqk : k < q ∧ q ≤ s.size := by have := hw.1; omega
          have HF := Lib.hid hF2
          have hn1 := hw.1
          have hkn2 : (k : Int) + (n : Int) ≤ 20000 := by omega
          clear hF HS hn hne hw h5 hF2 hq hgn
          obtain ⟨hqk1, hqk2⟩ := hqk
          go_upto_region 7 with ((with_reducible refine (KN _).mono ?_); rintro e w1 ⟨rfl, hb1⟩)
          have b2 := alloc1 w1 (.cells #[.int .i64 kk, .string ⟨t.toArray⟩, .int .i64 (k : Int)] 31)
          have rx := IsRow.made w1 31 #[.int .i64 kk, .string ⟨t.toArray⟩, .int .i64 (k : Int)]
          obtain ⟨W2, hW2⟩ : ∃ V, w1.alloc (.cells #[.int .i64 kk, .string ⟨t.toArray⟩, .int .i64 (k : Int)] 31) = V := ⟨_, rfl⟩
          rw [hW2] at b2 rx
          rw [hW2]
          clear hW2
          obtain ⟨d0, d1, d2, _, _, _⟩ := facts3 rx
          have bx : Below wr.heap.size wr W2 := hb1.trans (b2.mono hb1.size)
          have hbW := Nat.le_trans hbw bx.size
          have HO2 := Lib.hid (HO.out.below bx)
          have HB2 := Lib.hid (HB.out.trans (bx.mono hbw))
          have b3 := alloc1 W2 (.cells #[.int .i64 kk, .string ⟨t.toArray⟩, .int .i64 (k : Int)] 31)
          have HO3 := Lib.hid (HO2.out.below b3)
          have HB3 := Lib.hid (HB2.out.trans (b3.mono (Nat.le_trans hbw bx.size)))
          have hown := HO3.out
          unfold OwnK at hown
          have hs3 := Lib.hid (Nat.le_trans (Nat.le_trans hbw bx.size) b3.size)
          clear rx bx b2 b3 HO HB
          go_wp2_with (first
            | ((with_reducible refine (KG _).mono ?_); rintro e w' ⟨rfl, rfl⟩)
            | (at_builtin; go_loud (refine wpList_append_own _ rfl _ _ 23 rfl base 31 i0 _ 3 32 Try.underlying23 HT.out.1 HT.out.2.2.2 HT.out.2.1 HT.out.2.2.1 (by decide) (by decide) (.slice ao pre.length cap) pre.length (flatK pre) rfl hown ⟨W2.heap.size, 0, none⟩ 1 1 [.int .i64 kk, .string ⟨t.toArray⟩, .int .i64 (k : Int)] rfl rfl (World.news_of_block (heap_alloc_new W2 _)) (encK_one ⟨kk, t, k⟩) (by unfold maxLen; omega) (by omega) (by simp; omega) ?_; intro v' w9 hown' hgrow _; obtain ⟨g', cap', hv'⟩ := ownsRow_succ hown'; subst hv')))
          have O5 := ownK_snoc (s := ⟨kk, t, k⟩) (L := pre) hown'
          have B5 := Lib.hid (HB3.out.grown hgrow hs3.out (fun k e => (HO3.out.row k e).1))
          go_roundw
          case rel => exact ⟨pre ++ [⟨kk, t, k⟩], q, _, _, by omega, by rw [List.length_append]; simp; omega, by rw [List.length_append]; rfl, rfl, Lib.hid (by rw [List.length_append]; exact O5), B5, HF⟩
          case measure => simp [intOf]; omega
    · obtain rfl : k = s.size := by omega
      have hF := HS.out
      rw [evs_end s s.size (Nat.le_refl _)] at hF
      subst hF
      clear HS
      go_wp2
      go_ret3
      exact ⟨⟨_, rfl, by rw [HBase.out]; exact HO.out⟩, by rw [HBase.out]; exact HB.out⟩
end Go.Proofs.Ytclkolllflcmcaa.Lx
