/- grid: the reference's Parse. -/
import Derived.Test.YtenacgeahaoglaaDoorGdRefC
import Derived.Test.YtenacgeahaoglaaDoorGdParse2
namespace Go.Proofs.YtenacgeahaoglaaDoor.Gd
open Go.RowKit Go.Sort
set_option maxRecDepth 100000 in
set_option maxHeartbeats 1000000 in
theorem refParse_s (s : ByteArray) (hl : s.size ≤ 100) : Answers Tryd.prog 26 #[.string s] (vR (vT (refR s.data.toList).1) (refR s.data.toList).2) := by
  intro w
  obtain ⟨l, hls⟩ : ∃ l, s.data.toList = l := ⟨_, rfl⟩
  rw [hls]
  obtain ⟨R, hR⟩ : ∃ R, refR l = R := ⟨_, rfl⟩
  have HR := Lib.hid hR
  rw [hR]
  obtain ⟨W, hW, hB, hP, hQ⟩ := two_made w 25 3 #[.int .i64 0, .int .i64 0, .int .i64 0] #[.int .i64 0, .int .i64 0, .int .i64 0]
  have HB := Lib.hid hB
  have HP := Lib.hid hP
  have HQ := Lib.hid hQ
  have HW := Lib.hid hW
  have HL := Lib.hid (show ∀ i (h : i < s.size), l.drop i = s[i] :: l.drop (i + 1) from fun i h => by rw [← hls]; rw [List.drop_eq_getElem_cons (by simpa using h)]; rfl)
  have HN := Lib.hid (show l.length = s.size by rw [← hls]; simp)
  have HLS := Lib.hid hls
  clear hW hB hP hQ hR hls
  unfold vT vR
  go_enter Tryd.func26, Tryd.ntmps26
  go_wp2_with fail
  rw [HW.out]
  go_loopw [5, 6] (fun kv iv wr => ∃ (k i : Nat) (a b c : Int), i ≤ s.size ∧ k ≤ i ∧ kv = .int .i64 (k : Int) ∧ iv = .int .i64 (i : Int) ∧ (0 ≤ a ∧ a ≤ 10000000 ∧ 0 ≤ b ∧ b ≤ 10000000 ∧ 0 ≤ c ∧ c ≤ 10000000) ∧ Hid (rfold 0 0 0 0 l = rfold k a b c (l.drop i)) ∧ Hid (Below w.heap.size w wr) ∧ Hid (IsRow wr w.heap.size 25 #[.int .i64 0, .int .i64 0, .int .i64 0]) ∧ Hid (IsRow wr (w.heap.size + 1) 3 #[.int .i64 a, .int .i64 b, .int .i64 c])) (fun _ iv _ => s.size - (intOf iv).toNat)
  case atStart => exact ⟨0, 0, 0, 0, 0, by omega, by omega, rfl, rfl, by omega, Lib.hid (by simp), HB, HP, HQ⟩
  case round =>
    clear HB HP HQ HW
    obtain ⟨k, i, a, b, c, hi, hk, rfl, rfl, hab, HF, BK, HP, HQ⟩ := hrel
    by_cases hlt : i < s.size
    · have hwi : IntKind.i64.wrap ((i : Int) + 1) = (i : Int) + 1 := IntWalk.i64_in _ (by omega)
      have hwk : IntKind.i64.wrap ((k : Int) + 1) = (k : Int) + 1 := IntWalk.i64_in _ (by omega)
      have e2 := HL.out i hlt
      have HF2 := HF.out
      rw [e2, rfold] at HF2
      have hx0 : 0 ≤ (s[i].toNat : Int) ∧ (s[i].toNat : Int) ≤ 255 := by have := s[i].toNat_lt; omega
      by_cases h47 : s[i].toNat = 47
      · have e47 : ((s[i].toNat : Int) == 47) = true := by rw [h47]; rfl
        have HF3 := Lib.hid (show rfold 0 0 0 0 l = rfold (k + 1) a b c (l.drop (i + 1)) by rw [HF2, if_pos (UInt8.toNat_inj.mp h47)])
        clear HF2 HF e2 HL HN h47
        go_wp2
        go_roundw
        case rel => exact ⟨k + 1, i + 1, a, b, c, by omega, by omega, by go_num, by go_num, hab, HF3, BK, HP, HQ⟩
        case measure => simp [intOf]; omega
      · have e47 : ((s[i].toNat : Int) == 47) = false := by rw [beq_eq_false_iff_ne]; omega
        have hne : ¬ s[i] = 47 := fun e => h47 (by rw [e]; rfl)
        rw [if_neg hne] at HF2
        clear hne h47
        obtain ⟨d0, d1, d2, f0, f1, f2⟩ := facts3 HP.out
        obtain ⟨c0, c1, c2, g0, g1, g2⟩ := facts3 HQ.out
        by_cases hc : 48 ≤ s[i].toNat ∧ s[i].toNat ≤ 57 ∧ k < 3
        · obtain ⟨p1, p2, p3⟩ := hc
          rw [if_pos ⟨p1, p2, p3⟩] at HF2
          have q1 : (48 : Int) ≤ (s[i].toNat : Int) := by omega
          have q2 : (s[i].toNat : Int) ≤ 57 := by omega
          obtain ⟨V, hV⟩ : ∃ V : Int, (if k = 0 then a else if k = 1 then b else c) = V := ⟨_, rfl⟩
          have hV2 : 0 ≤ V ∧ V ≤ 10000000 := by rw [← hV]; (repeat' split) <;> omega
          have m1 : IntKind.i64.wrap (10 * V) = 10 * V := IntWalk.i64_in _ (by omega)
          have m2 : IntKind.u8.wrap ((s[i].toNat : Int) - 48) = (s[i].toNat : Int) - 48 := IntWalk.u8_in _ (by omega)
          have m4 : IntKind.i64.wrap ((s[i].toNat : Int) - 48) = (s[i].toNat : Int) - 48 := IntWalk.i64_in _ (by omega)
          have m3 : IntKind.i64.wrap (10 * V + ((s[i].toNat : Int) - 48)) = 10 * V + ((s[i].toNat : Int) - 48) := IntWalk.i64_in _ (by omega)
          have hm : ∀ ts t w, (Builtin.min_ ts t #[.int .i64 (10 * V + ((s[i].toNat : Int) - 48)), .int .i64 10000000]).run Tryd.prog w = .ok (.int .i64 (stp V s[i])) w := fun ts t w => by rw [run_min_int2]; congr 2; unfold stp; omega
          have hs : 0 ≤ stp V s[i] ∧ stp V s[i] ≤ 10000000 := by unfold stp; omega
          have h3 : k = 0 ∨ k = 1 ∨ k = 2 := by omega
          rcases h3 with rfl | rfl | rfl
          · obtain rfl : a = V := hV
            have HF3 := Lib.hid (show rfold 0 0 0 0 l = rfold 0 (stp a s[i]) b c (l.drop (i + 1)) from HF2)
            have q4 : ((0 : Nat) : Int) < 3 := by omega
            clear HF2 HF e2 HL HN HR
            have Q1 := Lib.hid (show IsRow (wr.drew.setCell ⟨w.heap.size + 1, 0, none⟩ (.int .i64 (stp a s[i]))) (w.heap.size + 1) 3 #[.int .i64 (stp a s[i]), .int .i64 b, .int .i64 c] from by have := (HQ.out.below (drew_below wr) HQ.out.inside).put 0 (.int .i64 (stp a s[i])); simpa using this)
            have D1 : Below (w.heap.size + 1) wr (wr.drew.setCell ⟨w.heap.size + 1, 0, none⟩ (.int .i64 (stp a s[i]))) := ((drew_below wr).mono (Nat.le_of_lt HQ.out.inside)).setCell (p := ⟨w.heap.size + 1, 0, none⟩) (Nat.le_refl _) _
            have P1 := Lib.hid (HP.out.below D1 (Nat.lt_succ_self _))
            have B1 := Lib.hid (BK.out.trans (D1.mono (Nat.le_succ _)))
            clear HP HQ BK D1
            go_upto_region 9 with fail
            go_still_tail 15, (by kernel_rfl)
            change wpList _ _ _ _ _ wr.drew
            go_wp2
            go_roundw
            case rel => exact ⟨0, i + 1, (stp a s[i]), b, c, by omega, by omega, rfl, by go_num, by omega, HF3, B1, P1, Q1⟩
            case measure => simp [intOf]; omega
          · obtain rfl : b = V := hV
            have HF3 := Lib.hid (show rfold 0 0 0 0 l = rfold 1 a (stp b s[i]) c (l.drop (i + 1)) from HF2)
            have q4 : ((1 : Nat) : Int) < 3 := by omega
            clear HF2 HF e2 HL HN HR
            have Q1 := Lib.hid (show IsRow (wr.drew.setCell ⟨w.heap.size + 1, 1, none⟩ (.int .i64 (stp b s[i]))) (w.heap.size + 1) 3 #[.int .i64 a, .int .i64 (stp b s[i]), .int .i64 c] from by have := (HQ.out.below (drew_below wr) HQ.out.inside).put 1 (.int .i64 (stp b s[i])); simpa using this)
            have D1 : Below (w.heap.size + 1) wr (wr.drew.setCell ⟨w.heap.size + 1, 1, none⟩ (.int .i64 (stp b s[i]))) := ((drew_below wr).mono (Nat.le_of_lt HQ.out.inside)).setCell (p := ⟨w.heap.size + 1, 1, none⟩) (Nat.le_refl _) _
            have P1 := Lib.hid (HP.out.below D1 (Nat.lt_succ_self _))
            have B1 := Lib.hid (BK.out.trans (D1.mono (Nat.le_succ _)))
            clear HP HQ BK D1
            go_upto_region 9 with fail
            go_still_tail 15, (by kernel_rfl)
            change wpList _ _ _ _ _ wr.drew
            go_wp2
            go_roundw
            case rel => exact ⟨1, i + 1, a, (stp b s[i]), c, by omega, by omega, rfl, by go_num, by omega, HF3, B1, P1, Q1⟩
            case measure => simp [intOf]; omega
          · obtain rfl : c = V := hV
            have HF3 := Lib.hid (show rfold 0 0 0 0 l = rfold 2 a b (stp c s[i]) (l.drop (i + 1)) from HF2)
            have q4 : ((2 : Nat) : Int) < 3 := by omega
            clear HF2 HF e2 HL HN HR
            have Q1 := Lib.hid (show IsRow (wr.drew.setCell ⟨w.heap.size + 1, 2, none⟩ (.int .i64 (stp c s[i]))) (w.heap.size + 1) 3 #[.int .i64 a, .int .i64 b, .int .i64 (stp c s[i])] from by have := (HQ.out.below (drew_below wr) HQ.out.inside).put 2 (.int .i64 (stp c s[i])); simpa using this)
            have D1 : Below (w.heap.size + 1) wr (wr.drew.setCell ⟨w.heap.size + 1, 2, none⟩ (.int .i64 (stp c s[i]))) := ((drew_below wr).mono (Nat.le_of_lt HQ.out.inside)).setCell (p := ⟨w.heap.size + 1, 2, none⟩) (Nat.le_refl _) _
            have P1 := Lib.hid (HP.out.below D1 (Nat.lt_succ_self _))
            have B1 := Lib.hid (BK.out.trans (D1.mono (Nat.le_succ _)))
            clear HP HQ BK D1
            go_upto_region 9 with fail
            go_still_tail 15, (by kernel_rfl)
            change wpList _ _ _ _ _ wr.drew
            go_wp2
            go_roundw
            case rel => exact ⟨2, i + 1, a, b, (stp c s[i]), by omega, by omega, rfl, by go_num, by omega, HF3, B1, P1, Q1⟩
            case measure => simp [intOf]; omega
        · have HX := Lib.hid (show R = (zT, 5) by rw [← HR.out]; unfold refR; rw [HF2, if_neg hc])
          clear HF2 HF e2 HL HN HR
          by_cases p1 : 48 ≤ s[i].toNat
          · have q1 : (48 : Int) ≤ (s[i].toNat : Int) := by omega
            by_cases p2 : s[i].toNat ≤ 57
            · have q2 : (s[i].toNat : Int) ≤ 57 := by omega
              have q3 : ¬ (k : Int) < 3 := by omega
              have q4 : (3 : Int) ≤ (k : Int) := by omega
              go_wp2
              obtain rfl : R = (zT, 5) := HX.out
              have hr := set3 HP.out (.int .i64 0) (.int .i64 0) (.int .i64 0)
              have hb := below3 BK.out (Nat.le_refl w.heap.size) (.int .i64 0) (.int .i64 0) (.int .i64 0)
              refine bodyPost_ret (results_rowR rfl _ _ w.heap.size _ _ rfl hr Tryd.underlying25 infoTile) rfl ?_
              exact ⟨rfl, hb⟩
            · have q2 : ¬ (s[i].toNat : Int) ≤ 57 := by omega
              have q3 : 57 < (s[i].toNat : Int) := by omega
              go_wp2
              obtain rfl : R = (zT, 5) := HX.out
              have hr := set3 HP.out (.int .i64 0) (.int .i64 0) (.int .i64 0)
              have hb := below3 BK.out (Nat.le_refl w.heap.size) (.int .i64 0) (.int .i64 0) (.int .i64 0)
              refine bodyPost_ret (results_rowR rfl _ _ w.heap.size _ _ rfl hr Tryd.underlying25 infoTile) rfl ?_
              exact ⟨rfl, hb⟩
          · have q1 : ¬ (48 : Int) ≤ (s[i].toNat : Int) := by omega
            have q3 : (s[i].toNat : Int) < 48 := by omega
            go_wp2
            obtain rfl : R = (zT, 5) := HX.out
            have hr := set3 HP.out (.int .i64 0) (.int .i64 0) (.int .i64 0)
            have hb := below3 BK.out (Nat.le_refl w.heap.size) (.int .i64 0) (.int .i64 0) (.int .i64 0)
            refine bodyPost_ret (results_rowR rfl _ _ w.heap.size _ _ rfl hr Tryd.underlying25 infoTile) rfl ?_
            exact ⟨rfl, hb⟩
    · obtain rfl : i = s.size := by omega
      obtain ⟨d0, d1, d2, f0, f1, f2⟩ := facts3 HP.out
      obtain ⟨c0, c1, c2, _, _, _⟩ := facts3 HQ.out
      go_upto_region 11 with fail
      go_region_held3 (fun w' => w'.cell? ⟨w.heap.size + 1, 0, none⟩ = some (.int .i64 a) ∧ w'.cell? ⟨w.heap.size + 1, 1, none⟩ = some (.int .i64 b) ∧ w'.cell? ⟨w.heap.size + 1, 2, none⟩ = some (.int .i64 c)) (go_keep) (fail)
      have HZ := Lib.hid (show R = if okT ⟨a, b, c⟩ ∧ txtN ⟨a, b, c⟩ = l then (⟨a, b, c⟩, 0) else (zT, 5) by
        rw [← HR.out]; unfold refR; rw [HF.out, List.drop_of_length_le (by rw [HN.out]; exact Nat.le_refl _)]; rfl)
      have HT := Lib.hid (show textR ⟨a, b, c⟩ = if okT ⟨a, b, c⟩ then (txtN ⟨a, b, c⟩, 0) else ([], 1) from rfl)
      have ha := rowB wr 25 #[.int .i64 a, .int .i64 b, .int .i64 c] rfl
      obtain ⟨w2, hw2⟩ : ∃ w2, (wr.alloc (.cells #[.int .i64 a, .int .i64 b, .int .i64 c] 25)).drew = w2 := ⟨_, rfl⟩
      have b2 : Below wr.heap.size wr w2 := hw2 ▸ ha.1.out.trans ((drew_below _).mono ha.1.out.size)
      have X2 := Lib.hid (show IsRow w2 wr.heap.size 25 #[.int .i64 a, .int .i64 b, .int .i64 c] from hw2 ▸ ha.2.out.below (drew_below _) ha.2.out.inside)
      have B2 := Lib.hid (BK.out.trans (b2.mono BK.out.size))
      have P2 := Lib.hid (HP.out.below b2 HP.out.inside)
      have hg3 : w.heap.size < wr.heap.size := HP.out.inside
      obtain ⟨g, hg⟩ : ∃ g, wr.heap.size = g := ⟨_, rfl⟩
      have K4 := refText_any ⟨a, b, c⟩ w2
      obtain ⟨TR, hTR⟩ : ∃ TR, textR ⟨a, b, c⟩ = TR := ⟨_, rfl⟩
      rw [hTR] at K4 HT
      rw [hw2]
      rw [hg] at X2 hg3 ⊢
      clear hw2 ha b2 BK HP HQ HF HL HN HR d0 d1 d2 f0 f1 f2 c0 c1 c2 hTR hg
      obtain ⟨c0, c1, c2, _, _, _⟩ := facts3 X2.out
      unfold vT vR at K4
      go_wp2_with fail
      refine K4.mono ?_
      rintro e w5 ⟨rfl, b5⟩
      have B5 := Lib.hid (B2.out.trans (b5.mono B2.out.size))
      have P5 := Lib.hid (P2.out.below b5 P2.out.inside)
      have X5 := Lib.hid (X2.out.below b5 X2.out.inside)
      clear b5 K4 B2 P2 X2 c0 c1 c2
      obtain ⟨d0, d1, d2, f0, f1, f2⟩ := facts3 P5.out
      obtain ⟨c0, c1, c2, _, _, _⟩ := facts3 X5.out
      by_cases hok : okT ⟨a, b, c⟩
      · obtain rfl : TR = (txtN ⟨a, b, c⟩, 0) := by rw [HT.out, if_pos hok]
        by_cases htx : txtN ⟨a, b, c⟩ = l
        · obtain rfl : R = (⟨a, b, c⟩, 0) := by rw [HZ.out, if_pos ⟨hok, htx⟩]
          have hs : ByteArray.mk (txtN ⟨a, b, c⟩).toArray = s := by rw [htx, ← HLS.out]
          dsimp only
          rw [hs]
          clear htx HT HZ
          go_wp2
          have hr := set3 P5.out (.int .i64 a) (.int .i64 b) (.int .i64 c)
          have hb := below3 B5.out (Nat.le_refl w.heap.size) (.int .i64 a) (.int .i64 b) (.int .i64 c)
          refine bodyPost_ret (results_rowR rfl _ _ w.heap.size _ _ rfl hr Tryd.underlying25 infoTile) rfl ?_
          exact ⟨rfl, hb⟩
        · obtain rfl : R = (zT, 5) := by rw [HZ.out, if_neg fun h => htx h.2]
          have hne : (txtN ⟨a, b, c⟩ == l) = false := by rw [beq_eq_false_iff_ne]; exact htx
          have hs : s = ⟨l.toArray⟩ := by rw [← HLS.out]
          dsimp only
          clear htx HT HZ HLS
          generalize txtN ⟨a, b, c⟩ = u at *
          subst hs
          go_wp2
          have hr := set3 P5.out (.int .i64 0) (.int .i64 0) (.int .i64 0)
          have hb := below3 B5.out (Nat.le_refl w.heap.size) (.int .i64 0) (.int .i64 0) (.int .i64 0)
          refine bodyPost_ret (results_rowR rfl _ _ w.heap.size _ _ rfl hr Tryd.underlying25 infoTile) rfl ?_
          exact ⟨rfl, hb⟩
      · obtain rfl : TR = ([], 1) := by rw [HT.out, if_neg hok]
        obtain rfl : R = (zT, 5) := by rw [HZ.out, if_neg fun h => hok h.1]
        clear HT HZ
        go_wp2
        have hr := set3 P5.out (.int .i64 0) (.int .i64 0) (.int .i64 0)
        have hb := below3 B5.out (Nat.le_refl w.heap.size) (.int .i64 0) (.int .i64 0) (.int .i64 0)
        refine bodyPost_ret (results_rowR rfl _ _ w.heap.size _ _ rfl hr Tryd.underlying25 infoTile) rfl ?_
        exact ⟨rfl, hb⟩
theorem refParse_any (l : List UInt8) (hl : l.length ≤ 100) : Answers Tryd.prog 26 #[.string ⟨l.toArray⟩] (vR (vT (parseR l).1) (parseR l).2) := by
  have k := refParse_s ⟨l.toArray⟩ (by rw [str_size]; exact hl)
  rw [str_eq, ref_same] at k
  exact k
end Go.Proofs.YtenacgeahaoglaaDoor.Gd
