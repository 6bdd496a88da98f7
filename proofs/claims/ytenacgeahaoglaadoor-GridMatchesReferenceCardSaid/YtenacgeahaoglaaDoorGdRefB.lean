/- grid: the reference's Of, Up, Box, Text. -/
import Derived.Test.YtenacgeahaoglaaDoorGdRefV
namespace Go.Proofs.YtenacgeahaoglaaDoor.Gd
open Go.RowKit Go.Sort
theorem side_any' {z : Int} (hz : isZ z) (w : World) : Calls Tryd.prog 34 #[.int .i64 z] w fun e w' => e = .returned (.int .i64 (sd z)) ∧ w = w' :=
  (side_still hz w).mono fun _ _ ⟨a, b⟩ => ⟨a, b.symm⟩
set_option maxRecDepth 100000 in
set_option maxHeartbeats 1000000 in
theorem refOf_any (p : Pn) (z : Int) : Answers Tryd.prog 11 #[vP p, .int .i64 z] (vR (vT (ofR p z).1) (ofR p z).2) := by
  intro w
  obtain ⟨V, hV⟩ : ∃ V, decide (isZ z) = V := ⟨_, rfl⟩
  obtain ⟨U, hU⟩ : ∃ U, decide (okP p) = U := ⟨_, rfl⟩
  have K1 := fun W => level_still hV W
  have K2 := fun W => (refIn_any p).to (congrArg Value.bool hU) W
  obtain ⟨R, hR⟩ : ∃ R, ofR p z = R := ⟨_, rfl⟩
  have HR := Lib.hid hR
  rw [hR]
  obtain ⟨W, hW, hB, hP, hQ⟩ := two_made w 23 25 #[.int .i64 p.x, .int .i64 p.y] #[.int .i64 0, .int .i64 0, .int .i64 0]
  have HB := Lib.hid hB
  have HP := Lib.hid hP
  have HQ := Lib.hid hQ
  have HW := Lib.hid hW
  have HV := Lib.hid hV
  have HU := Lib.hid hU
  clear hW hV hU hR hB hP hQ
  unfold vP vR vT at *
  go_enter Tryd.func11, Tryd.ntmps11
  go_wp2_with fail
  rw [HW.out]
  refine (K1 _).mono ?_
  rintro e w1 ⟨rfl, hw1⟩
  have b1 : Below W.heap.size W w1 := hw1 ▸ Below.refl _ _
  clear hw1
  have B1 := Lib.hid (HB.out.trans (b1.mono HB.out.size))
  have P1 := Lib.hid (HP.out.below b1 HP.out.inside)
  have Q1 := Lib.hid (HQ.out.below b1 HQ.out.inside)
  clear b1 K1 HB HP HQ HW
  obtain ⟨d0, d1, d2, f0, f1, f2⟩ := facts3 Q1.out
  obtain ⟨c0, c1, _, _⟩ := facts2 P1.out
  cases V with
  | false =>
    obtain rfl : R = (zT, 1) := by rw [← HR.out]; unfold ofR; rw [if_neg (of_decide_eq_false HV.out)]
    go_wp2
    have hr := set3 Q1.out (.int .i64 0) (.int .i64 0) (.int .i64 0)
    have hb := below3 B1.out (show w.heap.size ≤ w.heap.size + 1 by omega) (.int .i64 0) (.int .i64 0) (.int .i64 0)
    refine bodyPost_ret (results_rowR rfl _ _ (w.heap.size + 1) _ _ rfl hr Tryd.underlying25 infoTile) rfl ?_
    exact ⟨rfl, hb⟩
  | true =>
    go_wp2_with fail
    refine (K2 _).mono ?_
    rintro e w2 ⟨rfl, b2⟩
    have B2 := Lib.hid (B1.out.trans (b2.mono B1.out.size))
    have P2 := Lib.hid (P1.out.below b2 P1.out.inside)
    have Q2 := Lib.hid (Q1.out.below b2 Q1.out.inside)
    clear b2 K2 B1 P1 Q1 c0 c1 d0 d1 d2 f0 f1 f2
    obtain ⟨d0, d1, d2, f0, f1, f2⟩ := facts3 Q2.out
    obtain ⟨c0, c1, _, _⟩ := facts2 P2.out
    cases U with
    | false =>
      obtain rfl : R = (zT, 10) := by rw [← HR.out]; unfold ofR; rw [if_pos (of_decide_eq_true HV.out), if_neg (of_decide_eq_false HU.out)]
      go_wp2
      have hr := set3 Q2.out (.int .i64 0) (.int .i64 0) (.int .i64 0)
      have hb := below3 B2.out (show w.heap.size ≤ w.heap.size + 1 by omega) (.int .i64 0) (.int .i64 0) (.int .i64 0)
      refine bodyPost_ret (results_rowR rfl _ _ (w.heap.size + 1) _ _ rfl hr Tryd.underlying25 infoTile) rfl ?_
      exact ⟨rfl, hb⟩
    | true =>
      obtain rfl : R = (ofN p z, 0) := by rw [← HR.out]; unfold ofR; rw [if_pos (of_decide_eq_true HV.out), if_pos (of_decide_eq_true HU.out)]
      have hz := of_decide_eq_true HV.out
      obtain ⟨h1, h2, h3, h4⟩ := of_decide_eq_true HU.out
      have S1 := fun W => side_still hz W
      have hs := sd_bounds hz
      have HX := Lib.hid (show ofN p z = ⟨z, p.x / sd z, p.y / sd z⟩ from rfl)
      clear HR HV HU hz
      generalize sd z = s at *
      have hs0 : s ≠ 0 := by omega
      have hs1 : s ≠ -1 := by omega
      have e1 : p.x.tdiv s = p.x / s := Int.tdiv_eq_ediv_of_nonneg h1
      have e2 : p.y.tdiv s = p.y / s := Int.tdiv_eq_ediv_of_nonneg h3
      have b1 := Int.ediv_nonneg h1 (show 0 ≤ s by omega)
      have b2 := Int.ediv_nonneg h3 (show 0 ≤ s by omega)
      have b3 := Int.ediv_le_self s h1
      have b4 := Int.ediv_le_self s h3
      generalize p.x / s = u at *
      generalize p.y / s = v at *
      go_upto_region 5 with fail
      go_still_tail 12, (by kernel_rfl)
      still_call (S1 _)
      repeat still_step
      still_call (S1 _)
      repeat still_step
      refine wpStill_nil ?_
      change wpList _ _ _ _ _ w2.drew
      go_wp2
      have hr := set3 Q2.out (.int .i64 z) (.int .i64 u) (.int .i64 v)
      have hb := below3 B2.out (show w.heap.size ≤ w.heap.size + 1 by omega) (.int .i64 z) (.int .i64 u) (.int .i64 v)
      refine bodyPost_ret (results_rowR rfl _ _ (w.heap.size + 1) _ _ rfl hr Tryd.underlying25 infoTile) rfl ?_
      exact ⟨by rw [HX.out]; rfl, hb.drew⟩
set_option maxRecDepth 100000 in
set_option maxHeartbeats 1000000 in
theorem refUp_any (t : Tl) : Answers Tryd.prog 15 #[vT t] (vR (vT (upR t).1) (upR t).2) := by
  intro w
  obtain ⟨V, hV⟩ : ∃ V, decide (okT t) = V := ⟨_, rfl⟩
  have K1 := (refValid_any t).to (congrArg Value.bool hV)
  obtain ⟨R, hR⟩ : ∃ R, upR t = R := ⟨_, rfl⟩
  have HR := Lib.hid hR
  rw [hR]
  obtain ⟨W, hW, hB, hP, hQ⟩ := two_made w 25 25 #[.int .i64 t.z, .int .i64 t.x, .int .i64 t.y] #[.int .i64 0, .int .i64 0, .int .i64 0]
  have HB := Lib.hid hB
  have HP := Lib.hid hP
  have HQ := Lib.hid hQ
  have HW := Lib.hid hW
  have HV := Lib.hid hV
  clear hW hV hR hB hQ
  obtain ⟨c0, c1, c2, _, _, _⟩ := facts3 hP
  have K1 := K1 W
  clear hP
  unfold vT vR at *
  go_enter Tryd.func15, Tryd.ntmps15
  go_wp2_with fail
  rw [HW.out]
  refine K1.mono ?_
  rintro e w1 ⟨rfl, b1⟩
  have B1 := Lib.hid (HB.out.trans (b1.mono HB.out.size))
  have P1 := Lib.hid (HP.out.below b1 HP.out.inside)
  have Q1 := Lib.hid (HQ.out.below b1 HQ.out.inside)
  clear b1 K1 HB HP HQ HW c0 c1 c2
  obtain ⟨d0, d1, d2, f0, f1, f2⟩ := facts3 Q1.out
  obtain ⟨c0, c1, c2, _, _, _⟩ := facts3 P1.out
  cases V with
  | false =>
    obtain rfl : R = (zT, 1) := by rw [← HR.out]; unfold upR; rw [if_neg (of_decide_eq_false HV.out)]
    go_wp2
    have hr := set3 Q1.out (.int .i64 0) (.int .i64 0) (.int .i64 0)
    have hb := below3 B1.out (show w.heap.size ≤ w.heap.size + 1 by omega) (.int .i64 0) (.int .i64 0) (.int .i64 0)
    refine bodyPost_ret (results_rowR rfl _ _ (w.heap.size + 1) _ _ rfl hr Tryd.underlying25 infoTile) rfl ?_
    exact ⟨rfl, hb⟩
  | true =>
    have ht := of_decide_eq_true HV.out
    by_cases hz0 : t.z = 0
    · obtain rfl : R = (zT, 11) := by rw [← HR.out]; unfold upR; rw [if_pos ht, if_pos hz0]
      rw [hz0] at c0
      go_wp2
      have hr := set3 Q1.out (.int .i64 0) (.int .i64 0) (.int .i64 0)
      have hb := below3 B1.out (show w.heap.size ≤ w.heap.size + 1 by omega) (.int .i64 0) (.int .i64 0) (.int .i64 0)
      refine bodyPost_ret (results_rowR rfl _ _ (w.heap.size + 1) _ _ rfl hr Tryd.underlying25 infoTile) rfl ?_
      exact ⟨rfl, hb⟩
    · obtain rfl : R = (upN t, 0) := by rw [← HR.out]; unfold upR; rw [if_pos ht, if_neg hz0]
      have HX := Lib.hid (show upN t = ⟨t.z - 1, t.x / 2, t.y / 2⟩ from rfl)
      obtain ⟨z, x, y⟩ := t
      obtain ⟨⟨hz1, hz2⟩, h1, h2, h3, h4⟩ := ht
      dsimp only at *
      have e1 := half_eq x h1
      have e2 := half_eq y h3
      have hn := cnt_bounds ⟨hz1, hz2⟩
      have hw1 : IntKind.i64.wrap (z - 1) = z - 1 := IntWalk.i64_in _ (by omega)
      clear HR HV
      generalize cnt z = c at *
      go_wp2
      have hr := set3 Q1.out (.int .i64 (z - 1)) (.int .i64 (x / 2)) (.int .i64 (y / 2))
      have hb := below3 B1.out (show w.heap.size ≤ w.heap.size + 1 by omega) (.int .i64 (z - 1)) (.int .i64 (x / 2)) (.int .i64 (y / 2))
      refine bodyPost_ret (results_rowR rfl _ _ (w.heap.size + 1) _ _ rfl hr Tryd.underlying25 infoTile) rfl ?_
      exact ⟨by rw [HX.out]; rfl, hb⟩
set_option maxRecDepth 100000 in
set_option maxHeartbeats 1000000 in
theorem refBox_any (t : Tl) : Answers Tryd.prog 13 #[vT t] (vR (vB (boxR t).1) (boxR t).2) := by
  intro w
  obtain ⟨V, hV⟩ : ∃ V, decide (okT t) = V := ⟨_, rfl⟩
  have K1 := (refValid_any t).to (congrArg Value.bool hV)
  obtain ⟨R, hR⟩ : ∃ R, boxR t = R := ⟨_, rfl⟩
  have HR := Lib.hid hR
  rw [hR]
  obtain ⟨W, hW, hB, hP, hQ⟩ := two_made w 25 27 #[.int .i64 t.z, .int .i64 t.x, .int .i64 t.y] #[.int .i64 0, .int .i64 0, .int .i64 0, .int .i64 0]
  have HB := Lib.hid hB
  have HP := Lib.hid hP
  have HQ := Lib.hid hQ
  have HW := Lib.hid hW
  have HV := Lib.hid hV
  clear hW hV hR hB hQ
  obtain ⟨c0, c1, c2, _, _, _⟩ := facts3 hP
  have K1 := K1 W
  clear hP
  unfold vT vR vB at *
  go_enter Tryd.func13, Tryd.ntmps13
  go_wp2_with fail
  rw [HW.out]
  refine K1.mono ?_
  rintro e w1 ⟨rfl, b1⟩
  have B1 := Lib.hid (HB.out.trans (b1.mono HB.out.size))
  have P1 := Lib.hid (HP.out.below b1 HP.out.inside)
  have Q1 := Lib.hid (HQ.out.below b1 HQ.out.inside)
  clear b1 K1 HB HP HQ HW c0 c1 c2
  obtain ⟨d0, d1, d2, d3, f0, f1, f2, f3⟩ := facts4 Q1.out
  obtain ⟨c0, c1, c2, _, _, _⟩ := facts3 P1.out
  cases V with
  | false =>
    obtain rfl : R = (zB, 1) := by rw [← HR.out]; unfold boxR; rw [if_neg (of_decide_eq_false HV.out)]
    go_wp2
    have hr := set4 Q1.out (.int .i64 0) (.int .i64 0) (.int .i64 0) (.int .i64 0)
    have hb := below4 B1.out (show w.heap.size ≤ w.heap.size + 1 by omega) (.int .i64 0) (.int .i64 0) (.int .i64 0) (.int .i64 0)
    refine bodyPost_ret (results_rowR rfl _ _ (w.heap.size + 1) _ _ rfl hr Tryd.underlying27 infoBox) rfl ?_
    exact ⟨rfl, hb⟩
  | true =>
    have ht := of_decide_eq_true HV.out
    obtain rfl : R = (boxN t, 0) := by rw [← HR.out]; unfold boxR; rw [if_pos ht]
    obtain ⟨z, x, y⟩ := t
    obtain ⟨hz, h1, h2, h3, h4⟩ := ht
    dsimp only at *
    have p1 := prod_bounds hz h1 h2
    have p2 := prod_bounds hz h3 h4
    have hs := sd_bounds hz
    have hn := cnt_bounds hz
    have S1 := fun W => side_any' hz W
    have HX := Lib.hid (show boxN ⟨z, x, y⟩ = ⟨⟨x * sd z, y * sd z⟩, ⟨x * sd z + sd z - 1, y * sd z + sd z - 1⟩⟩ from rfl)
    clear hz HV HR
    generalize sd z = s at *
    obtain ⟨u, hu⟩ : ∃ u, x * s = u := ⟨_, rfl⟩
    obtain ⟨v, hv⟩ : ∃ v, y * s = v := ⟨_, rfl⟩
    have hw0 : IntKind.i64.wrap (x * s) = u := by rw [hu]; exact IntWalk.i64_in _ (by rw [hu] at p1; omega)
    have hw5 : IntKind.i64.wrap (y * s) = v := by rw [hv]; exact IntWalk.i64_in _ (by rw [hv] at p2; omega)
    have hw6 : wrap64 (x * s) = u := by rw [hu] at p1 ⊢; unfold wrap64; omega
    have hw7 : wrap64 (y * s) = v := by rw [hv] at p2 ⊢; unfold wrap64; omega
    rw [hu] at p1 HX
    rw [hv] at p2 HX
    clear hu hv
    have hw1 : IntKind.i64.wrap (u + s) = u + s := IntWalk.i64_in _ (by omega)
    have hw2 : IntKind.i64.wrap (v + s) = v + s := IntWalk.i64_in _ (by omega)
    have hw3 : IntKind.i64.wrap (u + s - 1) = u + s - 1 := IntWalk.i64_in _ (by omega)
    have hw4 : IntKind.i64.wrap (v + s - 1) = v + s - 1 := IntWalk.i64_in _ (by omega)
    go_wp2_with fail
    refine (S1 _).mono ?_
    rintro e w2 ⟨rfl, rfl⟩
    go_wp2
    have hr := set4 Q1.out (.int .i64 u) (.int .i64 v) (.int .i64 (u + s - 1)) (.int .i64 (v + s - 1))
    have hb := below4 B1.out (show w.heap.size ≤ w.heap.size + 1 by omega) (.int .i64 u) (.int .i64 v) (.int .i64 (u + s - 1)) (.int .i64 (v + s - 1))
    refine bodyPost_ret (results_rowR rfl _ _ (w.heap.size + 1) _ _ rfl hr Tryd.underlying27 infoBox) rfl ?_
    exact ⟨by rw [HX.out]; rfl, hb⟩
set_option maxRecDepth 100000 in
set_option maxHeartbeats 1000000 in
theorem refText_any (t : Tl) : Answers Tryd.prog 24 #[vT t] (vR (.string ⟨(textR t).1.toArray⟩) (textR t).2) := by
  intro w
  obtain ⟨V, hV⟩ : ∃ V, decide (okT t) = V := ⟨_, rfl⟩
  have K1 := (refValid_any t).to (congrArg Value.bool hV)
  obtain ⟨R, hR⟩ : ∃ R, textR t = R := ⟨_, rfl⟩
  have HR := Lib.hid hR
  rw [hR]
  obtain ⟨W, hW⟩ : ∃ W, w.alloc (.cells #[.int .i64 t.z, .int .i64 t.x, .int .i64 t.y] 25) = W := ⟨_, rfl⟩
  have HB := Lib.hid (show Below w.heap.size w W from hW ▸ alloc1 _ _)
  have HP := Lib.hid (show IsRow W w.heap.size 25 #[.int .i64 t.z, .int .i64 t.x, .int .i64 t.y] from hW ▸ IsRow.made _ _ _)
  obtain ⟨c0, c1, c2, _, _, _⟩ := facts3 HP.out
  have HW := Lib.hid hW
  have HV := Lib.hid hV
  have K1 := K1 W
  clear hW hV hR
  unfold vT vR at *
  go_enter Tryd.func24, Tryd.ntmps24
  go_wp2_with fail
  rw [HW.out]
  refine K1.mono ?_
  rintro e w1 ⟨rfl, b1⟩
  have B1 := Lib.hid (HB.out.trans (b1.mono HB.out.size))
  have P1 := Lib.hid (HP.out.below b1 HP.out.inside)
  clear b1 K1 HB HP HW c0 c1 c2
  obtain ⟨c0, c1, c2, _, _, _⟩ := facts3 P1.out
  cases V with
  | false =>
    obtain rfl : R = ([], 1) := by rw [← HR.out]; unfold textR; rw [if_neg (of_decide_eq_false HV.out)]
    go_wp2
    go_ret2
    exact ⟨rfl, B1.out⟩
  | true =>
    have ht := of_decide_eq_true HV.out
    obtain rfl : R = (txtN t, 0) := by rw [← HR.out]; unfold textR; rw [if_pos ht]
    obtain ⟨a, b, c, rfl, h1, h2, h3⟩ := okT_nats ht
    dsimp only at *
    have I1 := fun W => decimal_still a (by omega) W
    have I2 := fun W => decimal_still b (by omega) W
    have I3 := fun W => decimal_still c (by omega) W
    have la := dec_len (n := a) (by omega)
    have lb := dec_len (n := b) (by omega)
    have lc := dec_len (n := c) (by omega)
    have HX := Lib.hid (txt_bytes a b c)
    simp only [Lib.itoa_nonneg] at I1 I2 I3
    have za := str_size (Lib.decDigits a)
    have zb := str_size (Lib.decDigits b)
    have zc := str_size (Lib.decDigits c)
    generalize (ByteArray.mk (Lib.decDigits a).toArray) = sa at *
    generalize (ByteArray.mk (Lib.decDigits b).toArray) = sb at *
    generalize (ByteArray.mk (Lib.decDigits c).toArray) = sc at *
    have n1 : ¬ 9223372036854775807 < sa.size + 1 := by omega
    have n2 : ¬ 9223372036854775807 < sa.size + 1 + sb.size := by omega
    have n3 : ¬ 9223372036854775807 < sa.size + 1 + sb.size + 1 := by omega
    have n4 : ¬ 9223372036854775807 < sa.size + 1 + sb.size + 1 + sc.size := by omega
    clear la lb lc za zb zc
    go_upto_region 3 with fail
    go_quiet (first | (go_at_call 45; with_reducible exact Calls.quiet_of_same (I1 _)) | (go_at_call 45; with_reducible exact Calls.quiet_of_same (I2 _)) | (go_at_call 45; with_reducible exact Calls.quiet_of_same (I3 _)))
    go_wp2
    go_ret2
    exact ⟨by rw [HX.out]; rfl, B1.out.trans (drewN_below2 _ _ B1.out.size)⟩
end Go.Proofs.YtenacgeahaoglaaDoor.Gd
