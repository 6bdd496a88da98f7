/- grid: the reference's Pixel, Same. -/
import Derived.Test.YtenacgeahaoglaaDoorGdRefB
import Derived.Test.YtenacgeahaoglaaDoorGdKidsWalk
namespace Go.Proofs.YtenacgeahaoglaaDoor.Gd
open Go.RowKit Go.Sort
theorem refBox_to (t : Tl) {q : Bb} {e : Int} (h : boxR t = (q, e)) : Answers Tryd.prog 13 #[.agg #[.int .i64 t.z, .int .i64 t.x, .int .i64 t.y]] (.tuple #[.agg #[.int .i64 q.a.x, .int .i64 q.a.y, .int .i64 q.b.x, .int .i64 q.b.y], .int .i64 e]) := by
  have k := refBox_any t
  rw [h] at k
  exact k
theorem prod_at {z a : Int} (hz : isZ z) (h0 : 0 ≤ a) (h1 : a < cnt z) : 0 ≤ a * sd z ∧ a * sd z ≤ 1048576 := by
  have := prod_bounds hz h0 h1
  have := sd_bounds hz
  omega
set_option maxRecDepth 100000 in
set_option maxHeartbeats 2000000 in
theorem refPixel_any (t : Tl) (p : Pn) : Answers Tryd.prog 22 #[vT t, vP p] (vR (vP (pixR t p).1) (pixR t p).2) := by
  intro w
  obtain ⟨⟨D, e0⟩, hb⟩ : ∃ R, boxR t = R := ⟨_, rfl⟩
  obtain ⟨U1, hU1⟩ : ∃ U, decide (¬ near p.x) = U := ⟨_, rfl⟩
  obtain ⟨U2, hU2⟩ : ∃ U, decide (¬ near p.y) = U := ⟨_, rfl⟩
  have K1 := refBox_to t hb
  have N1 := fun W => far_any hU1 W
  have N2 := fun W => far_any hU2 W
  obtain ⟨R, hR⟩ : ∃ R, pixR t p = R := ⟨_, rfl⟩
  have HR := Lib.hid hR
  rw [hR]
  obtain ⟨W, hW, hB, hP, hO, hQ⟩ := three_made w 25 23 23 #[.int .i64 t.z, .int .i64 t.x, .int .i64 t.y] #[.int .i64 p.x, .int .i64 p.y] #[.int .i64 0, .int .i64 0]
  have B0 := Lib.hid hB
  have RT := Lib.hid hP
  have RO := Lib.hid hO
  have RQ := Lib.hid hQ
  have HW := Lib.hid hW
  have HU1 := Lib.hid hU1
  have HU2 := Lib.hid hU2
  obtain ⟨c0, c1, c2, _, _, _⟩ := facts3 hP
  have K1 := K1 W
  clear hW hR hB hQ hO hP hU1 hU2
  unfold vT vR vP at *
  go_enter Tryd.func22, Tryd.ntmps22
  go_wp2_with fail
  rw [HW.out]
  refine K1.mono ?_
  rintro e w1 ⟨rfl, b1⟩
  have B1 := Lib.hid (B0.out.trans (b1.mono B0.out.size))
  replace RT := Lib.hid (RT.out.below b1 RT.out.inside)
  replace RO := Lib.hid (RO.out.below b1 RO.out.inside)
  replace RQ := Lib.hid (RQ.out.below b1 RQ.out.inside)
  clear b1 K1 B0 HW c0 c1 c2
  obtain ⟨V, hV, VB, L, RD⟩ := made w 27 #[.int .i64 D.a.x, .int .i64 D.a.y, .int .i64 D.b.x, .int .i64 D.b.y] B1.out B1.out.size
  have HV := Lib.hid hV
  have iQ := RQ.out.inside
  replace RT := Lib.hid (RT.out.below L.out RT.out.inside)
  replace RO := Lib.hid (RO.out.below L.out RO.out.inside)
  replace RQ := Lib.hid (RQ.out.below L.out RQ.out.inside)
  clear hV L B1
  by_cases ht : okT t
  case neg =>
    obtain ⟨rfl, rfl⟩ : D = zB ∧ e0 = 1 := by
      unfold boxR at hb; rw [if_neg ht] at hb; injection hb with h1 h2; exact ⟨h1.symm, h2.symm⟩
    obtain rfl : R = (zP, 1) := by rw [← HR.out]; unfold pixR; rw [if_neg ht]
    obtain ⟨d0, d1, f0, f1⟩ := facts2 RQ.out
    go_upto_region 2 with fail
    rw [HV.out]
    go_wp2
    have hr := set2 RQ.out (.int .i64 0) (.int .i64 0)
    have hb := below2 VB.out (show w.heap.size ≤ w.heap.size + 1 + 1 by omega) (.int .i64 0) (.int .i64 0)
    refine bodyPost_ret (results_rowR rfl _ _ (w.heap.size + 1 + 1) _ _ rfl hr Tryd.underlying23 infoPt) rfl ?_
    exact ⟨rfl, hb⟩
  case pos =>
    obtain ⟨rfl, rfl⟩ : D = boxN t ∧ e0 = 0 := by
      unfold boxR at hb; rw [if_pos ht] at hb; injection hb with h1 h2; exact ⟨h1.symm, h2.symm⟩
    clear hb
    obtain ⟨d0, d1, f0, f1⟩ := facts2 RQ.out
    obtain ⟨o0, o1, _, _⟩ := facts2 RO.out
    go_upto_region 2 with fail
    rw [HV.out]
    go_wp2_with fail
    refine (N1 _).mono ?_
    rintro e w2 ⟨rfl, rfl⟩
    cases U1 with
    | true =>
      obtain rfl : R = (zP, 10) := by rw [← HR.out]; unfold pixR; rw [if_pos ht, if_neg fun h => of_decide_eq_true HU1.out h.1]
      go_wp2
      have hr := set2 RQ.out (.int .i64 0) (.int .i64 0)
      have hb := below2 VB.out (show w.heap.size ≤ w.heap.size + 1 + 1 by omega) (.int .i64 0) (.int .i64 0)
      refine bodyPost_ret (results_rowR rfl _ _ (w.heap.size + 1 + 1) _ _ rfl hr Tryd.underlying23 infoPt) rfl ?_
      exact ⟨rfl, hb⟩
    | false =>
      go_wp2_with fail
      refine (N2 _).mono ?_
      rintro e w3 ⟨rfl, rfl⟩
      cases U2 with
      | true =>
        obtain rfl : R = (zP, 10) := by rw [← HR.out]; unfold pixR; rw [if_pos ht, if_neg fun h => of_decide_eq_true HU2.out h.2]
        go_wp2
        have hr := set2 RQ.out (.int .i64 0) (.int .i64 0)
        have hb := below2 VB.out (show w.heap.size ≤ w.heap.size + 1 + 1 by omega) (.int .i64 0) (.int .i64 0)
        refine bodyPost_ret (results_rowR rfl _ _ (w.heap.size + 1 + 1) _ _ rfl hr Tryd.underlying23 infoPt) rfl ?_
        exact ⟨rfl, hb⟩
      | false =>
        have hnx := Decidable.not_not.1 (of_decide_eq_false HU1.out)
        have hny := Decidable.not_not.1 (of_decide_eq_false HU2.out)
        obtain rfl : R = (pixN t p, 0) := by rw [← HR.out]; unfold pixR; rw [if_pos ht, if_pos ⟨hnx, hny⟩]
        obtain ⟨hx1, hx2⟩ := hnx
        obtain ⟨hy1, hy2⟩ := hny
        have HX := Lib.hid (show pixN t p = ⟨(p.x - t.x * sd t.z) * 256 / sd t.z, (p.y - t.y * sd t.z) * 256 / sd t.z⟩ from rfl)
        have p1 := prod_at ht.1 ht.2.1 ht.2.2.1
        have p2 := prod_at ht.1 ht.2.2.2.1 ht.2.2.2.2
        have hs := sd_bounds ht.1
        have S1 := fun W => side_any' ht.1 W
        have ea : (boxN t).a.x = t.x * sd t.z := rfl
        have eb : (boxN t).a.y = t.y * sd t.z := rfl
        obtain ⟨c0, c1, c2, _, _, _⟩ := facts3 RT.out
        obtain ⟨x0, x1, _, _, _, _, _, _⟩ := facts4 RD.out
        rw [ea] at x0
        rw [eb] at x1
        clear ea eb ht HR HU1 HU2 N1 N2 RT
        generalize boxN t = D at *
        go_wp2_with fail
        refine (S1 _).mono ?_
        rintro e w4 ⟨rfl, rfl⟩
        generalize sd t.z = s at *
        obtain ⟨u, hu⟩ : ∃ u, t.x * s = u := ⟨_, rfl⟩
        obtain ⟨v, hv⟩ : ∃ v, t.y * s = v := ⟨_, rfl⟩
        rw [hu] at p1 HX x0
        rw [hv] at p2 HX x1
        clear hu hv c0 c1 c2 S1
        have w1' : IntKind.i64.wrap (p.x - u) = p.x - u := IntWalk.i64_in _ (by omega)
        have w2' : IntKind.i64.wrap (p.y - v) = p.y - v := IntWalk.i64_in _ (by omega)
        have w3' : IntKind.i64.wrap ((p.x - u) * 256) = (p.x - u) * 256 := IntWalk.i64_in _ (by omega)
        have w4' : IntKind.i64.wrap ((p.y - v) * 256) = (p.y - v) * 256 := IntWalk.i64_in _ (by omega)
        have C1 := fun W => refFloor_still ((p.x - u) * 256) s hs (by omega) (by omega) W
        have C2 := fun W => refFloor_still ((p.y - v) * 256) s hs (by omega) (by omega) W
        generalize (p.x - u) * 256 / s = X at *
        generalize (p.y - v) * 256 / s = Y at *
        go_wp2_with fail
        go_still_tail 19, (by kernel_rfl)
        still_call (C1 _)
        repeat still_step
        still_call (C2 _)
        repeat still_step
        refine wpStill_nil ?_
        change wpList _ _ _ _ _ (World.drew _)
        go_wp2
        have hr := set2 RQ.out (.int .i64 X) (.int .i64 Y)
        have hb := below2 VB.out (show w.heap.size ≤ w.heap.size + 1 + 1 by omega) (.int .i64 X) (.int .i64 Y)
        refine bodyPost_ret (results_rowR rfl _ _ (w.heap.size + 1 + 1) _ _ rfl hr Tryd.underlying23 infoPt) rfl ?_
        exact ⟨by rw [HX.out]; rfl, hb.drew⟩
end Go.Proofs.YtenacgeahaoglaaDoor.Gd
