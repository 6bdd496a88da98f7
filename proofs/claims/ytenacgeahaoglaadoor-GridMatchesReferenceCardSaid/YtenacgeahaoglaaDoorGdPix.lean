/- grid: Up, Pixel. -/
import Derived.Test.YtenacgeahaoglaaDoorGdBox
namespace Go.Proofs.YtenacgeahaoglaaDoor.Gd
open Go.RowKit Go.Sort
theorem half_eq (x : Int) (h : 0 ≤ x) : x.tdiv 2 = x / 2 := Int.tdiv_eq_ediv_of_nonneg h
set_option maxRecDepth 100000 in
set_option maxHeartbeats 1000000 in
theorem up_any (t : Tl) : AnsS Tryd.prog 14 #[vT t] (vR (vT (upR t).1) (upR t).2) := by
  intro w hS
  obtain ⟨V, hV⟩ : ∃ V, decide (okT t) = V := ⟨_, rfl⟩
  have K1 := (isValid_any t).to (congrArg Value.bool hV)
  obtain ⟨R, hR⟩ : ∃ R, upR t = R := ⟨_, rfl⟩
  have HR := Lib.hid hR
  rw [hR]
  obtain ⟨W, hW, hB, hP, hQ⟩ := two_made w 25 25 #[.int .i64 t.z, .int .i64 t.x, .int .i64 t.y] #[.int .i64 0, .int .i64 0, .int .i64 0]
  have HB := Lib.hid hB
  have HP := Lib.hid hP
  have HQ := Lib.hid hQ
  have HS := Lib.hid (hS.below HB.out (Nat.le_refl _))
  have HW := Lib.hid hW
  have HV := Lib.hid hV
  clear hW hV hR hB hQ hS
  obtain ⟨c0, c1, c2, _, _, _⟩ := facts3 hP
  have K1 := K1 W HS.out
  clear hP
  unfold vT vR at *
  go_enter Tryd.func14, Tryd.ntmps14
  go_wp2_with fail
  rw [HW.out]
  refine K1.mono ?_
  rintro e w1 ⟨rfl, b1⟩
  have B1 := Lib.hid (HB.out.trans (b1.mono HB.out.size))
  have P1 := Lib.hid (HP.out.below b1 HP.out.inside)
  have Q1 := Lib.hid (HQ.out.below b1 HQ.out.inside)
  clear b1 K1 HB HP HQ HW HS c0 c1 c2
  obtain ⟨d0, d1, d2, f0, f1, f2⟩ := facts3 Q1.out
  obtain ⟨c0, c1, c2, _, _, _⟩ := facts3 P1.out
  cases V with
  | false =>
    obtain rfl : R = (zT, 1) := by rw [← HR.out]; unfold upR; rw [if_neg (of_decide_eq_false HV.out)]
    go_wp2
    have hr := set3 Q1.out (.int .i64 0) (.int .i64 0) (.int .i64 0)
    have hb := below3 B1.out (show w.heap.size ≤ w.heap.size + 1 by omega) (.int .i64 0) (.int .i64 0) (.int .i64 0)
    refine bodyPost_ret (results_rowR rfl _ _ (w.heap.size + 1) _ _ rfl hr Tryd.underlying25 infoTile) rfl ?_
    exact ⟨rfl, hb⟩
  | true =>
    have ht := of_decide_eq_true HV.out
    by_cases hz0 : t.z = 0
    · obtain rfl : R = (zT, 11) := by rw [← HR.out]; unfold upR; rw [if_pos ht, if_pos hz0]
      rw [hz0] at c0
      go_wp2
      have hr := set3 Q1.out (.int .i64 0) (.int .i64 0) (.int .i64 0)
      have hb := below3 B1.out (show w.heap.size ≤ w.heap.size + 1 by omega) (.int .i64 0) (.int .i64 0) (.int .i64 0)
      refine bodyPost_ret (results_rowR rfl _ _ (w.heap.size + 1) _ _ rfl hr Tryd.underlying25 infoTile) rfl ?_
      exact ⟨rfl, hb⟩
    · obtain rfl : R = (upN t, 0) := by rw [← HR.out]; unfold upR; rw [if_pos ht, if_neg hz0]
      have HX := Lib.hid (show upN t = ⟨t.z - 1, t.x / 2, t.y / 2⟩ from rfl)
      obtain ⟨z, x, y⟩ := t
      obtain ⟨⟨hz1, hz2⟩, h1, h2, h3, h4⟩ := ht
      dsimp only at *
      have e1 := half_eq x h1
      have e2 := half_eq y h3
      have hn := cnt_bounds ⟨hz1, hz2⟩
      have hw1 : IntKind.i64.wrap (z - 1) = z - 1 := IntWalk.i64_in _ (by omega)
      clear HR HV
      generalize cnt z = c at *
      go_wp2
      have hr := set3 Q1.out (.int .i64 (z - 1)) (.int .i64 (x / 2)) (.int .i64 (y / 2))
      have hb := below3 B1.out (show w.heap.size ≤ w.heap.size + 1 by omega) (.int .i64 (z - 1)) (.int .i64 (x / 2)) (.int .i64 (y / 2))
      refine bodyPost_ret (results_rowR rfl _ _ (w.heap.size + 1) _ _ rfl hr Tryd.underlying25 infoTile) rfl ?_
      exact ⟨by rw [HX.out]; rfl, hb⟩
theorem pixels_still (d s : Int) (hs : 8 ≤ s ∧ s ≤ 1048576) (h1 : -8388608 ≤ d) (h2 : d ≤ 8388608) (w : World) :
    Calls Tryd.prog 41 #[.int .i64 d, .int .i64 s] w fun e w' => e = .returned (.int .i64 (px d s)) ∧ w' = w :=
  (pixels_any d s hs h1 h2 w).mono fun _ _ ⟨a, b⟩ => ⟨a, b.symm⟩
set_option maxRecDepth 100000 in
set_option maxHeartbeats 1000000 in
theorem pixel_any (t : Tl) (p : Pn) : AnsS Tryd.prog 21 #[vT t, vP p] (vR (vP (pixR t p).1) (pixR t p).2) := by
  intro w hS
  obtain ⟨V, hV⟩ : ∃ V, decide (okT t) = V := ⟨_, rfl⟩
  obtain ⟨U1, hU1⟩ : ∃ U, decide (near p.x) = U := ⟨_, rfl⟩
  obtain ⟨U2, hU2⟩ : ∃ U, decide (near p.y) = U := ⟨_, rfl⟩
  have K1 := (isValid_any t).to (congrArg Value.bool hV)
  have N1 := (isNear_any p.x).to (congrArg Value.bool hU1)
  have N2 := (isNear_any p.y).to (congrArg Value.bool hU2)
  obtain ⟨R, hR⟩ : ∃ R, pixR t p = R := ⟨_, rfl⟩
  have HR := Lib.hid hR
  rw [hR]
  obtain ⟨W, hW, hB, hP, hO, hQ⟩ := three_made w 25 23 23 #[.int .i64 t.z, .int .i64 t.x, .int .i64 t.y] #[.int .i64 p.x, .int .i64 p.y] #[.int .i64 0, .int .i64 0]
  have HB := Lib.hid hB
  have HP := Lib.hid hP
  have HO := Lib.hid hO
  have HQ := Lib.hid hQ
  have HS := Lib.hid (hS.below HB.out (Nat.le_refl _))
  have HW := Lib.hid hW
  have HV := Lib.hid hV
  have HU1 := Lib.hid hU1
  have HU2 := Lib.hid hU2
  clear hW hV hR hB hQ hO hS hU1 hU2
  obtain ⟨c0, c1, c2, _, _, _⟩ := facts3 hP
  have K1 := K1 W HS.out
  clear hP
  unfold vT vR vP at *
  go_enter Tryd.func21, Tryd.ntmps21
  go_wp2_with fail
  rw [HW.out]
  refine K1.mono ?_
  rintro e w1 ⟨rfl, b1⟩
  have B1 := Lib.hid (HB.out.trans (b1.mono HB.out.size))
  have P1 := Lib.hid (HP.out.below b1 HP.out.inside)
  have O1 := Lib.hid (HO.out.below b1 HO.out.inside)
  have Q1 := Lib.hid (HQ.out.below b1 HQ.out.inside)
  have S1 := Lib.hid (HS.out.below b1 (Nat.le_refl _))
  clear b1 K1 HB HP HQ HW HS HO c0 c1 c2
  obtain ⟨d0, d1, f0, f1⟩ := facts2 Q1.out
  obtain ⟨c0, c1, c2, _, _, _⟩ := facts3 P1.out
  obtain ⟨o0, o1, _, _⟩ := facts2 O1.out
  cases V with
  | false =>
    obtain rfl : R = (zP, 1) := by rw [← HR.out]; unfold pixR; rw [if_neg (of_decide_eq_false HV.out)]
    go_wp2
    have hr := set2 Q1.out (.int .i64 0) (.int .i64 0)
    have hb := below2 B1.out (show w.heap.size ≤ w.heap.size + 1 + 1 by omega) (.int .i64 0) (.int .i64 0)
    refine bodyPost_ret (results_rowR rfl _ _ (w.heap.size + 1 + 1) _ _ rfl hr Tryd.underlying23 infoPt) rfl ?_
    exact ⟨rfl, hb⟩
  | true =>
    have ht := of_decide_eq_true HV.out
    go_wp2_with fail
    refine (N1 w1).mono ?_
    rintro e w2 ⟨rfl, b2⟩
    have B2 := Lib.hid (B1.out.trans (b2.mono B1.out.size))
    have P2 := Lib.hid (P1.out.below b2 P1.out.inside)
    have O2 := Lib.hid (O1.out.below b2 O1.out.inside)
    have Q2 := Lib.hid (Q1.out.below b2 Q1.out.inside)
    have S2 := Lib.hid (S1.out.below b2 (Nat.le_refl _))
    clear b2 N1 B1 P1 O1 Q1 S1 d0 d1 f0 f1 c0 c1 c2 o0 o1
    obtain ⟨d0, d1, f0, f1⟩ := facts2 Q2.out
    obtain ⟨c0, c1, c2, _, _, _⟩ := facts3 P2.out
    obtain ⟨o0, o1, _, _⟩ := facts2 O2.out
    cases U1 with
    | false =>
      obtain rfl : R = (zP, 10) := by rw [← HR.out]; unfold pixR; rw [if_pos ht, if_neg fun h => of_decide_eq_false HU1.out h.1]
      go_wp2
      have hr := set2 Q2.out (.int .i64 0) (.int .i64 0)
      have hb := below2 B2.out (show w.heap.size ≤ w.heap.size + 1 + 1 by omega) (.int .i64 0) (.int .i64 0)
      refine bodyPost_ret (results_rowR rfl _ _ (w.heap.size + 1 + 1) _ _ rfl hr Tryd.underlying23 infoPt) rfl ?_
      exact ⟨rfl, hb⟩
    | true =>
      go_wp2_with fail
      refine (N2 w2).mono ?_
      rintro e w3 ⟨rfl, b3⟩
      have B3 := Lib.hid (B2.out.trans (b3.mono B2.out.size))
      have P3 := Lib.hid (P2.out.below b3 P2.out.inside)
      have O3 := Lib.hid (O2.out.below b3 O2.out.inside)
      have Q3 := Lib.hid (Q2.out.below b3 Q2.out.inside)
      have S3 := Lib.hid (S2.out.below b3 (Nat.le_refl _))
      clear b3 N2 B2 P2 O2 Q2 S2 d0 d1 f0 f1 c0 c1 c2 o0 o1
      obtain ⟨d0, d1, f0, f1⟩ := facts2 Q3.out
      obtain ⟨c0, c1, c2, _, _, _⟩ := facts3 P3.out
      obtain ⟨o0, o1, _, _⟩ := facts2 O3.out
      cases U2 with
      | false =>
        obtain rfl : R = (zP, 10) := by rw [← HR.out]; unfold pixR; rw [if_pos ht, if_neg fun h => of_decide_eq_false HU2.out h.2]
        go_wp2
        have hr := set2 Q3.out (.int .i64 0) (.int .i64 0)
        have hb := below2 B3.out (show w.heap.size ≤ w.heap.size + 1 + 1 by omega) (.int .i64 0) (.int .i64 0)
        refine bodyPost_ret (results_rowR rfl _ _ (w.heap.size + 1 + 1) _ _ rfl hr Tryd.underlying23 infoPt) rfl ?_
        exact ⟨rfl, hb⟩
      | true =>
        have hnx := of_decide_eq_true HU1.out
        have hny := of_decide_eq_true HU2.out
        obtain rfl : R = (pixN t p, 0) := by rw [← HR.out]; unfold pixR; rw [if_pos ht, if_pos ⟨hnx, hny⟩]
        have K2 := corner_any t ht w3.drew (S3.out.below (drew_below _) (Nat.le_refl _))
        have A1 := Lib.hid ((alloc1 w3 (.cells #[.int .i64 0, .int .i64 0] 23)).trans ((drew_below _).mono (by simp)))
        have K3 := corner_any t ht (w3.alloc (.cells #[.int .i64 0, .int .i64 0] 23)).drew (S3.out.below A1.out (Nat.le_refl _))
        obtain ⟨z, x, y⟩ := t
        obtain ⟨hz, h1, h2, h3, h4⟩ := ht
        dsimp only at *
        obtain ⟨n, rfl, hn2, hn3, hn4, hn5⟩ := z_facts hz
        have p1 := prod_bounds hz h1 h2
        have p2 := prod_bounds hz h3 h4
        have hs := sd_bounds hz
        have hn := cnt_bounds hz
        have hc := S3.out.cell hz
        rw [Int.toNat_natCast] at hc
        have KG := Lib.hid (fun w' hb => held_tile (w' := w') P3.out S3.out.inside hc hb)
        have HX := Lib.hid (show pixN ⟨n, x, y⟩ p = ⟨px (p.x - x * sd n) (sd n), px (p.y - y * sd n) (sd n)⟩ from rfl)
        unfold vT vP at K2 K3
        dsimp only at K2 K3
        clear hz HV HR HU1 HU2
        generalize sd (n : Int) = s at *
        obtain ⟨u, hu⟩ : ∃ u, x * s = u := ⟨_, rfl⟩
        obtain ⟨v, hv⟩ : ∃ v, y * s = v := ⟨_, rfl⟩
        rw [hu] at p1 K2 K3 HX
        rw [hv] at p2 K2 K3 HX
        clear hu hv
        go_upto_region 5 with fail
        go_cut [6, 7] from 5 to 6 (fun s4 s5 wx => s4 = .int .i64 s ∧ ∃ g, s5 = .pointer (some ⟨g, 0, none⟩) ∧ Hid (w3.heap.size ≤ g) ∧ Hid (Below w3.heap.size w3 wx) ∧ Hid (IsRow wx g 23 #[.int .i64 u, .int .i64 v]))
        case first =>
          go_region_held3 (fun w' => w'.cell? ⟨w.heap.size, 0, none⟩ = some (.int .i64 n) ∧ w'.cell? ⟨w.heap.size, 1, none⟩ = some (.int .i64 x) ∧ w'.cell? ⟨w.heap.size, 2, none⟩ = some (.int .i64 y) ∧ w'.cell? ⟨0, n, none⟩ = some (.int .i64 s)) (first | exact KS | exact KA _ _ | exact KB _ _ | go_keep)
            (first
              | (go_at_call 36; (with_reducible refine K2.mono ?_); rintro e w4 ⟨rfl, hb4⟩; have G4 := Lib.hid ((drew_below w3).trans hb4); have KS := KG.out w4 G4.out; have KA := fun a b => KG.out _ (below2 (G4.out.alloc G4.out.size (.cells #[.int .i64 0, .int .i64 0] 23)) G4.out.size a b))
              | (go_at_call 36; (with_reducible refine K3.mono ?_); rintro e w4 ⟨rfl, hb4⟩; have G4 := Lib.hid (A1.out.trans (hb4.mono A1.out.size)); have KS := KG.out w4 G4.out; have X4 := Lib.hid (row_later w3 hb4); obtain ⟨e0, e1, g0, g1⟩ := facts2 X4.out; have KB := fun a b => KG.out _ (below2 (g := w3.heap.size) G4.out (Nat.le_refl _) a b)))
          all_goals
            go_wp2_with fail
            go_meet
            first
              | exact ⟨rfl, _, rfl, Lib.hid G4.out.size, Lib.hid (G4.out.alloc G4.out.size _), Lib.hid (IsRow.made _ _ _)⟩
              | exact ⟨rfl, _, rfl, Lib.hid (Nat.le_refl _), Lib.hid (below2 G4.out (Nat.le_refl _) _ _), Lib.hid (set2 X4.out _ _)⟩
        case rest =>
          obtain ⟨rfl, g, rfl, hg, hbx, hrx⟩ := hcut
          have Q5 := Lib.hid (Q3.out.below hbx.out Q3.out.inside)
          have O5 := Lib.hid (O3.out.below hbx.out O3.out.inside)
          have B5 := Lib.hid (B3.out.trans (hbx.out.mono B3.out.size))
          clear A1 KG P3 Q3 B3 S3 O3 c0 c1 c2 d0 d1 f0 f1 o0 o1 hg hbx K2 K3
          obtain ⟨d0, d1, f0, f1⟩ := facts2 Q5.out
          obtain ⟨o0, o1, _, _⟩ := facts2 O5.out
          obtain ⟨e0, e1, _, _⟩ := facts2 hrx.out
          obtain ⟨hx1, hx2⟩ := hnx
          obtain ⟨hy1, hy2⟩ := hny
          have hw3 : IntKind.i64.wrap (p.x - u) = p.x - u := IntWalk.i64_in _ (by omega)
          have hw4 : IntKind.i64.wrap (p.y - v) = p.y - v := IntWalk.i64_in _ (by omega)
          have C1 := fun W => pixels_still (p.x - u) s hs (by omega) (by omega) W
          have C2 := fun W => pixels_still (p.y - v) s hs (by omega) (by omega) W
          generalize px (p.x - u) s = X at *
          generalize px (p.y - v) s = Y at *
          go_wp2_with fail
          go_still_tail 15, (by kernel_rfl)
          still_call (C1 _)
          repeat still_step
          still_call (C2 _)
          repeat still_step
          refine wpStill_nil ?_
          change wpList _ _ _ _ _ wc.drew
          go_wp2
          have hr := set2 Q5.out (.int .i64 X) (.int .i64 Y)
          have hb := below2 B5.out (show w.heap.size ≤ w.heap.size + 1 + 1 by omega) (.int .i64 X) (.int .i64 Y)
          refine bodyPost_ret (results_rowR rfl _ _ (w.heap.size + 1 + 1) _ _ rfl hr Tryd.underlying23 infoPt) rfl ?_
          exact ⟨by rw [HX.out]; rfl, hb.drew⟩
end Go.Proofs.YtenacgeahaoglaaDoor.Gd
