/- grid: Box, Up. -/
import Derived.Test.YtenacgeahaoglaaDoorGdOf
namespace Go.Proofs.YtenacgeahaoglaaDoor.Gd
open Go.RowKit Go.Sort
theorem held_tile {w w' : World} {b n : Nat} {x y s : Int} (R : IsRow w b 25 #[.int .i64 n, .int .i64 x, .int .i64 y]) (hg : 0 < w.heap.size) (hc : w.cell? ⟨0, n, none⟩ = some (.int .i64 s)) (hb : Below w.heap.size w w') :
    w'.cell? ⟨b, 0, none⟩ = some (.int .i64 n) ∧ w'.cell? ⟨b, 1, none⟩ = some (.int .i64 x) ∧ w'.cell? ⟨b, 2, none⟩ = some (.int .i64 y) ∧ w'.cell? ⟨0, n, none⟩ = some (.int .i64 s) := by
  have R' := R.below hb R.inside
  exact ⟨R'.get 0, R'.get 1, R'.get 2, (hb.cell (p := ⟨0, n, none⟩) hg).trans hc⟩
theorem row_later (w : World) {w' : World} {t : TypeId} {cs : Array Value} (h : Below (w.alloc (.cells cs t)).drew.heap.size (w.alloc (.cells cs t)).drew w') : IsRow w' w.heap.size t cs := by
  have r := (IsRow.made w t cs).below (drew_below _) (IsRow.made w t cs).inside
  exact r.below h r.inside
set_option maxRecDepth 100000 in
set_option maxHeartbeats 1000000 in
theorem box_any (t : Tl) : AnsS Tryd.prog 12 #[vT t] (vR (vB (boxR t).1) (boxR t).2) := by
  intro w hS
  obtain ⟨V, hV⟩ : ∃ V, decide (okT t) = V := ⟨_, rfl⟩
  have K1 := (isValid_any t).to (congrArg Value.bool hV)
  obtain ⟨R, hR⟩ : ∃ R, boxR t = R := ⟨_, rfl⟩
  have HR := Lib.hid hR
  rw [hR]
  obtain ⟨W, hW, hB, hP, hQ⟩ := two_made w 25 27 #[.int .i64 t.z, .int .i64 t.x, .int .i64 t.y] #[.int .i64 0, .int .i64 0, .int .i64 0, .int .i64 0]
  have HB := Lib.hid hB
  have HP := Lib.hid hP
  have HQ := Lib.hid hQ
  have HS := Lib.hid (hS.below HB.out (Nat.le_refl _))
  have HW := Lib.hid hW
  have HV := Lib.hid hV
  clear hW hV hR hB hQ hS
  obtain ⟨c0, c1, c2, _, _, _⟩ := facts3 hP
  have K1 := K1 W HS.out
  clear hP
  unfold vT vR vB at *
  go_enter Tryd.func12, Tryd.ntmps12
  go_wp2_with fail
  rw [HW.out]
  refine K1.mono ?_
  rintro e w1 ⟨rfl, b1⟩
  have B1 := Lib.hid (HB.out.trans (b1.mono HB.out.size))
  have P1 := Lib.hid (HP.out.below b1 HP.out.inside)
  have Q1 := Lib.hid (HQ.out.below b1 HQ.out.inside)
  have S1 := Lib.hid (HS.out.below b1 (Nat.le_refl _))
  clear b1 K1 HB HP HQ HW HS c0 c1 c2
  obtain ⟨d0, d1, d2, d3, f0, f1, f2, f3⟩ := facts4 Q1.out
  obtain ⟨c0, c1, c2, _, _, _⟩ := facts3 P1.out
  cases V with
  | false =>
    obtain rfl : R = (zB, 1) := by rw [← HR.out]; unfold boxR; rw [if_neg (of_decide_eq_false HV.out)]
    go_wp2
    have hr := set4 Q1.out (.int .i64 0) (.int .i64 0) (.int .i64 0) (.int .i64 0)
    have hb := below4 B1.out (show w.heap.size ≤ w.heap.size + 1 by omega) (.int .i64 0) (.int .i64 0) (.int .i64 0) (.int .i64 0)
    refine bodyPost_ret (results_rowR rfl _ _ (w.heap.size + 1) _ _ rfl hr Tryd.underlying27 infoBox) rfl ?_
    exact ⟨rfl, hb⟩
  | true =>
    have ht := of_decide_eq_true HV.out
    obtain rfl : R = (boxN t, 0) := by rw [← HR.out]; unfold boxR; rw [if_pos ht]
    have K2 := corner_any t ht w1.drew (S1.out.below (drew_below _) (Nat.le_refl _))
    have A1 := Lib.hid ((alloc1 w1 (.cells #[.int .i64 0, .int .i64 0] 23)).trans ((drew_below _).mono (by simp)))
    have K3 := corner_any t ht (w1.alloc (.cells #[.int .i64 0, .int .i64 0] 23)).drew (S1.out.below A1.out (Nat.le_refl _))
    obtain ⟨z, x, y⟩ := t
    obtain ⟨hz, h1, h2, h3, h4⟩ := ht
    dsimp only at *
    obtain ⟨n, rfl, hn2, hn3, hn4, hn5⟩ := z_facts hz
    have p1 := prod_bounds hz h1 h2
    have p2 := prod_bounds hz h3 h4
    have hs := sd_bounds hz
    have hn := cnt_bounds hz
    have hc := S1.out.cell hz
    rw [Int.toNat_natCast] at hc
    have KG := Lib.hid (fun w' hb => held_tile (w' := w') P1.out S1.out.inside hc hb)
    have HZ := Lib.hid (show Sides w1 from S1.out)
    have HX := Lib.hid (show boxN ⟨n, x, y⟩ = ⟨⟨x * sd n, y * sd n⟩, ⟨x * sd n + sd n - 1, y * sd n + sd n - 1⟩⟩ from rfl)
    unfold vT vP at K2 K3
    dsimp only at K2 K3
    clear hz HV HR
    generalize sd (n : Int) = s at *
    obtain ⟨u, hu⟩ : ∃ u, x * s = u := ⟨_, rfl⟩
    obtain ⟨v, hv⟩ : ∃ v, y * s = v := ⟨_, rfl⟩
    rw [hu] at p1 K2 K3 HX
    rw [hv] at p2 K2 K3 HX
    clear hu hv
    have hw1 : IntKind.i64.wrap (u + s) = u + s := IntWalk.i64_in _ (by omega)
    have hw2 : IntKind.i64.wrap (v + s) = v + s := IntWalk.i64_in _ (by omega)
    have SZ := Lib.hid S1.out.inside
    go_upto_region 3 with fail
    go_cut [4, 5] from 3 to 4 (fun s4 s5 wx => s4 = .int .i64 s ∧ ∃ g, s5 = .pointer (some ⟨g, 0, none⟩) ∧ Hid (w1.heap.size ≤ g) ∧ Hid (Below w1.heap.size w1 wx) ∧ Hid (IsRow wx g 23 #[.int .i64 u, .int .i64 v]))
    case first =>
      go_region_held3 (fun w' => w'.cell? ⟨w.heap.size, 0, none⟩ = some (.int .i64 n) ∧ w'.cell? ⟨w.heap.size, 1, none⟩ = some (.int .i64 x) ∧ w'.cell? ⟨w.heap.size, 2, none⟩ = some (.int .i64 y) ∧ w'.cell? ⟨0, n, none⟩ = some (.int .i64 s)) (first | exact KS | exact KA _ _ | exact KB _ _ | go_keep)
        (first
          | (go_at_call 36; (with_reducible refine K2.mono ?_); rintro e w4 ⟨rfl, hb4⟩; have G4 := Lib.hid ((drew_below w1).trans hb4); have KS := KG.out w4 G4.out; have KA := fun a b => KG.out _ (below2 (G4.out.alloc G4.out.size (.cells #[.int .i64 0, .int .i64 0] 23)) G4.out.size a b))
          | (go_at_call 36; (with_reducible refine K3.mono ?_); rintro e w4 ⟨rfl, hb4⟩; have G4 := Lib.hid (A1.out.trans (hb4.mono A1.out.size)); have KS := KG.out w4 G4.out; have X4 := Lib.hid (row_later w1 hb4); obtain ⟨e0, e1, g0, g1⟩ := facts2 X4.out; have KB := fun a b => KG.out _ (below2 (g := w1.heap.size) G4.out (Nat.le_refl _) a b)))
      all_goals
        go_wp2_with fail
        go_meet
        first
          | exact ⟨rfl, _, rfl, Lib.hid G4.out.size, Lib.hid (G4.out.alloc G4.out.size _), Lib.hid (IsRow.made _ _ _)⟩
          | exact ⟨rfl, _, rfl, Lib.hid (Nat.le_refl _), Lib.hid (below2 G4.out (Nat.le_refl _) _ _), Lib.hid (set2 X4.out _ _)⟩
    case rest =>
      obtain ⟨rfl, g, rfl, hg, hbx, hrx⟩ := hcut
      have Q5 := Lib.hid (Q1.out.below hbx.out Q1.out.inside)
      have B5 := Lib.hid (B1.out.trans (hbx.out.mono B1.out.size))
      clear A1 KG HZ P1 Q1 B1 S1 c0 c1 c2 d0 d1 d2 d3 f0 f1 f2 f3 hg hbx K2 K3 SZ
      obtain ⟨d0, d1, d2, d3, f0, f1, f2, f3⟩ := facts4 Q5.out
      obtain ⟨e0, e1, _, _⟩ := facts2 hrx.out
      have hw3 : IntKind.i64.wrap (u + s - 1) = u + s - 1 := IntWalk.i64_in _ (by omega)
      have hw4 : IntKind.i64.wrap (v + s - 1) = v + s - 1 := IntWalk.i64_in _ (by omega)
      go_wp2
      have hr := set4 Q5.out (.int .i64 u) (.int .i64 v) (.int .i64 (u + s - 1)) (.int .i64 (v + s - 1))
      have hb := below4 B5.out (show w.heap.size ≤ w.heap.size + 1 by omega) (.int .i64 u) (.int .i64 v) (.int .i64 (u + s - 1)) (.int .i64 (v + s - 1))
      refine bodyPost_ret (results_rowR rfl _ _ (w.heap.size + 1) _ _ rfl hr Tryd.underlying27 infoBox) rfl ?_
      exact ⟨by rw [HX.out]; rfl, hb⟩
end Go.Proofs.YtenacgeahaoglaaDoor.Gd
