/- grid: valid tiles, corners, pixels; Of, Box, Up, Pixel. -/
import Derived.Test.YtenacgeahaoglaaDoorGdLeaf
namespace Go.Proofs.YtenacgeahaoglaaDoor.Gd
open Go.RowKit Go.Sort
theorem z_facts {z : Int} (h : isZ z) : ∃ n : Nat, z = n ∧ (0 : Int) ≤ (n : Int) ∧ (n : Int) < 18 ∧ (n : Int) ≤ 17 ∧ n < 18 := by
  obtain ⟨n, rfl⟩ := Int.eq_ofNat_of_zero_le h.1
  have := h.2
  exact ⟨n, rfl, by omega, by omega, by omega, by omega⟩
theorem div_facts {z : Int} (hz : isZ z) : (1048576 : Int).tdiv (sd z) = cnt z := by
  rw [Int.tdiv_eq_ediv_of_nonneg (by decide), grid_div hz]
set_option maxRecDepth 100000 in
set_option maxHeartbeats 1000000 in
theorem isValid_any (t : Tl) : AnsS Tryd.prog 35 #[vT t] (.bool (decide (okT t))) := by
  intro w hS
  obtain ⟨V, hV⟩ : ∃ V, decide (isZ t.z) = V := ⟨_, rfl⟩
  have K := fun W => (isZoom_any t.z).to (congrArg Value.bool hV) W
  obtain ⟨W, hW⟩ : ∃ W, w.alloc (.cells #[.int .i64 t.z, .int .i64 t.x, .int .i64 t.y] 25) = W := ⟨_, rfl⟩
  have HB := Lib.hid (show Below w.heap.size w W from hW ▸ alloc1 _ _)
  have R := Lib.hid (show IsRow W w.heap.size 25 #[.int .i64 t.z, .int .i64 t.x, .int .i64 t.y] from hW ▸ IsRow.made _ _ _)
  have HS := Lib.hid (hS.below HB.out (Nat.le_refl _))
  have r0 := R.out.get 0
  have HW := Lib.hid hW
  have HV := Lib.hid hV
  clear hW hV
  unfold vT
  go_enter Tryd.func35, Tryd.ntmps35
  go_wp2_with fail
  rw [HW.out]
  refine (K _).mono ?_
  rintro e w1 ⟨rfl, b1⟩
  have B1 := Lib.hid (HB.out.trans (b1.mono HB.out.size))
  have R1 := R.out.below b1 R.out.inside
  have S1 := Lib.hid (HS.out.below b1 (Nat.le_refl _))
  obtain ⟨y0, y1, y2, _, _, _⟩ := facts3 R1
  clear b1 K HB R R1 HW HS r0
  cases V with
  | false =>
    have hz := of_decide_eq_false HV.out
    go_wp2
    go_ret
    exact ⟨ret_bool (decide_eq_false fun h => hz h.1).symm, B1.out⟩
  | true =>
    have hz := of_decide_eq_true HV.out
    have hc := S1.out.cell hz
    have hs := sd_bounds hz
    have hd := div_facts hz
    have hn := cnt_bounds hz
    have HO := Lib.hid (show okT t ↔ 0 ≤ t.x ∧ t.x < cnt t.z ∧ 0 ≤ t.y ∧ t.y < cnt t.z from ⟨fun h => h.2, fun h => ⟨hz, h⟩⟩)
    generalize sd t.z = s at *
    generalize cnt t.z = c at *
    have hs0 : s ≠ 0 := by omega
    have hs1 : s ≠ -1 := by omega
    obtain ⟨n, hn1, hn2, hn3, hn4, hn5⟩ := z_facts hz
    rw [hn1] at y0 hc
    rw [Int.toNat_natCast] at hc
    go_wp2
    all_goals
      go_ret
      first
        | (refine ⟨ret_bool (decide_eq_false ?_).symm, B1.out⟩; rw [HO.out]; omega)
        | (refine ⟨ret_bool (dec_eq ?_), B1.out⟩; rw [HO.out]; omega)
set_option maxRecDepth 100000 in
set_option maxHeartbeats 1000000 in
theorem corner_any (t : Tl) (ht : okT t) : AnsS Tryd.prog 36 #[vT t] (vP ⟨t.x * sd t.z, t.y * sd t.z⟩) := by
  intro w hS
  obtain ⟨z, x, y⟩ := t
  obtain ⟨hz, h1, h2, h3, h4⟩ := ht
  dsimp only at *
  obtain ⟨n, rfl, hn2, hn3, hn4, hn5⟩ := z_facts hz
  have p1 := prod_bounds hz h1 h2
  have p2 := prod_bounds hz h3 h4
  have hs := sd_bounds hz
  have hn := cnt_bounds hz
  obtain ⟨W, hW, hB, hR, hQ⟩ := two_made w 25 23 #[.int .i64 n, .int .i64 x, .int .i64 y] #[.int .i64 0, .int .i64 0]
  have HB := Lib.hid hB
  have HQ := Lib.hid hQ
  have hc := (hS.below HB.out (Nat.le_refl _)).cell hz
  obtain ⟨r0, r1, r2, _, _, _⟩ := facts3 hR
  obtain ⟨q0, q1, f0, f1⟩ := facts2 hQ
  have HW := Lib.hid hW
  unfold vT vP
  rw [Int.toNat_natCast] at hc
  generalize sd (n : Int) = s at *
  obtain ⟨u, hu⟩ : ∃ u, x * s = u := ⟨_, rfl⟩
  obtain ⟨v, hv⟩ : ∃ v, y * s = v := ⟨_, rfl⟩
  rw [hu] at p1
  rw [hv] at p2
  rw [hu, hv]
  have hw1 : IntKind.i64.wrap (x * s) = u := by rw [hu]; exact IntWalk.i64_in _ (by omega)
  have hw2 : IntKind.i64.wrap (y * s) = v := by rw [hv]; exact IntWalk.i64_in _ (by omega)
  clear hW hR hQ hB hz hu hv
  go_enter Tryd.func36, Tryd.ntmps36
  go_wp2_with fail
  rw [HW.out]
  go_still_tail 15, (by kernel_rfl)
  change wpList _ _ _ _ _ W.drew
  go_wp2
  have hr := set2 HQ.out (.int .i64 u) (.int .i64 v)
  have hb := below2 HB.out (show w.heap.size ≤ w.heap.size + 1 by omega) (.int .i64 u) (.int .i64 v)
  refine bodyPost_ret (results_cell_row rfl _ _ (w.heap.size + 1) _ _ (0, 0) _ rfl hr Tryd.underlying23 rfl infoPt) rfl ?_
  exact ⟨by simp, hb.drew⟩
set_option maxRecDepth 100000 in
set_option maxHeartbeats 1000000 in
theorem pixels_any (d s : Int) (hs : 8 ≤ s ∧ s ≤ 1048576) (h1 : -8388608 ≤ d) (h2 : d ≤ 8388608) (w : World) :
    Calls Tryd.prog 41 #[.int .i64 d, .int .i64 s] w fun e w' => e = .returned (.int .i64 (px d s)) ∧ w = w' := by
  have hf := floor_of (a := d * 256) (s := s) (by omega)
  have hs0 : s ≠ 0 := by omega
  have hs1 : s ≠ -1 := by omega
  have hw1 : IntKind.i64.wrap (d * 256) = d * 256 := IntWalk.i64_in _ (by omega)
  have hb1 : -2147483648 ≤ (d * 256).tdiv s ∧ (d * 256).tdiv s ≤ 2147483648 := by
    have e := Int.natAbs_tdiv_le_natAbs (d * 256) s
    have : (d * 256).natAbs ≤ 2147483648 := by omega
    generalize (d * 256).tdiv s = n at *
    omega
  have h3 := Int.mul_tdiv_add_tmod (d * 256) s
  have h4 := Int.tmod_lt_of_pos (d * 256) (show 0 < s by omega)
  have h5 : -s < (d * 256).tmod s := by
    have := Int.tmod_lt_of_pos (-(d * 256)) (show 0 < s by omega)
    rw [Int.neg_tmod] at this
    omega
  rw [Int.mul_comm] at h3
  unfold px
  generalize d * 256 / s = q at *
  obtain ⟨n, hn⟩ : ∃ n, (d * 256).tdiv s = n := ⟨_, rfl⟩
  rw [hn] at hf hb1 h3
  generalize (d * 256).tmod s = r at *
  have hw2 : IntKind.i64.wrap (n * s) = n * s := IntWalk.i64_in _ (by omega)
  have hw4 : wrap64 (n * s) = n * s := by
    generalize n * s = m at *
    unfold wrap64; omega
  have hw3 : IntKind.i64.wrap (n - 1) = n - 1 := IntWalk.i64_in _ (by omega)
  obtain ⟨m, hm⟩ : ∃ m, n * s = m := ⟨_, rfl⟩
  rw [hm] at hf h3
  rw [show IntKind.i64.wrap (n * s) = IntKind.i64.wrap (n * s) from rfl, hm] at hw2
  have hw5 : wrap64 (n * s) = m := hw4.trans hm
  have hw6 : IntKind.i64.wrap (n * s) = m := by rw [hm]; exact hw2
  clear hw2 hw4 hm
  generalize hD : d * 256 = D at *
  go_enter Tryd.func41, Tryd.ntmps41
  go_wp2
  all_goals
    go_ret
    refine ⟨ret_int ?_, rfl⟩
    rw [← hf]
    split <;> omega
end Go.Proofs.YtenacgeahaoglaaDoor.Gd
