/- grid: the functions that look at one tile or point, and the reference's. -/
import Derived.Test.YtenacgeahaoglaaDoorGdKit
import Derived.Deep.QuietTactic
namespace Go.Proofs.YtenacgeahaoglaaDoor.Gd
open Go.RowKit Go.Sort
theorem dec_eq {p q : Prop} [Decidable p] [Decidable q] (h : p ↔ q) : decide p = decide q := decide_eq_decide.2 h
set_option maxRecDepth 100000 in
set_option maxHeartbeats 400000 in
theorem isZoom_any (z : Int) : Answers Tryd.prog 29 #[.int .i64 z] (.bool (decide (isZ z))) := by
  intro w
  go_enter Tryd.func29, Tryd.ntmps29
  go_wp2
  all_goals
    go_ret
    first
      | (refine ⟨ret_bool (decide_eq_false ?_).symm, Below.refl _ _⟩; (try unfold isZ); (try unfold okP); (try unfold hasN); (try unfold near); omega)
      | (refine ⟨ret_bool (dec_eq ?_), Below.refl _ _⟩; (try unfold isZ); (try unfold okP); (try unfold hasN); (try unfold near); omega)
set_option maxRecDepth 100000 in
set_option maxHeartbeats 400000 in
theorem isOfGrid_any (p : Pn) : Answers Tryd.prog 30 #[vP p] (.bool (decide (okP p))) := by
  intro w
  unfold vP
  go_enter Tryd.func30, Tryd.ntmps30
  go_wp2
  all_goals
    go_ret
    first
      | (refine ⟨ret_bool (decide_eq_false ?_).symm, alloc1 _ _⟩; (try unfold isZ); (try unfold okP); (try unfold hasN); (try unfold near); omega)
      | (refine ⟨ret_bool (dec_eq ?_), alloc1 _ _⟩; (try unfold isZ); (try unfold okP); (try unfold hasN); (try unfold near); omega)
set_option maxRecDepth 100000 in
set_option maxHeartbeats 400000 in
theorem isNear_any (c : Int) : Answers Tryd.prog 40 #[.int .i64 c] (.bool (decide (near c))) := by
  intro w
  go_enter Tryd.func40, Tryd.ntmps40
  go_wp2
  all_goals
    go_ret
    first
      | (refine ⟨ret_bool (decide_eq_false ?_).symm, Below.refl _ _⟩; (try unfold isZ); (try unfold okP); (try unfold hasN); (try unfold near); omega)
      | (refine ⟨ret_bool (dec_eq ?_), Below.refl _ _⟩; (try unfold isZ); (try unfold okP); (try unfold hasN); (try unfold near); omega)
set_option maxRecDepth 100000 in
set_option maxHeartbeats 400000 in
theorem has_any (b : Bb) (p : Pn) : Answers Tryd.prog 27 #[vB b, vP p] (.bool (decide (hasN b p))) := by
  intro w
  unfold vP vB
  go_enter Tryd.func27, Tryd.ntmps27
  go_wp2
  all_goals
    go_ret
    first
      | (refine ⟨ret_bool (decide_eq_false ?_).symm, alloc2 _ _ _⟩; (try unfold isZ); (try unfold okP); (try unfold hasN); (try unfold near); omega)
      | (refine ⟨ret_bool (dec_eq ?_), alloc2 _ _ _⟩; (try unfold isZ); (try unfold okP); (try unfold hasN); (try unfold near); omega)
set_option maxRecDepth 100000 in
set_option maxHeartbeats 400000 in
theorem tileOf_any (p : Pn) (z : Int) (hp : okP p) (hz : isZ z) : AnsS Tryd.prog 31 #[vP p, .int .i64 z] (vT (ofN p z)) := by
  intro w hS
  have hs := sd_bounds hz
  obtain ⟨h1, h2, h3, h4⟩ := hp
  obtain ⟨W, hW, hB, hR, hQ⟩ := two_made w 23 25 #[.int .i64 p.x, .int .i64 p.y] #[.int .i64 0, .int .i64 0, .int .i64 0]
  have HB := Lib.hid hB
  have HQ := Lib.hid hQ
  have hc := (hS.below HB.out (Nat.le_refl _)).cell hz
  obtain ⟨r0, r1, _, _⟩ := facts2 hR
  obtain ⟨q0, q1, q2, f0, f1, f2⟩ := facts3 hQ
  have HW := Lib.hid hW
  unfold vP vT ofN
  obtain ⟨z, rfl⟩ := Int.eq_ofNat_of_zero_le hz.1
  have hz1 : (0 : Int) ≤ (z : Int) := hz.1
  have hz2 : (z : Int) < 18 := by have := hz.2; omega
  have hz3 : (z : Int) ≤ 17 := hz.2
  have hz4 : z < 18 := by omega
  rw [Int.toNat_natCast] at hc
  generalize sd z = s at *
  have hs0 : s ≠ 0 := by omega
  have hs1 : s ≠ -1 := by omega
  have e1 : p.x.tdiv s = p.x / s := Int.tdiv_eq_ediv_of_nonneg h1
  have e2 : p.y.tdiv s = p.y / s := Int.tdiv_eq_ediv_of_nonneg h3
  have b1 := Int.ediv_nonneg h1 (show 0 ≤ s by omega)
  have b2 := Int.ediv_nonneg h3 (show 0 ≤ s by omega)
  have b3 := Int.ediv_le_self s h1
  have b4 := Int.ediv_le_self s h3
  clear hW hR hQ hB hz
  generalize p.x / s = u at *
  generalize p.y / s = v at *
  go_enter Tryd.func31, Tryd.ntmps31
  go_wp2_with fail
  rw [HW.out]
  go_still_tail 14, (by kernel_rfl)
  change wpList _ _ _ _ _ W.drew
  go_wp2
  have hr := set3 HQ.out (.int .i64 z) (.int .i64 u) (.int .i64 v)
  have hb := below3 HB.out (show w.heap.size ≤ w.heap.size + 1 by omega) (.int .i64 z) (.int .i64 u) (.int .i64 v)
  refine bodyPost_ret (results_cell_row rfl _ _ (w.heap.size + 1) _ _ (0, 0) _ rfl hr Tryd.underlying25 rfl infoTile) rfl ?_
  exact ⟨by simp, hb.drew⟩
end Go.Proofs.YtenacgeahaoglaaDoor.Gd
