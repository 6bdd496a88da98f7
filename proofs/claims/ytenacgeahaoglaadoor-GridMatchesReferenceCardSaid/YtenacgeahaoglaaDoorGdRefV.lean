/- grid: the reference's Valid. -/
import Derived.Test.YtenacgeahaoglaaDoorGdRefA
namespace Go.Proofs.YtenacgeahaoglaaDoor.Gd
open Go.RowKit Go.Sort
theorem drewN_below2 (w : World) (k : Nat) {B : Nat} (h : B ≤ w.heap.size) : Below B w (w.drewN k) := (drewN_below w k).mono h
set_option maxRecDepth 100000 in
set_option maxHeartbeats 4000000 in
theorem refValid_any (t : Tl) : Answers Tryd.prog 37 #[vT t] (.bool (decide (okT t))) := by
  intro w
  obtain ⟨V, hV⟩ : ∃ V, decide (isZ t.z) = V := ⟨_, rfl⟩
  have L1 := fun W => level_still hV W
  have S1 := fun (hz : isZ t.z) W => side_still hz W
  have hd := fun (hz : isZ t.z) => div_facts hz
  have hb := fun (hz : isZ t.z) => sd_bounds hz
  have hn := fun (hz : isZ t.z) => cnt_bounds hz
  obtain ⟨W, hW⟩ : ∃ W, w.alloc (.cells #[.int .i64 t.z, .int .i64 t.x, .int .i64 t.y] 25) = W := ⟨_, rfl⟩
  obtain ⟨HB, R⟩ := rowB w _ _ hW
  obtain ⟨c0, c1, c2, _, _, _⟩ := facts3 R.out
  have HW := Lib.hid hW
  clear hW
  unfold vT
  obtain ⟨A, hA⟩ : ∃ A, decide (okT t) = A := ⟨_, rfl⟩
  have HA := Lib.hid hA
  rw [hA]
  clear hA
  go_enter Tryd.func37, Tryd.ntmps37
  go_upto_region 1 with fail
  rw [HW.out]
  cases V with
  | false =>
    have hz := of_decide_eq_false hV
    obtain rfl : A = false := by rw [← HA.out]; exact decide_eq_false fun h => hz h.1
    clear S1 hd hb hn hV hz
    go_quiet ((go_at_call 32; exact Calls.quiet_of_same (L1 _)))
    go_wp2
    go_ret
    exact ⟨rfl, HB.out.trans (drewN_below2 _ _ HB.out.size)⟩
  | true =>
    have hz := of_decide_eq_true hV
    have S1 := S1 hz
    have hd := hd hz
    have hb := hb hz
    have hn := hn hz
    have HO := Lib.hid (show okT t ↔ 0 ≤ t.x ∧ t.x < cnt t.z ∧ 0 ≤ t.y ∧ t.y < cnt t.z from ⟨fun h => h.2, fun h => ⟨hz, h⟩⟩)
    clear hV hz
    generalize sd t.z = s at *
    generalize cnt t.z = c at *
    have hs0 : s ≠ 0 := by omega
    have hs1 : s ≠ -1 := by omega
    by_cases h1 : 0 ≤ t.x
    · by_cases h2 : 0 ≤ t.y
      · by_cases h3 : t.x < c
        · by_cases h4 : t.y < c
          · obtain rfl : A = true := by rw [← HA.out]; exact decide_eq_true (HO.out.2 ⟨h1, h3, h2, h4⟩)
            go_quiet (first | (go_at_call 32; exact Calls.quiet_of_same (L1 _)) | (go_at_call 34; exact Calls.quiet_of_same (S1 _)))
            go_wp2
            go_ret
            exact ⟨rfl, HB.out.trans (drewN_below2 _ _ HB.out.size)⟩
          · obtain rfl : A = false := by rw [← HA.out]; exact decide_eq_false fun h => h4 (HO.out.1 h).2.2.2
            go_quiet (first | (go_at_call 32; exact Calls.quiet_of_same (L1 _)) | (go_at_call 34; exact Calls.quiet_of_same (S1 _)))
            go_wp2
            go_ret
            exact ⟨rfl, HB.out.trans (drewN_below2 _ _ HB.out.size)⟩
        · obtain rfl : A = false := by rw [← HA.out]; exact decide_eq_false fun h => h3 (HO.out.1 h).2.1
          go_quiet (first | (go_at_call 32; exact Calls.quiet_of_same (L1 _)) | (go_at_call 34; exact Calls.quiet_of_same (S1 _)))
          go_wp2
          go_ret
          exact ⟨rfl, HB.out.trans (drewN_below2 _ _ HB.out.size)⟩
      · obtain rfl : A = false := by rw [← HA.out]; exact decide_eq_false fun h => h2 (HO.out.1 h).2.2.1
        go_quiet (first | (go_at_call 32; exact Calls.quiet_of_same (L1 _)) | (go_at_call 34; exact Calls.quiet_of_same (S1 _)))
        go_wp2
        go_ret
        exact ⟨rfl, HB.out.trans (drewN_below2 _ _ HB.out.size)⟩
    · obtain rfl : A = false := by rw [← HA.out]; exact decide_eq_false fun h => h1 (HO.out.1 h).1
      go_quiet (first | (go_at_call 32; exact Calls.quiet_of_same (L1 _)) | (go_at_call 34; exact Calls.quiet_of_same (S1 _)))
      go_wp2
      go_ret
      exact ⟨rfl, HB.out.trans (drewN_below2 _ _ HB.out.size)⟩
end Go.Proofs.YtenacgeahaoglaaDoor.Gd
