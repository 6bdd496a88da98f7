/- grid: the reference's Same, of equal lists. -/
import Derived.Test.YtenacgeahaoglaaDoorGdRefK
import Derived.Test.YtenacgeahaoglaaDoorGdCoverWalk
namespace Go.Proofs.YtenacgeahaoglaaDoor.Gd
open Go.RowKit Go.Sort
set_option maxRecDepth 100000 in
set_option maxHeartbeats 1000000 in
theorem same_any (v1 v2 : Value) (L : List Tl) (b1 b2 : Nat) (w : World) (h1 : OwnT w b1 v1 L) (h2 : OwnT w b2 v2 L) (hL : L.length ≤ 5000) :
    Calls Tryd.prog 18 #[v1, v2] w fun e w' => e = .returned (.bool true) ∧ Below w.heap.size w w' := by
  by_cases h0 : 0 < L.length
  · obtain ⟨g1, c1, r1, rfl, R1, T1⟩ := ownT_row h1 h0
    obtain ⟨g2, c2, r2, rfl, R2, T2⟩ := ownT_row h2 h0
    obtain ⟨n, hn⟩ : ∃ n, L.length = n := ⟨_, rfl⟩
    have HN := Lib.hid hn
    have HR1 := Lib.hid R1
    have HR2 := Lib.hid R2
    have HT1 := Lib.hid T1
    have HT2 := Lib.hid T2
    rw [hn] at hL h0 ⊢
    clear hn R1 R2 T1 T2 h1 h2
    go_enter Tryd.func18, Tryd.ntmps18
    go_wp2_with fail
    go_loopw [5] (fun i wr => ∃ k : Nat, k ≤ n ∧ i = .int .i64 k ∧ Hid (Below w.heap.size w wr) ∧ Hid (IsRow wr g1 25 r1) ∧ Hid (IsRow wr g2 25 r2)) (fun i _ => n - (intOf i).toNat)
    case atStart => exact ⟨0, by omega, rfl, Lib.hid (Below.refl _ _), HR1, HR2⟩
    case round =>
      clear HR1 HR2
      obtain ⟨k, hk, rfl, BK, HR1, HR2⟩ := hrel
      by_cases hlt : k < n
      · obtain ⟨u, hu⟩ : ∃ u, L[k]? = some u := ⟨_, List.getElem?_eq_getElem (by rw [HN.out]; exact hlt)⟩
        obtain ⟨l0, l1, l2⟩ := HT1.out.cells HR1.out hu
        obtain ⟨m0, m1, m2⟩ := HT2.out.cells HR2.out hu
        have i0 : (0 : Int) ≤ (k : Int) := by omega
        have i4 : (k : Int) < (n : Int) := by omega
        clear hu
        go_upto_region 6 with fail
        go_quiet (fail)
        have G9 := drewN_below wr nq
        obtain ⟨w9, hw9⟩ : ∃ w9, wr.drewN nq = w9 := ⟨_, rfl⟩
        rw [hw9] at G9 ⊢
        replace BK := Lib.hid (BK.out.trans (G9.mono BK.out.size))
        replace HR1 := Lib.hid (HR1.out.below G9 HR1.out.inside)
        replace HR2 := Lib.hid (HR2.out.below G9 HR2.out.inside)
        clear hw9 G9 l0 l1 l2 m0 m1 m2
        go_wp2
        go_roundw
        case rel => exact ⟨k + 1, by omega, by go_num, BK, HR1, HR2⟩
        case measure => simp [intOf]; omega
      · obtain rfl : k = n := by omega
        go_wp2
        go_ret
        exact ⟨rfl, BK.out⟩
  · have hl : L = [] := List.eq_nil_of_length_eq_zero (by omega)
    subst hl
    obtain ⟨a1, c1, rfl⟩ := own_nil h1
    obtain ⟨a2, c2, rfl⟩ := own_nil h2
    clear h1 h2 h0 hL
    go_enter Tryd.func18, Tryd.ntmps18
    go_wp2_with fail
    go_loopw [5] (fun i wr => i = .int .i64 0 ∧ Hid (Below w.heap.size w wr)) (fun _ _ => 0)
    case atStart => exact ⟨rfl, Lib.hid (Below.refl _ _)⟩
    case round =>
      obtain ⟨rfl, BK⟩ := hrel
      go_wp2
      go_ret
      exact ⟨rfl, BK.out⟩
end Go.Proofs.YtenacgeahaoglaaDoor.Gd
