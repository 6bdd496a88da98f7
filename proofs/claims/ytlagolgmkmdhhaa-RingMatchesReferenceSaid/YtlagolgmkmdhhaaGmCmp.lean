/- geom.Compare and the reference's Compare, by contract. -/
import Derived.Test.YtlagolgmkmdhhaaGmLeaf
import Derived.Test.YtlagolgmkmdhhaaGmKit
namespace Go.Proofs.Ytlagolgmkmdhhaa.Geo
open Go.RowKit Go.Sort
def lexI (a b : Int × Int) : Int := if cmpI a.1 b.1 = 0 then cmpI a.2 b.2 else cmpI a.1 b.1
theorem lexI_eq (a b : Pt) : lexI (a.x, a.y) (b.x, b.y) = cmpN a b := by
  unfold lexI cmpI cmpN; grind
theorem cell2 {w : World} {g : Nat} {t : TypeId} {a : Int × Int} (h : IsRow w g t #[.int .i64 a.1, .int .i64 a.2]) : w.cell? ⟨g, 0, none⟩ = some (.int .i64 a.1) ∧ w.cell? ⟨g, 1, none⟩ = some (.int .i64 a.2) := by
  have a0 := h.get 0
  have a1 := h.get 1
  exact ⟨by simpa using a0, by simpa using a1⟩
theorem cmpI_ne {x y : Int} : cmpI x y ≠ 0 ↔ x ≠ y := by unfold cmpI; grind
set_option maxRecDepth 100000 in
set_option maxHeartbeats 1000000 in
theorem slicesCompare_any (g h ca cb : Nat) (a b : Int × Int) (w : World) (hg : IsRow w g 82 #[.int .i64 a.1, .int .i64 a.2]) (hh : IsRow w h 82 #[.int .i64 b.1, .int .i64 b.2]) :
    Calls Try.prog 75 #[.slice (some ⟨g, 0, none⟩) 2 ca, .slice (some ⟨h, 0, none⟩) 2 cb] w fun e w' => e = .returned (.int .i64 (lexI a b)) ∧ w = w' := by
  obtain ⟨a0, a1⟩ := cell2 hg
  obtain ⟨b0, b1⟩ := cell2 hh
  clear hg hh
  go_enter Try.func75, Try.ntmps75
  go_wp2
  go_loop [11] (fun i => ∃ k : Nat, k ≤ 2 ∧ i = .int .i64 k ∧ Hid (0 < k → a.1 = b.1) ∧ Hid (1 < k → a.2 = b.2)) (fun i => 2 - (intOf i).toNat)
  case atStart => exact ⟨0, by omega, rfl, Lib.hid (by omega), Lib.hid (by omega)⟩
  case round =>
    obtain ⟨k, hk, rfl, h1, h2⟩ := hrel
    match k, hk with
    | 0, _ =>
      go_wp2_with fail
      refine (cmpInt_any a.1 b.1 _).mono ?_
      rintro e w' ⟨rfl, rfl⟩
      by_cases he : a.1 = b.1
      · have hz : cmpI a.1 b.1 = 0 := by unfold cmpI; rw [he]; simp
        rw [hz]
        go_wp2
        go_round
        case rel => exact ⟨1, by omega, by go_num, Lib.hid (fun _ => he), Lib.hid (by omega)⟩
        case measure => simp [intOf]
      · have hz := cmpI_ne.2 he
        have hz' : (cmpI a.1 b.1 != 0) = true := by simpa using hz
        go_wp2
        go_ret
        exact ⟨ret_int (by unfold lexI; rw [if_neg hz]), rfl⟩
    | 1, _ =>
      go_wp2_with fail
      refine (cmpInt_any a.2 b.2 _).mono ?_
      rintro e w' ⟨rfl, rfl⟩
      have e1 := h1.out (by decide)
      have z1 : cmpI a.1 b.1 = 0 := by unfold cmpI; rw [e1]; simp
      by_cases he : a.2 = b.2
      · have hz : cmpI a.2 b.2 = 0 := by unfold cmpI; rw [he]; simp
        rw [hz]
        go_wp2
        go_round
        case rel => exact ⟨2, by omega, by go_num, Lib.hid (fun _ => e1), Lib.hid (fun _ => he)⟩
        case measure => simp [intOf]
      · have hz := cmpI_ne.2 he
        have hz' : (cmpI a.2 b.2 != 0) = true := by simpa using hz
        go_wp2
        go_ret
        exact ⟨ret_int (by unfold lexI; rw [if_pos z1]), rfl⟩
    | 2, _ =>
      have e1 := h1.out (by decide)
      have e2 := h2.out (by decide)
      have z1 : cmpI a.1 b.1 = 0 := by unfold cmpI; rw [e1]; simp
      have z2 : cmpI a.2 b.2 = 0 := by unfold cmpI; rw [e2]; simp
      have HZ := Lib.hid (show lexI a b = 0 by unfold lexI; rw [if_pos z1, z2])
      clear e1 e2 z1 z2
      go_wp2
      go_ret
      exact ⟨ret_int HZ.out.symm, rfl⟩
set_option maxRecDepth 100000 in
set_option maxHeartbeats 1000000 in
theorem lexical_any (a b : Int × Int) (w : World) :
    Calls Try.prog 61 #[.agg #[.int .i64 a.1, .int .i64 a.2], .agg #[.int .i64 b.1, .int .i64 b.2]] w fun e w' => e = .returned (.int .i64 (lexI a b)) ∧ Below w.heap.size w w' := by
  obtain ⟨W0, hW0⟩ : ∃ W0, (w.alloc (.cells #[.int .i64 a.1, .int .i64 a.2] 82)).alloc (.cells #[.int .i64 b.1, .int .i64 b.2] 82) = W0 := ⟨_, rfl⟩
  have B0 : Hid (Below w.heap.size w W0) := hW0 ▸ alloc2 _ _ _
  have R0 : Hid (IsRow W0 w.heap.size 82 #[.int .i64 a.1, .int .i64 a.2]) := hW0 ▸ (IsRow.made _ _ _).later _
  have R1 : Hid (IsRow W0 (w.heap.size + 1) 82 #[.int .i64 b.1, .int .i64 b.2]) := by
    have := IsRow.made (w.alloc (.cells #[.int .i64 a.1, .int .i64 a.2] 82)) 82 #[.int .i64 b.1, .int .i64 b.2]
    rw [World.size_alloc] at this
    exact hW0 ▸ this
  have HW0 := Lib.hid hW0
  clear hW0
  go_enter Try.func61, Try.ntmps61
  go_wp2
  rw [HW0.out]
  have c1 := fun d os => Calls.regrown_of ((slicesCompare_any w.heap.size (w.heap.size + 1) 2 2 a b (grow (redrawn W0 d) os) (R0.out.below (below_regrown W0 d os) R0.out.inside) (R1.out.below (below_regrown W0 d os) R1.out.inside)).mono fun e w' ⟨he, hw⟩ => ⟨he, hw ▸ Below.refl _ _⟩)
  refine wp_region_quiet_below (by kernel_rfl) (by kernel_rfl) ?_
  repeat (quiet_step (first | with_reducible exact c1 _ _))
  refine wpQuiet_nil ?_
  intro _ hw'
  obtain ⟨⟨dq, osq⟩, hw''⟩ := hw'
  subst hw''
  go_wp2
  go_ret
  exact ⟨rfl, B0.out.trans ((below_regrown W0 dq osq).mono B0.out.size)⟩
set_option maxRecDepth 100000 in
set_option maxHeartbeats 1000000 in
theorem compare_any (a b : Pt) : Answers Try.prog 40 #[.agg #[.int .i64 a.x, .int .i64 a.y], .agg #[.int .i64 b.x, .int .i64 b.y]] (.int .i64 (cmpN a b)) := by
  intro w
  go_enter Try.func40, Try.ntmps40
  go_wp2_with fail
  refine (lexical_any (a.x, a.y) (b.x, b.y) _).mono ?_
  rintro e w1 ⟨rfl, hb1⟩
  go_wp2
  go_ret
  exact ⟨ret_int (lexI_eq a b), (alloc2 _ _ _).trans (hb1.mono (by simp; omega))⟩
end Go.Proofs.Ytlagolgmkmdhhaa.Geo
