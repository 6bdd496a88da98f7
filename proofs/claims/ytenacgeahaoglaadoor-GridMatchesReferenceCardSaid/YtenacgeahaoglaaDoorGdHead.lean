/- grid: the examples at the head of each law: they hold. -/
import Derived.Test.YtenacgeahaoglaaDoorGdParse2
namespace Go.Proofs.YtenacgeahaoglaaDoor.Gd
open Go.RowKit Go.Sort
theorem ex_of : ofR ⟨1048575, 8⟩ 17 = (⟨17, 131071, 1⟩, 0) := by decide
theorem ex_box : boxR ⟨1, 1, 0⟩ = (⟨⟨524288, 0⟩, ⟨1048575, 524287⟩⟩, 0) := by decide
theorem ex_pix : pixR ⟨0, 0, 0⟩ ⟨-1, 4096⟩ = (⟨-1, 1⟩, 0) := by decide
theorem ex_one : parseR [49, 47, 49, 47, 48] = (⟨1, 1, 0⟩, 0) := by
  refine parseR_iff (t := ⟨1, 1, 0⟩) (by decide) ?_
  have := txt_nat 1 1 0
  rw [Lib.decDigits_one (by decide), Lib.decDigits_one (by decide)] at this
  exact this
theorem ex_two : parseR [49, 47, 50, 47, 48] = (zT, 5) := by
  unfold parseR
  rw [show cp [49, 47, 50, 47, 48] = ⟨1, 2, 0⟩ by decide, if_neg fun h => absurd h.1 (by decide)]
theorem ex_three : parseR [48, 49, 47, 48, 47, 48] = (zT, 5) := by
  unfold parseR
  rw [show cp [48, 49, 47, 48, 47, 48] = ⟨1, 0, 0⟩ by decide, if_neg]
  rintro ⟨_, h⟩
  have := txt_nat 1 0 0
  rw [Lib.decDigits_one (by decide), Lib.decDigits_one (by decide)] at this
  have h2 := this.symm.trans h
  revert h2
  decide
theorem h_of : AnsG Tryd.prog 10 #[.agg #[.int .i64 1048575, .int .i64 8], .int .i64 17] (.tuple #[.agg #[.int .i64 17, .int .i64 131071, .int .i64 1], .int .i64 0]) := by
  have h := (of_any ⟨1048575, 8⟩ 17).g
  rw [ex_of] at h
  exact h
theorem h_box : AnsG Tryd.prog 12 #[.agg #[.int .i64 1, .int .i64 1, .int .i64 0]] (.tuple #[.agg #[.int .i64 524288, .int .i64 0, .int .i64 1048575, .int .i64 524287], .int .i64 0]) := by
  have h := (box_any ⟨1, 1, 0⟩).g
  rw [ex_box] at h
  exact h
theorem h_pix : AnsG Tryd.prog 21 #[.agg #[.int .i64 0, .int .i64 0, .int .i64 0], .agg #[.int .i64 (-1), .int .i64 4096]] (.tuple #[.agg #[.int .i64 (-1), .int .i64 1], .int .i64 0]) := by
  have h := (pixel_any ⟨0, 0, 0⟩ ⟨-1, 4096⟩).g
  rw [ex_pix] at h
  exact h
theorem h_two : AnsG Tryd.prog 25 #[.string ⟨#[49, 47, 50, 47, 48]⟩] (.tuple #[.agg #[.int .i64 0, .int .i64 0, .int .i64 0], .int .i64 5]) := by
  have h := parse_any [49, 47, 50, 47, 48] (by decide)
  rw [ex_two] at h
  exact h
theorem h_three : AnsG Tryd.prog 25 #[.string ⟨#[48, 49, 47, 48, 47, 48]⟩] (.tuple #[.agg #[.int .i64 0, .int .i64 0, .int .i64 0], .int .i64 5]) := by
  have h := parse_any [48, 49, 47, 48, 47, 48] (by decide)
  rw [ex_three] at h
  exact h
theorem h_one : AnsG Tryd.prog 25 #[.string ⟨#[49, 47, 49, 47, 48]⟩] (.tuple #[.agg #[.int .i64 1, .int .i64 1, .int .i64 0], .int .i64 0]) := by
  have h := parse_any [49, 47, 49, 47, 48] (by decide)
  rw [ex_one] at h
  exact h
theorem made (w : World) {w' : World} {B : Nat} (t : TypeId) (cs : Array Value) (hb : Below B w w') (hB : B ≤ w'.heap.size) : ∃ W, w'.alloc (.cells cs t) = W ∧ Hid (Below B w W) ∧ Hid (Below w'.heap.size w' W) ∧ Hid (IsRow W w'.heap.size t cs) :=
  ⟨_, rfl, hb.alloc hB _, alloc1 _ _, IsRow.made _ _ _⟩
set_option maxRecDepth 100000 in
set_option maxHeartbeats 4000000 in
theorem head_any : AnsG Tryd.prog 9 #[] (.bool true) := by
  intro w hG
  have HG := Lib.hid hG
  clear hG
  go_enter Tryd.func9, Tryd.ntmps9
  go_wp2_with fail
  refine (h_of _ HG.out).mono ?_
  rintro e w1 ⟨rfl, b1⟩
  have B1 := Lib.hid b1
  clear b1
  go_wp2_with fail
  obtain ⟨v1, hv1, V1, L1, R1⟩ := made w 25 #[.int .i64 17, .int .i64 131071, .int .i64 1] B1.out B1.out.size
  rw [hv1]
  obtain ⟨g1, hg1⟩ : ∃ g, w1.heap.size = g := ⟨_, rfl⟩
  rw [hg1] at R1 ⊢
  clear hv1 L1 B1 hg1
  refine (h_box _ (HG.out.below V1.out)).mono ?_
  rintro e w2 ⟨rfl, b2⟩
  have B2 := Lib.hid (V1.out.trans (b2.mono V1.out.size))
  have R1 := Lib.hid (R1.out.below b2 R1.out.inside)
  clear b2 V1
  go_wp2_with fail
  obtain ⟨v2, hv2, V2, L2, R2⟩ := made w 27 #[.int .i64 524288, .int .i64 0, .int .i64 1048575, .int .i64 524287] B2.out B2.out.size
  rw [hv2]
  have R1 := Lib.hid (R1.out.below L2.out R1.out.inside)
  obtain ⟨g2, hg2⟩ : ∃ g, w2.heap.size = g := ⟨_, rfl⟩
  rw [hg2] at R2 ⊢
  clear hv2 L2 B2 hg2
  refine (h_pix _ (HG.out.below V2.out)).mono ?_
  rintro e w3 ⟨rfl, b3⟩
  have B3 := Lib.hid (V2.out.trans (b3.mono V2.out.size))
  have R1 := Lib.hid (R1.out.below b3 R1.out.inside)
  have R2 := Lib.hid (R2.out.below b3 R2.out.inside)
  clear b3 V2
  go_wp2_with fail
  obtain ⟨v3, hv3, V3, L3, R3⟩ := made w 23 #[.int .i64 (-1), .int .i64 1] B3.out B3.out.size
  rw [hv3]
  have R1 := Lib.hid (R1.out.below L3.out R1.out.inside)
  have R2 := Lib.hid (R2.out.below L3.out R2.out.inside)
  obtain ⟨g3, hg3⟩ : ∃ g, w3.heap.size = g := ⟨_, rfl⟩
  rw [hg3] at R3 ⊢
  clear hv3 L3 B3 hg3
  refine (h_two _ (HG.out.below V3.out)).mono ?_
  rintro e w4 ⟨rfl, b4⟩
  have B4 := Lib.hid (V3.out.trans (b4.mono V3.out.size))
  have R1 := Lib.hid (R1.out.below b4 R1.out.inside)
  have R2 := Lib.hid (R2.out.below b4 R2.out.inside)
  have R3 := Lib.hid (R3.out.below b4 R3.out.inside)
  clear b4 V3
  go_wp2_with fail
  obtain ⟨v4, hv4, V4, L4, _⟩ := made w 25 #[.int .i64 0, .int .i64 0, .int .i64 0] B4.out B4.out.size
  rw [hv4]
  have R1 := Lib.hid (R1.out.below L4.out R1.out.inside)
  have R2 := Lib.hid (R2.out.below L4.out R2.out.inside)
  have R3 := Lib.hid (R3.out.below L4.out R3.out.inside)
  obtain ⟨g4, hg4⟩ : ∃ g, w4.heap.size = g := ⟨_, rfl⟩
  rw [hg4]
  clear hv4 L4 B4 hg4
  refine (h_three _ (HG.out.below V4.out)).mono ?_
  rintro e w5 ⟨rfl, b5⟩
  have B5 := Lib.hid (V4.out.trans (b5.mono V4.out.size))
  have R1 := Lib.hid (R1.out.below b5 R1.out.inside)
  have R2 := Lib.hid (R2.out.below b5 R2.out.inside)
  have R3 := Lib.hid (R3.out.below b5 R3.out.inside)
  clear b5 V4
  go_wp2_with fail
  obtain ⟨v5, hv5, V5, L5, _⟩ := made w 25 #[.int .i64 0, .int .i64 0, .int .i64 0] B5.out B5.out.size
  rw [hv5]
  have R1 := Lib.hid (R1.out.below L5.out R1.out.inside)
  have R2 := Lib.hid (R2.out.below L5.out R2.out.inside)
  have R3 := Lib.hid (R3.out.below L5.out R3.out.inside)
  obtain ⟨g5, hg5⟩ : ∃ g, w5.heap.size = g := ⟨_, rfl⟩
  rw [hg5]
  clear hv5 L5 B5 hg5
  refine (h_one _ (HG.out.below V5.out)).mono ?_
  rintro e w6 ⟨rfl, b6⟩
  have B6 := Lib.hid (V5.out.trans (b6.mono V5.out.size))
  have R1 := R1.out.below b6 R1.out.inside
  have R2 := R2.out.below b6 R2.out.inside
  have R3 := R3.out.below b6 R3.out.inside
  clear b6 V5 HG
  have i1 := R1.inside
  have i2 := R2.inside
  have i3 := R3.inside
  obtain ⟨a0, a1, a2, _, _, _⟩ := facts3 R1
  obtain ⟨c0, c1, c2, c3, _, _, _, _⟩ := facts4 R2
  obtain ⟨d0, d1, _, _⟩ := facts2 R3
  clear R1 R2 R3
  go_wp2
  go_ret
  exact ⟨rfl, B6.out.alloc B6.out.size _⟩
end Go.Proofs.YtenacgeahaoglaaDoor.Gd
