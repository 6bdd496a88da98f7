/- P3.3, GeomCompares: its walk. -/
import Derived.Test.YtcckdckikjbfdaaGmHead
namespace Go.Proofs.Ytcckdckikjbfdaa.Geo
open Go.RowKit Go.Sort
theorem wrap_neg {x : Int} (h1 : -10 ≤ x) (h2 : x ≤ 10) : wrap64 (-x) = -x := by unfold wrap64; omega
set_option maxRecDepth 100000 in
set_option maxHeartbeats 2000000 in
theorem compares_any (a b c : Pt) : Answers Try.prog 5 #[.agg #[.int .i64 a.x, .int .i64 a.y], .agg #[.int .i64 b.x, .int .i64 b.y], .agg #[.int .i64 c.x, .int .i64 c.y]] (.bool true) := by
  intro w
  obtain ⟨W, hW, hsz, hB, hA, hBb, hC⟩ := three w 23 a b c
  have HW := Lib.hid hW
  have HB := Lib.hid hB
  clear hW hB hsz
  go_enter Try.func5, Try.ntmps5
  go_wp2_with fail
  rw [HW.out]
  refine (head_any W).mono ?_
  rintro e w1 ⟨rfl, hb1⟩
  have HB1 := Lib.hid (HB.out.trans (hb1.mono HB.out.size))
  have A1 := Lib.hid (hA.below hb1)
  have B1 := Lib.hid (hBb.below hb1)
  have C1 := Lib.hid (hC.below hb1)
  clear hA hBb hC hb1 HB HW
  obtain ⟨_, a0, a1⟩ := A1.out
  obtain ⟨_, b0, b1⟩ := B1.out
  obtain ⟨_, c0, c1⟩ := C1.out
  have A0 := cell_regrown a0
  have A1' := cell_regrown a1
  have B0 := cell_regrown b0
  have B1' := cell_regrown b1
  have C0 := cell_regrown c0
  have C1' := cell_regrown c1
  have rX := cmp_range a b
  have tr := cmp_trans (a := a) (b := b) (c := c)
  have hz := cmp_zero (a := a) (b := b)
  have c4 := (compare_any b a).to (congrArg (Value.int .i64) (cmp_swap a b))
  have q1 := (compare_any a b).quiet w1
  have q2 := (compare_any b c).quiet w1
  have q3 := (compare_any a c).quiet w1
  obtain ⟨X, hX⟩ : ∃ X, cmpN a b = X := ⟨_, rfl⟩
  obtain ⟨Y, hY⟩ : ∃ Y, cmpN b c = Y := ⟨_, rfl⟩
  obtain ⟨Z, hZ⟩ : ∃ Z, cmpN a c = Z := ⟨_, rfl⟩
  rw [hX] at rX tr hz c4 q1
  rw [hY] at tr q2
  rw [hZ] at tr q3
  clear hX hY hZ
  have T := Lib.hid tr
  have C4 := Lib.hid c4
  have hw := wrap_neg (x := -X) (by omega) (by omega)
  rw [Int.neg_neg] at hw
  have HZ := Lib.hid hz
  clear tr c4 hz
  obtain ⟨x1, x2⟩ := rX
  go_wp2_with fail
  refine wp_region_quiet_below (by kernel_rfl) (by kernel_rfl) ?_
  repeat (quiet_step (first | with_reducible exact q1 _ _ | with_reducible exact q2 _ _ | with_reducible exact q3 _ _))
  refine wpQuiet_nil ?_
  intro _ hw'
  obtain ⟨⟨dq, osq⟩, hw''⟩ := hw'
  subst hw''
  have hb2 := below_regrown w1 dq osq
  generalize grow (redrawn w1 dq) osq = w2 at *
  have HB2 := Lib.hid (HB1.out.trans (hb2.mono HB1.out.size))
  have A2 := Lib.hid (A1.out.below hb2)
  have B2 := Lib.hid (B1.out.below hb2)
  clear A0 A1' B0 B1' C0 C1' q1 q2 q3 a0 a1 b0 b1 c0 c1 hb2 A1 B1 C1
  obtain ⟨_, a0, a1⟩ := A2.out
  obtain ⟨_, b0, b1⟩ := B2.out
  go_wp2_with fail
  refine (C4.out _).mono ?_
  rintro e w3 ⟨rfl, hb3⟩
  have HB3 := Lib.hid (HB2.out.trans (hb3.mono HB2.out.size))
  have A3 := A2.out.below hb3
  have B3 := B2.out.below hb3
  clear hb3 a0 a1 b0 b1 A2 B2 C4
  obtain ⟨_, a0, a1⟩ := A3
  obtain ⟨_, b0, b1⟩ := B3
  by_cases y1 : 0 < X
  · have hX0 : (X == 0) = false := by simp; omega
    have hne : a ≠ b := fun e => by have := HZ.out.2 e; omega
    rcases cases3 a b with e | ⟨_, k1⟩ | ⟨_, k1, k2⟩
    · exact absurd e hne
    · go_wp2
      go_ret
      exact ⟨rfl, HB3.out⟩
    · go_wp2
      go_ret
      exact ⟨rfl, HB3.out⟩
  · by_cases y2 : 0 < Y
    · by_cases y3 : X = 0
      · obtain rfl := HZ.out.1 y3
        subst y3
        go_wp2
        go_ret
        exact ⟨rfl, HB3.out⟩
      · have hX0 : (X == 0) = false := by simpa using y3
        have hne : a ≠ b := fun e => y3 (HZ.out.2 e)
        rcases cases3 a b with e | ⟨_, k1⟩ | ⟨_, k1, k2⟩
        · exact absurd e hne
        · go_wp2
          go_ret
          exact ⟨rfl, HB3.out⟩
        · go_wp2
          go_ret
          exact ⟨rfl, HB3.out⟩
    · obtain ⟨t1, t2⟩ := T.out (by omega) (by omega)
      by_cases y4 : Z < 0
      · by_cases y3 : X = 0
        · obtain rfl := HZ.out.1 y3
          subst y3
          go_wp2
          go_ret
          exact ⟨rfl, HB3.out⟩
        · have hX0 : (X == 0) = false := by simpa using y3
          have hne : a ≠ b := fun e => y3 (HZ.out.2 e)
          rcases cases3 a b with e | ⟨_, k1⟩ | ⟨_, k1, k2⟩
          · exact absurd e hne
          · go_wp2
            go_ret
            exact ⟨rfl, HB3.out⟩
          · go_wp2
            go_ret
            exact ⟨rfl, HB3.out⟩
      · obtain ⟨y3, y5⟩ : X = 0 ∧ Y = 0 := by omega
        obtain rfl := HZ.out.1 y3
        subst y3 y5
        go_wp2
        go_ret
        exact ⟨rfl, HB3.out⟩
end Go.Proofs.Ytcckdckikjbfdaa.Geo
