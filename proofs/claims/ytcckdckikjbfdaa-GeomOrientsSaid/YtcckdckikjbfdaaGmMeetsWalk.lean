/- P3.4, GeomMeets: its walk. -/
import Derived.Test.YtcckdckikjbfdaaGmHead
namespace Go.Proofs.Ytcckdckikjbfdaa.Geo
open Go.RowKit Go.Sort
set_option maxRecDepth 100000 in
set_option maxHeartbeats 400000 in
theorem back_any (a b : Pt) : Answers Try.prog 27 #[.agg #[.int .i64 a.x, .int .i64 a.y, .int .i64 b.x, .int .i64 b.y]] (.agg #[.int .i64 b.x, .int .i64 b.y, .int .i64 a.x, .int .i64 a.y]) := by
  intro w
  go_enter Try.func27, Try.ntmps27
  go_wp2
  refine bodyPost_ret (results_cell_row rfl _ _ (w.heap.size + 1) _ _ (0, 0) _ rfl (row_at (by simp) (IsRow.made (w.alloc _) 25 #[.int .i64 b.x, .int .i64 b.y, .int .i64 a.x, .int .i64 a.y])) Try.underlying25 rfl infoSegA) rfl ?_
  exact ⟨rfl, alloc2 _ _ _⟩
theorem meets_near {a b c d : Pt} {k : Int} (na : nearB a = true) (nb : nearB b = true) (nc : nearB c = true) (nd : nearB d = true) (hk : meetsN a b c d = k) :
    Answers Try.prog 17 #[.agg #[.int .i64 a.x, .int .i64 a.y, .int .i64 b.x, .int .i64 b.y], .agg #[.int .i64 c.x, .int .i64 c.y, .int .i64 d.x, .int .i64 d.y]] (.int .i64 k) :=
  (meets_any a b c d).to (congrArg (Value.int .i64) (by unfold meetsF; rw [na, nb, nc, nd, ← hk]; rfl))
theorem meets_far {a b c d : Pt} (h : (nearB a && nearB b && nearB c && nearB d) = false) :
    Answers Try.prog 17 #[.agg #[.int .i64 a.x, .int .i64 a.y, .int .i64 b.x, .int .i64 b.y], .agg #[.int .i64 c.x, .int .i64 c.y, .int .i64 d.x, .int .i64 d.y]] (.int .i64 0) :=
  (meets_any a b c d).to (congrArg (Value.int .i64) (by unfold meetsF; rw [h]; rfl))
set_option maxRecDepth 100000 in
set_option maxHeartbeats 2000000 in
theorem meetsLaw_any (a b c d : Pt) : Answers Try.prog 6 #[.agg #[.int .i64 a.x, .int .i64 a.y, .int .i64 b.x, .int .i64 b.y], .agg #[.int .i64 c.x, .int .i64 c.y, .int .i64 d.x, .int .i64 d.y]] (.bool true) := by
  intro w
  obtain ⟨W, hW, hsz, hB, hA, hC⟩ := segseg w 25 25 a b c d
  have HW := Lib.hid hW
  have HB := Lib.hid hB
  have HS := Lib.hid hsz
  clear hW hB hsz
  go_enter Try.func6, Try.ntmps6
  go_wp2_with fail
  rw [HW.out]
  refine (head_any W).mono ?_
  rintro e w0 ⟨rfl, hb0⟩
  have HB0 := Lib.hid (HB.out.trans (hb0.mono HB.out.size))
  have A0 := Lib.hid (hA.below hb0)
  have C0 := Lib.hid (hC.below hb0)
  clear hA hC hb0 HB HW
  obtain ⟨a0, a1, b0, b1⟩ := has2_facts A0.out
  obtain ⟨c0, c1, d0, d1⟩ := has2_facts C0.out
  go_wp2_with fail
  refine (near_list [a, b, c, d] 4 _ _ w0 rfl rfl (by decide) rfl).mono ?_
  rw [all4]
  rintro e w1 ⟨rfl, hb1⟩
  have HB1 := Lib.hid (HB0.out.trans (hb1.mono HB0.out.size))
  have A1 := Lib.hid (A0.out.below hb1)
  have C1 := Lib.hid (C0.out.below hb1)
  clear hb1 a0 a1 b0 b1 c0 c1 d0 d1 A0 C0
  obtain ⟨a0, a1, b0, b1⟩ := has2_facts A1.out
  obtain ⟨c0, c1, d0, d1⟩ := has2_facts C1.out
  cases h1 : (nearB a && nearB b && nearB c && nearB d) with
  | false =>
    have M := Lib.hid (meets_far h1)
    clear h1
    go_wp2_with fail
    refine (M.out _).mono ?_
    rintro e w2 ⟨rfl, hb2⟩
    have HB2 := Lib.hid (HB1.out.trans (hb2.mono HB1.out.size))
    clear hb2 a0 a1 b0 b1 c0 c1 d0 d1
    go_wp2
    go_ret
    exact ⟨rfl, HB2.out⟩
  | true =>
    obtain ⟨⟨⟨na, nb⟩, nc⟩, nd⟩ : ((nearB a = true ∧ nearB b = true) ∧ nearB c = true) ∧ nearB d = true := by simpa using h1
    clear h1
    obtain ⟨K, hK⟩ : ∃ K, meetsN a b c d = K := ⟨_, rfl⟩
    have M1 := Lib.hid (meets_near na nb nc nd hK)
    have M2 := Lib.hid (meets_near nc nd na nb ((meets_swap a b c d).trans hK))
    have M3 := Lib.hid (meets_near nb na nc nd ((meets_back a b c d).trans hK))
    have M4 := Lib.hid (meets_near na nb nd nc ((meets_back2 a b c d).trans hK))
    have M5 := Lib.hid (meets_near na nb na nb (meets_self a b))
    have M6 : Hid (a ≠ b → Answers Try.prog 17 #[.agg #[.int .i64 a.x, .int .i64 a.y, .int .i64 b.x, .int .i64 b.y], .agg #[.int .i64 a.x, .int .i64 a.y, .int .i64 a.x, .int .i64 a.y]] (.int .i64 1)) := fun h => meets_near na nb na na (meets_end h)
    have hr := meets_range a b c d
    rw [hK] at hr
    obtain ⟨r1, r2⟩ := hr
    clear hK na nb nc nd
    go_wp2_with fail
    refine (M1.out _).mono ?_
    rintro e w2 ⟨rfl, hb2⟩
    have HB2 := Lib.hid (HB1.out.trans (hb2.mono HB1.out.size))
    have A2 := Lib.hid (A1.out.below hb2)
    have C2 := Lib.hid (C1.out.below hb2)
    clear hb2 a0 a1 b0 b1 c0 c1 d0 d1 A1 C1
    obtain ⟨a0, a1, b0, b1⟩ := has2_facts A2.out
    obtain ⟨c0, c1, d0, d1⟩ := has2_facts C2.out
    have g0 := cell_regrown a0
    have g1 := cell_regrown a1
    have g2 := cell_regrown b0
    have g3 := cell_regrown b1
    have g4 := cell_regrown c0
    have g5 := cell_regrown c1
    have g6 := cell_regrown d0
    have g7 := cell_regrown d1
    have q1 := M2.out.quiet w2
    have q2 := (back_any a b).quiet w2
    have q3 := M3.out.quiet w2
    have q4 := (back_any c d).quiet w2
    have q5 := M4.out.quiet w2
    go_wp2_with fail
    refine wp_region_quiet_below (by kernel_rfl) (by kernel_rfl) ?_
    repeat (quiet_step (first | with_reducible exact q1 _ _ | with_reducible exact q2 _ _ | with_reducible exact q3 _ _ | with_reducible exact q4 _ _ | with_reducible exact q5 _ _))
    refine wpQuiet_nil ?_
    intro _ hw'
    obtain ⟨⟨dq, osq⟩, hw''⟩ := hw'
    subst hw''
    have hb3 := below_regrown w2 dq osq
    generalize grow (redrawn w2 dq) osq = w3 at *
    have HB3 := Lib.hid (HB2.out.trans (hb3.mono HB2.out.size))
    have A3 := Lib.hid (A2.out.below hb3)
    clear g0 g1 g2 g3 g4 g5 g6 g7 q1 q2 q3 q4 q5 a0 a1 b0 b1 c0 c1 d0 d1 hb3 A2 C2
    obtain ⟨lt3, _, _⟩ := A3.out.1
    obtain ⟨a0, a1, b0, b1⟩ := has2_facts A3.out
    go_wp2_with fail
    have P4 : Has2 (w3.alloc (.cells #[.int .i64 a.x, .int .i64 a.y, .int .i64 a.x, .int .i64 a.y] 25)) w3.heap.size a a := Has2.made w3 _ a a
    have A4 := A3.out.alloc (.cells #[.int .i64 a.x, .int .i64 a.y, .int .i64 a.x, .int .i64 a.y] 25)
    have HB4 := Lib.hid (HB3.out.alloc HB3.out.size (.cells #[.int .i64 a.x, .int .i64 a.y, .int .i64 a.x, .int .i64 a.y] 25))
    generalize w3.alloc (.cells #[.int .i64 a.x, .int .i64 a.y, .int .i64 a.x, .int .i64 a.y] 25) = w4 at *
    refine (M5.out _).mono ?_
    rintro e w5 ⟨rfl, hb5⟩
    have HB5 := Lib.hid (HB4.out.trans (hb5.mono HB4.out.size))
    have A5 := A4.below hb5
    have P5 := P4.below hb5
    clear a0 a1 b0 b1 A4 P4 hb5
    obtain ⟨a0, a1, b0, b1⟩ := has2_facts A5
    obtain ⟨p0, p1, p2, p3⟩ := has2_facts P5
    clear A5 P5
    rcases cases3 a b with e | ⟨e1, k1⟩ | ⟨e1, k1, k2⟩
    · subst e
      go_wp2
      go_ret
      exact ⟨rfl, HB5.out⟩
    · have M7 := Lib.hid (M6.out (eqP_not.1 e1))
      go_wp2_with fail
      refine (M7.out _).mono ?_
      rintro e w6 ⟨rfl, hb6⟩
      have HB6 := Lib.hid (HB5.out.trans (hb6.mono HB5.out.size))
      clear hb6 a0 a1 b0 b1 p0 p1 p2 p3
      go_wp2
      go_ret
      exact ⟨rfl, HB6.out⟩
    · have k3 : (a.x == b.x) = true := by simpa using k1
      clear k1
      have M7 := Lib.hid (M6.out (eqP_not.1 e1))
      go_wp2_with fail
      refine (M7.out _).mono ?_
      rintro e w6 ⟨rfl, hb6⟩
      have HB6 := Lib.hid (HB5.out.trans (hb6.mono HB5.out.size))
      clear hb6 a0 a1 b0 b1 p0 p1 p2 p3
      go_wp2
      go_ret
      exact ⟨rfl, HB6.out⟩
end Go.Proofs.Ytcckdckikjbfdaa.Geo
