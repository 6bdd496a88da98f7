/- P3.1, GeomMatchesReference: its walk. -/
import Derived.Test.YtcckdckikjbfdaaGmRefMeets
import Derived.Test.YtcckdckikjbfdaaGmRefNear
namespace Go.Proofs.Ytcckdckikjbfdaa.Geo
open Go.RowKit Go.Sort
theorem root_nat : ∀ n : Nat, ∃ r : Nat, r * r ≤ n ∧ n < (r + 1) * (r + 1) := by
  intro n
  induction n with
  | zero => exact ⟨0, by decide, by decide⟩
  | succ n ih =>
    obtain ⟨r, h1, h2⟩ := ih
    by_cases h : n + 1 < (r + 1) * (r + 1)
    · exact ⟨r, by omega, h⟩
    · refine ⟨r + 1, by omega, ?_⟩
      have : (r + 1 + 1) * (r + 1 + 1) = (r + 1) * (r + 1) + 2 * (r + 1) + 1 := by grind
      omega
theorem root_is (n : Int) : ∃ r, IsRoot n r := by
  by_cases h : n < 0
  · exact ⟨0, .inl ⟨h, rfl⟩⟩
  · obtain ⟨r, h1, h2⟩ := root_nat n.toNat
    refine ⟨(r : Int), .inr ⟨by omega, ?_, ?_⟩⟩
    · have : ((r * r : Nat) : Int) ≤ n := by omega
      rwa [Int.natCast_mul] at this
    · have : n < (((r + 1) * (r + 1) : Nat) : Int) := by omega
      rw [Int.natCast_mul] at this
      simpa using this
theorem refrootv (n r : Int) (h1 : -9223372036854775808 ≤ n) (h2 : n ≤ 9223372036854775807) (hr : IsRoot n r) : Answers Try.prog 24 #[.int .i64 n] (.int .i64 r) := fun w =>
  (refroot_any n w h1 h2).mono fun e w' ⟨s, he, hs, hw⟩ => ⟨by rw [he, root_one hs hr], hw ▸ Below.refl _ _⟩
theorem boxes5 (w : World) (t u : TypeId) (a b c p q r s : Pt) : ∃ W, ((((w.alloc (.cells #[.int .i64 a.x, .int .i64 a.y] t)).alloc (.cells #[.int .i64 b.x, .int .i64 b.y] t)).alloc (.cells #[.int .i64 c.x, .int .i64 c.y] t)).alloc (.cells #[.int .i64 p.x, .int .i64 p.y, .int .i64 q.x, .int .i64 q.y] u)).alloc (.cells #[.int .i64 r.x, .int .i64 r.y, .int .i64 s.x, .int .i64 s.y] u) = W ∧
    Below w.heap.size w W ∧ Has W w.heap.size a ∧ Has W (w.heap.size + 1) b ∧ Has W (w.heap.size + 1 + 1) c ∧ Has2 W (w.heap.size + 1 + 1 + 1) p q ∧ Has2 W (w.heap.size + 1 + 1 + 1 + 1) r s := by
  obtain ⟨W, h1, h2, h3, h4, h5, h6⟩ := three w t a b c
  rw [h1]
  refine ⟨_, rfl, (h3.alloc (by omega) _).alloc (by simp; omega) _, (h4.alloc _).alloc _, (h5.alloc _).alloc _, (h6.alloc _).alloc _, ?_, ?_⟩
  · have := (Has2.made W u p q).alloc (.cells #[.int .i64 r.x, .int .i64 r.y, .int .i64 s.x, .int .i64 s.y] u)
    rwa [h2] at this
  · have := Has2.made (W.alloc (.cells #[.int .i64 p.x, .int .i64 p.y, .int .i64 q.x, .int .i64 q.y] u)) u r s
    rw [World.size_alloc, h2] at this
    exact this
set_option maxRecDepth 100000 in
set_option maxHeartbeats 2000000 in
theorem matches_any (a b c p q r s : Pt) (n : Int) (n1 : -9223372036854775808 ≤ n) (n2 : n ≤ 9223372036854775807) :
    Answers Try.prog 3 #[.agg #[.int .i64 a.x, .int .i64 a.y], .agg #[.int .i64 b.x, .int .i64 b.y], .agg #[.int .i64 c.x, .int .i64 c.y], .agg #[.int .i64 p.x, .int .i64 p.y, .int .i64 q.x, .int .i64 q.y], .agg #[.int .i64 r.x, .int .i64 r.y, .int .i64 s.x, .int .i64 s.y], .int .i64 n] (.bool true) := by
  intro w
  obtain ⟨W, hW, hB, hA, hBb, hC, hS, hT⟩ := boxes5 w 23 25 a b c p q r s
  have HW := Lib.hid hW
  have HB := Lib.hid hB
  clear hW hB
  go_enter Try.func3, Try.ntmps3
  go_wp2_with fail
  rw [HW.out]
  refine (head_any W).mono ?_
  rintro e w1 ⟨rfl, hb1⟩
  have HB1 := Lib.hid (HB.out.trans (hb1.mono HB.out.size))
  have A1 := Lib.hid (hA.below hb1)
  have B1 := Lib.hid (hBb.below hb1)
  have C1 := Lib.hid (hC.below hb1)
  have S1 := Lib.hid (hS.below hb1)
  have T1 := Lib.hid (hT.below hb1)
  clear hA hBb hC hS hT hb1 HB HW
  obtain ⟨x1, hx1⟩ : ∃ x, orientN a b c = x := ⟨_, rfl⟩
  obtain ⟨x2, hx2⟩ : ∃ x, cmpN a b = x := ⟨_, rfl⟩
  obtain ⟨x3, hx3⟩ : ∃ x, onN p q c = x := ⟨_, rfl⟩
  obtain ⟨x4, hx4⟩ : ∃ x, meetsF p q r s = x := ⟨_, rfl⟩
  obtain ⟨x5, hx5⟩ : ∃ x, distN a b = x := ⟨_, rfl⟩
  obtain ⟨x6, hx6⟩ : ∃ x, nearN p q c = x := ⟨_, rfl⟩
  obtain ⟨x7, hx7⟩ := root_is n
  have m1 := Lib.hid ((orient_any a b c).to (congrArg (Value.int .i64) hx1))
  have m2 := Lib.hid ((reforient_any a b c).to (congrArg (Value.int .i64) hx1))
  have m3 := Lib.hid ((compare_any a b).to (congrArg (Value.int .i64) hx2))
  have m4 := Lib.hid ((refcompare_any a b).to (congrArg (Value.int .i64) hx2))
  have m5 := Lib.hid ((on_any p q c).to (congrArg Value.bool hx3))
  have m6 := Lib.hid ((refon_any p q c).to (congrArg Value.bool hx3))
  have m7 := Lib.hid ((meets_any p q r s).to (congrArg (Value.int .i64) hx4))
  have m8 := Lib.hid ((refmeets_any p q r s).to (congrArg (Value.int .i64) hx4))
  have k1 := Lib.hid ((distance_any a b).to (congrArg (Value.int .i64) hx5))
  have k2 := Lib.hid ((refdistance_any a b).to (congrArg (Value.int .i64) hx5))
  have k3 := Lib.hid ((nearC_any p q c).to (congrArg (Value.int .i64) hx6))
  have k4 := Lib.hid ((refnear_any p q c).to (congrArg (Value.int .i64) hx6))
  have k5 := Lib.hid (rootv n x7 n1 n2 hx7)
  have k6 := Lib.hid (refrootv n x7 n1 n2 hx7)
  clear hx1 hx2 hx3 hx4 hx5 hx6 hx7
  obtain ⟨a0, a1⟩ := has_facts A1.out
  obtain ⟨b0, b1⟩ := has_facts B1.out
  obtain ⟨c0, c1⟩ := has_facts C1.out
  obtain ⟨p0, p1, p2, p3⟩ := has2_facts S1.out
  obtain ⟨r0, r1, r2, r3⟩ := has2_facts T1.out
  have g0 := cell_regrown a0
  have g1 := cell_regrown a1
  have g2 := cell_regrown b0
  have g3 := cell_regrown b1
  have g4 := cell_regrown c0
  have g5 := cell_regrown c1
  have g6 := cell_regrown p0
  have g7 := cell_regrown p1
  have g8 := cell_regrown p2
  have g9 := cell_regrown p3
  have h0 := cell_regrown r0
  have h1 := cell_regrown r1
  have h2 := cell_regrown r2
  have h3 := cell_regrown r3
  have q1 := m1.out.quiet w1
  have q2 := m2.out.quiet w1
  have q3 := m3.out.quiet w1
  have q4 := m4.out.quiet w1
  have q5 := m5.out.quiet w1
  have q6 := m6.out.quiet w1
  have q7 := m7.out.quiet w1
  have q8 := m8.out.quiet w1
  have bx : (x3 == x3) = true := by simp
  go_wp2_with fail
  refine wp_region_quiet_below (by kernel_rfl) (by kernel_rfl) ?_
  repeat (go_big_quiet_step (first | with_reducible exact q1 _ _ | with_reducible exact q2 _ _ | with_reducible exact q3 _ _ | with_reducible exact q4 _ _ | with_reducible exact q5 _ _ | with_reducible exact q6 _ _ | with_reducible exact q7 _ _ | with_reducible exact q8 _ _))
  refine wpQuiet_nil ?_
  intro _ hw'
  obtain ⟨⟨dq, osq⟩, hw''⟩ := hw'
  subst hw''
  have hb2 := below_regrown w1 dq osq
  generalize grow (redrawn w1 dq) osq = w2 at *
  have HB2 := Lib.hid (HB1.out.trans (hb2.mono HB1.out.size))
  have A2 := Lib.hid (A1.out.below hb2)
  have B2 := Lib.hid (B1.out.below hb2)
  have C2 := Lib.hid (C1.out.below hb2)
  have S2 := Lib.hid (S1.out.below hb2)
  clear g0 g1 g2 g3 g4 g5 g6 g7 g8 g9 h0 h1 h2 h3 q1 q2 q3 q4 q5 q6 q7 q8 a0 a1 b0 b1 c0 c1 p0 p1 p2 p3 r0 r1 r2 r3 hb2 A1 B1 C1 S1 T1 m1 m2 m3 m4 m5 m6 m7 m8
  obtain ⟨a0, a1⟩ := has_facts A2.out
  obtain ⟨b0, b1⟩ := has_facts B2.out
  obtain ⟨c0, c1⟩ := has_facts C2.out
  obtain ⟨p0, p1, p2, p3⟩ := has2_facts S2.out
  have g0 := cell_regrown a0
  have g1 := cell_regrown a1
  have g2 := cell_regrown b0
  have g3 := cell_regrown b1
  have g4 := cell_regrown c0
  have g5 := cell_regrown c1
  have g6 := cell_regrown p0
  have g7 := cell_regrown p1
  have g8 := cell_regrown p2
  have g9 := cell_regrown p3
  have q1 := k1.out.quiet w2
  have q2 := k2.out.quiet w2
  have q3 := k3.out.quiet w2
  have q4 := k4.out.quiet w2
  have q5 := k5.out.quiet w2
  have q6 := k6.out.quiet w2
  go_wp2_with fail
  refine wp_region_quiet_below (by kernel_rfl) (by kernel_rfl) ?_
  repeat (go_big_quiet_step (first | with_reducible exact q1 _ _ | with_reducible exact q2 _ _ | with_reducible exact q3 _ _ | with_reducible exact q4 _ _ | with_reducible exact q5 _ _ | with_reducible exact q6 _ _))
  refine wpQuiet_nil ?_
  intro _ hw'
  obtain ⟨⟨dq, osq⟩, hw''⟩ := hw'
  subst hw''
  go_wp2
  go_ret
  exact ⟨rfl, HB2.out.trans ((below_regrown w2 dq osq).mono HB2.out.size)⟩
end Go.Proofs.Ytcckdckikjbfdaa.Geo
