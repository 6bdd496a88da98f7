/- P3.5, GeomShares: its walk. -/
import Derived.Test.YtcckdckikjbfdaaGmNearWalk
import Derived.Deep.CutRange
import Derived.BigQuiet
namespace Go.Proofs.Ytcckdckikjbfdaa.Geo
open Go.RowKit Go.Sort
theorem orient_near {a b c : Pt} {k : Int} (na : nearB a = true) (nb : nearB b = true) (nc : nearB c = true) (hk : sideN a b c = k) :
    Answers Try.prog 11 #[.agg #[.int .i64 a.x, .int .i64 a.y], .agg #[.int .i64 b.x, .int .i64 b.y], .agg #[.int .i64 c.x, .int .i64 c.y]] (.int .i64 k) :=
  (orient_any a b c).to (congrArg (Value.int .i64) (by unfold orientN; rw [na, nb, nc, ← hk]; rfl))
theorem segseg2 (w : World) (t u v x : TypeId) (p q r s y z : Pt) : ∃ W, (((w.alloc (.cells #[.int .i64 p.x, .int .i64 p.y, .int .i64 q.x, .int .i64 q.y] t)).alloc (.cells #[.int .i64 r.x, .int .i64 r.y, .int .i64 s.x, .int .i64 s.y] u)).alloc (.cells #[.int .i64 y.x, .int .i64 y.y] v)).alloc (.cells #[.int .i64 z.x, .int .i64 z.y] x) = W ∧
    Below w.heap.size w W ∧ Has2 W w.heap.size p q ∧ Has2 W (w.heap.size + 1) r s ∧ Has W (w.heap.size + 1 + 1) y ∧ Has W (w.heap.size + 1 + 1 + 1) z := by
  obtain ⟨W, h1, h2, h3, h4, h5⟩ := segseg w t u p q r s
  rw [h1]
  refine ⟨_, rfl, (h3.alloc (by omega) _).alloc (by simp; omega) _, (h4.alloc _).alloc _, (h5.alloc _).alloc _, ?_, ?_⟩
  · have := (Has.made W v y).alloc (.cells #[.int .i64 z.x, .int .i64 z.y] x)
    rwa [h2] at this
  · have := Has.made (W.alloc (.cells #[.int .i64 y.x, .int .i64 y.y] v)) x z
    rw [World.size_alloc, h2] at this
    exact this
theorem all6 (a b c d e f : Pt) : [a, b, c, d, e, f].all nearB = (nearB a && nearB b && nearB c && nearB d && nearB e && nearB f) := by simp [Bool.and_assoc]
theorem any_iff {e1 e2 e3 e4 : Bool} : (e1 || e2 || e3 || e4) = true ↔ e1 = true ∨ e2 = true ∨ e3 = true ∨ e4 = true := by simp [or_assoc]
set_option maxRecDepth 100000 in
set_option maxHeartbeats 2000000 in
theorem shares_any (a b c d p q : Pt) : Answers Try.prog 7 #[.agg #[.int .i64 a.x, .int .i64 a.y, .int .i64 b.x, .int .i64 b.y], .agg #[.int .i64 c.x, .int .i64 c.y, .int .i64 d.x, .int .i64 d.y], .agg #[.int .i64 p.x, .int .i64 p.y], .agg #[.int .i64 q.x, .int .i64 q.y]] (.bool true) := by
  intro w
  obtain ⟨W, hW, hB, hA, hC, hP, hQ⟩ := segseg2 w 25 25 23 23 a b c d p q
  have HW := Lib.hid hW
  have HB := Lib.hid hB
  clear hW hB
  go_enter Try.func7, Try.ntmps7
  go_wp2_with fail
  rw [HW.out]
  refine (head_any W).mono ?_
  rintro e w0 ⟨rfl, hb0⟩
  have HB0 := Lib.hid (HB.out.trans (hb0.mono HB.out.size))
  have A0 := Lib.hid (hA.below hb0)
  have C0 := Lib.hid (hC.below hb0)
  have P0 := Lib.hid (hP.below hb0)
  have Q0 := Lib.hid (hQ.below hb0)
  clear hA hC hP hQ hb0 HB HW
  obtain ⟨a0, a1, b0, b1⟩ := has2_facts A0.out
  obtain ⟨c0, c1, d0, d1⟩ := has2_facts C0.out
  obtain ⟨p0, p1⟩ := has_facts P0.out
  obtain ⟨q0, q1⟩ := has_facts Q0.out
  go_wp2_with fail
  refine (near_list [a, b, c, d, p, q] 6 _ _ w0 rfl rfl (by decide) rfl).mono ?_
  rw [all6]
  rintro e w1 ⟨rfl, hb1⟩
  have HB1 := Lib.hid (HB0.out.trans (hb1.mono HB0.out.size))
  have A1 := Lib.hid (A0.out.below hb1)
  have C1 := Lib.hid (C0.out.below hb1)
  have P1 := Lib.hid (P0.out.below hb1)
  have Q1 := Lib.hid (Q0.out.below hb1)
  clear hb1 a0 a1 b0 b1 c0 c1 d0 d1 p0 p1 q0 q1 A0 C0 P0 Q0
  cases h1 : (nearB a && nearB b && nearB c && nearB d && nearB p && nearB q) with
  | false =>
    clear h1
    go_wp2
    go_ret
    exact ⟨rfl, HB1.out⟩
  | true =>
    obtain ⟨⟨⟨⟨⟨na, nb⟩, nc⟩, nd⟩, np⟩, nq⟩ : ((((nearB a = true ∧ nearB b = true) ∧ nearB c = true) ∧ nearB d = true) ∧ nearB p = true) ∧ nearB q = true := by simpa using h1
    clear h1
    have fK1 := fun (h : Com a b c d p) => common_kind h
    have fK2 := fun (h1 : Com a b c d p) (h2 : Com a b c d q) (h3 : p ≠ q) => meets_two h1 h2 h3
    have fK3 := meets_cross (a := a) (b := b) (c := c) (d := d)
    have fK4 := meets_ends (a := a) (b := b) (c := c) (d := d)
    obtain ⟨K, hK⟩ : ∃ K, meetsN a b c d = K := ⟨_, rfl⟩
    obtain ⟨x1, hx1⟩ : ∃ x, holdsN a b p = x := ⟨_, rfl⟩
    obtain ⟨x2, hx2⟩ : ∃ x, holdsN c d p = x := ⟨_, rfl⟩
    obtain ⟨y1, hy1⟩ : ∃ x, holdsN a b q = x := ⟨_, rfl⟩
    obtain ⟨y2, hy2⟩ : ∃ x, holdsN c d q = x := ⟨_, rfl⟩
    obtain ⟨e1, he1⟩ : ∃ x, holdsN c d a = x := ⟨_, rfl⟩
    obtain ⟨e2, he2⟩ : ∃ x, holdsN c d b = x := ⟨_, rfl⟩
    obtain ⟨e3, he3⟩ : ∃ x, holdsN a b c = x := ⟨_, rfl⟩
    obtain ⟨e4, he4⟩ : ∃ x, holdsN a b d = x := ⟨_, rfl⟩
    obtain ⟨s1, hs1⟩ : ∃ x, sideN a b c = x := ⟨_, rfl⟩
    obtain ⟨s2, hs2⟩ : ∃ x, sideN a b d = x := ⟨_, rfl⟩
    obtain ⟨s3, hs3⟩ : ∃ x, sideN c d a = x := ⟨_, rfl⟩
    obtain ⟨s4, hs4⟩ : ∃ x, sideN c d b = x := ⟨_, rfl⟩
    obtain ⟨m1, hm1⟩ : ∃ x, s1 * s2 = x := ⟨_, rfl⟩
    obtain ⟨m2, hm2⟩ : ∃ x, s3 * s4 = x := ⟨_, rfl⟩
    have M0 := Lib.hid (meets_near na nb nc nd hK)
    have M1 := Lib.hid (on_near na nb np hx1)
    have M2 := Lib.hid (on_near nc nd np hx2)
    have M3 := Lib.hid (on_near na nb nq hy1)
    have M4 := Lib.hid (on_near nc nd nq hy2)
    have E1 := Lib.hid (on_near nc nd na he1)
    have E2 := Lib.hid (on_near nc nd nb he2)
    have E3 := Lib.hid (on_near na nb nc he3)
    have E4 := Lib.hid (on_near na nb nd he4)
    have O1 := Lib.hid (orient_near na nb nc hs1)
    have O2 := Lib.hid (orient_near na nb nd hs2)
    have O3 := Lib.hid (orient_near nc nd na hs3)
    have O4 := Lib.hid (orient_near nc nd nb hs4)
    have W1 := Lib.hid (show IntKind.i64.wrap (s1 * s2) = m1 by rw [← hm1, ← hs1, ← hs2]; exact side_mul')
    have W2 := Lib.hid (show IntKind.i64.wrap (s3 * s4) = m2 by rw [← hm2, ← hs3, ← hs4]; exact side_mul')
    have F1 : Hid ((x1 && x2) = true → K ≠ 0) := fun h => by rw [← hK]; rw [Bool.and_eq_true] at h; exact fK1 ⟨hx1.trans h.1, hx2.trans h.2⟩
    have F2 : Hid ((x1 && x2) = true → (y1 && y2) = true → p ≠ q → K = 4 ∨ K = 5) := fun h g hn => by rw [← hK]; rw [Bool.and_eq_true] at h g; exact fK2 ⟨hx1.trans h.1, hx2.trans h.2⟩ ⟨hy1.trans g.1, hy2.trans g.2⟩ hn
    have F3 : Hid ((decide (m1 < 0) && decide (m2 < 0)) = true ↔ K = 3) := by rw [← hK, ← hm1, ← hm2, ← hs1, ← hs2, ← hs3, ← hs4]; exact (apart_iff a b c d).trans fK3.symm
    have F4 : Hid ((e1 || e2 || e3 || e4) = true ↔ K ≠ 0 ∧ K ≠ 3) := by rw [← hK, ← he1, ← he2, ← he3, ← he4]; exact any_iff.trans fK4
    clear hm1 hm2 hK hx1 hx2 hy1 hy2 he1 he2 he3 he4 hs1 hs2 hs3 hs4 fK1 fK2 fK3 fK4 na nb nc nd np nq
    obtain ⟨a0, a1, b0, b1⟩ := has2_facts A1.out
    obtain ⟨c0, c1, d0, d1⟩ := has2_facts C1.out
    go_wp2_with fail
    refine (M0.out _).mono ?_
    rintro e wk ⟨rfl, hb2⟩
    have HB2 := Lib.hid (HB1.out.trans (hb2.mono HB1.out.size))
    have A2 := Lib.hid (A1.out.below hb2)
    have C2 := Lib.hid (C1.out.below hb2)
    have P2 := Lib.hid (P1.out.below hb2)
    have Q2 := Lib.hid (Q1.out.below hb2)
    clear hb2 a0 a1 b0 b1 c0 c1 d0 d1 A1 C1 P1 Q1 M0
    obtain ⟨a0, a1, b0, b1⟩ := has2_facts A2.out
    obtain ⟨c0, c1, d0, d1⟩ := has2_facts C2.out
    obtain ⟨p0, p1⟩ := has_facts P2.out
    go_upto_region 5 with fail
    go_cut [11] from 33 to 40 (fun s wx => s = .bool (x1 && x2) ∧ Hid (Below wk.heap.size wk wx))
    case first =>
      go_wp2_with fail
      refine (M1.out _).mono ?_
      rintro e wA ⟨rfl, hbA⟩
      have CA := C2.out.below hbA
      have PA := P2.out.below hbA
      clear a0 a1 b0 b1 c0 c1 d0 d1 p0 p1
      obtain ⟨c0, c1, d0, d1⟩ := has2_facts CA
      obtain ⟨p0, p1⟩ := has_facts PA
      cases x1 with
      | false =>
        go_wp2_with fail
        go_meet
        exact ⟨rfl, Lib.hid hbA⟩
      | true =>
        go_wp2_with fail
        refine (M2.out _).mono ?_
        rintro e wB ⟨rfl, hbB⟩
        have hbC := hbA.trans (hbB.mono hbA.size)
        clear hbA hbB CA PA c0 c1 d0 d1 p0 p1
        go_wp2_with fail
        go_meet
        exact ⟨rfl, Lib.hid hbC⟩
    case rest =>
      obtain ⟨rfl, hb⟩ := hcut
      clear a0 a1 b0 b1 c0 c1 d0 d1 p0 p1
      have HB3 := Lib.hid (HB2.out.trans (hb.out.mono HB2.out.size))
      have A3 := Lib.hid (A2.out.below hb.out)
      have C3 := Lib.hid (C2.out.below hb.out)
      have P3 := Lib.hid (P2.out.below hb.out)
      have Q3 := Lib.hid (Q2.out.below hb.out)
      clear A2 C2 P2 Q2
      clear hb
      obtain ⟨a0, a1, b0, b1⟩ := has2_facts A3.out
      obtain ⟨c0, c1, d0, d1⟩ := has2_facts C3.out
      obtain ⟨q0, q1⟩ := has_facts Q3.out
      go_upto_region 6 with fail
      go_cut [12] from 41 to 48 (fun s wx => s = .bool (y1 && y2) ∧ Hid (Below wc.heap.size wc wx))
      case first =>
        go_wp2_with fail
        refine (M3.out _).mono ?_
        rintro e wA ⟨rfl, hbA⟩
        have CA := C3.out.below hbA
        have PA := Q3.out.below hbA
        clear a0 a1 b0 b1 c0 c1 d0 d1 q0 q1
        obtain ⟨c0, c1, d0, d1⟩ := has2_facts CA
        obtain ⟨q0, q1⟩ := has_facts PA
        cases y1 with
        | false =>
          go_wp2_with fail
          go_meet
          exact ⟨rfl, Lib.hid hbA⟩
        | true =>
          go_wp2_with fail
          refine (M4.out _).mono ?_
          rintro e wB ⟨rfl, hbB⟩
          have hbC := hbA.trans (hbB.mono hbA.size)
          clear hbA hbB CA PA c0 c1 d0 d1 q0 q1
          go_wp2_with fail
          go_meet
          exact ⟨rfl, Lib.hid hbC⟩
      case rest =>
        obtain ⟨rfl, hb⟩ := hcut
        clear a0 a1 b0 b1 c0 c1 d0 d1 q0 q1
        have HB4 := Lib.hid (HB3.out.trans (hb.out.mono HB3.out.size))
        have A4 := Lib.hid (A3.out.below hb.out)
        have C4 := Lib.hid (C3.out.below hb.out)
        have P4 := Lib.hid (P3.out.below hb.out)
        have Q4 := Lib.hid (Q3.out.below hb.out)
        clear A3 C3 P3 Q3
        clear hb
        generalize (x1 && x2) = o1 at *
        generalize (y1 && y2) = o2 at *
        obtain ⟨p0, p1⟩ := has_facts P4.out
        obtain ⟨q0, q1⟩ := has_facts Q4.out
        go_upto_region 7 with fail
        go_cut [72] from 49 to 71 (fun s wx => s = .bool false ∧ wx = wc)
        case first =>
          cases o1 with
          | false =>
            go_wp2_with fail
            go_meet
            exact ⟨rfl, rfl⟩
          | true =>
            have k0 : (K == 0) = false := by have := F1.out rfl; simpa using this
            cases o2 with
            | false =>
              go_wp2_with fail
              go_meet
              exact ⟨rfl, rfl⟩
            | true =>
              rcases cases3 p q with e | ⟨e1, k1⟩ | ⟨e1, k1, k2⟩
              · subst e
                go_wp2_with fail
                go_meet
                exact ⟨rfl, rfl⟩
              · rcases F2.out rfl rfl (eqP_not.1 e1) with rfl | rfl
                · go_wp2_with fail
                  go_meet
                  exact ⟨rfl, rfl⟩
                · go_wp2_with fail
                  go_meet
                  exact ⟨rfl, rfl⟩
              · have k3 : (p.x == q.x) = true := by simpa using k1
                clear k1
                rcases F2.out rfl rfl (eqP_not.1 e1) with rfl | rfl
                · go_wp2_with fail
                  go_meet
                  exact ⟨rfl, rfl⟩
                · go_wp2_with fail
                  go_meet
                  exact ⟨rfl, rfl⟩
        case rest =>
          obtain ⟨rfl, rfl⟩ := hcut
          clear p0 p1 q0 q1 P4 Q4 F1 F2 M1 M2 M3 M4
          obtain ⟨a0, a1, b0, b1⟩ := has2_facts A4.out
          obtain ⟨c0, c1, d0, d1⟩ := has2_facts C4.out
          go_upto_region 10 with fail
          go_cut [94] from 73 to 93 (fun s wx => s = .bool (e1 || e2 || e3 || e4) ∧ Hid (Below wc.heap.size wc wx))
          case first =>
            clear F3 F4 W1 W2 O1 O2 O3 O4
            go_wp2_with fail
            refine (E1.out _).mono ?_
            rintro e wE1 ⟨rfl, hbn⟩
            have hB1 := hbn
            have AE1 := A4.out.below hbn
            have CE1 := C4.out.below hbn
            clear hbn a0 a1 b0 b1 c0 c1 d0 d1
            obtain ⟨a0, a1, b0, b1⟩ := has2_facts AE1
            obtain ⟨c0, c1, d0, d1⟩ := has2_facts CE1
            cases e1 with
            | true =>
              go_wp2_with fail
              go_meet
              exact ⟨by simp, Lib.hid hB1⟩
            | false =>
              go_wp2_with fail
              refine (E2.out _).mono ?_
              rintro e wE2 ⟨rfl, hbn⟩
              have hB2 := hB1.trans (hbn.mono hB1.size)
              have AE2 := AE1.below hbn
              have CE2 := CE1.below hbn
              clear hbn a0 a1 b0 b1 c0 c1 d0 d1
              obtain ⟨a0, a1, b0, b1⟩ := has2_facts AE2
              obtain ⟨c0, c1, d0, d1⟩ := has2_facts CE2
              cases e2 with
              | true =>
                go_wp2_with fail
                go_meet
                exact ⟨by simp, Lib.hid hB2⟩
              | false =>
                go_wp2_with fail
                refine (E3.out _).mono ?_
                rintro e wE3 ⟨rfl, hbn⟩
                have hB3 := hB2.trans (hbn.mono hB2.size)
                have AE3 := AE2.below hbn
                have CE3 := CE2.below hbn
                clear hbn a0 a1 b0 b1 c0 c1 d0 d1
                obtain ⟨a0, a1, b0, b1⟩ := has2_facts AE3
                obtain ⟨c0, c1, d0, d1⟩ := has2_facts CE3
                cases e3 with
                | true =>
                  go_wp2_with fail
                  go_meet
                  exact ⟨by simp, Lib.hid hB3⟩
                | false =>
                  go_wp2_with fail
                  refine (E4.out _).mono ?_
                  rintro e wE4 ⟨rfl, hbn⟩
                  have hB4 := hB3.trans (hbn.mono hB3.size)
                  clear hbn a0 a1 b0 b1 c0 c1 d0 d1
                  go_wp2_with fail
                  go_meet
                  exact ⟨by simp, Lib.hid hB4⟩
          case rest =>
            obtain ⟨rfl, hb⟩ := hcut
            clear a0 a1 b0 b1 c0 c1 d0 d1
            have HB5 := Lib.hid (HB4.out.trans (hb.out.mono HB4.out.size))
            have A5 := Lib.hid (A4.out.below hb.out)
            have C5 := Lib.hid (C4.out.below hb.out)
            clear A4 C4
            clear hb E1 E2 E3 E4
            generalize (e1 || e2 || e3 || e4) = o3 at *
            cases o3 with
            | true =>
              obtain ⟨a0, a1, b0, b1⟩ := has2_facts A5.out
              obtain ⟨c0, c1, d0, d1⟩ := has2_facts C5.out
              go_upto_region 12 with fail
              go_cut [14] from 95 to 128 (fun s wx => s = .bool (decide (m1 < 0) && decide (m2 < 0)) ∧ Hid (Below wc.heap.size wc wx))
              case first =>
                have g0 := cell_regrown a0
                have g1 := cell_regrown a1
                have g2 := cell_regrown b0
                have g3 := cell_regrown b1
                have g4 := cell_regrown c0
                have g5 := cell_regrown c1
                have g6 := cell_regrown d0
                have g7 := cell_regrown d1
                have q1 := O1.out.quiet wc
                have q2 := O2.out.quiet wc
                have q3 := O3.out.quiet wc
                have q4 := O4.out.quiet wc
                have hw1 := W1.out
                have hw2 := W2.out
                clear F3 F4 W1 W2
                by_cases h : m1 < 0
                · have h2 : m1 < 0 := h
                  have hd := Lib.hid (show decide (m1 < 0) = true from decide_eq_true h2)
                  clear h
                  refine wp_region_quiet_below (by kernel_rfl) (by kernel_rfl) ?_
                  repeat (quiet_step (first | with_reducible exact q1 _ _ | with_reducible exact q2 _ _ | with_reducible exact q3 _ _ | with_reducible exact q4 _ _))
                  refine wpQuiet_nil ?_
                  intro _ hw'
                  obtain ⟨⟨dq, osq⟩, hw''⟩ := hw'
                  subst hw''
                  go_wp2_with fail
                  go_meet
                  exact ⟨by rw [hd.out]; rfl, Lib.hid (below_regrown wc dq osq)⟩
                · have h2 : (0 : Int) ≤ m1 := by omega
                  have hd := Lib.hid (show decide (m1 < 0) = false from decide_eq_false (by omega))
                  clear h
                  refine wp_region_quiet_below (by kernel_rfl) (by kernel_rfl) ?_
                  iterate 17 (quiet_step (first | with_reducible exact q1 _ _ | with_reducible exact q2 _ _))
                  rw [hd.out]
                  iterate 16 go_big_quiet_skip
                  repeat (go_big_quiet_step (fail))
                  refine wpQuiet_nil ?_
                  intro _ hw'
                  obtain ⟨⟨dq, osq⟩, hw''⟩ := hw'
                  subst hw''
                  go_wp2_with fail
                  go_meet
                  exact ⟨by rw [hd.out]; rfl, Lib.hid (below_regrown wc dq osq)⟩
              case rest =>
                obtain ⟨rfl, hb⟩ := hcut
                have HB6 := Lib.hid (HB5.out.trans (hb.out.mono HB5.out.size))
                clear a0 a1 b0 b1 c0 c1 d0 d1 hb A5 C5 O1 O2 O3 O4 W1 W2
                generalize (decide (m1 < 0) && decide (m2 < 0)) = o4 at *
                obtain ⟨k0, k3⟩ := F4.out.1 rfl
                cases o4 with
                | true => exact absurd (F3.out.1 rfl) k3
                | false =>
                  have f0 : (K == 0) = false := by simpa using k0
                  have f3 : (K == 3) = false := by simpa using k3
                  clear F3 F4
                  go_wp2
                  go_ret
                  exact ⟨ret_bool (by simp [k0, k3]), HB6.out⟩
            | false =>
              obtain ⟨a0, a1, b0, b1⟩ := has2_facts A5.out
              obtain ⟨c0, c1, d0, d1⟩ := has2_facts C5.out
              go_upto_region 12 with fail
              go_cut [14] from 95 to 128 (fun s wx => s = .bool (decide (m1 < 0) && decide (m2 < 0)) ∧ Hid (Below wc.heap.size wc wx))
              case first =>
                have g0 := cell_regrown a0
                have g1 := cell_regrown a1
                have g2 := cell_regrown b0
                have g3 := cell_regrown b1
                have g4 := cell_regrown c0
                have g5 := cell_regrown c1
                have g6 := cell_regrown d0
                have g7 := cell_regrown d1
                have q1 := O1.out.quiet wc
                have q2 := O2.out.quiet wc
                have q3 := O3.out.quiet wc
                have q4 := O4.out.quiet wc
                have hw1 := W1.out
                have hw2 := W2.out
                clear F3 F4 W1 W2
                by_cases h : m1 < 0
                · have h2 : m1 < 0 := h
                  have hd := Lib.hid (show decide (m1 < 0) = true from decide_eq_true h2)
                  clear h
                  refine wp_region_quiet_below (by kernel_rfl) (by kernel_rfl) ?_
                  repeat (quiet_step (first | with_reducible exact q1 _ _ | with_reducible exact q2 _ _ | with_reducible exact q3 _ _ | with_reducible exact q4 _ _))
                  refine wpQuiet_nil ?_
                  intro _ hw'
                  obtain ⟨⟨dq, osq⟩, hw''⟩ := hw'
                  subst hw''
                  go_wp2_with fail
                  go_meet
                  exact ⟨by rw [hd.out]; rfl, Lib.hid (below_regrown wc dq osq)⟩
                · have h2 : (0 : Int) ≤ m1 := by omega
                  have hd := Lib.hid (show decide (m1 < 0) = false from decide_eq_false (by omega))
                  clear h
                  refine wp_region_quiet_below (by kernel_rfl) (by kernel_rfl) ?_
                  iterate 17 (quiet_step (first | with_reducible exact q1 _ _ | with_reducible exact q2 _ _))
                  rw [hd.out]
                  iterate 16 go_big_quiet_skip
                  repeat (go_big_quiet_step (fail))
                  refine wpQuiet_nil ?_
                  intro _ hw'
                  obtain ⟨⟨dq, osq⟩, hw''⟩ := hw'
                  subst hw''
                  go_wp2_with fail
                  go_meet
                  exact ⟨by rw [hd.out]; rfl, Lib.hid (below_regrown wc dq osq)⟩
              case rest =>
                obtain ⟨rfl, hb⟩ := hcut
                have HB6 := Lib.hid (HB5.out.trans (hb.out.mono HB5.out.size))
                clear a0 a1 b0 b1 c0 c1 d0 d1 hb A5 C5 O1 O2 O3 O4 W1 W2
                generalize (decide (m1 < 0) && decide (m2 < 0)) = o4 at *
                have hk : K = 0 ∨ K = 3 := by
                  by_cases k0 : K = 0
                  · exact .inl k0
                  · by_cases k3 : K = 3
                    · exact .inr k3
                    · exact absurd (F4.out.2 ⟨k0, k3⟩) (by decide)
                cases o4 with
                | true =>
                  obtain rfl := F3.out.1 rfl
                  clear F3 F4 hk
                  go_wp2
                  go_ret
                  exact ⟨rfl, HB6.out⟩
                | false =>
                  rcases hk with rfl | rfl
                  · clear F3 F4
                    go_wp2
                    go_ret
                    exact ⟨rfl, HB6.out⟩
                  · exact absurd (F3.out.2 rfl) (by decide)
end Go.Proofs.Ytcckdckikjbfdaa.Geo
