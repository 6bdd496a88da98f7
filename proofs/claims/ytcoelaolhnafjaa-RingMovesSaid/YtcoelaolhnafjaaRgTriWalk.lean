/- P4.8, RingTriangles: its walk. -/
import Derived.Test.YtcoelaolhnafjaaRgNear
import Derived.Lib.QuietBelow
import Derived.BigQuiet
import Derived.Deep.CutRange
namespace Go.Proofs.Ytcoelaolhnafjaa.Rg
open Go.RowKit Go.Sort Go.Shelf
open Go.Proofs.Ytcoelaolhnafjaa.Geo hiding intOf Apart
theorem near_new (l : List Pt) (n : Nat) (cs : Array Value) (w : World) (h : cs = (flat l).toArray) (hn : n = l.length) (h1 : n ≤ 1000) :
    Calls Try.prog 23 #[.slice (some ⟨w.heap.size, 0, none⟩) n n] (w.alloc (.cells cs 24)) fun e w' => e = .returned (.bool (l.all nearB)) ∧ Below w.heap.size w w' :=
  (near_any _ n n l _ (pts_new w l cs h) hn (by unfold maxLen; omega)).mono fun e w' ⟨he, hb⟩ => ⟨he, (alloc1 w _).trans (hb.mono (by simp))⟩
theorem orient_near' {a b c : Pt} {k : Int} (na : nearB a = true) (nb : nearB b = true) (nc : nearB c = true) (hk : sideN a b c = k) :
    Answers Try.prog 24 #[.agg #[.int .i64 a.x, .int .i64 a.y], .agg #[.int .i64 b.x, .int .i64 b.y], .agg #[.int .i64 c.x, .int .i64 c.y]] (.int .i64 k) :=
  (orient_any a b c).to (congrArg (Value.int .i64) (by unfold orientN; rw [na, nb, nc, ← hk]; rfl))
theorem on_near' {a b p : Pt} {o : Bool} (hk : onN a b p = o) :
    Answers Try.prog 22 #[.agg #[.int .i64 a.x, .int .i64 a.y, .int .i64 b.x, .int .i64 b.y], .agg #[.int .i64 p.x, .int .i64 p.y]] (.bool o) :=
  (on_any a b p).to (congrArg Value.bool hk)
theorem pts4 (w : World) (t : TypeId) (a b c d : Pt) : ∃ W, (((w.alloc (.cells #[.int .i64 a.x, .int .i64 a.y] t)).alloc (.cells #[.int .i64 b.x, .int .i64 b.y] t)).alloc (.cells #[.int .i64 c.x, .int .i64 c.y] t)).alloc (.cells #[.int .i64 d.x, .int .i64 d.y] t) = W ∧
    Below w.heap.size w W ∧ Has W w.heap.size a ∧ Has W (w.heap.size + 1) b ∧ Has W (w.heap.size + 1 + 1) c ∧ Has W (w.heap.size + 1 + 1 + 1) d := by
  refine ⟨_, rfl, (alloc2 w _ _).trans ((alloc2 _ _ _).mono (by simp; omega)), (((Has.made w t a).alloc _).alloc _).alloc _, ?_, ?_, ?_⟩
  · have := ((Has.made (w.alloc (.cells #[.int .i64 a.x, .int .i64 a.y] t)) t b).alloc (.cells #[.int .i64 c.x, .int .i64 c.y] t)).alloc (.cells #[.int .i64 d.x, .int .i64 d.y] t)
    rw [World.size_alloc] at this
    exact this
  · have := (Has.made ((w.alloc (.cells #[.int .i64 a.x, .int .i64 a.y] t)).alloc (.cells #[.int .i64 b.x, .int .i64 b.y] t)) t c).alloc (.cells #[.int .i64 d.x, .int .i64 d.y] t)
    rw [World.size_alloc, World.size_alloc] at this
    exact this
  · have := Has.made (((w.alloc (.cells #[.int .i64 a.x, .int .i64 a.y] t)).alloc (.cells #[.int .i64 b.x, .int .i64 b.y] t)).alloc (.cells #[.int .i64 c.x, .int .i64 c.y] t)) t d
    rw [World.size_alloc, World.size_alloc, World.size_alloc] at this
    exact this
structure Four (W : World) (B : Nat) (a b c p : Pt) : Prop where
  a : Has W B a
  b : Has W (B + 1) b
  c : Has W (B + 1 + 1) c
  p : Has W (B + 1 + 1 + 1) p
theorem Four.below {W W' : World} {B : Nat} {a b c p : Pt} (h : Four W B a b c p) (hb : Below W.heap.size W W') : Four W' B a b c p := ⟨h.a.below hb, h.b.below hb, h.c.below hb, h.p.below hb⟩
theorem Four.facts {W : World} {B : Nat} {a b c p : Pt} (h : Four W B a b c p) : W.cell? ⟨B, 0, none⟩ = some (.int .i64 a.x) ∧ W.cell? ⟨B, 1, none⟩ = some (.int .i64 a.y) ∧ W.cell? ⟨B + 1, 0, none⟩ = some (.int .i64 b.x) ∧ W.cell? ⟨B + 1, 1, none⟩ = some (.int .i64 b.y) ∧
    W.cell? ⟨B + 1 + 1, 0, none⟩ = some (.int .i64 c.x) ∧ W.cell? ⟨B + 1 + 1, 1, none⟩ = some (.int .i64 c.y) ∧ W.cell? ⟨B + 1 + 1 + 1, 0, none⟩ = some (.int .i64 p.x) ∧ W.cell? ⟨B + 1 + 1 + 1, 1, none⟩ = some (.int .i64 p.y) :=
  ⟨h.a.2.1, h.a.2.2, h.b.2.1, h.b.2.2, h.c.2.1, h.c.2.2, h.p.2.1, h.p.2.2⟩
theorem all4 (a b c p : Pt) : [a, b, c, p].all nearB = (nearB a && nearB b && nearB c && nearB p) := by simp [Bool.and_assoc]
theorem side_three (a b c : Pt) : sideN a b c = 0 ∨ sideN a b c = 1 ∨ sideN a b c = -1 := by unfold sideN sgn; split <;> (try split) <;> simp
theorem want_bools (a b c p : Pt) {t : Int} (ht : sideN a b c = t) : wantT a b c p = if (onN a b p || onN b c p || onN c a p) then 0 else if (sideN a b p == t) && (sideN b c p == t) && (sideN c a p == t) then 1 else -1 := by
  unfold wantT
  rw [ht]
  congr 1
  simp [and_assoc]
set_option maxRecDepth 100000 in
set_option maxHeartbeats 8000000 in
theorem triLaw_any (a b c p : Pt) : Answers Try.prog 10 #[.agg #[.int .i64 a.x, .int .i64 a.y], .agg #[.int .i64 b.x, .int .i64 b.y], .agg #[.int .i64 c.x, .int .i64 c.y], .agg #[.int .i64 p.x, .int .i64 p.y]] (.bool true) := by
  intro w
  obtain ⟨W, hW, hB, hA, hBb, hC, hP⟩ := pts4 w 24 a b c p
  have HW := Lib.hid hW
  have B0 := Lib.hid hB
  have F0 := Lib.hid (Four.mk hA hBb hC hP)
  clear hW hB hA hBb hC hP
  go_enter Try.func10, Try.ntmps10
  go_wp2_with fail
  rw [HW.out]
  refine (head_any W).mono ?_
  rintro e w0 ⟨rfl, hb0⟩
  have B1 := Lib.hid (B0.out.trans (hb0.mono B0.out.size))
  have F1 := Lib.hid (F0.out.below hb0)
  clear hb0 B0 F0 HW
  obtain ⟨a0, a1, b0, b1, c0, c1, p0, p1⟩ := F1.out.facts
  go_wp2_with fail
  refine (near_new [a, b, c, p] 4 _ w0 rfl rfl (by decide)).mono ?_
  rw [all4]
  rintro e w1 ⟨rfl, hb1⟩
  have B2 := Lib.hid (B1.out.trans (hb1.mono B1.out.size))
  have F2 := Lib.hid (F1.out.below hb1)
  clear hb1 a0 a1 b0 b1 c0 c1 p0 p1 B1 F1
  cases hn : (nearB a && nearB b && nearB c && nearB p) with
  | false =>
    clear hn
    go_wp2
    go_ret
    exact ⟨rfl, B2.out⟩
  | true =>
    obtain ⟨⟨⟨na, nb⟩, nc⟩, np⟩ : ((nearB a = true ∧ nearB b = true) ∧ nearB c = true) ∧ nearB p = true := by simpa using hn
    clear hn
    obtain ⟨a0, a1, b0, b1, c0, c1, p0, p1⟩ := F2.out.facts
    go_upto_region 5 with fail
    obtain ⟨W2, hW2⟩ : ∃ W2, w1.alloc (.cells #[.int .i64 a.x, .int .i64 a.y, .int .i64 b.x, .int .i64 b.y, .int .i64 c.x, .int .i64 c.y] 24) = W2 := ⟨_, rfl⟩
    try rw [hW2]
    have R2 : Hid (Pts W2 W2.heap.size (some ⟨w1.heap.size, 0, none⟩) [a, b, c]) := hW2 ▸ pts_new w1 [a, b, c] _ rfl
    have hal : Below w1.heap.size w1 W2 := hW2 ▸ alloc1 w1 _
    have B3 := Lib.hid (B2.out.trans (hal.mono B2.out.size))
    have F3 := Lib.hid (F2.out.below hal)
    have SQ := Lib.hid (side_tri na nb nc np)
    have SI := Lib.hid (simple_tri na nb nc)
    clear hal hW2 a0 a1 b0 b1 c0 c1 p0 p1 F2 B2
    obtain ⟨a0, a1, b0, b1, c0, c1, p0, p1⟩ := F3.out.facts
    rcases side_three a b c with ht | ht | ht
    · have SV : Hid (sideQ [a, b, c] p = -1) := Lib.hid (by rw [SQ.out, if_pos ht])
      have OT := Lib.hid (orient_near' na nb nc ht)
      go_wp2_with fail
      refine (OT.out _).mono ?_
      rintro e w3 ⟨rfl, hb⟩
      have B4 := Lib.hid (B3.out.trans (hb.mono B3.out.size))
      have F4 := Lib.hid (F3.out.below hb)
      have R4 := Lib.hid (R2.out.later hb)
      clear hb a0 a1 b0 b1 c0 c1 p0 p1 B3 F3 R2 OT
      have SS := Lib.hid (sm_is (some ⟨w1.heap.size, 0, none⟩) 3 3 [a, b, c] w3 (k := false) (by rw [SI.out, ht]; rfl) R4.out rfl (Nat.le_refl _) (by decide))
      go_wp2_with fail
      refine SS.out.mono ?_
      rintro e w4 ⟨rfl, hb⟩
      have B5 := Lib.hid (B4.out.trans (hb.mono B4.out.size))
      have F5 := Lib.hid (F4.out.below hb)
      have R5 := Lib.hid (R4.out.later hb)
      clear hb SS B4 F4 R4
      obtain ⟨p0, p1⟩ : w4.cell? ⟨w.heap.size + 1 + 1 + 1, 0, none⟩ = some (.int .i64 p.x) ∧ w4.cell? ⟨w.heap.size + 1 + 1 + 1, 1, none⟩ = some (.int .i64 p.y) := ⟨F5.out.p.2.1, F5.out.p.2.2⟩
      have SD := Lib.hid (sd_is (some ⟨w1.heap.size, 0, none⟩) 3 3 [a, b, c] p w4 SV.out R5.out rfl (Nat.le_refl _) (by decide))
      clear ht na nb nc np SQ SI
      go_wp2_with fail
      refine SD.out.mono ?_
      rintro e w5 ⟨rfl, hb⟩
      have B6 := Lib.hid (B5.out.trans (hb.mono B5.out.size))
      clear hb SD p0 p1
      go_wp2
      go_ret
      exact ⟨rfl, B6.out⟩
    · have SV := Lib.hid (SQ.out.trans ((if_neg (by rw [ht]; decide)).trans (want_bools a b c p ht)))
      obtain ⟨x, hx⟩ : ∃ x, sideN a b p = x := ⟨_, rfl⟩
      obtain ⟨y, hy⟩ : ∃ y, sideN b c p = y := ⟨_, rfl⟩
      obtain ⟨z, hz⟩ : ∃ z, sideN c a p = z := ⟨_, rfl⟩
      obtain ⟨o1, ho1⟩ : ∃ o, onN a b p = o := ⟨_, rfl⟩
      obtain ⟨o2, ho2⟩ : ∃ o, onN b c p = o := ⟨_, rfl⟩
      obtain ⟨o3, ho3⟩ : ∃ o, onN c a p = o := ⟨_, rfl⟩
      have OX := Lib.hid (orient_near' na nb np hx)
      have OY := Lib.hid (orient_near' nb nc np hy)
      have OZ := Lib.hid (orient_near' nc na np hz)
      have N1 := Lib.hid (on_near' ho1)
      have N2 := Lib.hid (on_near' ho2)
      have N3 := Lib.hid (on_near' ho3)
      rw [hx, hy, hz, ho1, ho2, ho3] at SV
      clear hx hy hz ho1 ho2 ho3
      have OT := Lib.hid (orient_near' na nb nc ht)
      go_wp2_with fail
      refine (OT.out _).mono ?_
      rintro e w3 ⟨rfl, hb⟩
      have B4 := Lib.hid (B3.out.trans (hb.mono B3.out.size))
      have F4 := Lib.hid (F3.out.below hb)
      have R4 := Lib.hid (R2.out.later hb)
      clear hb a0 a1 b0 b1 c0 c1 p0 p1 B3 F3 R2 OT
      have SS := Lib.hid (sm_is (some ⟨w1.heap.size, 0, none⟩) 3 3 [a, b, c] w3 (k := true) (by rw [SI.out, ht]; rfl) R4.out rfl (Nat.le_refl _) (by decide))
      go_wp2_with fail
      refine SS.out.mono ?_
      rintro e w4 ⟨rfl, hb⟩
      have B5 := Lib.hid (B4.out.trans (hb.mono B4.out.size))
      have F5 := Lib.hid (F4.out.below hb)
      have R5 := Lib.hid (R4.out.later hb)
      clear hb SS B4 F4 R4
      clear ht na nb nc np SQ SI
      obtain ⟨a0, a1, b0, b1, c0, c1, p0, p1⟩ := F5.out.facts
      have g0 := cell_regrown a0
      have g1 := cell_regrown a1
      have g2 := cell_regrown b0
      have g3 := cell_regrown b1
      have g4 := cell_regrown c0
      have g5 := cell_regrown c1
      have g6 := cell_regrown p0
      have g7 := cell_regrown p1
      have q1 := OX.out.quiet w4
      have q2 := OY.out.quiet w4
      have q3 := OZ.out.quiet w4
      go_wp2_with fail
      refine wp_region_quiet_below (by kernel_rfl) (by kernel_rfl) ?_
      repeat (go_big_quiet_step (first | with_reducible exact q1 _ _ | with_reducible exact q2 _ _ | with_reducible exact q3 _ _))
      refine wpQuiet_nil ?_
      intro _ hw'
      obtain ⟨⟨dq, osq⟩, hw''⟩ := hw'
      subst hw''
      have hb2 := below_regrown w4 dq osq
      generalize grow (redrawn w4 dq) osq = w5 at *
      have B6 := Lib.hid (B5.out.trans (hb2.mono B5.out.size))
      have F6 := Lib.hid (F5.out.below hb2)
      have R6 := Lib.hid (R5.out.later hb2)
      clear g0 g1 g2 g3 g4 g5 g6 g7 q1 q2 q3 a0 a1 b0 b1 c0 c1 p0 p1 hb2 OX OY OZ B5 F5 R5
      go_upto_region 11 with fail
      go_cut [15] from 60 to 78 (fun s wx => s = .bool (o1 || o2 || o3) ∧ Hid (Below w5.heap.size w5 wx))
      case first =>
        obtain ⟨a0, a1, b0, b1, c0, c1, p0, p1⟩ := F6.out.facts
        go_wp2_with fail
        refine (N1.out _).mono ?_
        rintro e wA ⟨rfl, hbA⟩
        have FA := Lib.hid (F6.out.below hbA)
        have BA := Lib.hid hbA
        clear a0 a1 b0 b1 c0 c1 p0 p1 hbA
        cases o1 with
        | true =>
          go_wp2_with fail
          go_meet
          exact ⟨rfl, BA⟩
        | false =>
          obtain ⟨a0, a1, b0, b1, c0, c1, p0, p1⟩ := FA.out.facts
          go_wp2_with fail
          refine (N2.out _).mono ?_
          rintro e wB ⟨rfl, hbB⟩
          have FB := Lib.hid (FA.out.below hbB)
          have BB := Lib.hid (BA.out.trans (hbB.mono BA.out.size))
          clear a0 a1 b0 b1 c0 c1 p0 p1 hbB FA BA
          cases o2 with
          | true =>
            go_wp2_with fail
            go_meet
            exact ⟨rfl, BB⟩
          | false =>
            obtain ⟨a0, a1, b0, b1, c0, c1, p0, p1⟩ := FB.out.facts
            go_wp2_with fail
            refine (N3.out _).mono ?_
            rintro e wC ⟨rfl, hbC⟩
            have BC := Lib.hid (BB.out.trans (hbC.mono BB.out.size))
            clear a0 a1 b0 b1 c0 c1 p0 p1 hbC FB BB
            go_wp2_with fail
            go_meet
            exact ⟨by simp, BC⟩
      obtain ⟨rfl, hcb⟩ := hcut
      have B7 := Lib.hid (B6.out.trans (hcb.out.mono B6.out.size))
      have F7 := Lib.hid (F6.out.below hcb.out)
      have R7 := Lib.hid (R6.out.later hcb.out)
      clear hcb B6 F6 R6 N1 N2 N3
      obtain ⟨O, hO⟩ : ∃ O, (o1 || o2 || o3) = O := ⟨_, rfl⟩
      rw [hO] at SV ⊢
      obtain ⟨p0, p1⟩ : wc.cell? ⟨w.heap.size + 1 + 1 + 1, 0, none⟩ = some (.int .i64 p.x) ∧ wc.cell? ⟨w.heap.size + 1 + 1 + 1, 1, none⟩ = some (.int .i64 p.y) := ⟨F7.out.p.2.1, F7.out.p.2.2⟩
      obtain ⟨bx, hbx⟩ : ∃ q, (x == (1 : Int)) = q := ⟨_, rfl⟩
      obtain ⟨by', hby⟩ : ∃ q, (y == (1 : Int)) = q := ⟨_, rfl⟩
      obtain ⟨bz, hbz⟩ : ∃ q, (z == (1 : Int)) = q := ⟨_, rfl⟩
      rw [hbx, hby, hbz] at SV
      clear hO
      cases O <;> cases bx <;> cases by' <;> cases bz <;> (
        go_wp2_with fail
        first
          | refine (sd_is (some ⟨w1.heap.size, 0, none⟩) 3 3 [a, b, c] p wc (k := 0) (SV.out.trans (by rfl)) R7.out rfl (Nat.le_refl _) (by decide)).mono ?_
          | refine (sd_is (some ⟨w1.heap.size, 0, none⟩) 3 3 [a, b, c] p wc (k := 1) (SV.out.trans (by rfl)) R7.out rfl (Nat.le_refl _) (by decide)).mono ?_
          | refine (sd_is (some ⟨w1.heap.size, 0, none⟩) 3 3 [a, b, c] p wc (k := -1) (SV.out.trans (by rfl)) R7.out rfl (Nat.le_refl _) (by decide)).mono ?_
        rintro e w6 ⟨rfl, hb⟩
        have B8 := Lib.hid (B7.out.trans (hb.mono B7.out.size))
        clear hb p0 p1
        go_wp2
        go_ret
        exact ⟨rfl, B8.out⟩)
    · have SV := Lib.hid (SQ.out.trans ((if_neg (by rw [ht]; decide)).trans (want_bools a b c p ht)))
      obtain ⟨x, hx⟩ : ∃ x, sideN a b p = x := ⟨_, rfl⟩
      obtain ⟨y, hy⟩ : ∃ y, sideN b c p = y := ⟨_, rfl⟩
      obtain ⟨z, hz⟩ : ∃ z, sideN c a p = z := ⟨_, rfl⟩
      obtain ⟨o1, ho1⟩ : ∃ o, onN a b p = o := ⟨_, rfl⟩
      obtain ⟨o2, ho2⟩ : ∃ o, onN b c p = o := ⟨_, rfl⟩
      obtain ⟨o3, ho3⟩ : ∃ o, onN c a p = o := ⟨_, rfl⟩
      have OX := Lib.hid (orient_near' na nb np hx)
      have OY := Lib.hid (orient_near' nb nc np hy)
      have OZ := Lib.hid (orient_near' nc na np hz)
      have N1 := Lib.hid (on_near' ho1)
      have N2 := Lib.hid (on_near' ho2)
      have N3 := Lib.hid (on_near' ho3)
      rw [hx, hy, hz, ho1, ho2, ho3] at SV
      clear hx hy hz ho1 ho2 ho3
      have OT := Lib.hid (orient_near' na nb nc ht)
      go_wp2_with fail
      refine (OT.out _).mono ?_
      rintro e w3 ⟨rfl, hb⟩
      have B4 := Lib.hid (B3.out.trans (hb.mono B3.out.size))
      have F4 := Lib.hid (F3.out.below hb)
      have R4 := Lib.hid (R2.out.later hb)
      clear hb a0 a1 b0 b1 c0 c1 p0 p1 B3 F3 R2 OT
      have SS := Lib.hid (sm_is (some ⟨w1.heap.size, 0, none⟩) 3 3 [a, b, c] w3 (k := true) (by rw [SI.out, ht]; rfl) R4.out rfl (Nat.le_refl _) (by decide))
      go_wp2_with fail
      refine SS.out.mono ?_
      rintro e w4 ⟨rfl, hb⟩
      have B5 := Lib.hid (B4.out.trans (hb.mono B4.out.size))
      have F5 := Lib.hid (F4.out.below hb)
      have R5 := Lib.hid (R4.out.later hb)
      clear hb SS B4 F4 R4
      clear ht na nb nc np SQ SI
      obtain ⟨a0, a1, b0, b1, c0, c1, p0, p1⟩ := F5.out.facts
      have g0 := cell_regrown a0
      have g1 := cell_regrown a1
      have g2 := cell_regrown b0
      have g3 := cell_regrown b1
      have g4 := cell_regrown c0
      have g5 := cell_regrown c1
      have g6 := cell_regrown p0
      have g7 := cell_regrown p1
      have q1 := OX.out.quiet w4
      have q2 := OY.out.quiet w4
      have q3 := OZ.out.quiet w4
      go_wp2_with fail
      refine wp_region_quiet_below (by kernel_rfl) (by kernel_rfl) ?_
      repeat (go_big_quiet_step (first | with_reducible exact q1 _ _ | with_reducible exact q2 _ _ | with_reducible exact q3 _ _))
      refine wpQuiet_nil ?_
      intro _ hw'
      obtain ⟨⟨dq, osq⟩, hw''⟩ := hw'
      subst hw''
      have hb2 := below_regrown w4 dq osq
      generalize grow (redrawn w4 dq) osq = w5 at *
      have B6 := Lib.hid (B5.out.trans (hb2.mono B5.out.size))
      have F6 := Lib.hid (F5.out.below hb2)
      have R6 := Lib.hid (R5.out.later hb2)
      clear g0 g1 g2 g3 g4 g5 g6 g7 q1 q2 q3 a0 a1 b0 b1 c0 c1 p0 p1 hb2 OX OY OZ B5 F5 R5
      go_upto_region 11 with fail
      go_cut [15] from 60 to 78 (fun s wx => s = .bool (o1 || o2 || o3) ∧ Hid (Below w5.heap.size w5 wx))
      case first =>
        obtain ⟨a0, a1, b0, b1, c0, c1, p0, p1⟩ := F6.out.facts
        go_wp2_with fail
        refine (N1.out _).mono ?_
        rintro e wA ⟨rfl, hbA⟩
        have FA := Lib.hid (F6.out.below hbA)
        have BA := Lib.hid hbA
        clear a0 a1 b0 b1 c0 c1 p0 p1 hbA
        cases o1 with
        | true =>
          go_wp2_with fail
          go_meet
          exact ⟨rfl, BA⟩
        | false =>
          obtain ⟨a0, a1, b0, b1, c0, c1, p0, p1⟩ := FA.out.facts
          go_wp2_with fail
          refine (N2.out _).mono ?_
          rintro e wB ⟨rfl, hbB⟩
          have FB := Lib.hid (FA.out.below hbB)
          have BB := Lib.hid (BA.out.trans (hbB.mono BA.out.size))
          clear a0 a1 b0 b1 c0 c1 p0 p1 hbB FA BA
          cases o2 with
          | true =>
            go_wp2_with fail
            go_meet
            exact ⟨rfl, BB⟩
          | false =>
            obtain ⟨a0, a1, b0, b1, c0, c1, p0, p1⟩ := FB.out.facts
            go_wp2_with fail
            refine (N3.out _).mono ?_
            rintro e wC ⟨rfl, hbC⟩
            have BC := Lib.hid (BB.out.trans (hbC.mono BB.out.size))
            clear a0 a1 b0 b1 c0 c1 p0 p1 hbC FB BB
            go_wp2_with fail
            go_meet
            exact ⟨by simp, BC⟩
      obtain ⟨rfl, hcb⟩ := hcut
      have B7 := Lib.hid (B6.out.trans (hcb.out.mono B6.out.size))
      have F7 := Lib.hid (F6.out.below hcb.out)
      have R7 := Lib.hid (R6.out.later hcb.out)
      clear hcb B6 F6 R6 N1 N2 N3
      obtain ⟨O, hO⟩ : ∃ O, (o1 || o2 || o3) = O := ⟨_, rfl⟩
      rw [hO] at SV ⊢
      obtain ⟨p0, p1⟩ : wc.cell? ⟨w.heap.size + 1 + 1 + 1, 0, none⟩ = some (.int .i64 p.x) ∧ wc.cell? ⟨w.heap.size + 1 + 1 + 1, 1, none⟩ = some (.int .i64 p.y) := ⟨F7.out.p.2.1, F7.out.p.2.2⟩
      obtain ⟨bx, hbx⟩ : ∃ q, (x == (-1 : Int)) = q := ⟨_, rfl⟩
      obtain ⟨by', hby⟩ : ∃ q, (y == (-1 : Int)) = q := ⟨_, rfl⟩
      obtain ⟨bz, hbz⟩ : ∃ q, (z == (-1 : Int)) = q := ⟨_, rfl⟩
      rw [hbx, hby, hbz] at SV
      clear hO
      cases O <;> cases bx <;> cases by' <;> cases bz <;> (
        go_wp2_with fail
        first
          | refine (sd_is (some ⟨w1.heap.size, 0, none⟩) 3 3 [a, b, c] p wc (k := 0) (SV.out.trans (by rfl)) R7.out rfl (Nat.le_refl _) (by decide)).mono ?_
          | refine (sd_is (some ⟨w1.heap.size, 0, none⟩) 3 3 [a, b, c] p wc (k := 1) (SV.out.trans (by rfl)) R7.out rfl (Nat.le_refl _) (by decide)).mono ?_
          | refine (sd_is (some ⟨w1.heap.size, 0, none⟩) 3 3 [a, b, c] p wc (k := -1) (SV.out.trans (by rfl)) R7.out rfl (Nat.le_refl _) (by decide)).mono ?_
        rintro e w6 ⟨rfl, hb⟩
        have B8 := Lib.hid (B7.out.trans (hb.mono B7.out.size))
        clear hb p0 p1
        go_wp2
        go_ret
        exact ⟨rfl, B8.out⟩)
end Go.Proofs.Ytcoelaolhnafjaa.Rg
