/- index: IndexRefuses (written by wip/tools/gen-refuses.py). -/
import Derived.Test.YteghhfkllclghaaIxInsideWalk
import Derived.Test.YteghhfkllclghaaIxZone
namespace Go.Proofs.Yteghhfkllclghaa.Ix
open Go.RowKit Go.Sort
theorem near_le (px py k : Int) (S : List It) : (nearR px py k S).length ≤ S.length := by
  unfold nearR
  split
  · unfold nearS
    rw [List.length_map, List.length_take, near_len]
    omega
  · simp
theorem in_le (q : Bx) (S : List It) : (inA q S).length ≤ S.length := by
  unfold inA
  split
  · unfold inS
    rw [List.length_map]
    exact List.length_filter_le _ _
  · simp
theorem opsT_one {w : World} {g : Nat} {o : Opn} (h : IsRow w g 35 (opC o)) : OpsT w w.heap.size (some ⟨g, 0, none⟩) [o] := fun _ => ⟨g, 0, rfl, h.inside, fun k y hk => by
  rcases k with _ | k
  · injection hk with hk
    subst hk
    exact facts6 h
  · cases hk⟩
theorem op_made (w : World) (o : Opn) : ∃ w', w.alloc (.cells #[.bool o.drop, .string ⟨o.id.toArray⟩, .int .i64 o.box.a, .int .i64 o.box.b, .int .i64 o.box.c, .int .i64 o.box.d] 35) = w' ∧ Below w.heap.size w w' ∧ IsRow w' w.heap.size 35 (opC o) := ⟨_, rfl, alloc1 _ _, IsRow.made _ _ _⟩
set_option maxRecDepth 100000 in
set_option maxHeartbeats 16000000 in
theorem refuses_any (ao : Option Addr) (n cap : Nat) (l : List Opn) (o : Opn) (b : Bx) (px py : Int) (w : World) (hn : l.length = n) (ha : OpsT w w.heap.size ao l) (hc : n ≤ cap) :
    Calls Try.prog 8 #[.slice ao n cap, opV o, vB b, vP px py] w fun e w' => e = .returned (.bool true) ∧ Below w.heap.size w w' := by
  obtain ⟨sh, hsh⟩ : ∃ p, (decide (n ≤ 80) && shortB l) = p := ⟨_, rfl⟩
  obtain ⟨s2, hs2⟩ : ∃ p, (decide (1 ≤ 1) && shortB [o]) = p := ⟨_, rfl⟩
  obtain ⟨W, hW, hB, r0, r1, r2⟩ := three_made w 35 26 24 (opC o) (cB b) #[.int .i64 px, .int .i64 py]
  have HW := Lib.hid hW
  have B0 := Lib.hid hB
  have RO := Lib.hid r0
  have RB := Lib.hid r1
  have RP := Lib.hid r2
  have HN := Lib.hid hn
  have HA := Lib.hid (ha.below hB (Nat.le_refl _))
  have hsz : w.heap.size ≤ W.heap.size := hB.size
  have SH := Lib.hid hsh
  have S2 := Lib.hid hs2
  have HCC := Lib.hid hc
  have hc' : (n : Int) ≤ (cap : Int) := by omega
  clear hW hB r0 r1 r2 hn ha hsh hs2 hc
  unfold opC cB at HW
  unfold opV opC vB vP
  go_enter Try.func8, Try.ntmps8
  go_upto_region 1 with fail
  rw [HW.out]
  go_wp2_with fail
  refine (head_any W).mono ?_
  rintro e w0 ⟨rfl, bb⟩
  have B1 := Lib.hid (B0.out.trans (bb.mono hsz))
  have RO1 := Lib.hid (RO.out.below bb RO.out.inside)
  have RB1 := Lib.hid (RB.out.below bb RB.out.inside)
  have RP1 := Lib.hid (RP.out.below bb RP.out.inside)
  have HA1 := Lib.hid ((HA.out.more hsz).below bb (Nat.le_refl _))
  have HZ1 := Lib.hid (show W.heap.size ≤ w0.heap.size from bb.size)
  clear bb HW B0 RO RB RP HA
  have KS := Lib.hid (short_any ao n cap 80 l w0 HN.out (HA1.out.more HZ1.out) HCC.out (by omega))
  rw [SH.out] at KS
  go_wp2_with fail
  refine KS.out.mono ?_
  rintro e w' ⟨rfl, rfl⟩
  clear KS
  cases sh with
  | false =>
    go_wp2
    go_ret
    exact ⟨rfl, B1.out⟩
  | true =>
    obtain ⟨w1, hw1, bb, r4⟩ := op_made w0 o
    have HW1 := Lib.hid hw1
    have B2 := Lib.hid (B1.out.trans (bb.mono B1.out.size))
    have RO2 := Lib.hid (RO1.out.below bb RO1.out.inside)
    have RB2 := Lib.hid (RB1.out.below bb RB1.out.inside)
    have RP2 := Lib.hid (RP1.out.below bb RP1.out.inside)
    have HA2 := Lib.hid ((HA1.out.more HZ1.out).below bb (Nat.le_refl _))
    have HZ2 := Lib.hid (show w0.heap.size ≤ w1.heap.size from bb.size)
    have KS := Lib.hid (short_any (some ⟨w0.heap.size, 0, none⟩) 1 1 1 [o] w1 rfl (opsT_one r4) (Nat.le_refl _) (by omega))
    rw [S2.out] at KS
    obtain ⟨u0, u1, u2, u3, u4, u5⟩ := facts6 RO1.out
    clear hw1 bb r4
    go_wp2_with fail
    rw [HW1.out]
    refine KS.out.mono ?_
    rintro e w' ⟨rfl, rfl⟩
    clear KS HW1 u0 u1 u2 u3 u4 u5 B1 RO1 RB1 RP1 HA1
    cases s2 with
    | false =>
      go_wp2
      go_ret
      exact ⟨rfl, B2.out⟩
    | true =>
      obtain ⟨s1, s3⟩ : n ≤ 80 ∧ shortB l = true := by
        have := SH.out
        rw [Bool.and_eq_true, decide_eq_true_iff] at this
        exact this
      have N80 := Lib.hid s1
      have IDS := Lib.hid (short_ids s3)
      have IO := Lib.hid (show o.id.length ≤ 100 by
        have := S2.out
        rw [Bool.and_eq_true] at this
        exact short_ids this.2 o (List.mem_cons_self ..))
      clear s1 s3
      have KB := Lib.hid (built_any ao n cap l w1 HN.out (HA2.out.more HZ2.out) HCC.out (by have := N80.out; omega) (fun o ho => by have := IDS.out o ho; omega))
      unfold ptr at KB
      go_wp2_with fail
      refine KB.out.mono ?_
      rintro e w3 ⟨x, rfl, h3, bb⟩
      generalize opsR l [] = S at h3
      have B4 := Lib.hid (B2.out.trans (bb.mono B2.out.size))
      have RO4 := Lib.hid (RO2.out.below bb RO2.out.inside)
      have RB4 := Lib.hid (RB2.out.below bb RB2.out.inside)
      have RP4 := Lib.hid (RP2.out.below bb RP2.out.inside)
      have H3 := Lib.hid h3
      have ZO1 := Lib.hid RO2.out.inside
      have ZB1 := Lib.hid RB2.out.inside
      have ZP1 := Lib.hid RP2.out.inside
      have ZW := Lib.hid B2.out.size
      clear bb h3 B2 RO2 RB2 RP2 HA2 KB
      obtain ⟨L1, hL1⟩ : ∃ L, inA b S = L := ⟨_, rfl⟩
      obtain ⟨L2, hL2⟩ : ∃ L, nearR px py 100 S = L := ⟨_, rfl⟩
      obtain ⟨n1, hn1⟩ : ∃ k, L1.length = k := ⟨_, rfl⟩
      obtain ⟨n2, hn2⟩ : ∃ k, L2.length = k := ⟨_, rfl⟩
      have K1 := fun (w' : World) (hb : Below w3.heap.size w3 w') => inZ ((H3.out.zone (fun _ => False) fun _ h => h.elim).below hb) b (by have := N80.out; omega)
      have K2 := fun (w' : World) (hb : Below w3.heap.size w3 w') => nearZ ((H3.out.zone (fun _ => False) fun _ h => h.elim).below hb) px py 100 (by have := N80.out; omega)
      rw [hL1, hn1] at K1
      rw [hL2, hn2] at K2
      unfold ptr vB at K1
      unfold ptr vP at K2
      have L80 := Lib.hid (show n1 ≤ 80 ∧ n2 ≤ 80 by
        have e1 := H3.out.srt.2
        have e2 := N80.out
        have e3 := in_le b S
        have e4 := near_le px py 100 S
        rw [hL1] at e3
        rw [hL2] at e4
        omega)
      have HN1 := Lib.hid hn1
      have HN2 := Lib.hid hn2
      have E1 := Lib.hid hL1
      have E2 := Lib.hid hL2
      clear hL1 hL2 hn1 hn2
      have KG := Lib.hid (fun (w' : World) (hb : Below w3.heap.size w3 w') => (show ((w'.cell? ⟨w.heap.size + 1, 0, none⟩ = some (.int .i64 b.a) ∧ w'.cell? ⟨w.heap.size + 1, 1, none⟩ = some (.int .i64 b.b) ∧ w'.cell? ⟨w.heap.size + 1, 2, none⟩ = some (.int .i64 b.c) ∧ w'.cell? ⟨w.heap.size + 1, 3, none⟩ = some (.int .i64 b.d)) ∧ w'.cell? ⟨w.heap.size + 1 + 1, 0, none⟩ = some (.int .i64 px) ∧ w'.cell? ⟨w.heap.size + 1 + 1, 1, none⟩ = some (.int .i64 py)) from ⟨RB4.out.bx hb RB4.out.inside, (RP4.out.below hb RP4.out.inside).get 0, (RP4.out.below hb RP4.out.inside).get 1⟩))
      have KS := KG.out w3.drew (drew_below _)
      obtain ⟨⟨b0, b1, b2, b3⟩, p0, p1⟩ := KG.out w3 (Below.refl _ _)
      go_upto_region 5 with fail
      go_region_held3 (fun w' => ((w'.cell? ⟨w.heap.size + 1, 0, none⟩ = some (.int .i64 b.a) ∧ w'.cell? ⟨w.heap.size + 1, 1, none⟩ = some (.int .i64 b.b) ∧ w'.cell? ⟨w.heap.size + 1, 2, none⟩ = some (.int .i64 b.c) ∧ w'.cell? ⟨w.heap.size + 1, 3, none⟩ = some (.int .i64 b.d)) ∧ w'.cell? ⟨w.heap.size + 1 + 1, 0, none⟩ = some (.int .i64 px) ∧ w'.cell? ⟨w.heap.size + 1 + 1, 1, none⟩ = some (.int .i64 py))) (first | exact KS | go_keep)
        (first
          | (go_at_call 21; (with_reducible refine (K2 _ B5.out).mono ?_); rintro e w5 ⟨⟨ao2, c2, rfl, hc2, i2⟩, bb5⟩; have B6 := Lib.hid (B5.out.trans (bb5.mono B5.out.size)); have KS := KG.out w5 B6.out)
          | (go_at_call 19; (with_reducible refine (K1 _ (drew_below _)).mono ?_); rintro e w4 ⟨⟨ao1, c1, rfl, hc1, i1⟩, bb4⟩; have B5 := Lib.hid ((drew_below w3).trans bb4); have KS := KG.out w4 B5.out))
      have G1 := Lib.hid ((i1.below bb5).more (Z' := fun k => w3.heap.size ≤ k) fun k h _ => h)
      have G2 := Lib.hid (i2.more (Z' := fun k => w3.heap.size ≤ k) fun k h _ => Nat.le_trans B5.out.size h)
      have RO5 := Lib.hid (RO4.out.below B6.out RO4.out.inside)
      have RB5 := Lib.hid (RB4.out.below B6.out RB4.out.inside)
      have RP5 := Lib.hid (RP4.out.below B6.out RP4.out.inside)
      have hc1' : (n1 : Int) ≤ (c1 : Int) := by omega
      have hc2' : (n2 : Int) ≤ (c2 : Int) := by omega
      have X1 := Lib.hid hc1
      have X2 := Lib.hid hc2
      clear i1 i2 bb4 bb5 B5 KS KG K1 K2 b0 b1 b2 b3 p0 p1 hc1 hc2 RO4 RB4 RP4
      have KX := Lib.hid (boxA (H3.out.below B6.out) o.id (by have := IO.out; omega))
      obtain ⟨own, hown⟩ : ∃ p, (boxS o.id S).getD zB = p := ⟨_, rfl⟩
      obtain ⟨was, hwas⟩ : ∃ p, (boxS o.id S).isSome = p := ⟨_, rfl⟩
      rw [hown, hwas] at KX
      have HWAS := Lib.hid hwas
      clear hown hwas
      unfold vB ptr at KX
      obtain ⟨u0, u1, u2, u3, u4, u5⟩ := facts6 RO5.out
      go_wp2_with fail
      refine KX.out.mono ?_
      rintro e w6 ⟨rfl, b6⟩
      go_upto_region 7 with fail
      obtain ⟨w7, hw7, bb7, r7⟩ := box_made w6 26 own
      rw [hw7]
      have D7 := Lib.hid (b6.trans (bb7.mono b6.size))
      have B7 := Lib.hid (B6.out.trans (D7.out.mono B6.out.size))
      obtain ⟨Z, hZ⟩ : ∃ Z : Nat → Prop, (fun k => k < w1.heap.size ∨ (w3.heap.size ≤ k ∧ k < w7.heap.size)) = Z := ⟨_, rfl⟩
      have HX7 := Lib.hid (show IxZ w7 Z x n S from (H3.out.zone Z (fun k hk => by rw [← hZ] at hk; exact hk.imp id And.left)).below B7.out)
      have ZS := Lib.hid (show ∀ k, Z k → k < w7.heap.size from fun k hk => by
        rw [← hZ] at hk
        have g1 := H3.out.lt
        have g2 := B7.out.size
        rcases hk with h | h <;> omega)
      have RO7 := Lib.hid (RO5.out.below D7.out RO5.out.inside)
      have RB7 := Lib.hid (RB5.out.below D7.out RB5.out.inside)
      have RP7 := Lib.hid (RP5.out.below D7.out RP5.out.inside)
      have Y1 := Lib.hid ((G1.out.below D7.out).more (Z' := Z) fun k h g => by rw [← hZ]; exact .inr ⟨h, g⟩)
      have Y2 := Lib.hid ((G2.out.below D7.out).more (Z' := Z) fun k h g => by rw [← hZ]; exact .inr ⟨h, g⟩)
      have ZO := Lib.hid (show Z w.heap.size by rw [← hZ]; exact .inl ZO1.out)
      have ZB := Lib.hid (show Z (w.heap.size + 1) by rw [← hZ]; exact .inl ZB1.out)
      have ZP := Lib.hid (show Z (w.heap.size + 1 + 1) by rw [← hZ]; exact .inl ZP1.out)
      have FIN := Lib.hid (show ∀ w8, Ch (fun k => ¬ Z k) w7 w8 → Below w.heap.size w w8 from fun w8 h => (B4.out.trans (B7.out.mono B4.out.size)).trans (h.below (B4.out.trans (B7.out.mono B4.out.size)).size fun k hk => by
        have g1 := ZW.out
        rw [← hZ] at hk
        omega))
      clear hw7 bb7 r7 b6 KX D7 B7 B6 B4 G1 G2 RO5 RB5 RP5 H3 ZO1 ZB1 ZP1 ZW hZ u0 u1 u2 u3 u4 u5
      obtain ⟨u0, u1, u2, u3, u4, u5⟩ := facts6 RO7.out
      obtain ⟨dr, i, bo⟩ := o
      dsimp only at u0 u1 u2 u3 u4 u5 HWAS IO
      have KD := Lib.hid (doZ HX7.out ZS.out ⟨dr, i, bo⟩ (by have := IO.out; dsimp only; omega) (by have := N80.out; omega))
      unfold ptr opV opC at KD
      dsimp only at KD
      clear HX7
      cases dr with
      | true =>
        cases was with
        | true =>
          have HE := Lib.hid (show opE ⟨true, i, bo⟩ S = 0 ∧ opR ⟨true, i, bo⟩ S = dropS i S from ⟨by show dropE i S = 0; unfold dropE; rw [HWAS.out]; rfl, rfl⟩)
          go_wp2_with fail
          refine KD.out.mono ?_
          rintro e w8 ⟨rfl, h8, c8⟩
          rw [HE.out.2] at h8
          rw [HE.out.1]
          have C8 := Lib.hid c8
          have HX := Lib.hid h8
          have I1 := Lib.hid (Y1.out.keep c8 fun _ h => h)
          have I2 := Lib.hid (Y2.out.keep c8 fun _ h => h)
          have RO := Lib.hid (c8.row RO7.out (fun h => h (ZO.out)))
          have RB := Lib.hid (c8.row RB7.out (fun h => h (ZB.out)))
          have RP := Lib.hid (c8.row RP7.out (fun h => h (ZP.out)))
          obtain ⟨z0, z1, z2, z3, z4, z5⟩ := facts6 RO.out
          dsimp only at z0 z1
          clear KD h8 c8 Y1 Y2 RO7 RB7 RP7 u0 u1 u2 u3 u4 u5
          have KX := Lib.hid (boxZ HX.out i (by have := IO.out; omega))
          rw [box_dropped] at KX
          unfold vB ptr at KX
          dsimp only [Option.getD_none, Option.isSome_none, zB] at KX
          go_wp2_with (refine KX.out.mono ?_; rintro e w9 ⟨rfl, b9⟩)
          go_ret
          exact ⟨rfl, (FIN.out _ (C8.out.trans (Ch.of_below (S := fun k => ¬ Z k) b9) fun _ h _ => h)).trans ((alloc1 w9 _).mono (FIN.out _ (C8.out.trans (Ch.of_below (S := fun k => ¬ Z k) b9) fun _ h _ => h)).size)⟩
        | false =>
          have HE := Lib.hid (show opE ⟨true, i, bo⟩ S = 11 ∧ opR ⟨true, i, bo⟩ S = S from ⟨by show dropE i S = 11; unfold dropE; rw [HWAS.out]; rfl, drop_absent (box_none.1 (by have := HWAS.out; simpa using this))⟩)
          go_wp2_with fail
          refine KD.out.mono ?_
          rintro e w8 ⟨rfl, h8, c8⟩
          rw [HE.out.2] at h8
          rw [HE.out.1]
          have C8 := Lib.hid c8
          have HX := Lib.hid h8
          have I1 := Lib.hid (Y1.out.keep c8 fun _ h => h)
          have I2 := Lib.hid (Y2.out.keep c8 fun _ h => h)
          have RO := Lib.hid (c8.row RO7.out (fun h => h (ZO.out)))
          have RB := Lib.hid (c8.row RB7.out (fun h => h (ZB.out)))
          have RP := Lib.hid (c8.row RP7.out (fun h => h (ZP.out)))
          obtain ⟨z0, z1, z2, z3, z4, z5⟩ := facts6 RO.out
          dsimp only at z0 z1
          clear KD h8 c8 Y1 Y2 RO7 RB7 RP7 u0 u1 u2 u3 u4 u5
          have KI := inZ HX.out b (by have := N80.out; omega)
          rw [E1.out, HN1.out] at KI
          unfold ptr vB at KI
          obtain ⟨b0, b1, b2, b3⟩ := box_facts RB.out
          go_wp2_with fail
          refine KI.mono ?_
          rintro e w9 ⟨⟨ao3, c3, rfl, hc3, i3⟩, bb⟩
          have C9 := Lib.hid (C8.out.trans (Ch.of_below (S := fun k => ¬ Z k) bb) fun _ h _ => h)
          have RP9 := Lib.hid (RP.out.below bb RP.out.inside)
          have KM := same_any ao3 ao1 n1 c3 c1 L1 w9 HN1.out i3.ids (I1.out.below bb).ids hc3 X1.out (by have := L80.out; omega)
          have J2 := Lib.hid (I2.out.below bb)
          have HX9 := Lib.hid (HX.out.below bb)
          have hc3' : (n1 : Int) ≤ (c3 : Int) := by omega
          clear KI bb i3 b0 b1 b2 b3 C8 RP I1 I2 HX RB hc3
          go_wp2_with fail
          refine KM.mono ?_
          rintro e w10 ⟨rfl, bb⟩
          have C10 := Lib.hid (C9.out.trans (Ch.of_below (S := fun k => ¬ Z k) bb) fun _ h _ => h)
          have RP10 := Lib.hid (RP9.out.below bb RP9.out.inside)
          have KN := nearZ (HX9.out.below bb) px py 100 (by have := N80.out; omega)
          rw [E2.out, HN2.out] at KN
          unfold ptr vP at KN
          have J3 := Lib.hid (J2.out.below bb)
          clear KM bb C9 RP9 J2 HX9
          have p0 := RP10.out.get 0
          have p1 := RP10.out.get 1
          go_wp2_with fail
          refine KN.mono ?_
          rintro e w11 ⟨⟨ao4, c4, rfl, hc4, i4⟩, bb⟩
          have C11 := Lib.hid (C10.out.trans (Ch.of_below (S := fun k => ¬ Z k) bb) fun _ h _ => h)
          have KM := same_any ao4 ao2 n2 c4 c2 L2 w11 HN2.out i4.ids (J3.out.below bb).ids hc4 X2.out (by have := L80.out; omega)
          have hc4' : (n2 : Int) ≤ (c4 : Int) := by omega
          clear KN bb i4 p0 p1 C10 RP10 J3 hc4
          go_wp2_with fail
          refine KM.mono ?_
          rintro e w12 ⟨rfl, bb⟩
          have C12 := Lib.hid (C11.out.trans (Ch.of_below (S := fun k => ¬ Z k) bb) fun _ h _ => h)
          clear KM bb C11
          go_wp2
          go_ret
          exact ⟨rfl, FIN.out _ C12.out⟩
      | false =>
        by_cases hok : validB bo = true ∧ was = false
        · obtain ⟨hv, rfl⟩ := hok
          have hno := box_none.1 (show boxS i S = none by have := HWAS.out; simpa using this)
          have HE := Lib.hid (show opE ⟨false, i, bo⟩ S = 0 ∧ opR ⟨false, i, bo⟩ S = putS i bo S from ⟨by show putE i bo S = 0; unfold putE; rw [hv, HWAS.out]; rfl, by show putR i bo S = _; unfold putR; rw [hv, box_none.2 hno]; rfl⟩)
          have HNO := Lib.hid hno
          clear hv hno
          go_wp2_with fail
          refine KD.out.mono ?_
          rintro e w8 ⟨rfl, h8, c8⟩
          rw [HE.out.2] at h8
          rw [HE.out.1]
          have C8 := Lib.hid c8
          have HX := Lib.hid h8
          have I1 := Lib.hid (Y1.out.keep c8 fun _ h => h)
          have I2 := Lib.hid (Y2.out.keep c8 fun _ h => h)
          have RO := Lib.hid (c8.row RO7.out (fun h => h (ZO.out)))
          have RB := Lib.hid (c8.row RB7.out (fun h => h (ZB.out)))
          have RP := Lib.hid (c8.row RP7.out (fun h => h (ZP.out)))
          obtain ⟨z0, z1, z2, z3, z4, z5⟩ := facts6 RO.out
          dsimp only at z0 z1
          clear KD h8 c8 Y1 Y2 RO7 RB7 RP7 u0 u1 u2 u3 u4 u5
          have hbs : boxS i (putS i bo S) = some bo := by
            have hs := HX.out.srt.1
            exact (box_some hs.nodup).2 ((putS_perm i bo S).mem_iff.2 (List.mem_cons_self ..))
          have KE := dropZ HX.out (fun k hk => Nat.lt_of_lt_of_le (ZS.out k hk) C8.out.size) i (by have := IO.out; omega) (by have := N80.out; omega)
          rw [put_drop HNO.out, show dropE i (putS i bo S) = 0 by unfold dropE; rw [hbs]; rfl] at KE
          unfold ptr at KE
          have KE2 := Lib.hid KE
          clear KE hbs
          go_wp2_with fail
          refine KE2.out.mono ?_
          rintro e w8b ⟨rfl, h9, c9⟩
          have CC := Lib.hid (C8.out.trans c9 fun _ h _ => h)
          have HXn := Lib.hid h9
          have I1n := Lib.hid (I1.out.keep c9 fun _ h => h)
          have I2n := Lib.hid (I2.out.keep c9 fun _ h => h)
          have RBn := Lib.hid (c9.row RB.out (fun h => h (ZB.out)))
          have RPn := Lib.hid (c9.row RP.out (fun h => h (ZP.out)))
          clear C8 HX I1 I2 RB RP KE2 h9 c9 z0 z1 RO
          have C8 := CC
          have HX := HXn
          have I1 := I1n
          have I2 := I2n
          have RB := RBn
          have RP := RPn
          clear CC HXn I1n I2n RBn RPn
          have KI := inZ HX.out b (by have := N80.out; omega)
          rw [E1.out, HN1.out] at KI
          unfold ptr vB at KI
          obtain ⟨b0, b1, b2, b3⟩ := box_facts RB.out
          go_wp2_with fail
          refine KI.mono ?_
          rintro e w9 ⟨⟨ao3, c3, rfl, hc3, i3⟩, bb⟩
          have C9 := Lib.hid (C8.out.trans (Ch.of_below (S := fun k => ¬ Z k) bb) fun _ h _ => h)
          have RP9 := Lib.hid (RP.out.below bb RP.out.inside)
          have KM := same_any ao3 ao1 n1 c3 c1 L1 w9 HN1.out i3.ids (I1.out.below bb).ids hc3 X1.out (by have := L80.out; omega)
          have J2 := Lib.hid (I2.out.below bb)
          have HX9 := Lib.hid (HX.out.below bb)
          have hc3' : (n1 : Int) ≤ (c3 : Int) := by omega
          clear KI bb i3 b0 b1 b2 b3 C8 RP I1 I2 HX RB hc3
          go_wp2_with fail
          refine KM.mono ?_
          rintro e w10 ⟨rfl, bb⟩
          have C10 := Lib.hid (C9.out.trans (Ch.of_below (S := fun k => ¬ Z k) bb) fun _ h _ => h)
          have RP10 := Lib.hid (RP9.out.below bb RP9.out.inside)
          have KN := nearZ (HX9.out.below bb) px py 100 (by have := N80.out; omega)
          rw [E2.out, HN2.out] at KN
          unfold ptr vP at KN
          have J3 := Lib.hid (J2.out.below bb)
          clear KM bb C9 RP9 J2 HX9
          have p0 := RP10.out.get 0
          have p1 := RP10.out.get 1
          go_wp2_with fail
          refine KN.mono ?_
          rintro e w11 ⟨⟨ao4, c4, rfl, hc4, i4⟩, bb⟩
          have C11 := Lib.hid (C10.out.trans (Ch.of_below (S := fun k => ¬ Z k) bb) fun _ h _ => h)
          have KM := same_any ao4 ao2 n2 c4 c2 L2 w11 HN2.out i4.ids (J3.out.below bb).ids hc4 X2.out (by have := L80.out; omega)
          have hc4' : (n2 : Int) ≤ (c4 : Int) := by omega
          clear KN bb i4 p0 p1 C10 RP10 J3 hc4
          go_wp2_with fail
          refine KM.mono ?_
          rintro e w12 ⟨rfl, bb⟩
          have C12 := Lib.hid (C11.out.trans (Ch.of_below (S := fun k => ¬ Z k) bb) fun _ h _ => h)
          clear KM bb C11
          go_wp2
          go_ret
          exact ⟨rfl, FIN.out _ C12.out⟩
        · have HE0 : ∃ ec : Int, opE ⟨false, i, bo⟩ S = ec ∧ (ec == 0) = false ∧ opR ⟨false, i, bo⟩ S = S := by
            have h1 : opR ⟨false, i, bo⟩ S = S := by
              show putR i bo S = S
              unfold putR
              rw [if_neg]
              intro h
              rw [Bool.and_eq_true] at h
              exact hok ⟨h.1, by rw [← HWAS.out]; simpa using h.2⟩
            cases hv : validB bo with
            | false => exact ⟨1, by show putE i bo S = 1; unfold putE; rw [hv]; rfl, rfl, h1⟩
            | true =>
              refine ⟨9, ?_, rfl, h1⟩
              show putE i bo S = 9
              unfold putE
              rw [hv, HWAS.out]
              cases was with
              | true => rfl
              | false => exact absurd ⟨hv, rfl⟩ hok
          obtain ⟨ec, he1, hec, he2⟩ := HE0
          have HE := Lib.hid (show opE ⟨false, i, bo⟩ S = ec ∧ opR ⟨false, i, bo⟩ S = S from ⟨he1, he2⟩)
          clear he1 he2 hok
          go_wp2_with fail
          refine KD.out.mono ?_
          rintro e w8 ⟨rfl, h8, c8⟩
          rw [HE.out.2] at h8
          rw [HE.out.1]
          have C8 := Lib.hid c8
          have HX := Lib.hid h8
          have I1 := Lib.hid (Y1.out.keep c8 fun _ h => h)
          have I2 := Lib.hid (Y2.out.keep c8 fun _ h => h)
          have RO := Lib.hid (c8.row RO7.out (fun h => h (ZO.out)))
          have RB := Lib.hid (c8.row RB7.out (fun h => h (ZB.out)))
          have RP := Lib.hid (c8.row RP7.out (fun h => h (ZP.out)))
          obtain ⟨z0, z1, z2, z3, z4, z5⟩ := facts6 RO.out
          dsimp only at z0 z1
          clear KD h8 c8 Y1 Y2 RO7 RB7 RP7 u0 u1 u2 u3 u4 u5
          have KI := inZ HX.out b (by have := N80.out; omega)
          rw [E1.out, HN1.out] at KI
          unfold ptr vB at KI
          obtain ⟨b0, b1, b2, b3⟩ := box_facts RB.out
          go_wp2_with fail
          refine KI.mono ?_
          rintro e w9 ⟨⟨ao3, c3, rfl, hc3, i3⟩, bb⟩
          have C9 := Lib.hid (C8.out.trans (Ch.of_below (S := fun k => ¬ Z k) bb) fun _ h _ => h)
          have RP9 := Lib.hid (RP.out.below bb RP.out.inside)
          have KM := same_any ao3 ao1 n1 c3 c1 L1 w9 HN1.out i3.ids (I1.out.below bb).ids hc3 X1.out (by have := L80.out; omega)
          have J2 := Lib.hid (I2.out.below bb)
          have HX9 := Lib.hid (HX.out.below bb)
          have hc3' : (n1 : Int) ≤ (c3 : Int) := by omega
          clear KI bb i3 b0 b1 b2 b3 C8 RP I1 I2 HX RB hc3
          go_wp2_with fail
          refine KM.mono ?_
          rintro e w10 ⟨rfl, bb⟩
          have C10 := Lib.hid (C9.out.trans (Ch.of_below (S := fun k => ¬ Z k) bb) fun _ h _ => h)
          have RP10 := Lib.hid (RP9.out.below bb RP9.out.inside)
          have KN := nearZ (HX9.out.below bb) px py 100 (by have := N80.out; omega)
          rw [E2.out, HN2.out] at KN
          unfold ptr vP at KN
          have J3 := Lib.hid (J2.out.below bb)
          clear KM bb C9 RP9 J2 HX9
          have p0 := RP10.out.get 0
          have p1 := RP10.out.get 1
          go_wp2_with fail
          refine KN.mono ?_
          rintro e w11 ⟨⟨ao4, c4, rfl, hc4, i4⟩, bb⟩
          have C11 := Lib.hid (C10.out.trans (Ch.of_below (S := fun k => ¬ Z k) bb) fun _ h _ => h)
          have KM := same_any ao4 ao2 n2 c4 c2 L2 w11 HN2.out i4.ids (J3.out.below bb).ids hc4 X2.out (by have := L80.out; omega)
          have hc4' : (n2 : Int) ≤ (c4 : Int) := by omega
          clear KN bb i4 p0 p1 C10 RP10 J3 hc4
          go_wp2_with fail
          refine KM.mono ?_
          rintro e w12 ⟨rfl, bb⟩
          have C12 := Lib.hid (C11.out.trans (Ch.of_below (S := fun k => ¬ Z k) bb) fun _ h _ => h)
          clear KM bb C11
          go_wp2
          go_ret
          exact ⟨rfl, FIN.out _ C12.out⟩
end Go.Proofs.Yteghhfkllclghaa.Ix
