/- index: IndexInside. -/
import Derived.Test.YteghhfkllclghaaIxHead
import Derived.Test.YteghhfkllclghaaIxWhat
import Derived.Deep.RegionHeld3
namespace Go.Proofs.Yteghhfkllclghaa.Ix
open Go.RowKit Go.Sort
theorem short_ids {l : List Opn} (h : shortB l = true) : ∀ o ∈ l, o.id.length ≤ 100 := by
  unfold shortB at h
  rw [List.all_eq_true] at h
  exact fun o ho => of_decide_eq_true (h o ho)
/-- the cells of a box. -/
def BxAt (w : World) (g : Nat) (b : Bx) : Prop := w.cell? ⟨g, 0, none⟩ = some (.int .i64 b.a) ∧ w.cell? ⟨g, 1, none⟩ = some (.int .i64 b.b) ∧ w.cell? ⟨g, 2, none⟩ = some (.int .i64 b.c) ∧ w.cell? ⟨g, 3, none⟩ = some (.int .i64 b.d)
theorem IsRow.bx {w w' : World} {g B : Nat} {t : TypeId} {b : Bx} (h : IsRow w g t (cB b)) (hb : Below B w w') (hg : g < B) : BxAt w' g b := box_facts (h.below hb hg)
theorem OpsT.more {w : World} {B B' : Nat} {ao : Option Addr} {l : List Opn} (h : OpsT w B ao l) (hB : B ≤ B') : OpsT w B' ao l := fun h0 => by
  obtain ⟨g, off, e, hg, hc⟩ := h h0
  exact ⟨g, off, e, Nat.lt_of_lt_of_le hg hB, hc⟩
theorem box_made (w : World) (t : TypeId) (b : Bx) : ∃ w', w.alloc (.cells #[.int .i64 b.a, .int .i64 b.b, .int .i64 b.c, .int .i64 b.d] t) = w' ∧ Below w.heap.size w w' ∧ IsRow w' w.heap.size t (cB b) := ⟨_, rfl, alloc1 _ _, IsRow.made _ _ _⟩
theorem IxA.ids {w : World} {b0 x n : Nat} {S : List It} (h : IxA w b0 x n S) : ∀ z ∈ S, z.1.length ≤ 1000 := by
  obtain ⟨m, t, D, lk, _, _, _, _, h5⟩ := h
  exact h5
theorem inA_ok {q : Bx} {S : List It} (h : validB q = true) : inA q S = inS q S := by unfold inA; rw [h]; rfl
set_option maxRecDepth 100000 in
set_option maxHeartbeats 8000000 in
theorem inside_any (ao : Option Addr) (n cap : Nat) (l : List Opn) (a b : Bx) (w : World) (hn : l.length = n) (ha : OpsT w w.heap.size ao l) (hc : n ≤ cap) :
    Calls Try.prog 7 #[.slice ao n cap, vB a, vB b] w fun e w' => e = .returned (.bool true) ∧ Below w.heap.size w w' := by
  obtain ⟨sh, hsh⟩ : ∃ p, (decide (n ≤ 80) && shortB l) = p := ⟨_, rfl⟩
  obtain ⟨va, hva⟩ : ∃ p, validB a = p := ⟨_, rfl⟩
  obtain ⟨vb, hvb⟩ : ∃ p, validB b = p := ⟨_, rfl⟩
  obtain ⟨W, hW, hB, r0, r1⟩ := two_made w 26 26 (cB a) (cB b)
  have HW := Lib.hid hW
  have B0 := Lib.hid hB
  have RA := Lib.hid r0
  have RB := Lib.hid r1
  have HN := Lib.hid hn
  have HA := Lib.hid (ha.below hB (Nat.le_refl _))
  have hsz : w.heap.size ≤ W.heap.size := hB.size
  have SH := Lib.hid hsh
  have VA := Lib.hid hva
  have VB := Lib.hid hvb
  have HCC := Lib.hid hc
  have hc' : (n : Int) ≤ (cap : Int) := by omega
  clear hW hB r0 r1 hn ha hsh hva hvb hc
  unfold cB at HW
  unfold vB
  go_enter Try.func7, Try.ntmps7
  go_upto_region 1 with fail
  rw [HW.out]
  go_wp2_with fail
  refine (head_any W).mono ?_
  rintro e w0 ⟨rfl, hb0⟩
  have B1 := Lib.hid (B0.out.trans (hb0.mono hsz))
  have RA1 := Lib.hid (RA.out.below hb0 RA.out.inside)
  have RB1 := Lib.hid (RB.out.below hb0 RB.out.inside)
  have HA1 := Lib.hid ((HA.out.more hsz).below hb0 (Nat.le_refl _))
  have HZ1 := Lib.hid (show W.heap.size ≤ w0.heap.size from hb0.size)
  clear hb0 HW B0 RA RB HA
  have KS := Lib.hid (short_any ao n cap 80 l w0 HN.out (HA1.out.more HZ1.out) HCC.out (by omega))
  rw [SH.out] at KS
  obtain ⟨a0, a1, a2, a3⟩ := box_facts RA1.out
  have KA := Lib.hid (refValid_any a w0)
  rw [VA.out] at KA
  unfold vB at KA
  go_wp2_with fail
  refine KS.out.mono ?_
  rintro e w' ⟨rfl, rfl⟩
  clear KS
  cases sh with
  | false =>
    go_wp2
    go_ret
    exact ⟨rfl, B1.out⟩
  | true =>
    go_wp2_with fail
    refine KA.out.mono ?_
    rintro e w1 ⟨rfl, b1⟩
    have B2 := Lib.hid (B1.out.trans (b1.mono B1.out.size))
    have RA2 := Lib.hid (RA1.out.below b1 RA1.out.inside)
    have RB2 := Lib.hid (RB1.out.below b1 RB1.out.inside)
    have HA2 := Lib.hid ((HA1.out.more HZ1.out).below b1 (Nat.le_refl _))
    have HZ2 := Lib.hid (show w0.heap.size ≤ w1.heap.size from b1.size)
    clear b1 B1 RA1 RB1 HA1 KA a0 a1 a2 a3
    cases va with
    | false =>
      go_wp2
      go_ret
      exact ⟨rfl, B2.out⟩
    | true =>
      obtain ⟨b0, b1, b2, b3⟩ := box_facts RB2.out
      have KB := Lib.hid (refValid_any b w1)
      rw [VB.out] at KB
      unfold vB at KB
      go_wp2_with fail
      refine KB.out.mono ?_
      rintro e w2 ⟨rfl, bb⟩
      have B3 := Lib.hid (B2.out.trans (bb.mono B2.out.size))
      have RA3 := Lib.hid (RA2.out.below bb RA2.out.inside)
      have RB3 := Lib.hid (RB2.out.below bb RB2.out.inside)
      have HA3 := Lib.hid ((HA2.out.more HZ2.out).below bb (Nat.le_refl _))
      have HZ3 := Lib.hid (show w1.heap.size ≤ w2.heap.size from bb.size)
      clear bb B2 RA2 RB2 HA2 KB b0 b1 b2 b3
      cases vb with
      | false =>
        go_wp2
        go_ret
        exact ⟨rfl, B3.out⟩
      | true =>
        obtain ⟨a0, a1, a2, a3⟩ := box_facts RA3.out
        obtain ⟨b0, b1, b2, b3⟩ := box_facts RB3.out
        by_cases q1 : a.a < b.a
        · go_wp2
          go_ret
          exact ⟨rfl, B3.out⟩
        have q1' : decide (a.a < b.a) = false := decide_eq_false q1
        by_cases q2 : a.b < b.b
        · go_wp2
          go_ret
          exact ⟨rfl, B3.out⟩
        have q2' : decide (a.b < b.b) = false := decide_eq_false q2
        by_cases q3 : b.c < a.c
        · go_wp2
          go_ret
          exact ⟨rfl, B3.out⟩
        have q3' : decide (b.c < a.c) = false := decide_eq_false q3
        by_cases q4 : b.d < a.d
        · go_wp2
          go_ret
          exact ⟨rfl, B3.out⟩
        have QI := Lib.hid (show isIn a b by unfold isIn; omega)
        obtain ⟨s1, s2⟩ : n ≤ 80 ∧ shortB l = true := by
          have := SH.out
          rw [Bool.and_eq_true, decide_eq_true_iff] at this
          exact this
        have N80 := Lib.hid s1
        have IDS := Lib.hid (short_ids s2)
        clear s1 s2
        have KB := Lib.hid (built_any ao n cap l w2 HN.out (HA3.out.more HZ3.out) HCC.out (by have := N80.out; omega) (fun o ho => by have := IDS.out o ho; omega))
        unfold ptr at KB
        go_wp2_with fail
        refine KB.out.mono ?_
        rintro e w3 ⟨x, rfl, h3, bb⟩
        generalize opsR l [] = S at h3
        have B4 := Lib.hid (B3.out.trans (bb.mono B3.out.size))
        have RA4 := Lib.hid (RA3.out.below bb RA3.out.inside)
        have RB4 := Lib.hid (RB3.out.below bb RB3.out.inside)
        have H3 := Lib.hid h3
        clear bb h3 B3 RA3 RB3 HA3 KB a0 a1 a2 a3 b0 b1 b2 b3 q1 q1' q2 q2' q3 q3' q4
        obtain ⟨L1, hL1⟩ : ∃ L, inA a S = L := ⟨_, rfl⟩
        obtain ⟨L2, hL2⟩ : ∃ L, inA b S = L := ⟨_, rfl⟩
        obtain ⟨n1, hn1⟩ : ∃ k, L1.length = k := ⟨_, rfl⟩
        obtain ⟨n2, hn2⟩ : ∃ k, L2.length = k := ⟨_, rfl⟩
        have E1 := Lib.hid (hL1.symm.trans (inA_ok VA.out))
        have E2 := Lib.hid (hL2.symm.trans (inA_ok VB.out))
        have K1 := fun (w' : World) (hb : Below w3.heap.size w3 w') => inA_any (H3.out.below hb) a (by have := N80.out; omega)
        have K2 := fun (w' : World) (hb : Below w3.heap.size w3 w') => inA_any (H3.out.below hb) b (by have := N80.out; omega)
        rw [hL1, hn1] at K1
        rw [hL2, hn2] at K2
        unfold ptr vB at K1 K2
        have HN1 := Lib.hid hn1
        have HN2 := Lib.hid hn2
        have L80 := Lib.hid (show n1 ≤ 80 ∧ n2 ≤ 80 by
          have e1 := H3.out.srt.2
          have e2 := N80.out
          have e3 : L1.length ≤ S.length := by rw [E1.out]; unfold inS; rw [List.length_map]; exact List.length_filter_le _ _
          have e4 : L2.length ≤ S.length := by rw [E2.out]; unfold inS; rw [List.length_map]; exact List.length_filter_le _ _
          omega)
        have n1le : (n1 : Int) ≤ 80 := by have := L80.out; omega
        have n2le : (n2 : Int) ≤ 80 := by have := L80.out; omega
        have M1 := Lib.hid (show ∀ i, i ∈ L1 ↔ i ∈ inS a S from fun i => by rw [E1.out])
        have M2 := Lib.hid (show ∀ i, i ∈ L2 ↔ i ∈ inS b S from fun i => by rw [E2.out])
        clear hL1 hL2 hn1 hn2
        have KG := Lib.hid (fun (w' : World) (hb : Below w3.heap.size w3 w') => (show (w'.cell? ⟨w.heap.size, 0, none⟩ = some (.int .i64 a.a) ∧ w'.cell? ⟨w.heap.size, 1, none⟩ = some (.int .i64 a.b) ∧ w'.cell? ⟨w.heap.size, 2, none⟩ = some (.int .i64 a.c) ∧ w'.cell? ⟨w.heap.size, 3, none⟩ = some (.int .i64 a.d)) ∧
          (w'.cell? ⟨w.heap.size + 1, 0, none⟩ = some (.int .i64 b.a) ∧ w'.cell? ⟨w.heap.size + 1, 1, none⟩ = some (.int .i64 b.b) ∧ w'.cell? ⟨w.heap.size + 1, 2, none⟩ = some (.int .i64 b.c) ∧ w'.cell? ⟨w.heap.size + 1, 3, none⟩ = some (.int .i64 b.d)) from
          ⟨RA4.out.bx hb RA4.out.inside, RB4.out.bx hb RB4.out.inside⟩))
        have KS := KG.out w3.drew (drew_below _)
        obtain ⟨⟨a0, a1, a2, a3⟩, b0, b1, b2, b3⟩ := KG.out w3 (Below.refl _ _)
        go_upto_region 5 with fail
        go_region_held3 (fun w' => (w'.cell? ⟨w.heap.size, 0, none⟩ = some (.int .i64 a.a) ∧ w'.cell? ⟨w.heap.size, 1, none⟩ = some (.int .i64 a.b) ∧ w'.cell? ⟨w.heap.size, 2, none⟩ = some (.int .i64 a.c) ∧ w'.cell? ⟨w.heap.size, 3, none⟩ = some (.int .i64 a.d)) ∧
            (w'.cell? ⟨w.heap.size + 1, 0, none⟩ = some (.int .i64 b.a) ∧ w'.cell? ⟨w.heap.size + 1, 1, none⟩ = some (.int .i64 b.b) ∧ w'.cell? ⟨w.heap.size + 1, 2, none⟩ = some (.int .i64 b.c) ∧ w'.cell? ⟨w.heap.size + 1, 3, none⟩ = some (.int .i64 b.d))) (first | exact KS | go_keep)
          (first
            | (go_at_call 19; (with_reducible refine (K2 _ B5.out).mono ?_); rintro e w5 ⟨⟨ao2, c2, rfl, hc2, i2⟩, bb5⟩; have B6 := Lib.hid (B5.out.trans (bb5.mono B5.out.size)); have KS := KG.out w5 B6.out)
            | (go_at_call 19; (with_reducible refine (K1 _ (drew_below _)).mono ?_); rintro e w4 ⟨⟨ao1, c1, rfl, hc1, i1⟩, bb4⟩; have B5 := Lib.hid ((drew_below w3).trans bb4); have KS := KG.out w4 B5.out))
        have I1 := Lib.hid ((i1.below bb5 (Nat.le_refl _)).more bb5.size)
        have I2 := Lib.hid i2
        have HX := Lib.hid (H3.out.below B6.out)
        have RA5 := Lib.hid (RA4.out.below B6.out RA4.out.inside)
        have B7 := Lib.hid (B4.out.trans (B6.out.mono B4.out.size))
        have hc1' : (n1 : Int) ≤ (c1 : Int) := by omega
        have hc2' : (n2 : Int) ≤ (c2 : Int) := by omega
        have C1 := Lib.hid hc1
        have C2 := Lib.hid hc2
        clear i1 i2 bb4 bb5 B5 B6 KS KG K1 K2 a0 a1 a2 a3 b0 b1 b2 b3 hc1 hc2 B4 RA4 RB4 H3
        go_wp2_with fail
        go_loopw [11] (fun i wr => ∃ k : Nat, k ≤ n1 ∧ i = .int .i64 k ∧ Hid (Below w5.heap.size w5 wr)) (fun i _ => n1 - (intOf i).toNat)
        case atStart => exact ⟨0, by omega, rfl, Lib.hid (Below.refl _ _)⟩
        case round =>
          obtain ⟨k, hk, rfl, HK⟩ := hrel
          by_cases hlt : k < n1
          · have hkl : k < L1.length := by rw [HN1.out]; exact hlt
            have hlt2 : (k : Int) < (n1 : Int) := by omega
            obtain ⟨g1, o1, rfl, hg1, x0⟩ := (I1.out.below HK.out (Nat.le_refl _)).at_ hkl
            have hm : L1[k] ∈ L2 := (M2.out _).2 (in_isIn QI.out ((M1.out _).1 (List.getElem_mem hkl)))
            have KH := Lib.hid (has_any ao2 n2 c2 L2 L1[k] wr HN2.out ((I2.out.below HK.out (Nat.le_refl _)).more HK.out.size) C2.out (by have := L80.out; omega))
            rw [decide_eq_true hm] at KH
            generalize L1[k] = y at *
            clear hkl hm
            go_wp2_with (refine KH.out.mono ?_; rintro e w6 ⟨rfl, b6⟩)
            have H6 := Lib.hid (HK.out.trans (b6.mono HK.out.size))
            clear b6 KH
            go_roundw
            case rel => exact ⟨k + 1, by omega, by go_num, H6⟩
            case measure => simp [intOf]; omega
          · obtain rfl : n1 = k := by omega
            have HX2 := Lib.hid (HX.out.below HK.out)
            have RA6 := Lib.hid (RA5.out.below HK.out RA5.out.inside)
            have B8 := Lib.hid (B7.out.trans (HK.out.mono B7.out.size))
            have J1 := Lib.hid ((I1.out.below HK.out (Nat.le_refl _)).more HK.out.size)
            have J2 := Lib.hid ((I2.out.below HK.out (Nat.le_refl _)).more HK.out.size)
            clear I1 I2 HX RA5 B7 HK
            obtain ⟨v0, rfl⟩ : ∃ v, v = wr := ⟨_, rfl⟩
            go_wp2_with fail
            go_loopw [12] (fun i wz => ∃ j : Nat, j ≤ n2 ∧ i = .int .i64 j ∧ Hid (Below v0.heap.size v0 wz)) (fun i _ => n2 - (intOf i).toNat)
            case atStart => exact ⟨0, by omega, rfl, Lib.hid (Below.refl _ _)⟩
            case round =>
              obtain ⟨j, hj, rfl, HK⟩ := hrel
              by_cases hlj : j < n2
              · have hkl : j < L2.length := by rw [HN2.out]; exact hlj
                have hlt2 : (j : Int) < (n2 : Int) := by omega
                obtain ⟨g1, o1, rfl, hg1, x0⟩ := (J2.out.below HK.out (Nat.le_refl _)).at_ hkl
                have hm : L2[j] ∈ L2 := List.getElem_mem hkl
                obtain ⟨own, hw1, hw2⟩ := in_box HX2.out.srt.1 ((M2.out _).1 hm)
                have hy : L2[j].length ≤ 1000 := by
                  obtain ⟨z, hz, e⟩ := box_id hw1
                  rw [← e]
                  exact HX2.out.ids z hz
                have KX := Lib.hid (boxA (HX2.out.below HK.out) L2[j] hy)
                rw [hw1] at KX
                have hmo : decide (L2[j] ∈ L1) = meetB own a := by
                  rw [Bool.eq_iff_iff, decide_eq_true_iff, M1.out]
                  exact box_in HX2.out.srt.1 hw1
                have KH := Lib.hid (fun (w' : World) (hb : Below v0.heap.size v0 w') => has_any ao1 n1 c1 L1 L2[j] w' HN1.out ((J1.out.below hb (Nat.le_refl _)).more hb.size) C1.out (by have := L80.out; omega))
                rw [hmo] at KH
                generalize L2[j] = y at *
                obtain ⟨mo, hmo⟩ : ∃ p, meetB own a = p := ⟨_, rfl⟩
                have KM := Lib.hid (refmeet_any own a)
                rw [hmo] at KH KM
                have bt : (mo == mo) = true := by simp
                unfold vB at KM KX
                unfold ptr at KX
                dsimp only [Option.getD_some, Option.isSome_some] at KX
                clear hkl hm hw1 hw2 hy hmo
                go_wp2_with fail
                refine KX.out.mono ?_
                rintro e w6 ⟨rfl, b6⟩
                go_upto_region 15 with fail
                obtain ⟨w7, hw7, bb7, r7⟩ : ∃ w7, w6.alloc (.cells #[.int .i64 own.a, .int .i64 own.b, .int .i64 own.c, .int .i64 own.d] 26) = w7 ∧ Below w6.heap.size w6 w7 ∧ IsRow w7 w6.heap.size 26 (cB own) := ⟨_, rfl, alloc1 _ _, IsRow.made _ _ _⟩
                rw [hw7]
                have H7 := Lib.hid ((HK.out.trans (b6.mono HK.out.size)).trans (bb7.mono (Nat.le_trans HK.out.size b6.size)))
                have q1 := KM.out.quiet w7
                have q2 := quiet_of (w := w7) (fun w' hb => KH.out w' (H7.out.trans (hb.mono H7.out.size)))
                obtain ⟨a0, a1, a2, a3⟩ := RA6.out.bx H7.out RA6.out.inside
                obtain ⟨d0, d1, d2, d3⟩ := box_facts r7
                have x1 : w7.cell? ⟨g1, o1 + j, none⟩ = some (.string ⟨y.toArray⟩) := (bb7.cell (p := ⟨g1, _, none⟩) (Nat.lt_of_lt_of_le hg1 (Nat.le_trans HK.out.size b6.size))).trans ((b6.cell (p := ⟨g1, _, none⟩) (Nat.lt_of_lt_of_le hg1 HK.out.size)).trans x0)
                have y0 := cell_regrown a0
                have y1 := cell_regrown a1
                have y2 := cell_regrown a2
                have y3 := cell_regrown a3
                have z0 := cell_regrown d0
                have z1 := cell_regrown d1
                have z2 := cell_regrown d2
                have z3 := cell_regrown d3
                have x2 := cell_regrown x1
                clear a0 a1 a2 a3 d0 d1 d2 d3 x1 x0 r7 bb7 b6 KX hw7 KM KH
                refine wp_region_quiet_below (by kernel_rfl) (by kernel_rfl) ?_
                repeat (go_big_quiet_step (first | with_reducible exact q1 _ _ | with_reducible exact q2 _ _))
                refine wpQuiet_nil ?_
                intro _ hw'
                obtain ⟨⟨dq, osq⟩, hw''⟩ := hw'
                subst hw''
                have H8 := Lib.hid (H7.out.trans ((below_regrown w7 dq osq).mono H7.out.size))
                clear q1 q2 y0 y1 y2 y3 z0 z1 z2 z3 x2
                go_wp2
                go_roundw
                case rel => exact ⟨j + 1, by omega, by go_num, H8⟩
                case measure => simp [intOf]; omega
              · obtain rfl : n2 = j := by omega
                go_wp2
                go_ret
                exact ⟨rfl, B8.out.trans (HK.out.mono B8.out.size)⟩
end Go.Proofs.Yteghhfkllclghaa.Ix
