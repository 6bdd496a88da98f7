/- index: IndexExact. -/
import Derived.Test.YteghhfkllclghaaIxInsideWalk
namespace Go.Proofs.Yteghhfkllclghaa.Ix
open Go.RowKit Go.Sort
theorem OpsT.at_ {w : World} {B : Nat} {ao : Option Addr} {l : List Opn} {k : Nat} (h : OpsT w B ao l) (hk : k < l.length) : ∃ g off, ao = some ⟨g, off, none⟩ ∧ g < B ∧
    w.cell? ⟨g, off + k * 6, none⟩ = some (.bool l[k].drop) ∧ w.cell? ⟨g, off + k * 6 + 1, none⟩ = some (.string ⟨l[k].id.toArray⟩) ∧ w.cell? ⟨g, off + k * 6 + 2, none⟩ = some (.int .i64 l[k].box.a) ∧
    w.cell? ⟨g, off + k * 6 + 3, none⟩ = some (.int .i64 l[k].box.b) ∧ w.cell? ⟨g, off + k * 6 + 4, none⟩ = some (.int .i64 l[k].box.c) ∧ w.cell? ⟨g, off + k * 6 + 5, none⟩ = some (.int .i64 l[k].box.d) := by
  obtain ⟨g, off, e, hg, hc⟩ := h (by omega)
  exact ⟨g, off, e, hg, hc k _ (List.getElem?_eq_getElem hk)⟩
set_option maxRecDepth 100000 in
set_option maxHeartbeats 8000000 in
theorem exact_any (ao : Option Addr) (n cap : Nat) (l : List Opn) (b : Bx) (w : World) (hn : l.length = n) (ha : OpsT w w.heap.size ao l) (hc : n ≤ cap) :
    Calls Try.prog 4 #[.slice ao n cap, vB b] w fun e w' => e = .returned (.bool true) ∧ Below w.heap.size w w' := by
  obtain ⟨sh, hsh⟩ : ∃ p, (decide (n ≤ 80) && shortB l) = p := ⟨_, rfl⟩
  obtain ⟨vb, hvb⟩ : ∃ p, validB b = p := ⟨_, rfl⟩
  obtain ⟨W, hW, hB, r1⟩ := box_made w 26 b
  have HW := Lib.hid hW
  have B0 := Lib.hid hB
  have RB := Lib.hid r1
  have HN := Lib.hid hn
  have HA := Lib.hid (ha.below hB (Nat.le_refl _))
  have hsz : w.heap.size ≤ W.heap.size := hB.size
  have SH := Lib.hid hsh
  have VB := Lib.hid hvb
  have HCC := Lib.hid hc
  have hc' : (n : Int) ≤ (cap : Int) := by omega
  clear hW hB r1 hn ha hsh hvb hc
  unfold vB
  go_enter Try.func4, Try.ntmps4
  go_upto_region 1 with fail
  rw [HW.out]
  go_wp2_with fail
  refine (head_any W).mono ?_
  rintro e w0 ⟨rfl, hb0⟩
  have B1 := Lib.hid (B0.out.trans (hb0.mono hsz))
  have RB1 := Lib.hid (RB.out.below hb0 RB.out.inside)
  have HA1 := Lib.hid ((HA.out.more hsz).below hb0 (Nat.le_refl _))
  have HZ1 := Lib.hid (show W.heap.size ≤ w0.heap.size from hb0.size)
  clear hb0 HW B0 RB HA
  have KS := Lib.hid (short_any ao n cap 80 l w0 HN.out (HA1.out.more HZ1.out) HCC.out (by omega))
  rw [SH.out] at KS
  go_wp2_with fail
  refine KS.out.mono ?_
  rintro e w' ⟨rfl, rfl⟩
  clear KS
  cases sh with
  | false =>
    go_wp2
    go_ret
    exact ⟨rfl, B1.out⟩
  | true =>
    obtain ⟨s1, s2⟩ : n ≤ 80 ∧ shortB l = true := by
      have := SH.out
      rw [Bool.and_eq_true, decide_eq_true_iff] at this
      exact this
    have N80 := Lib.hid s1
    have IDS := Lib.hid (short_ids s2)
    clear s1 s2
    have KB := Lib.hid (built_any ao n cap l w0 HN.out (HA1.out.more HZ1.out) HCC.out (by have := N80.out; omega) (fun o ho => by have := IDS.out o ho; omega))
    unfold ptr at KB
    go_wp2_with fail
    refine KB.out.mono ?_
    rintro e w3 ⟨x, rfl, h3, bb⟩
    generalize opsR l [] = S at h3
    have B4 := Lib.hid (B1.out.trans (bb.mono B1.out.size))
    have RB4 := Lib.hid (RB1.out.below bb RB1.out.inside)
    have HA4 := Lib.hid ((HA1.out.more HZ1.out).below bb (Nat.le_refl _))
    have HZ4 := Lib.hid (show w0.heap.size ≤ w3.heap.size from bb.size)
    have H3 := Lib.hid h3
    clear bb h3 B1 RB1 HA1 KB
    obtain ⟨L2, hL2⟩ : ∃ L, inA b S = L := ⟨_, rfl⟩
    obtain ⟨n2, hn2⟩ : ∃ k, L2.length = k := ⟨_, rfl⟩
    have K2 := inA_any H3.out b (by have := N80.out; omega)
    rw [hL2, hn2] at K2
    unfold ptr vB at K2
    have KK := Lib.hid K2
    have HN2 := Lib.hid hn2
    have E2 := Lib.hid hL2
    obtain ⟨b0, b1, b2, b3⟩ := box_facts RB4.out
    clear hL2 hn2 K2
    go_wp2_with fail
    refine KK.out.mono ?_
    rintro e w4 ⟨⟨ao2, c2, rfl, hc2, i2⟩, bb⟩
    have B5 := Lib.hid (B4.out.trans (bb.mono B4.out.size))
    have RB5 := Lib.hid (RB4.out.below bb RB4.out.inside)
    have HA5 := Lib.hid ((HA4.out.more HZ4.out).below bb (Nat.le_refl _))
    have HZ5 := Lib.hid (show w3.heap.size ≤ w4.heap.size from bb.size)
    have HX5 := Lib.hid (H3.out.below bb)
    have I5 := Lib.hid i2
    have hc2' : (n2 : Int) ≤ (c2 : Int) := by omega
    have C2 := Lib.hid hc2
    clear bb i2 B4 RB4 HA4 H3 KK b0 b1 b2 b3 hc2
    obtain ⟨b0, b1, b2, b3⟩ := box_facts RB5.out
    have KV := Lib.hid (refValid_any b w4)
    rw [VB.out] at KV
    unfold vB at KV
    go_wp2_with fail
    refine KV.out.mono ?_
    rintro e w5 ⟨rfl, bb⟩
    have B6 := Lib.hid (B5.out.trans (bb.mono B5.out.size))
    have RB6 := Lib.hid (RB5.out.below bb RB5.out.inside)
    have HA6 := Lib.hid ((HA5.out.more HZ5.out).below bb (Nat.le_refl _))
    have HZ6 := Lib.hid (show w4.heap.size ≤ w5.heap.size from bb.size)
    have HX6 := Lib.hid (HX5.out.below bb)
    have I6 := Lib.hid ((I5.out.below bb (Nat.le_refl _)).more bb.size)
    clear bb B5 RB5 HA5 HX5 I5 KV b0 b1 b2 b3
    cases vb with
    | false =>
      obtain rfl : n2 = 0 := by
        rw [← HN2.out, ← E2.out]
        unfold inA
        rw [VB.out]
        rfl
      go_wp2
      go_ret
      exact ⟨rfl, B6.out⟩
    | true =>
      have E3 := Lib.hid (E2.out.symm.trans (inA_ok VB.out))
      have L80 := Lib.hid (show n2 ≤ 80 by
        have e1 := HX6.out.srt.2
        have e2 := N80.out
        have e4 : L2.length ≤ S.length := by rw [E3.out]; unfold inS; rw [List.length_map]; exact List.length_filter_le _ _
        have e5 := HN2.out
        omega)
      have n2le : (n2 : Int) ≤ 80 := by have := L80.out; omega
      have M2 := Lib.hid (show ∀ i, i ∈ L2 ↔ i ∈ inS b S from fun i => by rw [E3.out])
      have MS := Lib.hid (show ∀ k (h0 : 0 < k) (hk : k < L2.length), L2[k - 1]'(by omega) < L2[k] from fun k h0 hk => List.pairwise_iff_getElem.1 (by rw [E3.out]; exact in_sorted HX6.out.srt.1) (k - 1) k (by omega) hk (by omega))
      go_wp2_with fail
      go_loopw [8] (fun i wr => ∃ k : Nat, k ≤ n2 ∧ i = .int .i64 k ∧ Hid (Below w5.heap.size w5 wr)) (fun i _ => n2 - (intOf i).toNat)
      case atStart => exact ⟨0, by omega, rfl, Lib.hid (Below.refl _ _)⟩
      case round =>
        obtain ⟨k, hk, rfl, HK⟩ := hrel
        by_cases hlt : k < n2
        · have hkl : k < L2.length := by rw [HN2.out]; exact hlt
          have hlt2 : (k : Int) < (n2 : Int) := by omega
          have hI := I6.out.below HK.out (Nat.le_refl _)
          obtain ⟨g1, o1, rfl, hg1, x0⟩ := hI.at_ hkl
          obtain ⟨own, hw1, hw2⟩ : ∃ own, boxS L2[k] S = some own ∧ meetB own b = true := in_box HX6.out.srt.1 ((M2.out _).1 (List.getElem_mem hkl))
          have hy : L2[k].length ≤ 1000 := by
            obtain ⟨z, hz, e⟩ := box_id hw1
            rw [← e]
            exact HX6.out.ids z hz
          have KX := Lib.hid (boxA (HX6.out.below HK.out) L2[k] hy)
          rw [hw1] at KX
          have KM := Lib.hid (refmeet_any own b)
          rw [hw2] at KM
          unfold vB at KM KX
          unfold ptr at KX
          dsimp only [Option.getD_some, Option.isSome_some] at KX
          obtain ⟨p, hp0, hpp⟩ : ∃ p : Id, (0 < k → wr.cell? ⟨g1, o1 + (k - 1), none⟩ = some (.string ⟨p.toArray⟩)) ∧ (0 < k → Op.bytesLess p L2[k] = true) := by
            by_cases h0 : 0 < k
            · obtain ⟨g2, o2, e2, hg2, x2⟩ := hI.at_ (k := k - 1) (by omega)
              injection e2 with e2
              injection e2 with e3 e4
              refine ⟨L2[k - 1], fun _ => by rw [e3, e4]; exact x2, fun _ => ?_⟩
              rw [bytesLess_eq, decide_eq_true_iff]
              exact MS.out k h0 hkl
            · exact ⟨[], fun h => absurd h h0, fun h => absurd h h0⟩
          generalize L2[k] = y at *
          clear hI hkl hw1 hw2 hy
          have HP := Lib.hid hp0
          have HPP := Lib.hid hpp
          clear hp0 hpp
          go_wp2_with fail
          refine KX.out.mono ?_
          rintro e w6 ⟨rfl, b6⟩
          go_upto_region 12 with fail
          obtain ⟨w7, hw7, bb7, r7⟩ := box_made w6 26 own
          rw [hw7]
          have H7 := Lib.hid ((HK.out.trans (b6.mono HK.out.size)).trans (bb7.mono (Nat.le_trans HK.out.size b6.size)))
          have q1 := KM.out.quiet w7
          have later : ∀ i v, wr.cell? ⟨g1, i, none⟩ = some v → w7.cell? ⟨g1, i, none⟩ = some v := fun i v h => (bb7.cell (p := ⟨g1, _, none⟩) (Nat.lt_of_lt_of_le hg1 (Nat.le_trans HK.out.size b6.size))).trans ((b6.cell (p := ⟨g1, _, none⟩) (Nat.lt_of_lt_of_le hg1 HK.out.size)).trans h)
          have x2 := cell_regrown (later _ _ x0)
          obtain ⟨a0, a1, a2, a3⟩ := RB6.out.bx H7.out RB6.out.inside
          obtain ⟨d0, d1, d2, d3⟩ := box_facts r7
          have y0 := cell_regrown a0
          have y1 := cell_regrown a1
          have y2 := cell_regrown a2
          have y3 := cell_regrown a3
          have z0 := cell_regrown d0
          have z1 := cell_regrown d1
          have z2 := cell_regrown d2
          have z3 := cell_regrown d3
          have LT := Lib.hid later
          clear a0 a1 a2 a3 d0 d1 d2 d3 x0 r7 bb7 b6 KX hw7 KM later
          by_cases h0 : 0 < k
          · have hd : decide ((0 : Int) < (k : Int)) = true := decide_eq_true (by omega)
            have hle := HPP.out h0
            have x3 := cell_regrown (LT.out _ _ (HP.out h0))
            have hk1 : IntKind.i64.wrap ((k : Int) - 1) = ((k - 1 : Nat) : Int) := by
              rw [IntWalk.i64_in _ (by have := L80.out; omega)]
              omega
            have hk2 : ((k - 1 : Nat) : Int) < (n2 : Int) := by omega
            clear HP HPP LT
            refine wp_region_quiet_below (by kernel_rfl) (by kernel_rfl) ?_
            repeat (go_big_quiet_step (with_reducible exact q1 _ _))
            refine wpQuiet_nil ?_
            intro _ hw'
            obtain ⟨⟨dq, osq⟩, hw''⟩ := hw'
            subst hw''
            have H8 := Lib.hid (H7.out.trans ((below_regrown w7 dq osq).mono H7.out.size))
            clear q1 y0 y1 y2 y3 z0 z1 z2 z3 x2 x3 hk1 hk2 hle
            go_wp2
            go_roundw
            case rel => exact ⟨k + 1, by omega, by go_num, H8⟩
            case measure => simp [intOf]; omega
          · have hd : decide ((0 : Int) < (k : Int)) = false := decide_eq_false (by omega)
            clear HP HPP LT
            refine wp_region_quiet_below (by kernel_rfl) (by kernel_rfl) ?_
            repeat (go_big_quiet_step (with_reducible exact q1 _ _))
            refine wpQuiet_nil ?_
            intro _ hw'
            obtain ⟨⟨dq, osq⟩, hw''⟩ := hw'
            subst hw''
            have H8 := Lib.hid (H7.out.trans ((below_regrown w7 dq osq).mono H7.out.size))
            clear q1 y0 y1 y2 y3 z0 z1 z2 z3 x2
            go_wp2
            go_roundw
            case rel => exact ⟨k + 1, by omega, by go_num, H8⟩
            case measure => simp [intOf]; omega
        · obtain rfl : n2 = k := by omega
          have HX7 := Lib.hid (HX6.out.below HK.out)
          have RB7 := Lib.hid (RB6.out.below HK.out RB6.out.inside)
          have B8 := Lib.hid (B6.out.trans (HK.out.mono B6.out.size))
          have I7 := Lib.hid ((I6.out.below HK.out (Nat.le_refl _)).more HK.out.size)
          have HA7 := Lib.hid (((HA6.out.more HZ6.out).below HK.out (Nat.le_refl _)).more HK.out.size)
          have hn80 : (n : Int) ≤ 80 := by have := N80.out; omega
          clear I6 HX6 RB6 B6 HK HA6
          obtain ⟨v0, rfl⟩ : ∃ v, v = wr := ⟨_, rfl⟩
          go_wp2_with fail
          go_loopw [11] (fun i wz => ∃ j : Nat, j ≤ n ∧ i = .int .i64 j ∧ Hid (Below v0.heap.size v0 wz)) (fun i _ => n - (intOf i).toNat)
          case atStart => exact ⟨0, by omega, rfl, Lib.hid (Below.refl _ _)⟩
          case round =>
            obtain ⟨j, hj, rfl, HK⟩ := hrel
            by_cases hlj : j < n
            · have hkl : j < l.length := by rw [HN.out]; exact hlj
              have hlt2 : (j : Int) < (n : Int) := by omega
              obtain ⟨g1, o1, rfl, hg1, e0, x0, e2, e3, e4, e5⟩ := (HA7.out.below HK.out (Nat.le_refl _)).at_ hkl
              have hy := IDS.out _ (List.getElem_mem hkl)
              clear e0 e2 e3 e4 e5
              have KX := Lib.hid (boxA (HX7.out.below HK.out) l[j].id (by omega))
              have KH := Lib.hid (fun (w' : World) (hb : Below v0.heap.size v0 w') => has_any ao2 n2 c2 L2 l[j].id w' HN2.out ((I7.out.below hb (Nat.le_refl _)).more hb.size) C2.out (by have := L80.out; omega))
              have hin : ∀ own, boxS l[j].id S = some own → decide (l[j].id ∈ L2) = meetB own b := fun own hb => by
                rw [Bool.eq_iff_iff, decide_eq_true_iff, M2.out]
                exact box_in HX7.out.srt.1 hb
              obtain ⟨bo, hbo⟩ : ∃ p, boxS l[j].id S = p := ⟨_, rfl⟩
              rw [hbo] at KX hin
              generalize l[j].id = y at *
              obtain ⟨own, is, mo, he1, he2, hmo, hdec⟩ : ∃ own is mo, bo.getD zB = own ∧ bo.isSome = is ∧ meetB own b = mo ∧ (is = true → decide (y ∈ L2) = mo) := by
                cases bo with
                | none => exact ⟨_, _, _, rfl, rfl, rfl, fun h => by cases h⟩
                | some own => exact ⟨_, _, _, rfl, rfl, rfl, fun _ => hin own rfl⟩
              rw [he1, he2] at KX
              have KM := Lib.hid (refmeet_any own b)
              rw [hmo] at KM
              have HD := Lib.hid hdec
              unfold vB at KM KX
              unfold ptr at KX
              clear hkl hin hbo hy he1 he2 hmo hdec
              go_wp2_with fail
              refine KX.out.mono ?_
              rintro e w6 ⟨rfl, b6⟩
              go_upto_region 18 with fail
              obtain ⟨w7, hw7, bb7, r7⟩ := box_made w6 26 own
              rw [hw7]
              have H7 := Lib.hid ((HK.out.trans (b6.mono HK.out.size)).trans (bb7.mono (Nat.le_trans HK.out.size b6.size)))
              have x1 : w7.cell? ⟨g1, o1 + j * 6 + 1, none⟩ = some (.string ⟨y.toArray⟩) := (bb7.cell (p := ⟨g1, _, none⟩) (Nat.lt_of_lt_of_le hg1 (Nat.le_trans HK.out.size b6.size))).trans ((b6.cell (p := ⟨g1, _, none⟩) (Nat.lt_of_lt_of_le hg1 HK.out.size)).trans x0)
              have hg7 : g1 < w7.heap.size := Nat.lt_of_lt_of_le hg1 H7.out.size
              obtain ⟨a0, a1, a2, a3⟩ := RB7.out.bx H7.out RB7.out.inside
              obtain ⟨d0, d1, d2, d3⟩ := box_facts r7
              clear x0 r7 bb7 b6 KX hw7 HK
              cases is with
              | false =>
                go_wp2
                go_roundw
                case rel => exact ⟨j + 1, by omega, by go_num, H7⟩
                case measure => simp [intOf]; omega
              | true =>
                have KM7 := Lib.hid (KM.out w7)
                go_wp2_with fail
                refine KM7.out.mono ?_
                rintro e w8 ⟨rfl, b8⟩
                have H8 := Lib.hid (H7.out.trans (b8.mono H7.out.size))
                have x2 : w8.cell? ⟨g1, o1 + j * 6 + 1, none⟩ = some (.string ⟨y.toArray⟩) := (b8.cell (p := ⟨g1, _, none⟩) hg7).trans x1
                have KH8 := KH.out w8 H8.out
                rw [HD.out (by first | rfl | trivial)] at KH8
                have KK := Lib.hid KH8
                clear KM7 b8 x1 a0 a1 a2 a3 d0 d1 d2 d3 KH8 KH H7
                cases mo with
                | false =>
                  go_wp2
                  go_roundw
                  case rel => exact ⟨j + 1, by omega, by go_num, H8⟩
                  case measure => simp [intOf]; omega
                | true =>
                  go_wp2_with fail
                  refine KK.out.mono ?_
                  rintro e w9 ⟨rfl, b9⟩
                  have H9 := Lib.hid (H8.out.trans (b9.mono H8.out.size))
                  clear b9 KK x2 H8
                  go_wp2
                  go_roundw
                  case rel => exact ⟨j + 1, by omega, by go_num, H9⟩
                  case measure => simp [intOf]; omega
            · obtain rfl : n = j := by omega
              go_wp2
              go_ret
              exact ⟨rfl, B8.out.trans (HK.out.mono B8.out.size)⟩
end Go.Proofs.Yteghhfkllclghaa.Ix
