/- grid: the reference's Cover. -/
import Derived.Test.YtenacgeahaoglaaDoorGdRefS
namespace Go.Proofs.YtenacgeahaoglaaDoor.Gd
open Go.RowKit Go.Sort
theorem refOf_to (p : Pn) (z : Int) {q : Tl} {e : Int} (h : ofR p z = (q, e)) : Answers Tryd.prog 11 #[.agg #[.int .i64 p.x, .int .i64 p.y], .int .i64 z] (.tuple #[.agg #[.int .i64 q.z, .int .i64 q.x, .int .i64 q.y], .int .i64 e]) := by
  have k := refOf_any p z
  rw [h] at k
  exact k
set_option maxRecDepth 100000 in
set_option maxHeartbeats 4000000 in
theorem refCover_any (b : Bb) (z : Int) : AnsW Tryd.prog 20 #[vB b, .int .i64 z] (coverR b z) := by
  intro w
  obtain ⟨V1, hV1⟩ : ∃ V, decide (isZ z) = V := ⟨_, rfl⟩
  obtain ⟨V2, hV2⟩ : ∃ V, decide (okP b.a) = V := ⟨_, rfl⟩
  obtain ⟨V3, hV3⟩ : ∃ V, decide (okP b.b) = V := ⟨_, rfl⟩
  have K1 := fun W => level_still hV1 W
  have K2 := (refIn_any b.a).to (congrArg Value.bool hV2)
  have K3 := (refIn_any b.b).to (congrArg Value.bool hV3)
  obtain ⟨R, hR⟩ : ∃ R, coverR b z = R := ⟨_, rfl⟩
  have HR := Lib.hid hR
  rw [hR]
  obtain ⟨W, hW⟩ : ∃ W, w.alloc (.cells #[.int .i64 b.a.x, .int .i64 b.a.y, .int .i64 b.b.x, .int .i64 b.b.y] 27) = W := ⟨_, rfl⟩
  obtain ⟨HB, HP⟩ := rowB w _ _ hW
  have HW := Lib.hid hW
  have HV1 := Lib.hid hV1
  have HV2 := Lib.hid hV2
  have HV3 := Lib.hid hV3
  have ERR : Hid (¬ fitB b z → R = ([], 1)) := fun h => by rw [← HR.out]; unfold coverR; rw [if_neg h]
  clear hW hR hV1 hV2 hV3
  unfold vB vP at *
  go_enter Tryd.func20, Tryd.ntmps20
  go_wp2_with fail
  rw [HW.out]
  refine (K1 _).mono ?_
  rintro e w1 ⟨rfl, hw1⟩
  have b1 : Below W.heap.size W w1 := hw1 ▸ Below.refl _ _
  clear hw1
  have B1 := Lib.hid (HB.out.trans (b1.mono HB.out.size))
  have P1 := Lib.hid (HP.out.below b1 HP.out.inside)
  clear b1 K1 HB HP HW
  obtain ⟨c0, c1, c2, c3, _, _, _, _⟩ := facts4 P1.out
  cases V1 with
  | false =>
    obtain rfl : R = ([], 1) := ERR.out fun h => of_decide_eq_false HV1.out h.1
    go_wp2
    go_ret2
    exact ⟨⟨_, rfl, ownT_nil _ _⟩, B1.out⟩
  | true =>
    go_wp2_with fail
    refine (K2 _).mono ?_
    rintro e w2 ⟨rfl, b2⟩
    have B2 := Lib.hid (B1.out.trans (b2.mono B1.out.size))
    have P2 := Lib.hid (P1.out.below b2 P1.out.inside)
    clear b2 K2 B1 P1 c0 c1 c2 c3
    obtain ⟨c0, c1, c2, c3, _, _, _, _⟩ := facts4 P2.out
    cases V2 with
    | false =>
      obtain rfl : R = ([], 1) := ERR.out fun h => of_decide_eq_false HV2.out h.2.1
      go_wp2
      go_ret2
      exact ⟨⟨_, rfl, ownT_nil _ _⟩, B2.out⟩
    | true =>
      go_wp2_with fail
      refine (K3 _).mono ?_
      rintro e w3 ⟨rfl, b3⟩
      have B3 := Lib.hid (B2.out.trans (b3.mono B2.out.size))
      have P3 := Lib.hid (P2.out.below b3 P2.out.inside)
      clear b3 K3 B2 P2 c0 c1 c2 c3
      obtain ⟨c0, c1, c2, c3, _, _, _, _⟩ := facts4 P3.out
      cases V3 with
      | false =>
        obtain rfl : R = ([], 1) := ERR.out fun h => of_decide_eq_false HV3.out h.2.2.1
        go_wp2
        go_ret2
        exact ⟨⟨_, rfl, ownT_nil _ _⟩, B3.out⟩
      | true =>
        by_cases hx : b.b.x < b.a.x
        · obtain rfl : R = ([], 1) := ERR.out fun h => by have := h.2.2.2.1; omega
          go_wp2
          go_ret2
          exact ⟨⟨_, rfl, ownT_nil _ _⟩, B3.out⟩
        · by_cases hy : b.b.y < b.a.y
          · obtain rfl : R = ([], 1) := ERR.out fun h => by have := h.2.2.2.2; omega
            go_wp2
            go_ret2
            exact ⟨⟨_, rfl, ownT_nil _ _⟩, B3.out⟩
          · have hz := of_decide_eq_true HV1.out
            have h1 := of_decide_eq_true HV2.out
            have h2 := of_decide_eq_true HV3.out
            have hfit : fitB b z := ⟨hz, h1, h2, by omega, by omega⟩
            have HC := Lib.hid (corners hfit)
            have HM := Lib.hid (many_len hfit)
            have HE := Lib.hid (show R = if many b z > 4096 then ([], 2) else (rect (ofN b.a z) (ofN b.b z), 0) by rw [← HR.out]; unfold coverR; rw [if_pos hfit])
            have HMM := Lib.hid (show many b z = ((ofN b.b z).x - (ofN b.a z).x + 1) * ((ofN b.b z).y - (ofN b.a z).y + 1) from rfl)
            have hfa : ofR b.a z = (ofN b.a z, 0) := by unfold ofR; rw [if_pos hz, if_pos h1]
            have hfb : ofR b.b z = (ofN b.b z, 0) := by unfold ofR; rw [if_pos hz, if_pos h2]
            have hFz : (ofN b.a z).z = z := rfl
            obtain ⟨F, hF⟩ : ∃ F, ofN b.a z = F := ⟨_, rfl⟩
            obtain ⟨L, hL⟩ : ∃ L, ofN b.b z = L := ⟨_, rfl⟩
            rw [hF] at hfa hFz
            rw [hL] at hfb
            have TA := refOf_to b.a z hfa
            have TB := refOf_to b.b z hfb
            rw [hF, hL] at HC HM HE HMM
            clear hF hL HR ERR HV1 HV2 HV3 hfa hfb hz h1 h2 hfit
            obtain ⟨fz, fx, fy⟩ := F
            obtain ⟨lz, lx, ly⟩ := L
            dsimp only at *
            subst hFz
            go_wp2_with fail
            refine (TA _).mono ?_
            rintro e w4 ⟨rfl, b4⟩
            have B4 := Lib.hid (B3.out.trans (b4.mono B3.out.size))
            have P4 := Lib.hid (P3.out.below b4 P3.out.inside)
            clear hx hy b4 TA B3 P3 c0 c1 c2 c3
            obtain ⟨c0, c1, c2, c3, _, _, _, _⟩ := facts4 P4.out
            have iP := P4.out.inside
            go_wp2_with fail
            obtain ⟨v4, hv, V4, L4, R6⟩ := made w 25 #[.int .i64 fz, .int .i64 fx, .int .i64 fy] B4.out B4.out.size
            rw [hv]
            obtain ⟨g6, hg⟩ : ∃ g, w4.heap.size = g := ⟨_, rfl⟩
            rw [hg] at R6 ⊢
            clear hv hg L4 B4 P4 c0 c1 c2 c3 iP
            refine (TB _).mono ?_
            rintro e w5 ⟨rfl, b5⟩
            have B5 := Lib.hid (V4.out.trans (b5.mono V4.out.size))
            replace R6 := Lib.hid (R6.out.below b5 R6.out.inside)
            clear b5 TB V4
            obtain ⟨v5, hv, V5, L5, R7⟩ := made w 25 #[.int .i64 lz, .int .i64 lx, .int .i64 ly] B5.out B5.out.size
            replace R6 := Lib.hid (R6.out.below L5.out R6.out.inside)
            have HV5 := Lib.hid hv
            obtain ⟨g7, hg⟩ : ∃ g, w5.heap.size = g := ⟨_, rfl⟩
            have HG7 := Lib.hid hg
            rw [hg] at R7
            clear hv hg L5 B5
            obtain ⟨x0, x1, x2, _, _, _⟩ := facts3 R6.out
            obtain ⟨y0, y1, y2, _, _, _⟩ := facts3 R7.out
            obtain ⟨a1, a2, a3, a4, a5, a6⟩ := HC.out
            have q1 : IntKind.i64.wrap (lx - fx) = lx - fx := IntWalk.i64_in _ (by omega)
            have q2 : IntKind.i64.wrap (lx - fx + 1) = lx - fx + 1 := IntWalk.i64_in _ (by omega)
            have q3 : IntKind.i64.wrap (ly - fy) = ly - fy := IntWalk.i64_in _ (by omega)
            have q4 : IntKind.i64.wrap (ly - fy + 1) = ly - fy + 1 := IntWalk.i64_in _ (by omega)
            have hm1 : (lx - fx + 1) * (ly - fy + 1) ≤ 131072 * 131072 := Int.mul_le_mul (by omega) (by omega) (by omega) (by omega)
            have hm0 : 0 ≤ (lx - fx + 1) * (ly - fy + 1) := Int.mul_nonneg (by omega) (by omega)
            have q5 : IntKind.i64.wrap ((lx - fx + 1) * (ly - fy + 1)) = many b fz := by rw [HMM.out]; exact IntWalk.i64_in _ (by omega)
            have q6 : wrap64 ((lx - fx + 1) * (ly - fy + 1)) = many b fz := by rw [HMM.out]; unfold wrap64; omega
            clear hm0 hm1 HMM
            generalize many b fz = M at *
            go_upto_region 5 with fail
            rw [HV5.out, HG7.out]
            clear HV5 HG7
            by_cases hM : M > 4096
            · obtain rfl : R = ([], 2) := by rw [HE.out, if_pos hM]
              have hM' : 4096 < M := hM
              go_wp2
              go_ret2
              exact ⟨⟨_, rfl, ownT_nil _ _⟩, V5.out⟩
            · obtain rfl : R = (rect ⟨fz, fx, fy⟩ ⟨lz, lx, ly⟩, 0) := by rw [HE.out, if_neg hM]
              have hM' : M ≤ 4096 := by omega
              have hN : (rect ⟨fz, fx, fy⟩ ⟨lz, lx, ly⟩).length ≤ 5000 := by have := HM.out; omega
              have HN := Lib.hid (rect_len ⟨fz, fx, fy⟩ ⟨lz, lx, ly⟩)
              have HPL := Lib.hid (part_len ⟨fz, fx, fy⟩ ⟨lz, lx, ly⟩)
              have HX := Lib.hid (part_next ⟨fz, fx, fy⟩ ⟨lz, lx, ly⟩)
              have HST := Lib.hid (part_step ⟨fz, fx, fy⟩ ⟨lz, lx, ly⟩)
              have HA := Lib.hid (part_all ⟨fz, fx, fy⟩ ⟨lz, lx, ly⟩)
              obtain ⟨nx, hnx⟩ : ∃ n, (lx - fx + 1).toNat = n := ⟨_, rfl⟩
              obtain ⟨ny, hny⟩ : ∃ n, (ly - fy + 1).toNat = n := ⟨_, rfl⟩
              dsimp only at HN HPL HX HST HA
              rw [hnx] at HN HPL HX
              rw [hny] at HN HA
              rw [HN.out] at hN
              have O0 := Lib.hid (show OwnT v5 v5.heap.size (.slice none 0 0) (part ⟨fz, fx, fy⟩ ⟨lz, lx, ly⟩ 0 0) from ownT_nil _ _)
              have hw5 := V5.out.size
              obtain ⟨Bs, hBs⟩ : ∃ n, v5.heap.size = n := ⟨_, rfl⟩
              have i6 := R6.out.inside
              have i7 := R7.out.inside
              rw [hBs] at O0 hw5 i6 i7
              have S0 := Lib.hid (Nat.le_of_eq hBs.symm)
              obtain ⟨i0, hi0, hs0', hb0', hz0'⟩ := info_of tile_info
              have HI := Lib.hid (And.intro hi0 (And.intro hs0' (And.intro hb0' hz0')))
              clear HM HE HN hBs hi0 hs0' hb0' hz0'
              go_wp2_with fail
              clear x0 x1 x2 y0 y1 y2 q1 q2 q3 q4 q5 q6
              go_loopw [10, 11] (fun v yv wr => ∃ j : Nat, j ≤ ny ∧ yv = .int .i64 (fy + (j : Int)) ∧ Hid (OwnT wr Bs v (part ⟨fz, fx, fy⟩ ⟨lz, lx, ly⟩ j 0)) ∧ Hid (Below w.heap.size w wr) ∧ Hid (Bs ≤ wr.heap.size) ∧ Hid (IsRow wr g6 25 #[.int .i64 fz, .int .i64 fx, .int .i64 fy]) ∧ Hid (IsRow wr g7 25 #[.int .i64 lz, .int .i64 lx, .int .i64 ly])) (fun _ yv _ => (ly + 1 - intOf yv).toNat)
              case atStart => exact ⟨0, by omega, by simp, O0, V5, S0, R6, R7⟩
              case round =>
                clear O0 V5 S0 R6 R7
                obtain ⟨j, hj, rfl, HO, BK, HS, R6, R7⟩ := hrel
                obtain ⟨x0, x1, x2, _, _, _⟩ := facts3 R6.out
                obtain ⟨y0, y1, y2, _, _, _⟩ := facts3 R7.out
                by_cases hlt : j < ny
                · have hle : fy + (j : Int) ≤ ly := by omega
                  have hwy : IntKind.i64.wrap (fy + (j : Int) + 1) = fy + (j : Int) + 1 := IntWalk.i64_in _ (by omega)
                  go_wp2_with fail
                  clear x0 x1 x2 y0 y1 y2
                  go_loopw [10, 12] (fun v xv wr' => ∃ i : Nat, i ≤ nx ∧ xv = .int .i64 (fx + (i : Int)) ∧ Hid (OwnT wr' Bs v (part ⟨fz, fx, fy⟩ ⟨lz, lx, ly⟩ j i)) ∧ Hid (Below w.heap.size w wr') ∧ Hid (Bs ≤ wr'.heap.size) ∧ Hid (IsRow wr' g6 25 #[.int .i64 fz, .int .i64 fx, .int .i64 fy]) ∧ Hid (IsRow wr' g7 25 #[.int .i64 lz, .int .i64 lx, .int .i64 ly])) (fun _ xv _ => (lx + 1 - intOf xv).toNat)
                  case atStart => exact ⟨0, by omega, by simp, HO, BK, HS, R6, R7⟩
                  case round =>
                    clear HO BK HS R6 R7
                    obtain ⟨i, hi, rfl, HO, BK, HS, R6, R7⟩ := hrel
                    obtain ⟨x0, x1, x2, _, _, _⟩ := facts3 R6.out
                    obtain ⟨y0, y1, y2, _, _, _⟩ := facts3 R7.out
                    by_cases hlx : i < nx
                    · have hlex : fx + (i : Int) ≤ lx := by omega
                      have hwx : IntKind.i64.wrap (fx + (i : Int) + 1) = fx + (i : Int) + 1 := IntWalk.i64_in _ (by omega)
                      have hlen : (part ⟨fz, fx, fy⟩ ⟨lz, lx, ly⟩ j i).length + 1 ≤ 5000 := by
                        rw [HPL.out]
                        have : (j + 1) * nx ≤ ny * nx := Nat.mul_le_mul_right nx (by omega)
                        rw [Nat.add_mul, Nat.one_mul] at this
                        omega
                      have O9 := Lib.hid (HO.out.below (alloc1 wr (.cells #[.int .i64 fz, .int .i64 (fx + (i : Int)), .int .i64 (fy + (j : Int))] 25)))
                      have A6 := Lib.hid (R6.out.later (.cells #[.int .i64 fz, .int .i64 (fx + (i : Int)), .int .i64 (fy + (j : Int))] 25))
                      have A7 := Lib.hid (R7.out.later (.cells #[.int .i64 fz, .int .i64 (fx + (i : Int)), .int .i64 (fy + (j : Int))] 25))
                      have hown := O9.out
                      unfold OwnT at hown
                      have iw := BK.out.size
                      have hBs := HS.out
                      have SS := Lib.hid (HST.out j i)
                      generalize part ⟨fz, fx, fy⟩ ⟨lz, lx, ly⟩ j i = pre at *
                      go_wp2_with (at_builtin; go_loud (refine wpList_append_own _ rfl _ _ 35 rfl Bs 25 i0 _ 3 24 Tryd.underlying35 HI.out.1 HI.out.2.2.2 HI.out.2.1 HI.out.2.2.1 (by decide) (by decide) u10 pre.length (flatT pre) rfl hown ⟨wr.heap.size, 0, none⟩ 1 1 [.int .i64 fz, .int .i64 (fx + (i : Int)), .int .i64 (fy + (j : Int))] rfl rfl (World.news_of_block (heap_alloc_new wr _)) (enc3_one ⟨fz, fx + (i : Int), fy + (j : Int)⟩) (by unfold maxLen; omega) (by omega) (by simp; omega) ?_; intro v' w9 hown' hgrow _; obtain ⟨g', cap', hv'⟩ := ownsRow_succ hown'; subst hv'))
                      have O5 := ownT_snoc (s := ⟨fz, fx + (i : Int), fy + (j : Int)⟩) (L := pre) hown'
                      rw [← SS.out] at O5
                      have B5 := Lib.hid (below_own hw5 BK.out O9.out hgrow)
                      have S5 := Lib.hid (show Bs ≤ w9.heap.size from Nat.le_trans (Nat.le_trans hBs (by simp)) hgrow.size)
                      have P6 := Lib.hid (IsRow.grown A6.out hgrow (fun e => by have := (O9.out.row _ e).1; omega))
                      have P7 := Lib.hid (IsRow.grown A7.out hgrow (fun e => by have := (O9.out.row _ e).1; omega))
                      have O5 := Lib.hid O5
                      clear hown hown' hgrow O9 A6 A7 HO BK HS R6 R7 x0 x1 x2 y0 y1 y2 SS
                      go_wp2
                      go_roundw
                      case rel => exact ⟨i + 1, by omega, by go_num, O5, B5, S5, P6, P7⟩
                      case measure => simp [intOf]; omega
                    · obtain rfl : i = nx := by omega
                      have hgt : ¬ fx + (i : Int) ≤ lx := by omega
                      have hgt' : lx < fx + (i : Int) := by omega
                      rw [HX.out] at HO
                      go_wp2
                      go_roundw
                      case rel => exact ⟨j + 1, by omega, by go_num, HO, BK, HS, R6, R7⟩
                      case measure => simp [intOf]; omega
                · obtain rfl : j = ny := by omega
                  have hgt : ¬ fy + (j : Int) ≤ ly := by omega
                  have hgt' : ly < fy + (j : Int) := by omega
                  rw [HA.out] at HO
                  go_wp2
                  go_ret2
                  exact ⟨⟨u10, rfl, OwnT.base HO.out hw5⟩, BK.out⟩
end Go.Proofs.YtenacgeahaoglaaDoor.Gd
