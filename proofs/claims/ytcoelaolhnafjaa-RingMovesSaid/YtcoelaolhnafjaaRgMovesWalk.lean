/- P4.7, RingMoves: its walk. -/
import Derived.Test.YtcoelaolhnafjaaRgAll
import Derived.Deep.CutRange
namespace Go.Proofs.Ytcoelaolhnafjaa.Rg
open Go.RowKit Go.Sort Go.Shelf
open Go.Proofs.Ytcoelaolhnafjaa.Geo hiding intOf Apart
theorem pts2 (w : World) (t : TypeId) (a b : Pt) : ∃ W, (w.alloc (.cells #[.int .i64 a.x, .int .i64 a.y] t)).alloc (.cells #[.int .i64 b.x, .int .i64 b.y] t) = W ∧ Below w.heap.size w W ∧ Has W w.heap.size a ∧ Has W (w.heap.size + 1) b := by
  refine ⟨_, rfl, alloc2 w _ _, (Has.made w t a).alloc _, ?_⟩
  have := Has.made (w.alloc (.cells #[.int .i64 a.x, .int .i64 a.y] t)) t b
  rw [World.size_alloc] at this
  exact this
theorem quiet_of {P : Program} {f : FuncId} {args : Array Value} {v : Value} {w : World} (h : ∀ w', Below w.heap.size w w' → Calls P f args w' fun e w'' => e = .returned v ∧ Below w'.heap.size w' w'') (d : Nat) (os : Array Obj) :
    Calls P f args (grow (redrawn w d) os) fun e w'' => e = .returned v ∧ ∃ p : Regrown, w'' = grow (redrawn w p.d) p.os := Calls.regrown_of (h _ (below_regrown w d os))
theorem own_new (w : World) (a b : Pt) : OwnP (w.alloc (.cells #[.int .i64 a.x, .int .i64 a.y, .int .i64 b.x, .int .i64 b.y] 24)) w.heap.size (.slice (some ⟨w.heap.size, 0, none⟩) 2 2) [a, b] :=
  ⟨rfl, .inr ⟨w.heap.size, 2, _, rfl, Nat.le_refl _, IsRow.made w _ _, Nat.le_refl _, by decide, rfl, rfl⟩⟩
set_option maxRecDepth 100000 in
set_option maxHeartbeats 8000000 in
theorem moves_any (a1 a2 : Option Addr) (n1 c1 n2 c2 : Nat) (l1 l2 : List Pt) (p d : Pt) (w : World) (hl : Pts w w.heap.size a1 l1) (hm : Pts w w.heap.size a2 l2) (e1 : n1 = l1.length) (e2 : n2 = l2.length) (hc1 : n1 ≤ c1) (hc2 : n2 ≤ c2) (hx1 : c1 ≤ maxLen) (hx2 : c2 ≤ maxLen) :
    Calls Try.prog 9 #[.slice a1 n1 c1, .slice a2 n2 c2, .agg #[.int .i64 p.x, .int .i64 p.y], .agg #[.int .i64 d.x, .int .i64 d.y]] w fun e w' => e = .returned (.bool true) ∧ Below w.heap.size w w' := by
  obtain ⟨W, hW, hB, hP, hD⟩ := pts2 w 24 p d
  have HW := Lib.hid hW
  have B0 := Lib.hid hB
  have P0 := Lib.hid hP
  have D0 := Lib.hid hD
  have L0 := Lib.hid hl
  have M0 := Lib.hid hm
  have E1 := Lib.hid e1
  have E2 := Lib.hid e2
  have X1 := Lib.hid hx1
  have X2 := Lib.hid hx2
  clear hW hB hP hD hl hm e1 e2 hx1 hx2
  go_enter Try.func9, Try.ntmps9
  go_wp2_with fail
  rw [HW.out]
  refine (head_any W).mono ?_
  rintro e w0 ⟨rfl, hb0⟩
  have B1 := Lib.hid (B0.out.trans (hb0.mono B0.out.size))
  have P1 := Lib.hid (P0.out.below hb0)
  have D1 := Lib.hid (D0.out.below hb0)
  have L1 := Lib.hid (L0.out.later B1.out)
  have M1 := Lib.hid (M0.out.later B1.out)
  clear hb0 B0 P0 D0 HW
  by_cases hg1 : n1 ≤ 40
  · by_cases hg2 : n2 ≤ 40
    · have i1 : ¬ (40 : Int) < (n1 : Int) := by omega
      have i2 : ¬ (40 : Int) < (n2 : Int) := by omega
      have hg1' := Lib.hid hg1
      have hg2' := Lib.hid hg2
      obtain ⟨p0, p1⟩ : w0.cell? ⟨w.heap.size, 0, none⟩ = some (.int .i64 p.x) ∧ w0.cell? ⟨w.heap.size, 1, none⟩ = some (.int .i64 p.y) := ⟨P1.out.2.1, P1.out.2.2⟩
      obtain ⟨d0, d1⟩ : w0.cell? ⟨w.heap.size + 1, 0, none⟩ = some (.int .i64 d.x) ∧ w0.cell? ⟨w.heap.size + 1, 1, none⟩ = some (.int .i64 d.y) := ⟨D1.out.2.1, D1.out.2.2⟩
      have OW := Lib.hid (own_new w0 p d)
      have bal := alloc1 w0 (.cells #[.int .i64 p.x, .int .i64 p.y, .int .i64 d.x, .int .i64 d.y] 24)
      have L2 := Lib.hid (L1.out.later bal)
      have BAL := Lib.hid bal
      clear bal
      go_wp2_with (first
        | (at_builtin; refine wpList_appPe rfl _ _ (by rfl) w0.heap.size _ [p, d] l1 a1 n1 c1 (by rfl) OW.out (by rfl) L2.out E1.out (by simp) (by show 2 + n1 ≤ 100000; omega) BAL.out.size ?_; intro v1 w1 ho1 hgr1 hlt1; have b1 := BAL.out.grown hgr1 BAL.out.size (fun k hk => (hlt1 k hk).1))
        | (at_builtin; refine wpList_appPe rfl _ _ (by rfl) w0.heap.size _ ([p, d] ++ l1) l2 a2 n2 c2 (by rfl) ho1 (by rfl) (M1.out.later b1) E2.out (by simp) (by rw [List.length_append, ← E1.out]; show 2 + n1 + n2 ≤ 100000; omega) b1.size ?_; intro v2 w2 ho2 hgr2 hlt2; have b2 := b1.grown hgr2 b1.size (fun k hk => (hlt2 k hk).1)))
      have HAL := Lib.hid (show ([p, d] ++ l1 ++ l2).length = 2 + n1 + n2 by rw [List.length_append, List.length_append, ← E1.out, ← E2.out]; rfl)
      obtain ⟨AL, hAL⟩ : ∃ AL, [p, d] ++ l1 ++ l2 = AL := ⟨_, rfl⟩
      rw [hAL] at HAL ho2
      have HA := Lib.hid hAL
      have hpos : 0 < AL.length := by have := HAL.out; omega
      obtain ⟨g, cap, cur, rfl, hgb, hNc, hcm, hrow, hcells⟩ := OwnP.row ho2 hpos
      have hsz : AL.length * 2 ≤ cur.size := by
        have := (hcells (AL.length - 1) (by omega)).2
        have := (Array.getElem?_eq_some_iff.1 this).1
        omega
      have PN := Lib.hid (pts_row hrow hcells)
      have hN82 : AL.length ≤ 82 := by have := HAL.out; omega
      have P2 := Lib.hid (P1.out.below b2)
      have D2 := Lib.hid (D1.out.below b2)
      have B2 := Lib.hid (B1.out.trans (b2.mono B1.out.size))
      have NE := Lib.hid (near_any (some ⟨g, 0, none⟩) AL.length cap AL w2 PN.out rfl (by unfold maxLen; omega))
      obtain ⟨N, hN⟩ : ∃ N, AL.length = N := ⟨_, rfl⟩
      rw [hN] at hcells hpos hsz hN82 NE hNc HAL ⊢
      have HN := Lib.hid hN
      have HROW := Lib.hid hrow
      have HC := Lib.hid hcells
      have HSZ := Lib.hid hsz
      have CM := Lib.hid hcm
      have HGB := Lib.hid hgb
      have b2' := Lib.hid b2
      have D1' := D1
      have P1' := P1
      have B1' := B1
      clear hAL hN hrow hcells hsz hgb ho1 hgr1 hlt1 b1 ho2 hgr2 hlt2 b2 p0 p1 d0 d1 OW L2 BAL P1 D1
      refine NE.out.mono ?_
      rintro e w3 ⟨rfl, hb3⟩
      have B3 := Lib.hid (B2.out.trans (hb3.mono B2.out.size))
      have C3 := Lib.hid (b2'.out.trans (hb3.mono b2'.out.size))
      have R3 := Lib.hid (HROW.out.below hb3 HROW.out.inside)
      clear hb3 NE PN HROW
      cases hn1 : AL.all nearB with
      | false =>
        clear hn1
        go_wp2
        go_ret
        exact ⟨rfl, B3.out⟩
      | true =>
        have HN1 := Lib.hid hn1
        have hdn : nearB d = true := List.all_eq_true.1 hn1 d (by rw [← HA.out]; simp)
        have WRX : Hid (∀ k, k < N → wrap64 ((cor AL k).x + d.x) = (cor AL k).x + d.x ∧ wrap64 ((cor AL k).y + d.y) = (cor AL k).y + d.y) := Lib.hid (fun k hk => by
          have h1 := near_cor hn1 (k := k) (by rw [HN.out]; exact hk)
          rw [nearB_iff] at h1 hdn
          obtain ⟨a1, a2, a3, a4⟩ := h1
          obtain ⟨b1, b2, b3, b4⟩ := hdn
          unfold wrap64
          omega)
        clear hn1
        go_wp2_with fail
        go_loopw [11] (fun i wr => ∃ (k : Nat) (cr : Array Value), k ≤ N ∧ i = .int .i64 k ∧ Hid (IsRow wr g 24 cr) ∧ Hid (cr.size = cur.size) ∧ Hid (∀ j, j < N → cr[j * 2]? = some (.int .i64 (cor (partL d AL k) j).x) ∧ cr[j * 2 + 1]? = some (.int .i64 (cor (partL d AL k) j).y)) ∧ Hid (Below w0.heap.size w0 wr)) (fun i _ => N - (intOf i).toNat)
        case atStart => exact ⟨0, cur, Nat.zero_le _, rfl, R3, Lib.hid rfl, HC, C3⟩
        case round =>
          obtain ⟨k, cr, hk, rfl, hr, hs, hc, hb⟩ := hrel
          by_cases hlt : k < N
          · have hltI : (k : Int) < (N : Int) := by omega
            have hk0 : (0 : Int) ≤ (k : Int) := by omega
            have HKL := Lib.hid (show k < AL.length by rw [HN.out]; exact hlt)
            obtain ⟨f0, f1⟩ := hc.out k hlt
            rw [cor_part (by have := HN.out; omega), if_neg (by omega)] at f0 f1
            have c0 : wr.cell? ⟨g, k * 2, none⟩ = some (.int .i64 (cor AL k).x) := (hr.out.get _).trans f0
            have z0 : wr.frozen? ⟨g, k * 2, none⟩ = false := hr.out.open_ _
            have DW := D1'.out.below hb.out
            have d0 : wr.cell? ⟨w.heap.size + 1, 0, none⟩ = some (.int .i64 d.x) := DW.2.1
            go_upto_region 10 with fail
            have hwx : wrap64 ((cor AL k).x + d.x) = (cor AL k).x + d.x := by have := WRX.out k hlt; exact this.1
            go_cut [41] from 35 to 60 (fun _ wx => Hid (IsRow wx g 24 (cr.setIfInBounds (k * 2) (.int .i64 ((cor AL k).x + d.x)))) ∧ Hid (Below w0.heap.size w0 wx))
            case first =>
              go_region
              all_goals
                go_wp2_with fail
                go_meet
                exact ⟨Lib.hid (hr.out.put (k * 2) _), Lib.hid ((hb.out.trans ((drew_below wr).mono hb.out.size)).setCell (p := ⟨g, k * 2, none⟩) HGB.out _)⟩
            obtain ⟨hr1, hb1⟩ := hcut
            have hlen : k * 2 + 1 < cr.size := (Array.getElem?_eq_some_iff.1 f1).1
            have c1 : wc.cell? ⟨g, k * 2 + 1, none⟩ = some (.int .i64 (cor AL k).y) := (hr1.out.get _).trans ((Array.getElem?_setIfInBounds_ne (by omega)).trans f1)
            have z1 : wc.frozen? ⟨g, k * 2 + 1, none⟩ = false := hr1.out.open_ _
            have DX := D1'.out.below hb1.out
            have d1 : wc.cell? ⟨w.heap.size + 1, 1, none⟩ = some (.int .i64 d.y) := DX.2.2
            have hwy : wrap64 ((cor AL k).y + d.y) = (cor AL k).y + d.y := by have := WRX.out k hlt; exact this.2
            have HST := Lib.hid (part_step (d := d) HKL.out (cur := cr) (by have := HSZ.out; have := hs.out; have := HN.out; omega) (by rw [HN.out]; exact hc.out))
            clear c0 z0 d0 DW hwx hr hb f0 f1 DX
            go_upto_region 11 with fail
            have HST' := Lib.hid (fun j (hj : j < N) => HST.out j (by rw [HN.out]; exact hj))
            have HSS : Hid (((cr.setIfInBounds (k * 2) (.int .i64 ((cor AL k).x + d.x))).setIfInBounds (k * 2 + 1) (.int .i64 ((cor AL k).y + d.y))).size = cur.size) := by
              show _ = _
              rw [Array.size_setIfInBounds, Array.size_setIfInBounds]
              exact hs.out
            have HR2 := Lib.hid (hr1.out.put (k * 2 + 1) (.int .i64 ((cor AL k).y + d.y)))
            have HB2 := Lib.hid ((hb1.out.trans ((drew_below wc).mono hb1.out.size)).setCell (p := ⟨g, k * 2 + 1, none⟩) HGB.out (.int .i64 ((cor AL k).y + d.y)))
            clear HST hlen hs hc HKL
            go_region
            all_goals
              go_wp2
              go_roundw
            all_goals first
              | exact ⟨k + 1, _, by omega, by go_num, HR2, HSS, HST', HB2⟩
              | (simp [intOf]; omega)
          · obtain rfl : k = N := by omega
            have PM := Lib.hid (pts_row (l := mvL d AL) hr.out (fun j hj => by
              rw [mvL_len, HN.out] at hj
              have h9 := hc.out j hj
              rw [← HN.out, part_all] at h9
              exact h9))
            have NE := Lib.hid (near_any (some ⟨g, 0, none⟩) k cap (mvL d AL) wr PM.out (by rw [mvL_len, HN.out]) (by unfold maxLen; omega))
            clear hr hs hc HC R3 C3
            go_wp2_with fail
            refine NE.out.mono ?_
            rintro e w4 ⟨rfl, hb4⟩
            have C4 := Lib.hid (hb.out.trans (hb4.mono hb.out.size))
            have B4 := Lib.hid (B1'.out.trans (C4.out.mono B1'.out.size))
            have PM4 := Lib.hid (PM.out.later hb4)
            clear hb4 NE PM hb
            cases hn2 : (mvL d AL).all nearB with
            | false =>
              clear hn2
              go_wp2
              go_ret
              exact ⟨rfl, B4.out⟩
            | true =>
              have j1 : (2 : Int) ≤ 2 + (n1 : Int) := by omega
              have j2 : 2 + (n1 : Int) ≤ (cap : Int) := by have := HAL.out; omega
              have j3 : (k : Int) ≤ (cap : Int) := by omega
              have j4 : 2 + (n1 : Int) ≤ (k : Int) := by have := HAL.out; omega
              have j5 : (2 : Int) ≤ (cap : Int) := by have := HAL.out; omega
              have j6 : (0 : Int) ≤ 2 + (n1 : Int) := by omega
              have j7 : wrap64 (2 + (n1 : Int)) = 2 + (n1 : Int) := by have := hg1'.out; unfold wrap64; omega
              have j8 : (2 + (n1 : Int)).toNat = 2 + n1 := by omega
              go_upto_region 16 with fail
              have NR : NrL d AL := fun q hq => ⟨List.all_eq_true.1 HN1.out q hq, List.all_eq_true.1 hn2 _ (by unfold mvL; exact List.mem_map.2 ⟨q, hq, rfl⟩)⟩
              have N1 : NrL d l1 := fun q hq => NR q (by rw [← HA.out]; simp [hq])
              have N2 : NrL d l2 := fun q hq => NR q (by rw [← HA.out]; simp [hq])
              have Np : Nr d p := NR p (by rw [← HA.out]; simp)
              have S1 : ((mvL d AL).drop 2).take n1 = mvL d l1 := by rw [← HA.out, E1.out]; simp [mvL]
              have S2 : (mvL d AL).drop (2 + n1) = mvL d l2 := by
                rw [← HA.out, E1.out]
                unfold mvL
                rw [List.map_append, List.drop_append_of_le_length (by simp; omega), List.drop_of_length_le (by simp; omega), List.nil_append]
              have hkl : k = 2 + n1 + n2 := HAL.out
              have L4 : (mvL d AL).length = k := by rw [mvL_len, HN.out]
              obtain ⟨A1, hA1⟩ : ∃ A, (if cap = 2 then some (⟨g, 0, none⟩ : Addr) else some ⟨g, 4, none⟩) = A := ⟨_, rfl⟩
              obtain ⟨A2, hA2⟩ : ∃ A, (if cap = 2 + n1 then some (⟨g, 0, none⟩ : Addr) else some ⟨g, (2 + n1) * 2, none⟩) = A := ⟨_, rfl⟩
              have QA := Lib.hid (show Pts w4 w4.heap.size A1 (mvL d l1) from by
                intro h0
                have hne : ¬ cap = 2 := fun e => by rw [mvL_len, ← E1.out] at h0; omega
                rw [if_neg hne] at hA1
                subst hA1
                have := (PM4.out.drop 2 (by rw [mvL_len, ← E1.out] at h0; rw [mvL_len, HN.out]; omega)).take n1
                rw [S1] at this
                simpa using this h0)
              have QB := Lib.hid (show Pts w4 w4.heap.size A2 (mvL d l2) from by
                intro h0
                have hne : ¬ cap = 2 + n1 := fun e => by rw [mvL_len, ← E2.out] at h0; omega
                rw [if_neg hne] at hA2
                subst hA2
                have := PM4.out.drop (2 + n1) (by rw [mvL_len, HN.out]; rw [mvL_len, ← E2.out] at h0; omega)
                rw [S2] at this
                simpa using this h0)
              have hk2 : k - (2 + n1) = n2 := by omega
              rw [hA1, hA2, hk2]
              have L9 := Lib.hid (L1.out.later C4.out)
              have M9 := Lib.hid (M1.out.later C4.out)
              have D9 := D1'.out.below C4.out
              have P9 := P1'.out.below C4.out
              have PP : w4.cell? ⟨g, 0, none⟩ = some (.int .i64 (mv d p).x) ∧ w4.cell? ⟨g, 1, none⟩ = some (.int .i64 (mv d p).y) := by
                obtain ⟨b9, o9, e9, _, h9⟩ := PM4.out (by omega)
                injection e9 with e9
                injection e9 with e91 e92
                subst e91 e92
                have := h9 0 (mv d p) (by rw [← HA.out]; rfl)
                simpa using this
              obtain ⟨T, hT⟩ : ∃ T, twiceN l1 = T := ⟨_, rfl⟩
              obtain ⟨S, hS⟩ : ∃ S, simpleN l1 = S := ⟨_, rfl⟩
              obtain ⟨V, hV⟩ : ∃ V, sideQ l1 p = V := ⟨_, rfl⟩
              obtain ⟨R, hR⟩ : ∃ R, relN l1 l2 = R := ⟨_, rfl⟩
              have K1 : n1 ≤ cap - 2 := by omega
              have K2 : n2 ≤ cap - (2 + n1) := by omega
              have K3 : cap - 2 ≤ maxLen := by have := CM.out; omega
              have K4 : cap - (2 + n1) ≤ maxLen := by have := CM.out; omega
              have e1m : n1 = (mvL d l1).length := by rw [mvL_len]; exact E1.out
              have e2m : n2 = (mvL d l2).length := by rw [mvL_len]; exact E2.out
              have q1 := quiet_of (w := w4) (fun w' hb => tw_is A1 n1 (cap - 2) (mvL d l1) w' ((twice_mv N1).trans hT) (QA.out.later hb) e1m K1 K3)
              have q2 := quiet_of (w := w4) (fun w' hb => tw_is a1 n1 c1 l1 w' hT (L9.out.later hb) E1.out hc1 X1.out)
              have q3 := quiet_of (w := w4) (fun w' hb => sm_is A1 n1 (cap - 2) (mvL d l1) w' ((simple_mv N1).trans hS) (QA.out.later hb) e1m K1 K3)
              have q4 := quiet_of (w := w4) (fun w' hb => sm_is a1 n1 c1 l1 w' hS (L9.out.later hb) E1.out hc1 X1.out)
              have q5 := quiet_of (w := w4) (fun w' hb => sd_is A1 n1 (cap - 2) (mvL d l1) (mv d p) w' ((sideQ_mv N1 Np).trans hV) (QA.out.later hb) e1m K1 K3)
              have q6 := quiet_of (w := w4) (fun w' hb => sd_is a1 n1 c1 l1 p w' hV (L9.out.later hb) E1.out hc1 X1.out)
              have q7 := quiet_of (w := w4) (fun w' hb => rl_is A1 A2 n1 (cap - 2) n2 (cap - (2 + n1)) (mvL d l1) (mvL d l2) w' ((rel_mv N1 N2).trans hR) (QA.out.later hb) (QB.out.later hb) e1m e2m K1 K2 K3 K4)
              have q8 := quiet_of (w := w4) (fun w' hb => rl_is a1 a2 n1 c1 n2 c2 l1 l2 w' hR (L9.out.later hb) (M9.out.later hb) E1.out E2.out hc1 hc2 X1.out X2.out)
              obtain ⟨u0, u1⟩ := PP
              obtain ⟨v0, v1⟩ : w4.cell? ⟨w.heap.size, 0, none⟩ = some (.int .i64 p.x) ∧ w4.cell? ⟨w.heap.size, 1, none⟩ = some (.int .i64 p.y) := ⟨P9.2.1, P9.2.2⟩
              have g0 := cell_regrown u0
              have g1 := cell_regrown u1
              have g2 := cell_regrown v0
              have g3 := cell_regrown v1
              have t1 : (T == T) = true := by simp
              have t2 : (S == S) = true := by simp
              have t3 : (V == V) = true := by simp
              have t4 : (R == R) = true := by simp
              have y1 : (0 : Int) < (k : Int) := by omega
              clear hT hS hV hR K1 K2 K3 K4 e1m e2m hA1 hA2 hk2 hkl L4 S1 S2 NR N1 N2 Np hn2 QA QB L9 M9 D9 P9 PM4 j1 j2 j3 j4 j5 j6 j7 j8
              refine wp_region_quiet_below (by kernel_rfl) (by kernel_rfl) ?_
              repeat (go_big_quiet_step (first | with_reducible exact q1 _ _ | with_reducible exact q2 _ _ | with_reducible exact q3 _ _ | with_reducible exact q4 _ _ | with_reducible exact q5 _ _ | with_reducible exact q6 _ _ | with_reducible exact q7 _ _ | with_reducible exact q8 _ _))
              refine wpQuiet_nil ?_
              intro _ hw'
              obtain ⟨⟨dq, osq⟩, hw''⟩ := hw'
              subst hw''
              have hb9 := below_regrown w4 dq osq
              generalize grow (redrawn w4 dq) osq = w9 at *
              have B9 := Lib.hid (B4.out.trans (hb9.mono B4.out.size))
              clear hb9 q1 q2 q3 q4 q5 q6 q7 q8 g0 g1 g2 g3 u0 u1 v0 v1
              go_wp2
              go_ret
              exact ⟨rfl, B9.out⟩
    · have i1 : ¬ (40 : Int) < (n1 : Int) := by omega
      have i2 : (40 : Int) < (n2 : Int) := by omega
      go_wp2
      go_ret
      exact ⟨rfl, B1.out⟩
  · have i1 : (40 : Int) < (n1 : Int) := by omega
    go_wp2
    go_ret
    exact ⟨rfl, B1.out⟩
end Go.Proofs.Ytcoelaolhnafjaa.Rg
