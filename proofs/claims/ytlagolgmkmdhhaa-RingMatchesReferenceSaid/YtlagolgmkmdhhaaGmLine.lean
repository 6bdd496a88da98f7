/- slices.MaxFunc and MinFunc of two points; how segments on one line meet. -/
import Derived.Test.YtlagolgmkmdhhaaGmSeg
namespace Go.Proofs.Ytlagolgmkmdhhaa.Geo
open Go.RowKit Go.Sort
set_option maxRecDepth 100000 in
set_option maxHeartbeats 1000000 in
theorem maxFunc_any (p q : Pt) (g : Nat) (w : World) (hg : Has2 w g p q) :
    Calls Try.prog 64 #[.slice (some ⟨g, 0, none⟩) 2 2, .func (.func 40) #[] #[]] w
      fun e w' => e = .returned (.agg #[.int .i64 (maxN p q).x, .int .i64 (maxN p q).y]) ∧ Below w.heap.size w w' := by
  obtain ⟨W, hW, hsz, hB, hI, hM⟩ : ∃ W, (w.alloc (.cells #[.int .i64 0, .int .i64 0] 24)).alloc (.cells #[.int .i64 p.x, .int .i64 p.y] 24) = W ∧ W.heap.size = w.heap.size + 1 + 1 ∧
      Below w.heap.size w W ∧ IsRow W w.heap.size 24 #[.int .i64 0, .int .i64 0] ∧ IsRow W (w.heap.size + 1) 24 #[.int .i64 p.x, .int .i64 p.y] :=
    ⟨_, rfl, by simp, alloc2 _ _ _, (IsRow.made w _ _).later _, by simpa using IsRow.made (w.alloc _) 24 #[.int .i64 p.x, .int .i64 p.y]⟩
  have HW := Lib.hid hW
  have HB := Lib.hid hB
  have HI := Lib.hid hI
  have HM := Lib.hid hM
  have HS := Lib.hid hsz
  have HG := Lib.hid hg
  clear hW hB hI hM hsz
  obtain ⟨⟨hlt, p0, p1⟩, q0, q1⟩ := hg
  obtain ⟨r, hr⟩ : ∃ r, maxN p q = r := ⟨_, rfl⟩
  have HR := Lib.hid hr
  rw [hr]
  clear hr
  go_enter Try.func64, Try.ntmps64
  go_wp2
  rw [HW.out]
  clear p0 p1 q0 q1
  go_loopw [6] (fun i wr => ∃ (k : Nat) (m : Pt), (k = 1 ∨ k = 2) ∧ i = .int .i64 k ∧ Hid ((if k = 1 then p else maxN p q) = m) ∧ Hid (IsRow wr w.heap.size 24 #[.int .i64 0, .int .i64 0]) ∧ Hid (IsRow wr (w.heap.size + 1) 24 #[.int .i64 m.x, .int .i64 m.y]) ∧ Hid (Below w.heap.size w wr)) (fun i _ => 2 - (intOf i).toNat)
  case atStart => exact ⟨1, p, .inl rfl, rfl, rfl, HI, HM, HB⟩
  case round =>
    obtain ⟨k, m, hk, rfl, hm, hI, hM, hB⟩ := hrel
    rcases hk with rfl | rfl
    · obtain rfl : p = m := by have := hm.out; simpa using this
      obtain ⟨⟨_, p0, p1⟩, q0, q1⟩ := HG.out.below (hB.out.mono (Nat.le_refl _))
      have m0 := hM.out.get 0
      have m1 := hM.out.get 1
      simp at m0 m1
      have Q0 := cell_regrown q0
      have Q1 := cell_regrown q1
      have M0 := cell_regrown m0
      have M1 := cell_regrown m1
      have c1 := (compare_any q p).quiet wr
      go_wp2
      refine wp_region_quiet_below (by kernel_rfl) (by kernel_rfl) ?_
      repeat (quiet_step (first | with_reducible exact c1 _ _))
      refine wpQuiet_nil ?_
      intro _ hw'
      obtain ⟨⟨dq, osq⟩, hw''⟩ := hw'
      subst hw''
      have hb2 := below_regrown wr dq osq
      generalize grow (redrawn wr dq) osq = w2 at *
      have HI2 := Lib.hid (hI.out.below hb2 hI.out.inside)
      have HM2 := Lib.hid (hM.out.below hb2 hM.out.inside)
      have HB2 := Lib.hid (hB.out.trans (hb2.mono hB.out.size))
      obtain ⟨⟨_, p0', p1'⟩, q0', q1'⟩ := (HG.out.below (HB2.out.mono (Nat.le_refl _)))
      clear Q0 Q1 M0 M1 c1 m0 m1 p0 p1 q0 q1 hb2
      have m0 := HM2.out.get 0
      have m1 := HM2.out.get 1
      simp at m0 m1
      have f0 := HM2.out.open_ 0
      have f1 := HM2.out.open_ 1
      by_cases hc : 0 < cmpN q p
      · have e := Lib.hid (show (if 2 = 1 then p else maxN p q) = q by unfold maxN; rw [if_neg (by decide), if_pos hc])
        go_wp2
        go_roundw
        case rel => exact ⟨2, q, .inr rfl, by go_num, e, Lib.hid ((HI2.out.putOther (by simp) _).putOther (by simp) _), Lib.hid (set2 HM2.out _ _), Lib.hid (below2 HB2.out (by omega) _ _)⟩
        case measure => simp [intOf]
      · have e := Lib.hid (show (if 2 = 1 then p else maxN p q) = p by unfold maxN; rw [if_neg (by decide), if_neg hc])
        go_wp2
        go_roundw
        case rel => exact ⟨2, p, .inr rfl, by go_num, e, HI2, HM2, HB2⟩
        case measure => simp [intOf]
    · obtain rfl : r = m := by have := hm.out; rw [if_neg (by decide)] at this; rw [← this, HR.out]
      have m0 := hM.out.get 0
      have m1 := hM.out.get 1
      have i0 := hI.out.get 0
      have i1 := hI.out.get 1
      simp at m0 m1 i0 i1
      have f0 := hI.out.open_ 0
      have f1 := hI.out.open_ 1
      go_wp2
      refine bodyPost_ret (results_cell_row rfl _ _ w.heap.size _ _ (0, 0) _ rfl (set2 hI.out _ _) Try.underlying24 rfl infoPt) rfl ?_
      exact ⟨rfl, below2 hB.out (by omega) _ _⟩
set_option maxRecDepth 100000 in
set_option maxHeartbeats 1000000 in
theorem minFunc_any (p q : Pt) (g : Nat) (w : World) (hg : Has2 w g p q) :
    Calls Try.prog 65 #[.slice (some ⟨g, 0, none⟩) 2 2, .func (.func 40) #[] #[]] w
      fun e w' => e = .returned (.agg #[.int .i64 (minN p q).x, .int .i64 (minN p q).y]) ∧ Below w.heap.size w w' := by
  obtain ⟨W, hW, hsz, hB, hI, hM⟩ : ∃ W, (w.alloc (.cells #[.int .i64 0, .int .i64 0] 24)).alloc (.cells #[.int .i64 p.x, .int .i64 p.y] 24) = W ∧ W.heap.size = w.heap.size + 1 + 1 ∧
      Below w.heap.size w W ∧ IsRow W w.heap.size 24 #[.int .i64 0, .int .i64 0] ∧ IsRow W (w.heap.size + 1) 24 #[.int .i64 p.x, .int .i64 p.y] :=
    ⟨_, rfl, by simp, alloc2 _ _ _, (IsRow.made w _ _).later _, by simpa using IsRow.made (w.alloc _) 24 #[.int .i64 p.x, .int .i64 p.y]⟩
  have HW := Lib.hid hW
  have HB := Lib.hid hB
  have HI := Lib.hid hI
  have HM := Lib.hid hM
  have HS := Lib.hid hsz
  have HG := Lib.hid hg
  clear hW hB hI hM hsz
  obtain ⟨⟨hlt, p0, p1⟩, q0, q1⟩ := hg
  obtain ⟨r, hr⟩ : ∃ r, minN p q = r := ⟨_, rfl⟩
  have HR := Lib.hid hr
  rw [hr]
  clear hr
  go_enter Try.func65, Try.ntmps65
  go_wp2
  rw [HW.out]
  clear p0 p1 q0 q1
  go_loopw [6] (fun i wr => ∃ (k : Nat) (m : Pt), (k = 1 ∨ k = 2) ∧ i = .int .i64 k ∧ Hid ((if k = 1 then p else minN p q) = m) ∧ Hid (IsRow wr w.heap.size 24 #[.int .i64 0, .int .i64 0]) ∧ Hid (IsRow wr (w.heap.size + 1) 24 #[.int .i64 m.x, .int .i64 m.y]) ∧ Hid (Below w.heap.size w wr)) (fun i _ => 2 - (intOf i).toNat)
  case atStart => exact ⟨1, p, .inl rfl, rfl, rfl, HI, HM, HB⟩
  case round =>
    obtain ⟨k, m, hk, rfl, hm, hI, hM, hB⟩ := hrel
    rcases hk with rfl | rfl
    · obtain rfl : p = m := by have := hm.out; simpa using this
      obtain ⟨⟨_, p0, p1⟩, q0, q1⟩ := HG.out.below (hB.out.mono (Nat.le_refl _))
      have m0 := hM.out.get 0
      have m1 := hM.out.get 1
      simp at m0 m1
      have Q0 := cell_regrown q0
      have Q1 := cell_regrown q1
      have M0 := cell_regrown m0
      have M1 := cell_regrown m1
      have c1 := (compare_any q p).quiet wr
      go_wp2
      refine wp_region_quiet_below (by kernel_rfl) (by kernel_rfl) ?_
      repeat (quiet_step (first | with_reducible exact c1 _ _))
      refine wpQuiet_nil ?_
      intro _ hw'
      obtain ⟨⟨dq, osq⟩, hw''⟩ := hw'
      subst hw''
      have hb2 := below_regrown wr dq osq
      generalize grow (redrawn wr dq) osq = w2 at *
      have HI2 := Lib.hid (hI.out.below hb2 hI.out.inside)
      have HM2 := Lib.hid (hM.out.below hb2 hM.out.inside)
      have HB2 := Lib.hid (hB.out.trans (hb2.mono hB.out.size))
      obtain ⟨⟨_, p0', p1'⟩, q0', q1'⟩ := (HG.out.below (HB2.out.mono (Nat.le_refl _)))
      clear Q0 Q1 M0 M1 c1 m0 m1 p0 p1 q0 q1 hb2
      have m0 := HM2.out.get 0
      have m1 := HM2.out.get 1
      simp at m0 m1
      have f0 := HM2.out.open_ 0
      have f1 := HM2.out.open_ 1
      by_cases hc : cmpN q p < 0
      · have e := Lib.hid (show (if 2 = 1 then p else minN p q) = q by unfold minN; rw [if_neg (by decide), if_pos hc])
        go_wp2
        go_roundw
        case rel => exact ⟨2, q, .inr rfl, by go_num, e, Lib.hid ((HI2.out.putOther (by simp) _).putOther (by simp) _), Lib.hid (set2 HM2.out _ _), Lib.hid (below2 HB2.out (by omega) _ _)⟩
        case measure => simp [intOf]
      · have e := Lib.hid (show (if 2 = 1 then p else minN p q) = p by unfold minN; rw [if_neg (by decide), if_neg hc])
        go_wp2
        go_roundw
        case rel => exact ⟨2, p, .inr rfl, by go_num, e, HI2, HM2, HB2⟩
        case measure => simp [intOf]
    · obtain rfl : r = m := by have := hm.out; rw [if_neg (by decide)] at this; rw [← this, HR.out]
      have m0 := hM.out.get 0
      have m1 := hM.out.get 1
      have i0 := hI.out.get 0
      have i1 := hI.out.get 1
      simp at m0 m1 i0 i1
      have f0 := hI.out.open_ 0
      have f1 := hI.out.open_ 1
      go_wp2
      refine bodyPost_ret (results_cell_row rfl _ _ w.heap.size _ _ (0, 0) _ rfl (set2 hI.out _ _) Try.underlying24 rfl infoPt) rfl ?_
      exact ⟨rfl, below2 hB.out (by omega) _ _⟩
set_option maxRecDepth 100000 in
set_option maxHeartbeats 1000000 in
theorem meetInLine_any (a b c d : Pt) : Answers Try.prog 45 #[.agg #[.int .i64 a.x, .int .i64 a.y, .int .i64 b.x, .int .i64 b.y], .agg #[.int .i64 c.x, .int .i64 c.y, .int .i64 d.x, .int .i64 d.y]] (.int .i64 (lineN a b c d)) := by
  intro w
  obtain ⟨W, hW, hsz, hB, hA, hC⟩ := segseg w 56 56 a b c d
  have HW := Lib.hid hW
  have HB := Lib.hid hB
  have HA := hA
  have HC := hC
  have HS := Lib.hid hsz
  clear hW hB hsz
  obtain ⟨⟨_, a0, a1⟩, b0, b1⟩ := hA
  obtain ⟨⟨_, c0, c1⟩, d0, d1⟩ := hC
  obtain ⟨R, hR⟩ : ∃ R, lineN a b c d = R := ⟨_, rfl⟩
  have HR := Lib.hid hR
  rw [hR]
  clear hR
  go_enter Try.func45, Try.ntmps45
  go_wp2_with fail
  rw [HW.out]
  have M1 : Has2 (W.alloc (.cells #[.int .i64 a.x, .int .i64 a.y, .int .i64 c.x, .int .i64 c.y] 24)) (w.heap.size + 1 + 1) a c := by rw [← HS.out]; exact Has2.made W _ a c
  refine (maxFunc_any a c _ _ M1).mono ?_
  rintro e w1 ⟨rfl, hb1⟩
  have hb1' := (alloc1 W (.cells #[.int .i64 a.x, .int .i64 a.y, .int .i64 c.x, .int .i64 c.y] 24)).trans (hb1.mono (by simp))
  obtain ⟨l, hl⟩ : ∃ l, maxN a c = l := ⟨_, rfl⟩
  have HL := Lib.hid hl
  rw [hl]
  have HB1 := Lib.hid (HB.out.trans (hb1'.mono HB.out.size))
  have A1 := HA.below hb1'
  have C1 := HC.below hb1'
  clear M1 hb1 hl a0 a1 b0 b1 c0 c1 d0 d1 HA HC hb1'
  have HA := A1
  have HC := C1
  obtain ⟨⟨_, a0, a1⟩, b0, b1⟩ := A1
  obtain ⟨⟨_, c0, c1⟩, d0, d1⟩ := C1
  go_wp2_with fail
  clear a0 a1 b0 b1 c0 c1 d0 d1
  obtain ⟨W2, hW2, hB2, hL2, hE2, hS2⟩ : ∃ W2, w1.alloc (.cells #[.int .i64 l.x, .int .i64 l.y] 24) = W2 ∧ Below w1.heap.size w1 W2 ∧ Has W2 w1.heap.size l ∧
      Has2 (W2.alloc (.cells #[.int .i64 b.x, .int .i64 b.y, .int .i64 d.x, .int .i64 d.y] 24)) (w1.heap.size + 1) b d ∧ W2.heap.size = w1.heap.size + 1 :=
    ⟨_, rfl, alloc1 _ _, Has.made _ _ _, by simpa using Has2.made (w1.alloc _) 24 b d, by simp⟩
  rw [hW2]
  refine (minFunc_any b d _ _ hE2).mono ?_
  rintro e w3 ⟨rfl, hb3⟩
  have hb3' := (alloc1 W2 (.cells #[.int .i64 b.x, .int .i64 b.y, .int .i64 d.x, .int .i64 d.y] 24)).trans (hb3.mono (by simp))
  obtain ⟨h, hh⟩ : ∃ h, minN b d = h := ⟨_, rfl⟩
  have HH := Lib.hid hh
  rw [hh]
  have HB3 := Lib.hid ((HB1.out.trans (hB2.mono HB1.out.size)).trans (hb3'.mono (Nat.le_trans HB1.out.size hB2.size)))
  have A3 := (HA.below hB2).below hb3'
  have C3 := (HC.below hB2).below hb3'
  have L3 := hL2.below hb3'
  clear hW2 hE2 hb3 hh hB2 hb3' hL2 hS2 HA HC
  have HA := A3
  have HC := C3
  have HL3 := L3
  obtain ⟨⟨_, a0, a1⟩, b0, b1⟩ := A3
  obtain ⟨⟨_, c0, c1⟩, d0, d1⟩ := C3
  obtain ⟨_, l0, l1⟩ := L3
  go_wp2_with fail
  refine (compare_any l h _).mono ?_
  rintro e w4 ⟨rfl, hb4⟩
  have hb4' := (alloc1 w3 (.cells #[.int .i64 h.x, .int .i64 h.y] 24)).trans (hb4.mono (by simp))
  have HB4 := Lib.hid (HB3.out.trans (hb4'.mono HB3.out.size))
  have A4 := HA.below hb4'
  have C4 := HC.below hb4'
  have L4 := HL3.below hb4'
  have HR' : Hid ((if cmpN l h = 1 then (0 : Int) else if cmpN l h = 0 then atN a b c d l else 5) = R) := by
    have := HR.out
    unfold lineN at this
    rw [HL.out, HH.out] at this
    exact this
  clear hb4 hb4' a0 a1 b0 b1 c0 c1 d0 d1 l0 l1 HA HC HL3 HR HL HH HW HS
  obtain ⟨⟨_, a0, a1⟩, b0, b1⟩ := A4
  obtain ⟨⟨_, c0, c1⟩, d0, d1⟩ := C4
  obtain ⟨_, l0, l1⟩ := L4
  by_cases k1 : cmpN l h = 1
  · have HE := Lib.hid (show (0 : Int) = R by rw [← HR'.out, if_pos k1])
    rw [k1]
    go_wp2
    go_ret
    exact ⟨ret_int HE.out, HB4.out⟩
  · have f1 : (cmpN l h == 1) = false := by simpa using k1
    by_cases k0 : cmpN l h = 0
    · have HE := Lib.hid (show atN a b c d l = R by rw [← HR'.out, if_neg k1, if_pos k0])
      rw [k0]
      go_wp2_with fail
      refine (meetAt_any a b c d l _).mono ?_
      rintro e w5 ⟨rfl, hb5⟩
      have HB5 := Lib.hid (HB4.out.trans (hb5.mono HB4.out.size))
      clear hb5 a0 a1 b0 b1 c0 c1 d0 d1 l0 l1
      go_wp2
      go_ret
      exact ⟨ret_int HE.out, HB5.out⟩
    · have f0 := beq_zero k0
      have HE := Lib.hid (show (5 : Int) = R by rw [← HR'.out, if_neg k1, if_neg k0])
      go_wp2
      go_ret
      exact ⟨ret_int HE.out, HB4.out⟩
end Go.Proofs.Ytlagolgmkmdhhaa.Geo
