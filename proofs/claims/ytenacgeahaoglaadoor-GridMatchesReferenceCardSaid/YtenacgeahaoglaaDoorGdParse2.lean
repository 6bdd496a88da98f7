/- grid: Parse. -/
import Derived.Test.YtenacgeahaoglaaDoorGdParse
namespace Go.Proofs.YtenacgeahaoglaaDoor.Gd
open Go.RowKit Go.Sort
theorem cut_le (l : List UInt8) : (Lib.cut l [47]).1.length ≤ l.length ∧ (Lib.cut l [47]).2.1.length ≤ l.length := by
  unfold Lib.cut
  split <;> simp
  omega
theorem below_of_grown {w w' : World} {b B : Nat} (h : w.grownBy w' (some b)) (hB : B ≤ b) (hw : B ≤ w.heap.size) : Below B w w' :=
  ⟨h.os, h.tape, h.output, h.size, fun i hi => h.block i (by omega) (fun e => by injection e; omega)⟩
theorem row_grown {w w' : World} {b g : Nat} {t : TypeId} {cs : Array Value} (h : w.grownBy w' (some b)) (hr : IsRow w g t cs) (hg : g ≠ b) : IsRow w' g t cs :=
  (h.block g hr.inside (fun e => hg (by injection e))).trans hr
theorem grown_of_below {w w' : World} (h : Below w.heap.size w w') (row : Option Nat) : w.grownBy w' row := ⟨h.os, h.tape, h.output, h.size, fun i hi _ => h.block i hi⟩
theorem grown_put {w w' : World} {b : Nat} (h : w.grownBy w' (some b)) (i : Nat) (v : Value) : w.grownBy (w'.setCell ⟨b, i, none⟩ v) (some b) :=
  ⟨h.os, h.tape, h.output, by simp [h.size], fun k hk hne => (Below.heap_setCell w' ⟨b, i, none⟩ v k (fun e => hne (by rw [e]))).trans (h.block k hk hne)⟩
theorem grown_trans {a b c : World} {row : Option Nat} (h : a.grownBy b row) (k : b.grownBy c row) : a.grownBy c row :=
  ⟨k.os.trans h.os, k.tape.trans h.tape, k.output.trans h.output, Nat.le_trans h.size k.size, fun i hi hne => (k.block i (Nat.lt_of_lt_of_le hi h.size) hne).trans (h.block i hi hne)⟩
set_option maxRecDepth 100000 in
set_option maxHeartbeats 1000000 in
theorem number_any (b : Nat) (l : List UInt8) (hl : l.length ≤ 1000) (w0 w : World) (h0 : Gw w0) (hA : Below w0.heap.size w0 w) (hb : w0.heap.size ≤ b) (hr : IsRow w b 9 #[.string ⟨l.toArray⟩]) :
    Calls Tryd.prog 46 #[.pointer (some ⟨b, 0, none⟩)] w fun e w' => e = .returned (.int .i64 (nv (Lib.cut l [47]).1)) ∧ w.grownBy w' (some b) ∧ IsRow w' b 9 #[.string ⟨(Lib.cut l [47]).2.1.toArray⟩] := by
  have hcl := (cut_le l).1
  have hbw := hr.inside
  have K1 := cut_any l hl w (h0.below hA)
  have c0 := hr.get 0
  obtain ⟨p, hp⟩ : ∃ p, (Lib.cut l [47]).1 = p := ⟨_, rfl⟩
  obtain ⟨r, hr2⟩ : ∃ r, (Lib.cut l [47]).2.1 = r := ⟨_, rfl⟩
  generalize (Lib.cut l [47]).2.2 = f at *
  rw [hp] at hcl
  rw [hp, hr2] at K1 ⊢
  clear hp hr2
  have HR := Lib.hid hr
  have H0 := Lib.hid h0
  have HA := Lib.hid hA
  have HB := Lib.hid hb
  have HBW := Lib.hid hbw
  clear hr h0 hA
  go_enter Tryd.func46, Tryd.ntmps46
  go_wp2_with fail
  refine K1.mono ?_
  rintro e w1 ⟨rfl, b1⟩
  have R1 := Lib.hid (HR.out.below b1 HBW.out)
  have A1 := Lib.hid (HA.out.trans (b1.mono HA.out.size))
  have G1 := Lib.hid (grown_of_below b1 (some b))
  have d0 := R1.out.get 0
  have f0 := R1.out.open_ 0
  clear b1 K1 HR HA c0
  go_wp2_with fail
  obtain ⟨w2, hw2⟩ : ∃ w2, w1.setCell ⟨b, 0, none⟩ (.string ⟨r.toArray⟩) = w2 := ⟨_, rfl⟩
  have R2 := Lib.hid (show IsRow w2 b 9 #[.string ⟨r.toArray⟩] by rw [← hw2]; have := R1.out.put 0 (.string ⟨r.toArray⟩); simpa using this)
  have A2 := Lib.hid (show Below w0.heap.size w0 w2 from hw2 ▸ A1.out.setCell (p := ⟨b, 0, none⟩) HB.out _)
  have G2 := Lib.hid (show w.grownBy w2 (some b) from hw2 ▸ grown_put G1.out 0 _)
  have K2 := atoi_any p (by omega) w2 (H0.out.below A2.out)
  rw [hw2]
  clear hw2 R1 A1 G1 d0 f0
  refine K2.mono ?_
  rintro e w3 ⟨x, rfl, b3⟩
  have R3 := Lib.hid (R2.out.below b3 R2.out.inside)
  have G3 := Lib.hid (grown_trans G2.out (grown_of_below b3 (some b)))
  clear b3 K2 R2 A2 G2
  go_wp2
  go_ret
  exact ⟨rfl, G3.out, R3.out⟩
set_option maxRecDepth 100000 in
set_option maxHeartbeats 1000000 in
theorem parse_any (l : List UInt8) (hl : l.length ≤ 1000) : AnsG Tryd.prog 25 #[.string ⟨l.toArray⟩] (vR (vT (parseR l).1) (parseR l).2) := by
  intro w hS
  obtain ⟨R, hR⟩ : ∃ R, parseR l = R := ⟨_, rfl⟩
  have HR := Lib.hid hR
  rw [hR]
  obtain ⟨W, hW, hB, hP, hQ⟩ := two_made w 25 9 #[.int .i64 0, .int .i64 0, .int .i64 0] #[.string ⟨l.toArray⟩]
  have HB := Lib.hid hB
  have HP := Lib.hid hP
  have HQ := Lib.hid hQ
  have HS := Lib.hid hS
  have HW := Lib.hid hW
  have c1 := cut_le l
  have c2 := cut_le (Lib.cut l [47]).2.1
  have K1 := number_any (w.heap.size + 1) l hl w W hS hB (by omega) hQ
  have HC := Lib.hid (show cp l = ⟨nv (Lib.cut l [47]).1, nv (Lib.cut (Lib.cut l [47]).2.1 [47]).1, nv (Lib.cut (Lib.cut (Lib.cut l [47]).2.1 [47]).2.1 [47]).1⟩ from rfl)
  have NUM := Lib.hid (fun (l : List UInt8) (hl : l.length ≤ 1000) (W : World) (hb : Below w.heap.size w W) (hr : IsRow W (w.heap.size + 1) 9 #[.string ⟨l.toArray⟩]) => number_any (w.heap.size + 1) l hl w W hS hb (by omega) hr)
  clear hW hB hP hQ hR hS
  unfold vT vR
  go_enter Tryd.func25, Tryd.ntmps25
  go_wp2_with fail
  rw [HW.out]
  obtain ⟨q1, e1⟩ : ∃ q, nv (Lib.cut l [47]).1 = q := ⟨_, rfl⟩
  obtain ⟨r1, d1⟩ : ∃ r, (Lib.cut l [47]).2.1 = r := ⟨_, rfl⟩
  rw [d1] at c1 c2 HC K1
  rw [e1] at K1 HC
  have K2 := NUM.out r1 (by omega)
  obtain ⟨q2, e2⟩ : ∃ q, nv (Lib.cut r1 [47]).1 = q := ⟨_, rfl⟩
  obtain ⟨r2, d2⟩ : ∃ r, (Lib.cut r1 [47]).2.1 = r := ⟨_, rfl⟩
  rw [d2] at c2 HC K2
  rw [e2] at K2 HC
  have K3 := NUM.out r2 (by omega)
  obtain ⟨q3, e3⟩ : ∃ q, nv (Lib.cut r2 [47]).1 = q := ⟨_, rfl⟩
  rw [e3] at K3 HC
  clear NUM e1 e2 e3 d1 d2 c1 c2
  refine K1.mono ?_
  rintro e w1 ⟨rfl, g1, x1⟩
  have B1 := Lib.hid (HB.out.trans (below_of_grown g1 (by omega) HB.out.size))
  have P1 := Lib.hid (row_grown g1 HP.out (by omega))
  have K2 := K2 w1 B1.out x1
  clear K1 HW HP HQ HB g1 x1
  go_wp2_with fail
  refine K2.mono ?_
  rintro e w2 ⟨rfl, g2, x2⟩
  have B2 := Lib.hid (B1.out.trans (below_of_grown g2 (by omega) B1.out.size))
  have P2 := Lib.hid (row_grown g2 P1.out (by omega))
  have K3 := K3 w2 B2.out x2
  clear K2 P1 B1 g2 x2
  go_wp2_with fail
  refine K3.mono ?_
  rintro e w3 ⟨rfl, g3, x3⟩
  have B3 := Lib.hid (B2.out.trans (below_of_grown g3 (by omega) B2.out.size))
  have P3 := Lib.hid (row_grown g3 P2.out (by omega))
  clear K3 P2 B2 g3 x3
  go_wp2_with fail
  obtain ⟨w4, hw4⟩ : ∃ w4, w3.alloc (.cells #[.int .i64 q1, .int .i64 q2, .int .i64 q3] 25) = w4 := ⟨_, rfl⟩
  have bb := (rowB w3 _ _ hw4)
  have B4 := Lib.hid (B3.out.trans (bb.1.out.mono B3.out.size))
  have P4 := Lib.hid (P3.out.below bb.1.out P3.out.inside)
  have X4 := bb.2
  have K4 := text_any ⟨q1, q2, q3⟩ w4 (HS.out.below B4.out)
  have HT := Lib.hid (show textR ⟨q1, q2, q3⟩ = if okT ⟨q1, q2, q3⟩ then (txtN ⟨q1, q2, q3⟩, 0) else ([], 1) from rfl)
  have HZ := Lib.hid (show R = if okT ⟨q1, q2, q3⟩ ∧ txtN ⟨q1, q2, q3⟩ = l then (⟨q1, q2, q3⟩, 0) else (zT, 5) by rw [← HC.out, ← HR.out]; rfl)
  obtain ⟨TR, hTR⟩ : ∃ TR, textR ⟨q1, q2, q3⟩ = TR := ⟨_, rfl⟩
  rw [hTR] at K4 HT
  have hg3 : w.heap.size < w3.heap.size := P3.out.inside
  obtain ⟨g, hg⟩ : ∃ g, w3.heap.size = g := ⟨_, rfl⟩
  rw [hw4]
  rw [hg] at X4 hg3 ⊢
  clear hw4 hTR bb P3 HC B3 hg
  unfold vT vR at K4
  refine K4.mono ?_
  rintro e w5 ⟨rfl, b5⟩
  have B5 := Lib.hid (B4.out.trans (b5.mono B4.out.size))
  have P5 := Lib.hid (P4.out.below b5 P4.out.inside)
  have X5 := Lib.hid (X4.out.below b5 X4.out.inside)
  clear b5 K4 B4 P4 X4
  obtain ⟨d0, d1, d2, f0, f1, f2⟩ := facts3 P5.out
  obtain ⟨c0, c1, c2, _, _, _⟩ := facts3 X5.out
  by_cases hok : okT ⟨q1, q2, q3⟩
  · obtain rfl : TR = (txtN ⟨q1, q2, q3⟩, 0) := by rw [HT.out, if_pos hok]
    by_cases htx : txtN ⟨q1, q2, q3⟩ = l
    · obtain rfl : R = (⟨q1, q2, q3⟩, 0) := by rw [HZ.out, if_pos ⟨hok, htx⟩]
      subst htx
      go_wp2
      have hr := set3 P5.out (.int .i64 q1) (.int .i64 q2) (.int .i64 q3)
      have hb := below3 B5.out (Nat.le_refl w.heap.size) (.int .i64 q1) (.int .i64 q2) (.int .i64 q3)
      refine bodyPost_ret (results_rowR rfl _ _ w.heap.size _ _ rfl hr Tryd.underlying25 infoTile) rfl ?_
      exact ⟨rfl, hb⟩
    · obtain rfl : R = (zT, 5) := by rw [HZ.out, if_neg fun h => htx h.2]
      have hne : (txtN ⟨q1, q2, q3⟩ == l) = false := by rw [beq_eq_false_iff_ne]; exact htx
      generalize txtN ⟨q1, q2, q3⟩ = s at *
      go_wp2
      have hr := set3 P5.out (.int .i64 0) (.int .i64 0) (.int .i64 0)
      have hb := below3 B5.out (Nat.le_refl w.heap.size) (.int .i64 0) (.int .i64 0) (.int .i64 0)
      refine bodyPost_ret (results_rowR rfl _ _ w.heap.size _ _ rfl hr Tryd.underlying25 infoTile) rfl ?_
      exact ⟨rfl, hb⟩
  · obtain rfl : TR = ([], 1) := by rw [HT.out, if_neg hok]
    obtain rfl : R = (zT, 5) := by rw [HZ.out, if_neg fun h => hok h.1]
    go_wp2
    have hr := set3 P5.out (.int .i64 0) (.int .i64 0) (.int .i64 0)
    have hb := below3 B5.out (Nat.le_refl w.heap.size) (.int .i64 0) (.int .i64 0) (.int .i64 0)
    refine bodyPost_ret (results_rowR rfl _ _ w.heap.size _ _ rfl hr Tryd.underlying25 infoTile) rfl ?_
    exact ⟨rfl, hb⟩
end Go.Proofs.YtenacgeahaoglaaDoor.Gd
