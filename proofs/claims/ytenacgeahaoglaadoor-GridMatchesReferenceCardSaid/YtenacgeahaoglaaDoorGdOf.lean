/- grid: Of, Box, Up, Pixel. -/
import Derived.Test.YtenacgeahaoglaaDoorGdLeaf2
import Derived.Laws.ResultCell
namespace Go.Proofs.YtenacgeahaoglaaDoor.Gd
open Go.RowKit Go.Sort
theorem results_rowR {fn : Func} {p u : Tmp} {ty : TypeId} (h : fn.results = #[.cell p ty, .tmp u]) (tmps : Array Value) (w : World) (g : Nat) (t : TypeId) (cs : Array Value) {fs : Array Field} (hp : tmps.getD p undef = .pointer (some ⟨g, 0, none⟩)) (hr : IsRow w g t cs)
    (hu : Tryd.prog.underlying ty = some (.struct fs)) (hi : (Tryd.prog.info? ty).map (·.size) = some cs.size) :
    (results fn tmps).run Tryd.prog w = .ok (.tuple #[.agg cs, tmps.getD u undef]) w := by
  rw [results_cell_tmp h, hp]
  have hl := run_loadVar_row (P := Tryd.prog) w g t ty cs (0, 0) _ hr hu rfl hi
  simp [asAddr, hl, Result.andThen]
theorem rowB (w : World) (t : TypeId) (cs : Array Value) {W : World} (h : w.alloc (.cells cs t) = W) : Hid (Below w.heap.size w W) ∧ Hid (IsRow W w.heap.size t cs) := by
  subst h; exact ⟨alloc1 _ _, IsRow.made _ _ _⟩
set_option maxRecDepth 100000 in
set_option maxHeartbeats 1000000 in
theorem of_any (p : Pn) (z : Int) : AnsS Tryd.prog 10 #[vP p, .int .i64 z] (vR (vT (ofR p z).1) (ofR p z).2) := by
  intro w hS
  obtain ⟨V, hV⟩ : ∃ V, decide (isZ z) = V := ⟨_, rfl⟩
  obtain ⟨U, hU⟩ : ∃ U, decide (okP p) = U := ⟨_, rfl⟩
  have K1 := fun W => (isZoom_any z).to (congrArg Value.bool hV) W
  have K2 := fun W => (isOfGrid_any p).to (congrArg Value.bool hU) W
  obtain ⟨R, hR⟩ : ∃ R, ofR p z = R := ⟨_, rfl⟩
  have HR := Lib.hid hR
  rw [hR]
  obtain ⟨W, hW, hB, hP, hQ⟩ := two_made w 23 25 #[.int .i64 p.x, .int .i64 p.y] #[.int .i64 0, .int .i64 0, .int .i64 0]
  have HB := Lib.hid hB
  have HP := Lib.hid hP
  have HQ := Lib.hid hQ
  have HS := Lib.hid (hS.below HB.out (Nat.le_refl _))
  have HW := Lib.hid hW
  have HV := Lib.hid hV
  have HU := Lib.hid hU
  clear hW hV hU hR hB hP hQ hS
  unfold vP vR vT at *
  go_enter Tryd.func10, Tryd.ntmps10
  go_wp2_with fail
  rw [HW.out]
  refine (K1 _).mono ?_
  rintro e w1 ⟨rfl, b1⟩
  have B1 := Lib.hid (HB.out.trans (b1.mono HB.out.size))
  have P1 := Lib.hid (HP.out.below b1 HP.out.inside)
  have Q1 := Lib.hid (HQ.out.below b1 HQ.out.inside)
  have S1 := Lib.hid (HS.out.below b1 (Nat.le_refl _))
  clear b1 K1 HB HP HQ HW HS
  obtain ⟨d0, d1, d2, f0, f1, f2⟩ := facts3 Q1.out
  obtain ⟨c0, c1, _, _⟩ := facts2 P1.out
  cases V with
  | false =>
    obtain rfl : R = (zT, 1) := by rw [← HR.out]; unfold ofR; rw [if_neg (of_decide_eq_false HV.out)]
    go_wp2
    have hr := set3 Q1.out (.int .i64 0) (.int .i64 0) (.int .i64 0)
    have hb := below3 B1.out (show w.heap.size ≤ w.heap.size + 1 by omega) (.int .i64 0) (.int .i64 0) (.int .i64 0)
    refine bodyPost_ret (results_rowR rfl _ _ (w.heap.size + 1) _ _ rfl hr Tryd.underlying25 infoTile) rfl ?_
    exact ⟨rfl, hb⟩
  | true =>
    go_wp2_with fail
    refine (K2 _).mono ?_
    rintro e w2 ⟨rfl, b2⟩
    have B2 := Lib.hid (B1.out.trans (b2.mono B1.out.size))
    have P2 := Lib.hid (P1.out.below b2 P1.out.inside)
    have Q2 := Lib.hid (Q1.out.below b2 Q1.out.inside)
    have S2 := Lib.hid (S1.out.below b2 (Nat.le_refl _))
    clear b2 K2 B1 P1 Q1 S1 c0 c1 d0 d1 d2 f0 f1 f2
    obtain ⟨d0, d1, d2, f0, f1, f2⟩ := facts3 Q2.out
    obtain ⟨c0, c1, _, _⟩ := facts2 P2.out
    cases U with
    | false =>
      obtain rfl : R = (zT, 10) := by rw [← HR.out]; unfold ofR; rw [if_pos (of_decide_eq_true HV.out), if_neg (of_decide_eq_false HU.out)]
      go_wp2
      have hr := set3 Q2.out (.int .i64 0) (.int .i64 0) (.int .i64 0)
      have hb := below3 B2.out (show w.heap.size ≤ w.heap.size + 1 by omega) (.int .i64 0) (.int .i64 0) (.int .i64 0)
      refine bodyPost_ret (results_rowR rfl _ _ (w.heap.size + 1) _ _ rfl hr Tryd.underlying25 infoTile) rfl ?_
      exact ⟨rfl, hb⟩
    | true =>
      obtain rfl : R = (ofN p z, 0) := by rw [← HR.out]; unfold ofR; rw [if_pos (of_decide_eq_true HV.out), if_pos (of_decide_eq_true HU.out)]
      have K3 := tileOf_any p z (of_decide_eq_true HU.out) (of_decide_eq_true HV.out) w2 S2.out
      unfold vP vT at K3
      go_wp2_with fail
      refine K3.mono ?_
      rintro e w3 ⟨rfl, b3⟩
      have B3 := Lib.hid (B2.out.trans (b3.mono B2.out.size))
      have Q3 := Lib.hid (Q2.out.below b3 Q2.out.inside)
      clear b3 K3 B2 P2 Q2 S2 c0 c1 d0 d1 d2 f0 f1 f2
      obtain ⟨d0, d1, d2, f0, f1, f2⟩ := facts3 Q3.out
      go_wp2
      have hr := set3 Q3.out (.int .i64 (ofN p z).z) (.int .i64 (ofN p z).x) (.int .i64 (ofN p z).y)
      have hb := below3 B3.out (show w.heap.size ≤ w.heap.size + 1 by omega) (.int .i64 (ofN p z).z) (.int .i64 (ofN p z).x) (.int .i64 (ofN p z).y)
      refine bodyPost_ret (results_rowR rfl _ _ (w.heap.size + 1) _ _ rfl hr Tryd.underlying25 infoTile) rfl ?_
      exact ⟨rfl, hb⟩
end Go.Proofs.YtenacgeahaoglaaDoor.Gd
