/- sweep.boxOf. -/
import Derived.Test.YtlgmlgogpohgoaaSwLeaf
namespace Go.Proofs.Ytlgmlgogpohgoaa.Sw
open Go.RowKit Go.Sort
open Go.Proofs.Ytlgmlgogpohgoaa.Geo hiding intOf
theorem infoBox : (Try.prog.info? 83).map (·.size) = some 4 := by kernel_rfl
set_option maxRecDepth 100000 in
set_option maxHeartbeats 1000000 in
theorem boxOf_any (s : Sg) (i : Nat) : Answers Try.prog 82 #[.agg (encG s).toArray] (.agg #[.int .i64 (entS i s).lo.x, .int .i64 (entS i s).lo.y, .int .i64 (entS i s).hi.x, .int .i64 (entS i s).hi.y]) := by
  intro w
  unfold encG entS
  dsimp only
  obtain ⟨⟨ax, ay⟩, ⟨bx, bY⟩⟩ := s
  dsimp only
  obtain ⟨x0, hx0⟩ : ∃ x, min ax bx = x := ⟨_, rfl⟩
  obtain ⟨x1, hx1⟩ : ∃ x, max ax bx = x := ⟨_, rfl⟩
  obtain ⟨y0, hy0⟩ : ∃ x, min ay bY = x := ⟨_, rfl⟩
  obtain ⟨y1, hy1⟩ : ∃ x, max ay bY = x := ⟨_, rfl⟩
  have c1 := fun W => bounds_any ax bx W
  have c2 := fun W => bounds_any ay bY W
  rw [hx0, hx1] at c1
  rw [hy0, hy1] at c2
  rw [hx0, hx1, hy0, hy1]
  clear hx0 hx1 hy0 hy1
  go_enter Try.func82, Try.ntmps82
  go_upto_region 2 with fail
  obtain ⟨W, hW⟩ : ∃ W, ((w.alloc (.cells #[.int .i64 ax, .int .i64 ay, .int .i64 bx, .int .i64 bY] 36)).alloc (.cells #[.int .i64 0, .int .i64 0, .int .i64 0, .int .i64 0] 83)).alloc (.cells #[.int .i64 0, .int .i64 0, .int .i64 0, .int .i64 0] 83) = W := ⟨_, rfl⟩
  have b0 : Below w.heap.size w W := hW ▸ (alloc2 _ _ _).trans ((alloc1 _ _).mono (by simp; omega))
  have r0 : IsRow W w.heap.size 36 #[.int .i64 ax, .int .i64 ay, .int .i64 bx, .int .i64 bY] := hW ▸ ((IsRow.made _ _ _).later _).later _
  have r1 : IsRow W (w.heap.size + 1) 83 #[.int .i64 0, .int .i64 0, .int .i64 0, .int .i64 0] := by
    have := (IsRow.made (w.alloc (.cells #[.int .i64 ax, .int .i64 ay, .int .i64 bx, .int .i64 bY] 36)) 83 #[.int .i64 0, .int .i64 0, .int .i64 0, .int .i64 0]).later (.cells #[.int .i64 0, .int .i64 0, .int .i64 0, .int .i64 0] 83)
    rw [World.size_alloc] at this
    exact hW ▸ this
  have r2 : IsRow W (w.heap.size + 1 + 1) 83 #[.int .i64 0, .int .i64 0, .int .i64 0, .int .i64 0] := by
    have := IsRow.made ((w.alloc (.cells #[.int .i64 ax, .int .i64 ay, .int .i64 bx, .int .i64 bY] 36)).alloc (.cells #[.int .i64 0, .int .i64 0, .int .i64 0, .int .i64 0] 83)) 83 #[.int .i64 0, .int .i64 0, .int .i64 0, .int .i64 0]
    rw [World.size_alloc, World.size_alloc] at this
    exact hW ▸ this
  rw [hW]
  clear hW
  have H0 := Lib.hid r0
  have H1 := Lib.hid r1
  have H2 := Lib.hid r2
  have HB := Lib.hid b0
  obtain ⟨a0, a1, a2, a3, e0, e1, e2, e3⟩ := row_facts r0
  obtain ⟨d0, d1, d2, d3, f0, f1, f2, f3⟩ := row_facts r2
  clear r0 r1 r2 b0 e0 e1 e2 e3
  go_upto_region 3 with (refine (c1 _).mono ?_; rintro e w1 ⟨rfl, rfl⟩)
  have K0 := Lib.hid ((H0.out.putOther (p := ⟨w.heap.size + 1 + 1, 0, none⟩) (by show w.heap.size ≠ w.heap.size + 1 + 1; omega) (.int .i64 x0)).putOther (p := ⟨w.heap.size + 1 + 1, 2, none⟩) (by show w.heap.size ≠ w.heap.size + 1 + 1; omega) (.int .i64 x1))
  have K1 := Lib.hid ((H1.out.putOther (p := ⟨w.heap.size + 1 + 1, 0, none⟩) (by show w.heap.size + 1 ≠ w.heap.size + 1 + 1; omega) (.int .i64 x0)).putOther (p := ⟨w.heap.size + 1 + 1, 2, none⟩) (by show w.heap.size + 1 ≠ w.heap.size + 1 + 1; omega) (.int .i64 x1))
  have K2 := Lib.hid ((H2.out.put 0 (.int .i64 x0)).put 2 (.int .i64 x1))
  have KB := Lib.hid ((HB.out.setCell (p := ⟨w.heap.size + 1 + 1, 0, none⟩) (by show w.heap.size ≤ w.heap.size + 1 + 1; omega) (.int .i64 x0)).setCell (p := ⟨w.heap.size + 1 + 1, 2, none⟩) (by show w.heap.size ≤ w.heap.size + 1 + 1; omega) (.int .i64 x1))
  obtain ⟨W1, hW1⟩ : ∃ W1, (W.setCell ⟨w.heap.size + 1 + 1, 0, none⟩ (.int .i64 x0)).setCell ⟨w.heap.size + 1 + 1, 2, none⟩ (.int .i64 x1) = W1 := ⟨_, rfl⟩
  rw [hW1] at K0 K1 K2 KB ⊢
  clear hW1 H0 H1 H2 HB a0 a1 a2 a3 d0 d1 d2 d3 f0 f1 f2 f3
  obtain ⟨a0, a1, a2, a3, e0, e1, e2, e3⟩ := row_facts K0.out
  obtain ⟨d0, d1, d2, d3, f0, f1, f2, f3⟩ := row_facts K2.out
  clear e0 e1 e2 e3
  go_upto_region 4 with (refine (c2 _).mono ?_; rintro e w1 ⟨rfl, rfl⟩)
  have J1 := Lib.hid ((K1.out.putOther (p := ⟨w.heap.size + 1 + 1, 1, none⟩) (by show w.heap.size + 1 ≠ w.heap.size + 1 + 1; omega) (.int .i64 y0)).putOther (p := ⟨w.heap.size + 1 + 1, 3, none⟩) (by show w.heap.size + 1 ≠ w.heap.size + 1 + 1; omega) (.int .i64 y1))
  have J2 := Lib.hid ((K2.out.put 1 (.int .i64 y0)).put 3 (.int .i64 y1))
  have JB := Lib.hid ((KB.out.setCell (p := ⟨w.heap.size + 1 + 1, 1, none⟩) (by show w.heap.size ≤ w.heap.size + 1 + 1; omega) (.int .i64 y0)).setCell (p := ⟨w.heap.size + 1 + 1, 3, none⟩) (by show w.heap.size ≤ w.heap.size + 1 + 1; omega) (.int .i64 y1))
  obtain ⟨W2, hW2⟩ : ∃ W2, (W1.setCell ⟨w.heap.size + 1 + 1, 1, none⟩ (.int .i64 y0)).setCell ⟨w.heap.size + 1 + 1, 3, none⟩ (.int .i64 y1) = W2 := ⟨_, rfl⟩
  rw [hW2] at J1 J2 JB ⊢
  clear hW2 K0 K1 K2 KB a0 a1 a2 a3 d0 d1 d2 d3 f0 f1 f2 f3
  have g2 : IsRow W2 (w.heap.size + 1 + 1) 83 #[.int .i64 x0, .int .i64 y0, .int .i64 x1, .int .i64 y1] := by simpa using J2.out
  obtain ⟨d0, d1, d2, d3, _, _, _, _⟩ := row_facts g2
  obtain ⟨a0, a1, a2, a3, f0, f1, f2, f3⟩ := row_facts J1.out
  clear g2 J2
  go_wp2
  have hr := (((J1.out.put 0 (.int .i64 x0)).put 1 (.int .i64 y0)).put 2 (.int .i64 x1)).put 3 (.int .i64 y1)
  have hb := (((JB.out.setCell (p := ⟨w.heap.size + 1, 0, none⟩) (by show w.heap.size ≤ w.heap.size + 1; omega) (.int .i64 x0)).setCell (p := ⟨w.heap.size + 1, 1, none⟩) (by show w.heap.size ≤ w.heap.size + 1; omega) (.int .i64 y0)).setCell (p := ⟨w.heap.size + 1, 2, none⟩) (by show w.heap.size ≤ w.heap.size + 1; omega) (.int .i64 x1)).setCell (p := ⟨w.heap.size + 1, 3, none⟩) (by show w.heap.size ≤ w.heap.size + 1; omega) (.int .i64 y1)
  refine bodyPost_ret (results_cell_row rfl _ _ (w.heap.size + 1) _ _ (0, 0) _ rfl hr Try.underlying83 rfl infoBox) rfl ?_
  exact ⟨by simp, hb⟩
end Go.Proofs.Ytlgmlgogpohgoaa.Sw
