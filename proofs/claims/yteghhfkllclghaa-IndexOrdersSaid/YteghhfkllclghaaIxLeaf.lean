/- index: the functions that look at boxes and points alone. -/
import Derived.Test.YteghhfkllclghaaIxKit
import Derived.BigQuiet
import Derived.Deep.CutRange
import Derived.Deep.RegionHeld3
namespace Go.Proofs.Yteghhfkllclghaa.Ix
open Go.RowKit Go.Sort
set_option maxRecDepth 100000 in
set_option maxHeartbeats 400000 in
theorem is_any (x : Int) : Answers Try.prog 44 #[.int .i64 x] (.bool (inB x)) := by
  intro w
  unfold inB
  go_enter Try.func44, Try.ntmps44
  go_wp2
  all_goals
    go_ret
    first
      | (refine ⟨ret_bool (a := false) ?_, Below.refl _ _⟩; rw [Bool.eq_iff_iff]; simp only [Bool.and_eq_true, decide_eq_true_iff, Bool.false_eq_true, false_iff]; omega)
      | (refine ⟨ret_bool ?_, Below.refl _ _⟩; rw [Bool.eq_iff_iff]; simp only [Bool.and_eq_true, decide_eq_true_iff]; omega)
set_option maxRecDepth 100000 in
set_option maxHeartbeats 400000 in
theorem isNear_any (x y : Int) : Answers Try.prog 38 #[vP x y] (.bool (nearP x y)) := by
  intro w
  unfold vP nearP inB
  go_enter Try.func38, Try.ntmps38
  go_wp2
  all_goals
    go_ret
    first
      | (refine ⟨ret_bool (a := false) ?_, alloc1 _ _⟩; rw [Bool.eq_iff_iff]; simp only [Bool.and_eq_true, decide_eq_true_iff, Bool.false_eq_true, false_iff]; omega)
      | (refine ⟨ret_bool ?_, alloc1 _ _⟩; rw [Bool.eq_iff_iff]; simp only [Bool.and_eq_true, decide_eq_true_iff]; omega)
set_option maxRecDepth 100000 in
set_option maxHeartbeats 400000 in
theorem meet_any (p q : Bx) : Answers Try.prog 36 #[vB p, vB q] (.bool (meetB p q)) := by
  intro w
  unfold vB meetB
  go_enter Try.func36, Try.ntmps36
  go_wp2
  all_goals
    go_ret
    first
      | (refine ⟨ret_bool (a := false) ?_, alloc2 _ _ _⟩; rw [Bool.eq_iff_iff]; simp only [Bool.and_eq_true, decide_eq_true_iff, Bool.false_eq_true, false_iff]; omega)
      | (refine ⟨ret_bool ?_, alloc2 _ _ _⟩; rw [Bool.eq_iff_iff]; simp only [Bool.and_eq_true, decide_eq_true_iff]; omega)
set_option maxRecDepth 100000 in
set_option maxHeartbeats 400000 in
theorem refmeet_any (p q : Bx) : Answers Try.prog 25 #[vB p, vB q] (.bool (meetB p q)) := by
  intro w
  unfold vB meetB
  go_enter Try.func25, Try.ntmps25
  go_wp2
  all_goals
    go_ret
    first
      | (refine ⟨ret_bool (a := false) ?_, alloc2 _ _ _⟩; rw [Bool.eq_iff_iff]; simp only [Bool.and_eq_true, decide_eq_true_iff, Bool.false_eq_true, false_iff]; omega)
      | (refine ⟨ret_bool ?_, alloc2 _ _ _⟩; rw [Bool.eq_iff_iff]; simp only [Bool.and_eq_true, decide_eq_true_iff]; omega)
set_option maxRecDepth 100000 in
set_option maxHeartbeats 400000 in
theorem refPoint_any (x y : Int) : Answers Try.prog 27 #[vP x y] (.bool (nearP x y)) := by
  intro w
  unfold vP nearP
  obtain ⟨p, hp⟩ : ∃ p, inB x = p := ⟨_, rfl⟩
  obtain ⟨q, hq⟩ : ∃ q, inB y = q := ⟨_, rfl⟩
  have k1 := fun W => (is_any x).to (congrArg Value.bool hp) W
  have k2 := fun W => (is_any y).to (congrArg Value.bool hq) W
  rw [hp, hq]
  clear hp hq
  go_enter Try.func27, Try.ntmps27
  go_wp2_with fail
  obtain ⟨W, hW⟩ : ∃ W, w.alloc (.cells #[.int .i64 x, .int .i64 y] 24) = W := ⟨_, rfl⟩
  have HB := Lib.hid (show Below w.heap.size w W from hW ▸ alloc1 _ _)
  have R := Lib.hid (show IsRow W w.heap.size 24 #[.int .i64 x, .int .i64 y] from hW ▸ IsRow.made _ _ _)
  rw [hW]
  clear hW
  refine (k1 _).mono ?_
  rintro e w1 ⟨rfl, b1⟩
  have B1 := Lib.hid (HB.out.trans (b1.mono HB.out.size))
  have R1 := Lib.hid (R.out.below b1 R.out.inside)
  have y1 := R1.out.get 1
  clear b1 HB R k1
  cases p with
  | false =>
    go_wp2
    go_ret
    exact ⟨rfl, B1.out⟩
  | true =>
    go_wp2_with fail
    refine (k2 _).mono ?_
    rintro e w2 ⟨rfl, b2⟩
    have B2 := Lib.hid (B1.out.trans (b2.mono B1.out.size))
    clear b2 B1 R1
    go_wp2
    go_ret
    exact ⟨rfl, B2.out⟩
theorem box_row (w : World) (t : TypeId) (b : Bx) : ∃ W, w.alloc (.cells (cB b) t) = W ∧ Below w.heap.size w W ∧ IsRow W w.heap.size t (cB b) := ⟨_, rfl, alloc1 _ _, IsRow.made _ _ _⟩
set_option maxRecDepth 100000 in
set_option maxHeartbeats 1000000 in
theorem refValid_any (b : Bx) : Answers Try.prog 24 #[vB b] (.bool (validB b)) := by
  intro w
  obtain ⟨V, hV⟩ : ∃ V, validB b = V := ⟨_, rfl⟩
  obtain ⟨p, hp⟩ : ∃ p, nearP b.a b.b = p := ⟨_, rfl⟩
  obtain ⟨q, hq⟩ : ∃ q, nearP b.c b.d = q := ⟨_, rfl⟩
  have HE := Lib.hid (show (p && q && decide (b.a ≤ b.c) && decide (b.b ≤ b.d)) = V by rw [← hV, ← hp, ← hq]; unfold validB nearP; simp only [Bool.and_assoc])
  have k1 := fun W => (refPoint_any b.a b.b).to (congrArg Value.bool hp) W
  have k2 := fun W => (refPoint_any b.c b.d).to (congrArg Value.bool hq) W
  rw [hV]
  clear hp hq hV
  obtain ⟨W, hW, hB, hR⟩ := box_row w 26 b
  have HW := Lib.hid hW
  have HB := Lib.hid hB
  have R := Lib.hid hR
  clear hW hB hR
  unfold cB at HW R
  unfold vP at k1 k2
  unfold vB
  obtain ⟨ba, bb, bc, bd⟩ := b
  dsimp only at *
  go_enter Try.func24, Try.ntmps24
  go_wp2_with fail
  rw [HW.out]
  refine (k1 _).mono ?_
  rintro e w1 ⟨rfl, b1⟩
  have B1 := Lib.hid (HB.out.trans (b1.mono HB.out.size))
  have R1 := Lib.hid (R.out.below b1 R.out.inside)
  have y2 := R1.out.get 2
  have y3 := R1.out.get 3
  clear b1 HB R k1 HW
  cases p with
  | false =>
    go_wp2
    go_ret
    exact ⟨ret_bool (by rw [← HE.out]; rfl), B1.out⟩
  | true =>
    go_wp2_with fail
    refine (k2 _).mono ?_
    rintro e w2 ⟨rfl, b2⟩
    have B2 := Lib.hid (B1.out.trans (b2.mono B1.out.size))
    have R2 := Lib.hid (R1.out.below b2 R1.out.inside)
    have z0 := R2.out.get 0
    have z1 := R2.out.get 1
    have z2 := R2.out.get 2
    have z3 := R2.out.get 3
    clear b2 B1 R1 k2 y2 y3
    cases q with
    | false =>
      go_wp2
      go_ret
      exact ⟨ret_bool (by rw [← HE.out]; rfl), B2.out⟩
    | true =>
      go_wp2
      all_goals
        go_ret
        first
          | (refine ⟨ret_bool (a := false) ?_, B2.out⟩; rw [← HE.out, Bool.eq_iff_iff]; simp only [Bool.and_eq_true, decide_eq_true_iff, Bool.false_eq_true, false_iff, true_and]; omega)
          | (refine ⟨ret_bool ?_, B2.out⟩; rw [← HE.out, Bool.eq_iff_iff]; simp only [Bool.and_eq_true, decide_eq_true_iff, true_and]; omega)
set_option maxRecDepth 100000 in
set_option maxHeartbeats 1000000 in
theorem isValid_any (b : Bx) : Answers Try.prog 34 #[vB b] (.bool (validB b)) := by
  intro w
  obtain ⟨V, hV⟩ : ∃ V, validB b = V := ⟨_, rfl⟩
  obtain ⟨p, hp⟩ : ∃ p, nearP b.a b.b = p := ⟨_, rfl⟩
  obtain ⟨q, hq⟩ : ∃ q, nearP b.c b.d = q := ⟨_, rfl⟩
  have HE := Lib.hid (show (p && q && decide (b.a ≤ b.c) && decide (b.b ≤ b.d)) = V by rw [← hV, ← hp, ← hq]; unfold validB nearP; simp only [Bool.and_assoc])
  have k1 := fun W => (isNear_any b.a b.b).to (congrArg Value.bool hp) W
  have k2 := fun W => (isNear_any b.c b.d).to (congrArg Value.bool hq) W
  rw [hV]
  clear hp hq hV
  obtain ⟨W, hW, hB, hR⟩ := box_row w 26 b
  have HW := Lib.hid hW
  have HB := Lib.hid hB
  have R := Lib.hid hR
  clear hW hB hR
  unfold cB at HW R
  unfold vP at k1 k2
  unfold vB
  obtain ⟨ba, bb, bc, bd⟩ := b
  dsimp only at *
  go_enter Try.func34, Try.ntmps34
  go_wp2_with fail
  rw [HW.out]
  refine (k1 _).mono ?_
  rintro e w1 ⟨rfl, b1⟩
  have B1 := Lib.hid (HB.out.trans (b1.mono HB.out.size))
  have R1 := Lib.hid (R.out.below b1 R.out.inside)
  have y2 := R1.out.get 2
  have y3 := R1.out.get 3
  clear b1 HB R k1 HW
  cases p with
  | false =>
    go_wp2
    go_ret
    exact ⟨ret_bool (by rw [← HE.out]; rfl), B1.out⟩
  | true =>
    go_wp2_with fail
    refine (k2 _).mono ?_
    rintro e w2 ⟨rfl, b2⟩
    have B2 := Lib.hid (B1.out.trans (b2.mono B1.out.size))
    have R2 := Lib.hid (R1.out.below b2 R1.out.inside)
    have z0 := R2.out.get 0
    have z1 := R2.out.get 1
    have z2 := R2.out.get 2
    have z3 := R2.out.get 3
    clear b2 B1 R1 k2 y2 y3
    cases q with
    | false =>
      go_wp2
      go_ret
      exact ⟨ret_bool (by rw [← HE.out]; rfl), B2.out⟩
    | true =>
      go_wp2
      all_goals
        go_ret
        first
          | (refine ⟨ret_bool (a := false) ?_, B2.out⟩; rw [← HE.out, Bool.eq_iff_iff]; simp only [Bool.and_eq_true, decide_eq_true_iff, Bool.false_eq_true, false_iff, true_and]; omega)
          | (refine ⟨ret_bool ?_, B2.out⟩; rw [← HE.out, Bool.eq_iff_iff]; simp only [Bool.and_eq_true, decide_eq_true_iff, true_and]; omega)
theorem boxpt_made (w : World) (t1 t2 : TypeId) (b : Bx) (x y : Int) : ∃ W, (w.alloc (.cells #[.int .i64 b.a, .int .i64 b.b, .int .i64 b.c, .int .i64 b.d] t1)).alloc (.cells #[.int .i64 x, .int .i64 y] t2) = W ∧ Below w.heap.size w W ∧
    IsRow W w.heap.size t1 #[.int .i64 b.a, .int .i64 b.b, .int .i64 b.c, .int .i64 b.d] ∧ IsRow W (w.heap.size + 1) t2 #[.int .i64 x, .int .i64 y] := by
  refine ⟨_, rfl, alloc2 w _ _, (IsRow.made w t1 _).later _, ?_⟩
  have h2 := IsRow.made (w.alloc (.cells #[.int .i64 b.a, .int .i64 b.b, .int .i64 b.c, .int .i64 b.d] t1)) t2 #[.int .i64 x, .int .i64 y]
  rw [World.size_alloc] at h2
  exact h2
theorem off_sq {lo hi x : Int} (h1 : -2097152 ≤ lo) (h2 : lo ≤ hi) (h3 : hi ≤ 2097152) (h4 : -2097152 ≤ x) (h5 : x ≤ 2097152) : 0 ≤ offN lo hi x ∧ offN lo hi x ≤ 4194304 := by unfold offN; omega
theorem sq_wrap {b : Bx} {x y : Int} (hv : validB b = true) (hn : nearP x y = true) : (wrap64 (b.a - x) = b.a - x ∧ wrap64 (x - b.c) = x - b.c ∧ wrap64 (b.b - y) = b.b - y ∧ wrap64 (y - b.d) = y - b.d) ∧
    wrap64 (wrap64 (offN b.a b.c x * offN b.a b.c x) + wrap64 (offN b.b b.d y * offN b.b b.d y)) = sqN b x y := by
  rw [valid_iff] at hv
  unfold nearP inB at hn
  simp only [Bool.and_eq_true, decide_eq_true_iff] at hn
  obtain ⟨⟨a1, a2, a3⟩, ⟨b1, b2, b3⟩⟩ := hv
  obtain ⟨⟨x1, x2⟩, ⟨y1, y2⟩⟩ := hn
  have o1 := off_sq a1 a2 a3 x1 x2
  have o2 := off_sq b1 b2 b3 y1 y2
  refine ⟨?_, ?_⟩
  · unfold wrap64; omega
  · have m1 := Int.mul_nonneg o1.1 o1.1
    have m2 := Int.mul_nonneg o2.1 o2.1
    have m3 := Int.mul_le_mul o1.2 o1.2 o1.1 (by decide)
    have m4 := Int.mul_le_mul o2.2 o2.2 o2.1 (by decide)
    unfold sqN
    generalize offN b.a b.c x * offN b.a b.c x = X at *
    generalize offN b.b b.d y * offN b.b b.d y = Y at *
    unfold wrap64
    omega
set_option maxRecDepth 100000 in
set_option maxHeartbeats 1000000 in
theorem square_any {b : Bx} {x y : Int} (hv : validB b = true) (hn : nearP x y = true) : Answers Try.prog 41 #[vB b, vP x y] (.int .i64 (sqN b x y)) := by
  intro w
  obtain ⟨⟨w1, w2, w3, w4⟩, w5⟩ := sq_wrap hv hn
  have W5 := Lib.hid w5
  obtain ⟨U, hU⟩ : ∃ U, offN b.a b.c x = U := ⟨_, rfl⟩
  obtain ⟨V, hV⟩ : ∃ V, offN b.b b.d y = V := ⟨_, rfl⟩
  have hm1 : ∀ ts t w, (Builtin.max_ ts t #[.int .i64 (b.a - x), .int .i64 (x - b.c), .int .i64 0]).run Try.prog w = .ok (.int .i64 U) w := fun ts t w => by
    rw [run_max_int3]; congr 2; unfold offN at hU; omega
  have hm2 : ∀ ts t w, (Builtin.max_ ts t #[.int .i64 (b.b - y), .int .i64 (y - b.d), .int .i64 0]).run Try.prog w = .ok (.int .i64 V) w := fun ts t w => by
    rw [run_max_int3]; congr 2; unfold offN at hV; omega
  rw [hU, hV] at W5
  clear hU hV w5 hv hn
  unfold vB vP
  go_enter Try.func41, Try.ntmps41
  go_wp2
  go_ret
  exact ⟨ret_int W5.out, alloc2 _ _ _⟩
set_option maxRecDepth 100000 in
set_option maxHeartbeats 1000000 in
theorem refDistance_any {b : Bx} {x y : Int} (hv : validB b = true) (hn : nearP x y = true) : Answers Try.prog 28 #[vB b, vP x y] (.int .i64 (sqN b x y)) := by
  intro w
  obtain ⟨⟨w1, w2, w3, w4⟩, w5⟩ := sq_wrap hv hn
  have W5 := Lib.hid w5
  obtain ⟨U, hU⟩ : ∃ U, offN b.a b.c x = U := ⟨_, rfl⟩
  obtain ⟨V, hV⟩ : ∃ V, offN b.b b.d y = V := ⟨_, rfl⟩
  have hm1 : ∀ ts t w, (Builtin.max_ ts t #[.int .i64 (b.a - x), .int .i64 (x - b.c), .int .i64 0]).run Try.prog w = .ok (.int .i64 U) w := fun ts t w => by
    rw [run_max_int3]; congr 2; unfold offN at hU; omega
  have hm2 : ∀ ts t w, (Builtin.max_ ts t #[.int .i64 (b.b - y), .int .i64 (y - b.d), .int .i64 0]).run Try.prog w = .ok (.int .i64 V) w := fun ts t w => by
    rw [run_max_int3]; congr 2; unfold offN at hV; omega
  rw [hU, hV] at W5
  clear hU hV w5 hv hn
  unfold vB vP
  go_enter Try.func28, Try.ntmps28
  go_wp2
  go_ret
  exact ⟨ret_int W5.out, alloc2 _ _ _⟩
theorem infoBox : (Try.prog.info? 26).map (·.size) = some 4 := by kernel_rfl
theorem infoFour : (Try.prog.info? 119).map (·.size) = some 4 := by kernel_rfl
theorem row_facts {w : World} {g : Nat} {t : TypeId} {a b c d : Value} (h : IsRow w g t #[a, b, c, d]) :
    w.cell? ⟨g, 0, none⟩ = some a ∧ w.cell? ⟨g, 1, none⟩ = some b ∧ w.cell? ⟨g, 2, none⟩ = some c ∧ w.cell? ⟨g, 3, none⟩ = some d ∧
    w.frozen? ⟨g, 0, none⟩ = false ∧ w.frozen? ⟨g, 1, none⟩ = false ∧ w.frozen? ⟨g, 2, none⟩ = false ∧ w.frozen? ⟨g, 3, none⟩ = false :=
  ⟨h.get 0, h.get 1, h.get 2, h.get 3, h.open_ 0, h.open_ 1, h.open_ 2, h.open_ 3⟩
theorem set4 {w : World} {g : Nat} {t : TypeId} {a b c d : Value} (h : IsRow w g t #[a, b, c, d]) (a' b' c' d' : Value) :
    IsRow ((((w.setCell ⟨g, 0, none⟩ a').setCell ⟨g, 1, none⟩ b').setCell ⟨g, 2, none⟩ c').setCell ⟨g, 3, none⟩ d') g t #[a', b', c', d'] := by
  have := (((h.put 0 a').put 1 b').put 2 c').put 3 d'
  simpa using this
theorem below4 {w w' : World} {B g : Nat} (h : Below B w w') (hg : B ≤ g) (a b c d : Value) :
    Below B w ((((w'.setCell ⟨g, 0, none⟩ a).setCell ⟨g, 1, none⟩ b).setCell ⟨g, 2, none⟩ c).setCell ⟨g, 3, none⟩ d) :=
  (((h.setCell (p := ⟨g, 0, none⟩) hg a).setCell (p := ⟨g, 1, none⟩) hg b).setCell (p := ⟨g, 2, none⟩) hg c).setCell (p := ⟨g, 3, none⟩) hg d
theorem three_made (w : World) (t1 t2 t3 : TypeId) (cs ds es : Array Value) : ∃ W, ((w.alloc (.cells cs t1)).alloc (.cells ds t2)).alloc (.cells es t3) = W ∧ Below w.heap.size w W ∧ IsRow W w.heap.size t1 cs ∧ IsRow W (w.heap.size + 1) t2 ds ∧ IsRow W (w.heap.size + 1 + 1) t3 es := by
  refine ⟨_, rfl, alloc3 w _ _ _, ((IsRow.made w t1 _).later _).later _, ?_, ?_⟩
  · have h2 := (IsRow.made (w.alloc (.cells cs t1)) t2 ds).later (.cells es t3)
    rw [World.size_alloc] at h2
    exact h2
  · have h3 := IsRow.made ((w.alloc (.cells cs t1)).alloc (.cells ds t2)) t3 es
    rw [World.size_alloc, World.size_alloc] at h3
    exact h3
set_option maxRecDepth 100000 in
set_option maxHeartbeats 1000000 in
theorem around_any (p q : Bx) : Answers Try.prog 53 #[vB p, vB q] (vB (hull p q)) := by
  intro w
  have hm1 : ∀ ts t w, (Builtin.min_ ts t #[.int .i64 p.a, .int .i64 q.a]).run Try.prog w = .ok (.int .i64 (min p.a q.a)) w := fun ts t w => by rw [run_min_int2]; congr 2; omega
  have hm2 : ∀ ts t w, (Builtin.min_ ts t #[.int .i64 p.b, .int .i64 q.b]).run Try.prog w = .ok (.int .i64 (min p.b q.b)) w := fun ts t w => by rw [run_min_int2]; congr 2; omega
  have hm3 : ∀ ts t w, (Builtin.max_ ts t #[.int .i64 p.c, .int .i64 q.c]).run Try.prog w = .ok (.int .i64 (max p.c q.c)) w := fun ts t w => by rw [run_max_int2]; congr 2; omega
  have hm4 : ∀ ts t w, (Builtin.max_ ts t #[.int .i64 p.d, .int .i64 q.d]).run Try.prog w = .ok (.int .i64 (max p.d q.d)) w := fun ts t w => by rw [run_max_int2]; congr 2; omega
  unfold hull vB
  dsimp only
  generalize min p.a q.a = m1 at *
  generalize min p.b q.b = m2 at *
  generalize max p.c q.c = m3 at *
  generalize max p.d q.d = m4 at *
  obtain ⟨W, hW, hB, r0, r1, r2⟩ := three_made w 26 26 26 #[.int .i64 p.a, .int .i64 p.b, .int .i64 p.c, .int .i64 p.d] #[.int .i64 q.a, .int .i64 q.b, .int .i64 q.c, .int .i64 q.d] #[.int .i64 0, .int .i64 0, .int .i64 0, .int .i64 0]
  have HW := Lib.hid hW
  have HB := Lib.hid hB
  have R2 := Lib.hid r2
  obtain ⟨a0, a1, a2, a3, _, _, _, _⟩ := row_facts r0
  obtain ⟨b0, b1, b2, b3, _, _, _, _⟩ := row_facts r1
  obtain ⟨d0, d1, d2, d3, f0, f1, f2, f3⟩ := row_facts r2
  clear hW hB r0 r1 r2
  go_enter Try.func53, Try.ntmps53
  go_upto_region 1 with fail
  rw [HW.out]
  go_wp2
  have hr := set4 R2.out (.int .i64 m1) (.int .i64 m2) (.int .i64 m3) (.int .i64 m4)
  have hb := below4 HB.out (show w.heap.size ≤ w.heap.size + 1 + 1 by omega) (.int .i64 m1) (.int .i64 m2) (.int .i64 m3) (.int .i64 m4)
  refine bodyPost_ret (results_cell_row rfl _ _ (w.heap.size + 1 + 1) _ _ (0, 0) _ rfl hr Try.underlying26 rfl infoBox) rfl ?_
  exact ⟨by simp, hb⟩
theorem two_made (w : World) (t1 t2 : TypeId) (cs ds : Array Value) : ∃ W, (w.alloc (.cells cs t1)).alloc (.cells ds t2) = W ∧ Below w.heap.size w W ∧ IsRow W w.heap.size t1 cs ∧ IsRow W (w.heap.size + 1) t2 ds := by
  refine ⟨_, rfl, alloc2 w _ _, (IsRow.made w t1 _).later _, ?_⟩
  have h2 := IsRow.made (w.alloc (.cells cs t1)) t2 ds
  rw [World.size_alloc] at h2
  exact h2
theorem cN_int {x : Int} (h1 : -2097152 ≤ x) (h2 : x ≤ 2097152) : IntKind.u32.wrap (wrap64 (x + 2097152)) = (((x + 2097152).toNat : Nat) : Int) := by
  have e : wrap64 (x + 2097152) = x + 2097152 := by unfold wrap64; omega
  rw [e]
  have : IntKind.u32.wrap (x + 2097152) = x + 2097152 := IntWalk.u32_in _ (by omega)
  rw [this]
  omega
/-- the coordinates as numbers that are not negative. -/
def v4 (b : Bx) : Value := .agg #[.int .u32 (cN b 0), .int .u32 (cN b 1), .int .u32 (cN b 2), .int .u32 (cN b 3)]
set_option maxRecDepth 100000 in
set_option maxHeartbeats 1000000 in
theorem coordinates_any {b : Bx} (hv : validB b = true) : Answers Try.prog 66 #[vB b] (v4 b) := by
  intro w
  rw [valid_iff] at hv
  obtain ⟨⟨h1, h2, h3⟩, ⟨h4, h5, h6⟩⟩ := hv
  have e0 := cN_int (x := b.a) (by omega) (by omega)
  have e1 := cN_int (x := b.b) (by omega) (by omega)
  have e2 := cN_int (x := b.c) (by omega) (by omega)
  have e3 := cN_int (x := b.d) (by omega) (by omega)
  clear h1 h2 h3 h4 h5 h6
  have g0 : cN b 0 = (b.a + 2097152).toNat := rfl
  have g1 : cN b 1 = (b.b + 2097152).toNat := rfl
  have g2 : cN b 2 = (b.c + 2097152).toNat := rfl
  have g3 : cN b 3 = (b.d + 2097152).toNat := rfl
  unfold v4 vB
  rw [g0, g1, g2, g3]
  clear g0 g1 g2 g3
  generalize (b.a + 2097152).toNat = n0 at *
  generalize (b.b + 2097152).toNat = n1 at *
  generalize (b.c + 2097152).toNat = n2 at *
  generalize (b.d + 2097152).toNat = n3 at *
  obtain ⟨W, hW, hB, r0, r1⟩ := two_made w 26 119 #[.int .i64 b.a, .int .i64 b.b, .int .i64 b.c, .int .i64 b.d] #[.int .u32 0, .int .u32 0, .int .u32 0, .int .u32 0]
  have HW := Lib.hid hW
  have HB := Lib.hid hB
  have R2 := Lib.hid r1
  obtain ⟨a0, a1, a2, a3, _, _, _, _⟩ := row_facts r0
  obtain ⟨d0, d1, d2, d3, f0, f1, f2, f3⟩ := row_facts r1
  clear hW hB r0 r1
  go_enter Try.func66, Try.ntmps66
  go_upto_region 1 with fail
  rw [HW.out]
  go_wp2
  have hr := set4 R2.out (.int .u32 n0) (.int .u32 n1) (.int .u32 n2) (.int .u32 n3)
  have hb := below4 HB.out (show w.heap.size ≤ w.heap.size + 1 by omega) (.int .u32 n0) (.int .u32 n1) (.int .u32 n2) (.int .u32 n3)
  refine bodyPost_ret (results_cell_row rfl _ _ (w.heap.size + 1) _ _ (0, 0) _ rfl hr Try.underlying119 rfl infoFour) rfl ?_
  exact ⟨by simp, hb⟩
end Go.Proofs.Yteghhfkllclghaa.Ix
