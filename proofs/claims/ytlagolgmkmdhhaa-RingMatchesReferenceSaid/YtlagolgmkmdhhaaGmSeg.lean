/- geom's methods of segments: sorted, inLine, endsAt, parts, ends; meetAt. -/
import Derived.Test.YtlagolgmkmdhhaaGmOn
import Derived.Handy
namespace Go.Proofs.Ytlagolgmkmdhhaa.Geo
open Go.RowKit Go.Sort
theorem set4 {w : World} {g : Nat} {t : TypeId} {c0 c1 c2 c3 : Value} (h : IsRow w g t #[c0, c1, c2, c3]) (v0 v1 v2 v3 : Value) :
    IsRow ((((w.setCell ⟨g, 0, none⟩ v0).setCell ⟨g, 1, none⟩ v1).setCell ⟨g, 2, none⟩ v2).setCell ⟨g, 3, none⟩ v3) g t #[v0, v1, v2, v3] := by
  have := (((h.put 0 v0).put 1 v1).put 2 v2).put 3 v3
  simpa using this
theorem set2 {w : World} {g : Nat} {t : TypeId} {c0 c1 : Value} (h : IsRow w g t #[c0, c1]) (v0 v1 : Value) : IsRow ((w.setCell ⟨g, 0, none⟩ v0).setCell ⟨g, 1, none⟩ v1) g t #[v0, v1] := by
  have := (h.put 0 v0).put 1 v1
  simpa using this
theorem below4 {B g : Nat} {a w : World} (h : Below B a w) (hg : B ≤ g) (v0 v1 v2 v3 : Value) :
    Below B a ((((w.setCell ⟨g, 0, none⟩ v0).setCell ⟨g, 1, none⟩ v1).setCell ⟨g, 2, none⟩ v2).setCell ⟨g, 3, none⟩ v3) := (((h.setCell hg _).setCell hg _).setCell hg _).setCell hg _
theorem below2 {B g : Nat} {a w : World} (h : Below B a w) (hg : B ≤ g) (v0 v1 : Value) : Below B a ((w.setCell ⟨g, 0, none⟩ v0).setCell ⟨g, 1, none⟩ v1) := (h.setCell hg _).setCell hg _
theorem infoSeg : (Try.prog.info? 56).map (·.size) = some 4 := by kernel_rfl
theorem infoSegA : (Try.prog.info? 33).map (·.size) = some 4 := by kernel_rfl
theorem infoPt : (Try.prog.info? 24).map (·.size) = some 2 := by kernel_rfl
set_option maxRecDepth 100000 in
set_option maxHeartbeats 1000000 in
theorem sorted_any (a b : Pt) : Answers Try.prog 43 #[.agg #[.int .i64 a.x, .int .i64 a.y, .int .i64 b.x, .int .i64 b.y]]
    (.agg #[.int .i64 (lowN a b).x, .int .i64 (lowN a b).y, .int .i64 (highN a b).x, .int .i64 (highN a b).y]) := by
  intro w
  obtain ⟨W, hW, hB, hA, hI⟩ : ∃ W, (w.alloc (.cells #[.int .i64 a.x, .int .i64 a.y, .int .i64 b.x, .int .i64 b.y] 56)).alloc (.cells #[.int .i64 0, .int .i64 0, .int .i64 0, .int .i64 0] 56) = W ∧
      Below w.heap.size w W ∧ Has2 W w.heap.size a b ∧ IsRow W (w.heap.size + 1) 56 #[.int .i64 0, .int .i64 0, .int .i64 0, .int .i64 0] :=
    ⟨_, rfl, alloc2 _ _ _, (Has2.made w _ a b).alloc _, by simpa using IsRow.made (w.alloc _) 56 #[.int .i64 0, .int .i64 0, .int .i64 0, .int .i64 0]⟩
  have HW := Lib.hid hW
  have HB := Lib.hid hB
  have HI := Lib.hid hI
  clear hW hB hI
  have HA := hA
  obtain ⟨⟨_, a0, a1⟩, b0, b1⟩ := hA
  obtain ⟨l, hl⟩ : ∃ l, lowN a b = l := ⟨_, rfl⟩
  obtain ⟨h, hh⟩ : ∃ h, highN a b = h := ⟨_, rfl⟩
  have HL := Lib.hid hl
  have HH := Lib.hid hh
  rw [hl, hh]
  clear hl hh
  go_enter Try.func43, Try.ntmps43
  go_wp2_with fail
  rw [HW.out]
  refine (compare_any a b _).mono ?_
  rintro e w1 ⟨rfl, hb1⟩
  have HB1 := Lib.hid (HB.out.trans (hb1.mono HB.out.size))
  have A1 := HA.below hb1
  have I1 := Lib.hid (HI.out.below hb1 HI.out.inside)
  clear HA HI hb1 a0 a1 b0 b1
  obtain ⟨⟨_, a0, a1⟩, b0, b1⟩ := A1
  have c0 := I1.out.get 0
  have c1 := I1.out.get 1
  have c2 := I1.out.get 2
  have c3 := I1.out.get 3
  simp at c0 c1 c2 c3
  have f0 := I1.out.open_ 0
  have f1 := I1.out.open_ 1
  have f2 := I1.out.open_ 2
  have f3 := I1.out.open_ 3
  by_cases h1 : 0 < cmpN a b
  · have e1 := Lib.hid (show b = l by rw [← HL.out]; unfold lowN; rw [if_pos h1])
    have e2 := Lib.hid (show a = h by rw [← HH.out]; unfold highN; rw [if_pos h1])
    go_wp2
    refine bodyPost_ret (results_cell_row rfl _ _ (w.heap.size + 1) _ _ (0, 0) _ rfl (set4 I1.out _ _ _ _) Try.underlying56 rfl infoSeg) rfl ?_
    exact ⟨by rw [e1.out, e2.out], below4 HB1.out (by omega) _ _ _ _⟩
  · have e1 := Lib.hid (show a = l by rw [← HL.out]; unfold lowN; rw [if_neg h1])
    have e2 := Lib.hid (show b = h by rw [← HH.out]; unfold highN; rw [if_neg h1])
    go_wp2
    refine bodyPost_ret (results_cell_row rfl _ _ (w.heap.size + 1) _ _ (0, 0) _ rfl (set4 I1.out _ _ _ _) Try.underlying56 rfl infoSeg) rfl ?_
    exact ⟨by rw [e1.out, e2.out], below4 HB1.out (by omega) _ _ _ _⟩
theorem eqP_self (p : Pt) : eqP p p = true := eqP_iff.2 rfl
theorem eqP_x {p q : Pt} (h : p.x ≠ q.x) : eqP p q = false := by unfold eqP; rw [decide_eq_false_iff_not]; exact fun g => h g.1
theorem eqP_y {p q : Pt} (h : p.y ≠ q.y) : eqP p q = false := by unfold eqP; rw [decide_eq_false_iff_not]; exact fun g => h g.2
theorem cases3 (p q : Pt) : p = q ∨ (eqP p q = false ∧ (p.x == q.x) = false) ∨ (eqP p q = false ∧ p.x = q.x ∧ (p.y == q.y) = false) := by
  by_cases h1 : p.x = q.x
  · by_cases h2 : p.y = q.y
    · exact .inl (Pt.ext' h1 h2)
    · exact .inr (.inr ⟨eqP_y h2, h1, by simpa using h2⟩)
  · exact .inr (.inl ⟨eqP_x h1, by simpa using h1⟩)
set_option maxRecDepth 100000 in
set_option maxHeartbeats 1000000 in
theorem endsAt_any (a b p : Pt) : Answers Try.prog 86 #[.agg #[.int .i64 a.x, .int .i64 a.y, .int .i64 b.x, .int .i64 b.y], .agg #[.int .i64 p.x, .int .i64 p.y]] (.bool (eqP p a || eqP p b)) := by
  intro w
  go_enter Try.func86, Try.ntmps86
  have tail : ∀ q : Pt, eqP q q = true := eqP_self
  rcases cases3 p a with rfl | ⟨e1, h1⟩ | ⟨e1, h1, h2⟩
  · go_wp2
    go_ret
    exact ⟨ret_bool (by rw [eqP_self]; rfl), alloc2 _ _ _⟩
  · rcases cases3 p b with rfl | ⟨e2, h3⟩ | ⟨e2, h3, h4⟩
    · go_wp2
      go_ret
      exact ⟨ret_bool (by rw [e1, eqP_self]; rfl), alloc2 _ _ _⟩
    · go_wp2
      go_ret
      exact ⟨ret_bool (by rw [e1, e2]; rfl), alloc2 _ _ _⟩
    · rw [h3]
      rw [h3] at h1
      go_wp2
      go_ret
      exact ⟨ret_bool (by rw [e1, e2]; rfl), alloc2 _ _ _⟩
  · rcases cases3 p b with rfl | ⟨e2, h3⟩ | ⟨e2, h3, h4⟩
    · rw [h1]
      go_wp2
      go_ret
      exact ⟨ret_bool (by rw [e1, eqP_self]; rfl), alloc2 _ _ _⟩
    · rw [h1]
      rw [h1] at h3
      go_wp2
      go_ret
      exact ⟨ret_bool (by rw [e1, e2]; rfl), alloc2 _ _ _⟩
    · rw [h1]
      rw [h1] at h3
      rw [h3]
      go_wp2
      go_ret
      exact ⟨ret_bool (by rw [e1, e2]; rfl), alloc2 _ _ _⟩
set_option maxRecDepth 100000 in
set_option maxHeartbeats 1000000 in
theorem refend_any (a b p : Pt) : Answers Try.prog 49 #[.agg #[.int .i64 a.x, .int .i64 a.y, .int .i64 b.x, .int .i64 b.y], .agg #[.int .i64 p.x, .int .i64 p.y]] (.bool (eqP p a || eqP p b)) := by
  intro w
  go_enter Try.func49, Try.ntmps49
  rcases cases3 p a with rfl | ⟨e1, h1⟩ | ⟨e1, h1, h2⟩
  · go_wp2
    go_ret
    exact ⟨ret_bool (by rw [eqP_self]; rfl), alloc2 _ _ _⟩
  · rcases cases3 p b with rfl | ⟨e2, h3⟩ | ⟨e2, h3, h4⟩
    · go_wp2
      go_ret
      exact ⟨ret_bool (by rw [e1, eqP_self]; rfl), alloc2 _ _ _⟩
    · go_wp2
      go_ret
      exact ⟨ret_bool (by rw [e1, e2]; rfl), alloc2 _ _ _⟩
    · rw [h3]
      rw [h3] at h1
      go_wp2
      go_ret
      exact ⟨ret_bool (by rw [e1, e2]; rfl), alloc2 _ _ _⟩
  · rcases cases3 p b with rfl | ⟨e2, h3⟩ | ⟨e2, h3, h4⟩
    · rw [h1]
      go_wp2
      go_ret
      exact ⟨ret_bool (by rw [e1, eqP_self]; rfl), alloc2 _ _ _⟩
    · rw [h1]
      rw [h1] at h3
      go_wp2
      go_ret
      exact ⟨ret_bool (by rw [e1, e2]; rfl), alloc2 _ _ _⟩
    · rw [h1]
      rw [h1] at h3
      rw [h3]
      go_wp2
      go_ret
      exact ⟨ret_bool (by rw [e1, e2]; rfl), alloc2 _ _ _⟩
theorem seg2pt (w : World) (t u v : TypeId) (p q r s x : Pt) : ∃ W, ((w.alloc (.cells #[.int .i64 p.x, .int .i64 p.y, .int .i64 q.x, .int .i64 q.y] t)).alloc (.cells #[.int .i64 r.x, .int .i64 r.y, .int .i64 s.x, .int .i64 s.y] u)).alloc (.cells #[.int .i64 x.x, .int .i64 x.y] v) = W ∧
    Below w.heap.size w W ∧ Has2 W w.heap.size p q ∧ Has2 W (w.heap.size + 1) r s ∧ Has W (w.heap.size + 1 + 1) x := by
  obtain ⟨W, h1, h2, h3, h4, h5⟩ := segseg w t u p q r s
  rw [h1]
  exact ⟨_, rfl, h3.alloc (by omega) _, h4.alloc _, h5.alloc _, by rw [← h2]; exact Has.made W v x⟩
set_option maxRecDepth 100000 in
set_option maxHeartbeats 1000000 in
theorem meetAt_any (a b c d p : Pt) : Answers Try.prog 66 #[.agg #[.int .i64 a.x, .int .i64 a.y, .int .i64 b.x, .int .i64 b.y], .agg #[.int .i64 c.x, .int .i64 c.y, .int .i64 d.x, .int .i64 d.y], .agg #[.int .i64 p.x, .int .i64 p.y]] (.int .i64 (atN a b c d p)) := by
  intro w
  obtain ⟨W, hW, hB, hA, hC, hP⟩ := seg2pt w 56 56 24 a b c d p
  have HW := Lib.hid hW
  have HB := Lib.hid hB
  clear hW hB
  have HC := hC
  have HP := hP
  obtain ⟨⟨_, a0, a1⟩, b0, b1⟩ := hA
  obtain ⟨⟨_, c0, c1⟩, d0, d1⟩ := hC
  obtain ⟨_, p0, p1⟩ := hP
  obtain ⟨R, hR⟩ : ∃ R, atN a b c d p = R := ⟨_, rfl⟩
  have HR := Lib.hid hR
  rw [hR]
  clear hR
  go_enter Try.func66, Try.ntmps66
  go_wp2_with fail
  rw [HW.out]
  refine (endsAt_any a b p _).mono ?_
  rintro e w1 ⟨rfl, hb1⟩
  have HB1 := Lib.hid (HB.out.trans (hb1.mono HB.out.size))
  have C1 := HC.below hb1
  have P1 := HP.below hb1
  clear HC HP hb1 a0 a1 b0 b1 c0 c1 d0 d1 p0 p1
  cases h1 : (eqP p a || eqP p b) with
  | false =>
    have HE := Lib.hid (show (2 : Int) = R by rw [← HR.out]; unfold atN; rw [h1]; rfl)
    clear h1 C1 P1
    go_wp2
    go_ret
    exact ⟨ret_int HE.out, HB1.out⟩
  | true =>
    obtain ⟨⟨_, c0, c1⟩, d0, d1⟩ := C1
    obtain ⟨_, p0, p1⟩ := P1
    have HR1 := Lib.hid (show (if (eqP p c || eqP p d) = true then (1 : Int) else 2) = R by rw [← HR.out]; unfold atN; rw [h1, Bool.true_and])
    clear h1 HR
    go_wp2_with fail
    refine (endsAt_any c d p _).mono ?_
    rintro e w2 ⟨rfl, hb2⟩
    have HB2 := Lib.hid (HB1.out.trans (hb2.mono HB1.out.size))
    clear hb2 c0 c1 d0 d1 p0 p1
    cases h2 : (eqP p c || eqP p d) with
    | false =>
      have HE := Lib.hid (show (2 : Int) = R by rw [← HR1.out, h2]; rfl)
      clear h2
      go_wp2
      go_ret
      exact ⟨ret_int HE.out, HB2.out⟩
    | true =>
      have HE := Lib.hid (show (1 : Int) = R by rw [← HR1.out, h2]; rfl)
      clear h2
      go_wp2
      go_ret
      exact ⟨ret_int HE.out, HB2.out⟩
theorem sgn_bound (n : Int) : -1 ≤ sgn n ∧ sgn n ≤ 1 := by unfold sgn; grind
theorem side_mul {a b c d e f : Pt} : wrap64 (sideN a b c * sideN d e f) = sideN a b c * sideN d e f := by
  have h := mul_bound (M := 1) (sgn_bound (crs a b c)).1 (sgn_bound (crs a b c)).2 (sgn_bound (crs d e f)).1 (sgn_bound (crs d e f)).2
  unfold sideN
  generalize sgn (crs a b c) * sgn (crs d e f) = X at *
  unfold wrap64
  omega
theorem side_mul' {a b c d e f : Pt} : IntKind.i64.wrap (sideN a b c * sideN d e f) = sideN a b c * sideN d e f := by
  have h := mul_bound (M := 1) (sgn_bound (crs a b c)).1 (sgn_bound (crs a b c)).2 (sgn_bound (crs d e f)).1 (sgn_bound (crs d e f)).2
  unfold sideN
  generalize sgn (crs a b c) * sgn (crs d e f) = X at *
  exact IntWalk.i64_in _ (by omega)
theorem row_at {w : World} {g g' : Nat} {t : TypeId} {cs : Array Value} (e : g = g') (h : IsRow w g t cs) : IsRow w g' t cs := e ▸ h
def partsB (a b c d : Pt) : Bool := decide (sideN a b c * sideN a b d < 0)
set_option maxRecDepth 100000 in
set_option maxHeartbeats 1000000 in
theorem parts_any (a b c d : Pt) (na : nearB a = true) (nb : nearB b = true) (nc : nearB c = true) (nd : nearB d = true) :
    Answers Try.prog 68 #[.agg #[.int .i64 a.x, .int .i64 a.y, .int .i64 b.x, .int .i64 b.y], .agg #[.int .i64 c.x, .int .i64 c.y, .int .i64 d.x, .int .i64 d.y]] (.bool (partsB a b c d)) := by
  intro w
  obtain ⟨W, hW, hsz, hB, hA, hC⟩ := segseg w 56 56 a b c d
  have HW := Lib.hid hW
  have HB := Lib.hid hB
  clear hW hB hsz
  obtain ⟨⟨_, a0, a1⟩, b0, b1⟩ := hA
  obtain ⟨⟨_, c0, c1⟩, d0, d1⟩ := hC
  have A0 := cell_regrown a0
  have A1 := cell_regrown a1
  have B0 := cell_regrown b0
  have B1 := cell_regrown b1
  have C0 := cell_regrown c0
  have C1 := cell_regrown c1
  have D0 := cell_regrown d0
  have D1 := cell_regrown d1
  have q1 := (show Answers Try.prog 57 _ (.int .i64 (sideN a b c)) from fun w => side_any a b c w na nb nc).quiet W
  have q2 := (show Answers Try.prog 57 _ (.int .i64 (sideN a b d)) from fun w => side_any a b d w na nb nd).quiet W
  have HE := Lib.hid (show decide (IntKind.i64.wrap (sideN a b c * sideN a b d) < 0) = partsB a b c d by rw [side_mul']; rfl)
  go_enter Try.func68, Try.ntmps68
  go_wp2
  rw [HW.out]
  refine wp_region_quiet_below (by kernel_rfl) (by kernel_rfl) ?_
  repeat (quiet_step (first | with_reducible exact q1 _ _ | with_reducible exact q2 _ _))
  refine wpQuiet_nil ?_
  intro _ hw'
  obtain ⟨⟨dq, osq⟩, hw''⟩ := hw'
  subst hw''
  go_wp2
  go_ret
  exact ⟨ret_bool HE.out, HB.out.trans ((below_regrown W dq osq).mono HB.out.size)⟩
set_option maxRecDepth 100000 in
set_option maxHeartbeats 1000000 in
theorem inLine_any (a b c d : Pt) (na : nearB a = true) (nb : nearB b = true) (nc : nearB c = true) (nd : nearB d = true) :
    Answers Try.prog 44 #[.agg #[.int .i64 a.x, .int .i64 a.y, .int .i64 b.x, .int .i64 b.y], .agg #[.int .i64 c.x, .int .i64 c.y, .int .i64 d.x, .int .i64 d.y]] (.bool (inLineB a b c d)) := by
  intro w
  obtain ⟨W, hW, hsz, hB, hA, hC⟩ := segseg w 56 56 a b c d
  have HW := Lib.hid hW
  have HB := Lib.hid hB
  have HA := hA
  have HC := hC
  clear hW hB hsz
  obtain ⟨⟨_, a0, a1⟩, b0, b1⟩ := hA
  obtain ⟨⟨_, c0, c1⟩, d0, d1⟩ := hC
  obtain ⟨R, hR⟩ : ∃ R, inLineB a b c d = R := ⟨_, rfl⟩
  have HR := Lib.hid hR
  rw [hR]
  clear hR
  go_enter Try.func44, Try.ntmps44
  go_wp2_with fail
  rw [HW.out]
  refine (side_any a b c _ na nb nc).mono ?_
  rintro e w1 ⟨rfl, hb1⟩
  have HB1 := Lib.hid (HB.out.trans (hb1.mono HB.out.size))
  have A1 := HA.below hb1
  have C1 := HC.below hb1
  clear HA HC hb1 a0 a1 b0 b1 c0 c1 d0 d1
  by_cases h1 : sideN a b c = 0
  · rw [h1]
    have HA := A1
    have HC := C1
    obtain ⟨⟨_, a0, a1⟩, b0, b1⟩ := A1
    obtain ⟨⟨_, c0, c1⟩, d0, d1⟩ := C1
    have HR1 := Lib.hid (show (decide (sideN a b d = 0) && decide (sideN c d a = 0)) = R by rw [← HR.out]; unfold inLineB; rw [h1]; simp)
    clear h1 HR
    go_wp2_with fail
    refine (side_any a b d _ na nb nd).mono ?_
    rintro e w2 ⟨rfl, hb2⟩
    have HB2 := Lib.hid (HB1.out.trans (hb2.mono HB1.out.size))
    have A1 := HA.below hb2
    have C1 := HC.below hb2
    clear HA HC hb2 a0 a1 b0 b1 c0 c1 d0 d1
    by_cases h2 : sideN a b d = 0
    · rw [h2]
      obtain ⟨⟨_, a0, a1⟩, b0, b1⟩ := A1
      obtain ⟨⟨_, c0, c1⟩, d0, d1⟩ := C1
      have HR2 := Lib.hid (show (sideN c d a == 0) = R by rw [← HR1.out]; rw [h2]; simp; rfl)
      clear h2 HR1
      go_wp2_with fail
      refine (side_any c d a _ nc nd na).mono ?_
      rintro e w3 ⟨rfl, hb3⟩
      have HB3 := Lib.hid (HB2.out.trans (hb3.mono HB2.out.size))
      clear hb3 a0 a1 b0 b1 c0 c1 d0 d1
      go_wp2
      go_ret
      exact ⟨ret_bool HR2.out, HB3.out⟩
    · have h' := beq_zero h2
      have HE := Lib.hid (show false = R by rw [← HR1.out, decide_eq_false h2]; rfl)
      clear h2 A1 C1
      go_wp2
      go_ret
      exact ⟨ret_bool HE.out, HB2.out⟩
  · have h' := beq_zero h1
    have HE := Lib.hid (show false = R by rw [← HR.out]; unfold inLineB; rw [decide_eq_false h1]; rfl)
    clear h1 A1 C1
    go_wp2
    go_ret
    exact ⟨ret_bool HE.out, HB1.out⟩
set_option maxRecDepth 100000 in
set_option maxHeartbeats 1000000 in
theorem ends_any (a b : Pt) (w : World) : Calls Try.prog 67 #[.agg #[.int .i64 a.x, .int .i64 a.y, .int .i64 b.x, .int .i64 b.y]] w
    fun e w' => ∃ g, e = .returned (.slice (some ⟨g, 0, none⟩) 2 2) ∧ Below w.heap.size w w' ∧ w.heap.size ≤ g ∧ IsRow w' g 24 (flat [a, b]).toArray := by
  go_enter Try.func67, Try.ntmps67
  go_wp2
  go_ret
  exact ⟨_, rfl, alloc2 _ _ _, by omega, row_at (by simp) (IsRow.made (w.alloc _) 24 (flat [a, b]).toArray)⟩
end Go.Proofs.Ytlagolgmkmdhhaa.Geo
