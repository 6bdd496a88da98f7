/- ring.corner.begins. -/
import Derived.Test.YtlagolgmkmdhhaaRgSide
namespace Go.Proofs.Ytlagolgmkmdhhaa.Rg
open Go.RowKit Go.Sort Go.Shelf
open Go.Proofs.Ytlagolgmkmdhhaa.Geo hiding intOf Apart
/-- a corner and its neighbours. -/
structure Cn where
  b : Pt
  t : Pt
  a : Pt
def encCn (c : Cn) : List Value := [.int .i64 c.b.x, .int .i64 c.b.y, .int .i64 c.t.x, .int .i64 c.t.y, .int .i64 c.a.x, .int .i64 c.a.y]
theorem eqB (p q : Pt) : eqP p q = ((p.x == q.x) && (p.y == q.y)) := by unfold eqP; rw [Bool.eq_iff_iff]; simp
def beginsN (c : Cn) (p : Pt) : Int :=
  if eqP p c.b || eqP p c.a then 0
  else if (if orientN c.b c.t c.a > 0 then decide (orientN c.b c.t p > 0) && decide (orientN c.t c.a p > 0) else decide (orientN c.b c.t p > 0) || decide (orientN c.t c.a p > 0)) then 1 else -1
theorem cn_facts {W : World} {g : Nat} {t : TypeId} {c : Cn} (h : IsRow W g t (encCn c).toArray) : W.cell? ⟨g, 0, none⟩ = some (.int .i64 c.b.x) ∧ W.cell? ⟨g, 1, none⟩ = some (.int .i64 c.b.y) ∧ W.cell? ⟨g, 2, none⟩ = some (.int .i64 c.t.x) ∧ W.cell? ⟨g, 3, none⟩ = some (.int .i64 c.t.y) ∧
    W.cell? ⟨g, 4, none⟩ = some (.int .i64 c.a.x) ∧ W.cell? ⟨g, 5, none⟩ = some (.int .i64 c.a.y) := ⟨h.get 0, h.get 1, h.get 2, h.get 3, h.get 4, h.get 5⟩
set_option maxRecDepth 100000 in
set_option maxHeartbeats 2000000 in
theorem begins_any (c : Cn) (p : Pt) : Answers Try.prog 55 #[.agg #[.int .i64 c.b.x, .int .i64 c.b.y, .int .i64 c.t.x, .int .i64 c.t.y, .int .i64 c.a.x, .int .i64 c.a.y], .agg #[.int .i64 p.x, .int .i64 p.y]] (.int .i64 (beginsN c p)) := by
  intro w
  obtain ⟨W, hW⟩ : ∃ W, (w.alloc (.cells #[.int .i64 c.b.x, .int .i64 c.b.y, .int .i64 c.t.x, .int .i64 c.t.y, .int .i64 c.a.x, .int .i64 c.a.y] 75)).alloc (.cells #[.int .i64 p.x, .int .i64 p.y] 24) = W := ⟨_, rfl⟩
  have HB : Hid (Below w.heap.size w W) := hW ▸ alloc2 _ _ _
  have RC : Hid (IsRow W w.heap.size 75 (encCn c).toArray) := hW ▸ (IsRow.made w _ _).later _
  have RP : Hid (IsRow W (w.heap.size + 1) 24 #[.int .i64 p.x, .int .i64 p.y]) := by
    have := IsRow.made (w.alloc (.cells #[.int .i64 c.b.x, .int .i64 c.b.y, .int .i64 c.t.x, .int .i64 c.t.y, .int .i64 c.a.x, .int .i64 c.a.y] 75)) 24 #[.int .i64 p.x, .int .i64 p.y]
    rw [World.size_alloc] at this
    exact hW ▸ this
  have HW := Lib.hid hW
  clear hW
  obtain ⟨R, hR⟩ : ∃ R, beginsN c p = R := ⟨_, rfl⟩
  have HR := Lib.hid hR
  rw [hR]
  clear hR
  obtain ⟨c0, c1, c2, c3, c4, c5⟩ := cn_facts RC.out
  have p0 : W.cell? ⟨w.heap.size + 1, 0, none⟩ = some (.int .i64 p.x) := RP.out.get 0
  have p1 : W.cell? ⟨w.heap.size + 1, 1, none⟩ = some (.int .i64 p.y) := RP.out.get 1
  go_enter Try.func55, Try.ntmps55
  go_upto_region 1 with fail
  rw [HW.out]
  go_cut [17] from 8 to 16 (fun s17 wx => s17 = .bool (eqP p c.b || eqP p c.a) ∧ wx = W)
  case first =>
    have E1 := eqB p c.b
    have E2 := eqB p c.a
    obtain ⟨x1, hx1⟩ : ∃ x, (p.x == c.b.x) = x := ⟨_, rfl⟩
    obtain ⟨x2, hx2⟩ : ∃ x, (p.y == c.b.y) = x := ⟨_, rfl⟩
    obtain ⟨x3, hx3⟩ : ∃ x, (p.x == c.a.x) = x := ⟨_, rfl⟩
    obtain ⟨x4, hx4⟩ : ∃ x, (p.y == c.a.y) = x := ⟨_, rfl⟩
    rw [hx1, hx2] at E1
    rw [hx3, hx4] at E2
    have E1' := Lib.hid E1
    have E2' := Lib.hid E2
    clear E1 E2
    cases x1 <;> cases x2 <;> cases x3 <;> cases x4 <;> (go_wp2_with fail; go_meet; exact ⟨by rw [E1'.out, E2'.out]; rfl, rfl⟩)
  obtain ⟨rfl, hcut⟩ := hcut
  rw [hcut]
  clear hcut
  cases he : (eqP p c.b || eqP p c.a) with
  | true =>
    have HE := Lib.hid (show (0 : Int) = R by rw [← HR.out]; unfold beginsN; rw [he]; rfl)
    clear he
    go_wp2
    go_ret
    exact ⟨ret_int HE.out, HB.out⟩
  | false =>
    obtain ⟨o1, ho1⟩ : ∃ o, orientN c.b c.t p = o := ⟨_, rfl⟩
    obtain ⟨o2, ho2⟩ : ∃ o, orientN c.t c.a p = o := ⟨_, rfl⟩
    obtain ⟨o3, ho3⟩ : ∃ o, orientN c.b c.t c.a = o := ⟨_, rfl⟩
    have O1 := Lib.hid ((orient_any c.b c.t p).to (by rw [ho1]))
    have O2 := Lib.hid ((orient_any c.t c.a p).to (by rw [ho2]))
    have O3 := Lib.hid ((orient_any c.b c.t c.a).to (by rw [ho3]))
    have HE := Lib.hid (show (if (if o3 > 0 then decide (o1 > 0) && decide (o2 > 0) else decide (o1 > 0) || decide (o2 > 0)) then (1 : Int) else -1) = R by rw [← HR.out]; unfold beginsN; rw [he, ho1, ho2, ho3]; rfl)
    clear he ho1 ho2 ho3
    go_wp2_with fail
    refine (O1.out _).mono ?_
    rintro e w1 ⟨rfl, hb1⟩
    have B1 := Lib.hid (HB.out.trans (hb1.mono HB.out.size))
    have RC1 := Lib.hid (RC.out.below hb1 RC.out.inside)
    have RP1 := Lib.hid (RP.out.below hb1 RP.out.inside)
    clear hb1 c0 c1 c2 c3 c4 c5 p0 p1
    obtain ⟨c0, c1, c2, c3, c4, c5⟩ := cn_facts RC1.out
    have p0 : w1.cell? ⟨w.heap.size + 1, 0, none⟩ = some (.int .i64 p.x) := RP1.out.get 0
    have p1 : w1.cell? ⟨w.heap.size + 1, 1, none⟩ = some (.int .i64 p.y) := RP1.out.get 1
    go_wp2_with fail
    refine (O2.out _).mono ?_
    rintro e w2 ⟨rfl, hb2⟩
    have B2 := Lib.hid (B1.out.trans (hb2.mono B1.out.size))
    have RC2 := Lib.hid (RC1.out.below hb2 RC1.out.inside)
    clear hb2 c0 c1 c2 c3 c4 c5 p0 p1
    obtain ⟨c0, c1, c2, c3, c4, c5⟩ := cn_facts RC2.out
    obtain ⟨f1, hf1⟩ : ∃ f, decide (o1 > 0) = f := ⟨_, rfl⟩
    obtain ⟨f2, hf2⟩ : ∃ f, decide (o2 > 0) = f := ⟨_, rfl⟩
    have hf1' : decide (0 < o1) = f1 := hf1
    have hf2' : decide (0 < o2) = f2 := hf2
    rw [hf1, hf2] at HE
    cases f1 <;> cases f2
    all_goals
      simp only [decide_eq_true_eq, decide_eq_false_iff_not] at hf1 hf2
      go_wp2_with fail
      refine (O3.out _).mono ?_
      rintro e w3 ⟨rfl, hb3⟩
      have B3 := Lib.hid (B2.out.trans (hb3.mono B2.out.size))
      clear hb3 c0 c1 c2 c3 c4 c5
      by_cases h3 : o3 > 0
      · rw [if_pos h3] at HE
        go_wp2
        go_ret
        exact ⟨ret_int HE.out, B3.out⟩
      · rw [if_neg h3] at HE
        go_wp2
        go_ret
        exact ⟨ret_int HE.out, B3.out⟩
end Go.Proofs.Ytlagolgmkmdhhaa.Rg
