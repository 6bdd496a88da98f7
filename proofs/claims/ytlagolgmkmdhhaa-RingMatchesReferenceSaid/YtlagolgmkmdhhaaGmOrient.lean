/- The law's near; geom.Orient, Distance, On; the reference's Orient, Distance, Segment, On. -/
import Derived.Test.YtlagolgmkmdhhaaGmAll
namespace Go.Proofs.Ytlagolgmkmdhhaa.Geo
open Go.RowKit Go.Sort
/-- A point, or a segment, in memory. -/
def Has (w : World) (g : Nat) (p : Pt) : Prop := g < w.heap.size ∧ w.cell? ⟨g, 0, none⟩ = some (.int .i64 p.x) ∧ w.cell? ⟨g, 1, none⟩ = some (.int .i64 p.y)
def Has2 (w : World) (g : Nat) (p q : Pt) : Prop := Has w g p ∧ w.cell? ⟨g, 2, none⟩ = some (.int .i64 q.x) ∧ w.cell? ⟨g, 3, none⟩ = some (.int .i64 q.y)
theorem Has.below {w w' : World} {g : Nat} {p : Pt} (h : Has w g p) (hb : Below w.heap.size w w') : Has w' g p :=
  ⟨Nat.lt_of_lt_of_le h.1 hb.size, by rw [hb.cell h.1]; exact h.2.1, by rw [hb.cell h.1]; exact h.2.2⟩
theorem Has2.below {w w' : World} {g : Nat} {p q : Pt} (h : Has2 w g p q) (hb : Below w.heap.size w w') : Has2 w' g p q :=
  ⟨h.1.below hb, by rw [hb.cell h.1.1]; exact h.2.1, by rw [hb.cell h.1.1]; exact h.2.2⟩
theorem Has.made (w : World) (t : TypeId) (p : Pt) : Has (w.alloc (.cells #[.int .i64 p.x, .int .i64 p.y] t)) w.heap.size p := by
  have h := IsRow.made w t #[.int .i64 p.x, .int .i64 p.y]
  exact ⟨h.inside, by rw [h.get]; rfl, by rw [h.get]; rfl⟩
theorem Has2.made (w : World) (t : TypeId) (p q : Pt) : Has2 (w.alloc (.cells #[.int .i64 p.x, .int .i64 p.y, .int .i64 q.x, .int .i64 q.y] t)) w.heap.size p q := by
  have h := IsRow.made w t #[.int .i64 p.x, .int .i64 p.y, .int .i64 q.x, .int .i64 q.y]
  exact ⟨⟨h.inside, by rw [h.get]; rfl, by rw [h.get]; rfl⟩, by rw [h.get]; rfl, by rw [h.get]; rfl⟩
theorem Has.alloc {w : World} {g : Nat} {p : Pt} (h : Has w g p) (o : Obj) : Has (w.alloc o) g p := h.below (alloc1 w o)
theorem Has2.alloc {w : World} {g : Nat} {p q : Pt} (h : Has2 w g p q) (o : Obj) : Has2 (w.alloc o) g p q := h.below (alloc1 w o)
theorem three (w : World) (t : TypeId) (p q r : Pt) : ∃ W, ((w.alloc (.cells #[.int .i64 p.x, .int .i64 p.y] t)).alloc (.cells #[.int .i64 q.x, .int .i64 q.y] t)).alloc (.cells #[.int .i64 r.x, .int .i64 r.y] t) = W ∧
    W.heap.size = w.heap.size + 1 + 1 + 1 ∧ Below w.heap.size w W ∧ Has W w.heap.size p ∧ Has W (w.heap.size + 1) q ∧ Has W (w.heap.size + 1 + 1) r :=
  ⟨_, rfl, by simp, alloc3 _ _ _ _, ((Has.made w t p).alloc _).alloc _, (by simpa using Has.made (w.alloc _) t q : Has (((w.alloc (.cells #[.int .i64 p.x, .int .i64 p.y] t))).alloc (.cells #[.int .i64 q.x, .int .i64 q.y] t)) (w.heap.size + 1) q).alloc _, by simpa using Has.made ((w.alloc _).alloc _) t r⟩
theorem two (w : World) (t : TypeId) (p q : Pt) : ∃ W, (w.alloc (.cells #[.int .i64 p.x, .int .i64 p.y] t)).alloc (.cells #[.int .i64 q.x, .int .i64 q.y] t) = W ∧
    W.heap.size = w.heap.size + 1 + 1 ∧ Below w.heap.size w W ∧ Has W w.heap.size p ∧ Has W (w.heap.size + 1) q :=
  ⟨_, rfl, by simp, alloc2 _ _ _, (Has.made w t p).alloc _, by simpa using Has.made (w.alloc _) t q⟩
theorem segpt (w : World) (t u : TypeId) (p q r : Pt) : ∃ W, (w.alloc (.cells #[.int .i64 p.x, .int .i64 p.y, .int .i64 q.x, .int .i64 q.y] t)).alloc (.cells #[.int .i64 r.x, .int .i64 r.y] u) = W ∧
    W.heap.size = w.heap.size + 1 + 1 ∧ Below w.heap.size w W ∧ Has2 W w.heap.size p q ∧ Has W (w.heap.size + 1) r :=
  ⟨_, rfl, by simp, alloc2 _ _ _, (Has2.made w t p q).alloc _, by simpa using Has.made (w.alloc _) u r⟩
theorem segseg (w : World) (t u : TypeId) (p q r s : Pt) : ∃ W, (w.alloc (.cells #[.int .i64 p.x, .int .i64 p.y, .int .i64 q.x, .int .i64 q.y] t)).alloc (.cells #[.int .i64 r.x, .int .i64 r.y, .int .i64 s.x, .int .i64 s.y] u) = W ∧
    W.heap.size = w.heap.size + 1 + 1 ∧ Below w.heap.size w W ∧ Has2 W w.heap.size p q ∧ Has2 W (w.heap.size + 1) r s :=
  ⟨_, rfl, by simp, alloc2 _ _ _, (Has2.made w t p q).alloc _, by simpa using Has2.made (w.alloc _) u r s⟩
/-- The list of points that a call with many arguments makes. -/
theorem allNear_list (l : List Pt) (n : Nat) (cs : Array Value) (g : Nat) (w : World) (h : (flat l).toArray = cs) (hl : l.length = n) (hn : n ≤ 100) (hg : w.heap.size = g) :
    Calls Try.prog 33 #[.slice (some ⟨g, 0, none⟩) n n] (w.alloc (.cells cs 24)) fun e w' => e = .returned (.bool (l.all nearB)) ∧ Below w.heap.size w w' := by
  subst hl hg h
  exact (allNear_any w.heap.size l.length l (w.alloc (.cells (flat l).toArray 24)) (IsRow.made w _ _) hn).mono fun e w' ⟨he, hb⟩ => ⟨he, (alloc1 w _).trans (hb.mono (by simp))⟩
theorem all3 (a b c : Pt) : [a, b, c].all nearB = (nearB a && nearB b && nearB c) := by simp [Bool.and_assoc]
theorem all4 (a b c d : Pt) : [a, b, c, d].all nearB = (nearB a && nearB b && nearB c && nearB d) := by simp [Bool.and_assoc]
theorem all2 (a b : Pt) : [a, b].all nearB = (nearB a && nearB b) := by simp
set_option maxRecDepth 100000 in
set_option maxHeartbeats 1000000 in
theorem orient_any (a b c : Pt) : Answers Try.prog 71 #[.agg #[.int .i64 a.x, .int .i64 a.y], .agg #[.int .i64 b.x, .int .i64 b.y], .agg #[.int .i64 c.x, .int .i64 c.y]] (.int .i64 (orientN a b c)) := by
  intro w
  obtain ⟨W, hW, hsz, hB, hA, hBb, hC⟩ := three w 24 a b c
  have HW := Lib.hid hW
  have HB := Lib.hid hB
  have HS := Lib.hid hsz
  clear hW hB hsz
  obtain ⟨R, hR⟩ : ∃ R, orientN a b c = R := ⟨_, rfl⟩
  have HR := Lib.hid hR
  rw [hR]
  clear hR
  go_enter Try.func71, Try.ntmps71
  go_wp2_with fail
  rw [HW.out]
  refine (allNear_list [a, b, c] 3 _ _ W rfl rfl (by decide) HS.out).mono ?_
  rw [all3]
  rintro e w1 ⟨rfl, hb1⟩
  have HB1 := Lib.hid (HB.out.trans (hb1.mono HB.out.size))
  have A1 := hA.below hb1
  have B1 := hBb.below hb1
  have C1 := hC.below hb1
  clear hA hBb hC hb1
  cases h1 : (nearB a && nearB b && nearB c) with
  | false =>
    have HE := Lib.hid (show (0 : Int) = R by rw [← HR.out]; unfold orientN; rw [h1]; rfl)
    clear h1
    go_wp2
    go_ret
    exact ⟨ret_int HE.out, HB1.out⟩
  | true =>
    have HE := Lib.hid (show sideN a b c = R by rw [← HR.out]; unfold orientN; rw [h1]; rfl)
    obtain ⟨⟨na, nb⟩, nc⟩ : (nearB a = true ∧ nearB b = true) ∧ nearB c = true := by simpa using h1
    clear h1
    obtain ⟨_, a0, a1⟩ := A1
    obtain ⟨_, b0, b1⟩ := B1
    obtain ⟨_, c0, c1⟩ := C1
    go_wp2_with fail
    refine (side_any a b c _ na nb nc).mono ?_
    rintro e w2 ⟨rfl, hb2⟩
    have HB2 := Lib.hid (HB1.out.trans (hb2.mono HB1.out.size))
    clear hb2 a0 a1 b0 b1 c0 c1
    go_wp2
    go_ret
    exact ⟨ret_int HE.out, HB2.out⟩
end Go.Proofs.Ytlagolgmkmdhhaa.Geo
