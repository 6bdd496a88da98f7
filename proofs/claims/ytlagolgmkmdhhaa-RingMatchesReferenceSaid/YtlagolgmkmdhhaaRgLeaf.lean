/- ring's leaves: areNeighbours, isLevel, isPassed, the order of sides. -/
import Derived.Test.YtlagolgmkmdhhaaRgA
namespace Go.Proofs.Ytlagolgmkmdhhaa.Rg
open Go.RowKit Go.Sort
open Go.Proofs.Ytlagolgmkmdhhaa.Geo hiding intOf
/-- a side with its ring and place. -/
structure Sd where
  a : Pt
  b : Pt
  r : Nat
  p : Nat
def encSd (s : Sd) : List Value := [.int .i64 s.a.x, .int .i64 s.a.y, .int .i64 s.b.x, .int .i64 s.b.y, .int .i64 s.r, .int .i64 s.p]
def nbN (i j n : Nat) : Bool := decide ((i + 1) % n = j) || decide ((j + 1) % n = i)
set_option maxRecDepth 100000 in
set_option maxHeartbeats 1000000 in
theorem areNeighbours_any (i j n : Nat) (hi : i < 100000) (hj : j < 100000) (hn : 0 < n) (hn2 : n < 100000) : ∀ w, Calls Try.prog 23 #[.int .i64 i, .int .i64 j, .int .i64 n] w fun e w' => e = .returned (.bool (nbN i j n)) ∧ w = w' := by
  intro w
  have hz : ¬ (n : Int) = 0 := by omega
  obtain ⟨x, hx⟩ : ∃ x, (i + 1) % n = x := ⟨_, rfl⟩
  obtain ⟨y, hy⟩ : ∃ y, (j + 1) % n = y := ⟨_, rfl⟩
  have E1 : ((i : Int) + 1) % (n : Int) = (x : Int) := by rw [← hx]; simp
  have E2 : ((j : Int) + 1) % (n : Int) = (y : Int) := by rw [← hy]; simp
  have HX := Lib.hid hx
  have HY := Lib.hid hy
  clear hx hy
  go_enter Try.func23, Try.ntmps23
  by_cases h1 : x = j
  · have e1 : ((x : Int) == (j : Int)) = true := by simp [h1]
    have HE := Lib.hid (show true = nbN i j n by unfold nbN; rw [HX.out, h1]; simp)
    go_wp2
    go_ret
    exact ⟨ret_bool HE.out, rfl⟩
  · have e1 : ((x : Int) == (j : Int)) = false := by simp; omega
    by_cases h2 : y = i
    · have e2 : ((y : Int) == (i : Int)) = true := by simp [h2]
      have HE := Lib.hid (show true = nbN i j n by unfold nbN; rw [HY.out, h2]; simp)
      go_wp2
      go_ret
      exact ⟨ret_bool HE.out, rfl⟩
    · have e2 : ((y : Int) == (i : Int)) = false := by simp; omega
      have HE := Lib.hid (show false = nbN i j n by unfold nbN; rw [HX.out, HY.out, decide_eq_false h1, decide_eq_false h2]; rfl)
      go_wp2
      go_ret
      exact ⟨ret_bool HE.out, rfl⟩
def levelN (s t : Sd) : Bool := decide (max (min s.a.y s.b.y) (min t.a.y t.b.y) ≤ min (max s.a.y s.b.y) (max t.a.y t.b.y))
set_option maxRecDepth 100000 in
set_option maxHeartbeats 1000000 in
theorem isLevel_any (s t : Sd) : Answers Try.prog 39 #[.agg (encSd s).toArray, .agg (encSd t).toArray] (.bool (levelN s t)) := by
  intro w
  unfold encSd
  go_enter Try.func39, Try.ntmps39
  go_wp2_with fail
  all_goals
    go_ret
    exact ⟨ret_bool (by unfold levelN; grind), alloc2 _ _ _⟩
/-- whether the way from p in the direction of X leads through the segment. -/
def passN (a b p : Pt) : Bool :=
  let l := if a.y > b.y then b else a
  let h := if a.y > b.y then a else b
  decide (l.y ≤ p.y) && decide (p.y < h.y) && decide (orientN l h p > 0)
set_option maxRecDepth 100000 in
set_option maxHeartbeats 1000000 in
theorem isPassed_any (a b p : Pt) : Answers Try.prog 51 #[.agg #[.int .i64 a.x, .int .i64 a.y, .int .i64 b.x, .int .i64 b.y], .agg #[.int .i64 p.x, .int .i64 p.y]] (.bool (passN a b p)) := by
  intro w
  obtain ⟨W, hW, hsz, hB, hA, hP⟩ := segpt w 33 24 a b p
  have RS : Hid (IsRow W w.heap.size 33 #[.int .i64 a.x, .int .i64 a.y, .int .i64 b.x, .int .i64 b.y]) := hW ▸ (IsRow.made w _ _).later _
  have HW := Lib.hid hW
  have HB := Lib.hid hB
  have HS := Lib.hid hsz
  clear hW hB hsz
  obtain ⟨R, hR⟩ : ∃ R, passN a b p = R := ⟨_, rfl⟩
  have HR := Lib.hid hR
  rw [hR]
  clear hR
  obtain ⟨⟨_, a0, a1⟩, b0, b1⟩ := hA
  obtain ⟨_, p0, p1⟩ := hP
  have f0 := RS.out.open_ 0
  have f1 := RS.out.open_ 1
  have f2 := RS.out.open_ 2
  have f3 := RS.out.open_ 3
  go_enter Try.func51, Try.ntmps51
  go_upto_region 1 with fail
  rw [HW.out]
  by_cases h1 : a.y > b.y
  · have HB4 : Hid (Below w.heap.size w ((((W.setCell ⟨w.heap.size, 0, none⟩ (.int .i64 b.x)).setCell ⟨w.heap.size, 1, none⟩ (.int .i64 b.y)).setCell ⟨w.heap.size, 2, none⟩ (.int .i64 a.x)).setCell ⟨w.heap.size, 3, none⟩ (.int .i64 a.y))) := below4 HB.out (Nat.le_refl _) _ _ _ _
    by_cases h2 : b.y ≤ p.y
    · by_cases h3 : p.y < a.y
      · have HE := Lib.hid (show decide (orientN b a p > 0) = R by rw [← HR.out]; unfold passN; simp [h1, h2, h3])
        go_wp2_with fail
        refine (orient_any b a p _).mono ?_
        rintro e w1 ⟨rfl, hb1⟩
        have B1 := Lib.hid (HB4.out.trans (hb1.mono (by have := HS.out; simp; omega)))
        clear hb1
        go_wp2
        go_ret
        exact ⟨ret_bool HE.out, B1.out⟩
      · have HE := Lib.hid (show false = R by rw [← HR.out]; unfold passN; simp [h1, h2, h3])
        go_wp2
        go_ret
        exact ⟨ret_bool HE.out, HB4.out⟩
    · have HE := Lib.hid (show false = R by rw [← HR.out]; unfold passN; simp [h1, h2])
      go_wp2
      go_ret
      exact ⟨ret_bool HE.out, HB4.out⟩
  · have h1' : a.y ≤ b.y := by omega
    by_cases h2 : a.y ≤ p.y
    · by_cases h3 : p.y < b.y
      · have HE := Lib.hid (show decide (orientN a b p > 0) = R by rw [← HR.out]; unfold passN; simp [h1, h2, h3])
        go_wp2_with fail
        refine (orient_any a b p _).mono ?_
        rintro e w1 ⟨rfl, hb1⟩
        have B1 := Lib.hid (HB.out.trans (hb1.mono (by have := HS.out; simp; omega)))
        clear hb1
        go_wp2
        go_ret
        exact ⟨ret_bool HE.out, B1.out⟩
      · have HE := Lib.hid (show false = R by rw [← HR.out]; unfold passN; simp [h1, h2, h3])
        go_wp2
        go_ret
        exact ⟨ret_bool HE.out, HB.out⟩
    · have HE := Lib.hid (show false = R by rw [← HR.out]; unfold passN; simp [h1, h2])
      go_wp2
      go_ret
      exact ⟨ret_bool HE.out, HB.out⟩
end Go.Proofs.Ytlagolgmkmdhhaa.Rg
