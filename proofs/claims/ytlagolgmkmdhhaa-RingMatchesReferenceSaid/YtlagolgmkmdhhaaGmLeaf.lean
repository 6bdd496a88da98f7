/- The smallest functions of geom and of its reference, by contract. -/
import Derived.Test.YtlagolgmkmdhhaaProg
import Derived.Test.YtlagolgmkmdhhaaChecked
import Derived.Test.YtlagolgmkmdhhaaGmNear
import Derived.WalkKit
import Derived.WalkLawsBesides
import Derived.Lib.Hide
import Derived.ChangeAlike
import Derived.Below
namespace Go.Proofs.Ytlagolgmkmdhhaa.Geo
open Go.RowKit
theorem ret_int {k : IntKind} {a b : Int} (h : a = b) : Ending.returned (.int k a) = .returned (.int k b) := by rw [h]
theorem ret_bool {a b : Bool} (h : a = b) : Ending.returned (.bool a) = .returned (.bool b) := by rw [h]
theorem nearB_iff {p : Pt} : nearB p = true ↔ (-2097152 ≤ p.x ∧ p.x ≤ 2097152 ∧ -2097152 ≤ p.y ∧ p.y ≤ 2097152) := by
  unfold nearB; rw [decide_eq_true_iff]
theorem mul_bound {x y M : Int} (h1 : -M ≤ x) (h2 : x ≤ M) (h3 : -M ≤ y) (h4 : y ≤ M) : -(M * M) ≤ x * y ∧ x * y ≤ M * M := by
  have a1 := Int.mul_nonneg (show 0 ≤ M - x by omega) (show 0 ≤ M - y by omega)
  have a2 := Int.mul_nonneg (show 0 ≤ M + x by omega) (show 0 ≤ M + y by omega)
  have a3 := Int.mul_nonneg (show 0 ≤ M - x by omega) (show 0 ≤ M + y by omega)
  have a4 := Int.mul_nonneg (show 0 ≤ M + x by omega) (show 0 ≤ M - y by omega)
  constructor <;> grind
theorem mul_near {a b c d : Pt} (ha : nearB a = true) (hb : nearB b = true) (hc : nearB c = true) (hd : nearB d = true) :
    (-17592186044416 ≤ (b.x - a.x) * (d.y - c.y) ∧ (b.x - a.x) * (d.y - c.y) ≤ 17592186044416) ∧ (-17592186044416 ≤ (b.y - a.y) * (d.x - c.x) ∧ (b.y - a.y) * (d.x - c.x) ≤ 17592186044416) ∧
    (-17592186044416 ≤ (b.x - a.x) * (d.x - c.x) ∧ (b.x - a.x) * (d.x - c.x) ≤ 17592186044416) ∧ (-17592186044416 ≤ (b.y - a.y) * (d.y - c.y) ∧ (b.y - a.y) * (d.y - c.y) ≤ 17592186044416) := by
  rw [nearB_iff] at ha hb hc hd
  have e : (17592186044416 : Int) = 4194304 * 4194304 := by decide
  rw [e]
  exact ⟨mul_bound (by omega) (by omega) (by omega) (by omega), mul_bound (by omega) (by omega) (by omega) (by omega), mul_bound (by omega) (by omega) (by omega) (by omega), mul_bound (by omega) (by omega) (by omega) (by omega)⟩
theorem crs_bound {a b c : Pt} (ha : nearB a = true) (hb : nearB b = true) (hc : nearB c = true) : -35184372088832 ≤ crs a b c ∧ crs a b c ≤ 35184372088832 := by
  have := mul_near ha hb ha hc
  unfold crs
  omega
theorem dt_bound {a b c : Pt} (ha : nearB a = true) (hb : nearB b = true) (hc : nearB c = true) : -35184372088832 ≤ dt a b c ∧ dt a b c ≤ 35184372088832 := by
  have := mul_near ha hb ha hc
  unfold dt
  omega
theorem sub_near {p q : Pt} (hp : nearB p = true) (hq : nearB q = true) : wrap64 (p.x - q.x) = p.x - q.x ∧ wrap64 (p.y - q.y) = p.y - q.y := by
  rw [nearB_iff] at hp hq
  unfold wrap64
  omega
theorem crs_wrap {a b c : Pt} (ha : nearB a = true) (hb : nearB b = true) (hc : nearB c = true) :
    wrap64 (wrap64 (wrap64 (b.x - a.x) * wrap64 (c.y - a.y)) - wrap64 (wrap64 (b.y - a.y) * wrap64 (c.x - a.x))) = crs a b c := by
  rw [(sub_near hb ha).1, (sub_near hb ha).2, (sub_near hc ha).1, (sub_near hc ha).2]
  have := mul_near ha hb ha hc
  unfold crs
  generalize (b.x - a.x) * (c.y - a.y) = X at *
  generalize (b.y - a.y) * (c.x - a.x) = Y at *
  unfold wrap64
  omega
theorem dt_wrap {a b c : Pt} (ha : nearB a = true) (hb : nearB b = true) (hc : nearB c = true) :
    wrap64 (wrap64 (wrap64 (b.x - a.x) * wrap64 (c.x - a.x)) + wrap64 (wrap64 (b.y - a.y) * wrap64 (c.y - a.y))) = dt a b c := by
  rw [(sub_near hb ha).1, (sub_near hb ha).2, (sub_near hc ha).1, (sub_near hc ha).2]
  have := mul_near ha hb ha hc
  unfold dt
  generalize (b.x - a.x) * (c.x - a.x) = X at *
  generalize (b.y - a.y) * (c.y - a.y) = Y at *
  unfold wrap64
  omega
theorem alloc3 (w : World) (o p q : Obj) : Below w.heap.size w (((w.alloc o).alloc p).alloc q) :=
  (((Below.refl _ _).alloc (Nat.le_refl _) _).alloc (by simp) _).alloc (by simp; omega) _
theorem alloc2 (w : World) (o p : Obj) : Below w.heap.size w ((w.alloc o).alloc p) :=
  ((Below.refl _ _).alloc (Nat.le_refl _) _).alloc (by simp) _
theorem alloc1 (w : World) (o : Obj) : Below w.heap.size w (w.alloc o) := (Below.refl _ _).alloc (Nat.le_refl _) _
set_option maxRecDepth 100000 in
set_option maxHeartbeats 400000 in
theorem cross_any (a b c : Pt) (w : World) (ha : nearB a = true) (hb : nearB b = true) (hc : nearB c = true) :
    Calls Try.prog 73 #[.agg #[.int .i64 a.x, .int .i64 a.y], .agg #[.int .i64 b.x, .int .i64 b.y], .agg #[.int .i64 c.x, .int .i64 c.y]] w fun e w' => e = .returned (.int .i64 (crs a b c)) ∧ Below w.heap.size w w' := by
  go_enter Try.func73, Try.ntmps73
  go_wp2
  go_ret
  exact ⟨ret_int (crs_wrap ha hb hc), alloc3 _ _ _ _⟩
set_option maxRecDepth 100000 in
set_option maxHeartbeats 400000 in
theorem refcross_any (a b c : Pt) (w : World) (ha : nearB a = true) (hb : nearB b = true) (hc : nearB c = true) :
    Calls Try.prog 69 #[.agg #[.int .i64 a.x, .int .i64 a.y], .agg #[.int .i64 b.x, .int .i64 b.y], .agg #[.int .i64 c.x, .int .i64 c.y]] w fun e w' => e = .returned (.int .i64 (crs a b c)) ∧ Below w.heap.size w w' := by
  go_enter Try.func69, Try.ntmps69
  go_wp2
  go_ret
  exact ⟨ret_int (crs_wrap ha hb hc), alloc3 _ _ _ _⟩
set_option maxRecDepth 100000 in
set_option maxHeartbeats 400000 in
theorem dot_any (a b c : Pt) (w : World) (ha : nearB a = true) (hb : nearB b = true) (hc : nearB c = true) :
    Calls Try.prog 58 #[.agg #[.int .i64 a.x, .int .i64 a.y], .agg #[.int .i64 b.x, .int .i64 b.y], .agg #[.int .i64 c.x, .int .i64 c.y]] w fun e w' => e = .returned (.int .i64 (dt a b c)) ∧ Below w.heap.size w w' := by
  go_enter Try.func58, Try.ntmps58
  go_wp2
  go_ret
  exact ⟨ret_int (dt_wrap ha hb hc), alloc3 _ _ _ _⟩
set_option maxRecDepth 100000 in
set_option maxHeartbeats 400000 in
theorem isNaN_any (x : Int) (w : World) :
    Calls Try.prog 87 #[.int .i64 x] w fun e w' => e = .returned (.bool false) ∧ w = w' := by
  go_enter Try.func87, Try.ntmps87
  go_wp2
  go_ret
  exact ⟨ret_bool (by simp), rfl⟩
def cmpI (x y : Int) : Int := if x < y then -1 else if y < x then 1 else 0
set_option maxRecDepth 100000 in
set_option maxHeartbeats 400000 in
theorem cmpInt_any (x y : Int) (w : World) :
    Calls Try.prog 72 #[.int .i64 x, .int .i64 y] w fun e w' => e = .returned (.int .i64 (cmpI x y)) ∧ w = w' := by
  go_enter Try.func72, Try.ntmps72
  go_wp2_with fail
  refine (isNaN_any x _).mono ?_
  rintro e w1 ⟨rfl, rfl⟩
  go_wp2_with fail
  refine (isNaN_any y _).mono ?_
  rintro e w1 ⟨rfl, rfl⟩
  by_cases h1 : x < y
  · go_wp2
    go_ret
    exact ⟨ret_int (by unfold cmpI; rw [if_pos h1]), rfl⟩
  · by_cases h2 : y < x
    · go_wp2
      go_ret
      exact ⟨ret_int (by unfold cmpI; rw [if_neg (by omega), if_pos h2]), rfl⟩
    · go_wp2
      go_ret
      exact ⟨ret_int (by unfold cmpI; rw [if_neg (by omega), if_neg (by omega)]), rfl⟩
theorem cmpI_zero (x : Int) : cmpI x 0 = sgn x := by unfold cmpI sgn; rfl
set_option maxRecDepth 100000 in
set_option maxHeartbeats 400000 in
theorem side_any (a b c : Pt) (w : World) (ha : nearB a = true) (hb : nearB b = true) (hc : nearB c = true) :
    Calls Try.prog 57 #[.agg #[.int .i64 a.x, .int .i64 a.y], .agg #[.int .i64 b.x, .int .i64 b.y], .agg #[.int .i64 c.x, .int .i64 c.y]] w fun e w' => e = .returned (.int .i64 (sideN a b c)) ∧ Below w.heap.size w w' := by
  go_enter Try.func57, Try.ntmps57
  go_wp2_with fail
  refine (cross_any a b c _ ha hb hc).mono ?_
  rintro e w1 ⟨rfl, hb1⟩
  go_wp2_with fail
  refine (cmpInt_any (crs a b c) 0 _).mono ?_
  rintro e w2 ⟨rfl, rfl⟩
  go_wp2
  go_ret
  exact ⟨ret_int (cmpI_zero _), (alloc3 _ _ _ _).trans (hb1.mono (by simp; omega))⟩
set_option maxRecDepth 100000 in
set_option maxHeartbeats 400000 in
theorem sign_any (n : Int) (w : World) :
    Calls Try.prog 70 #[.int .i64 n] w fun e w' => e = .returned (.int .i64 (sgn n)) ∧ w = w' := by
  go_enter Try.func70, Try.ntmps70
  by_cases h1 : n < 0
  · go_wp2
    go_ret
    exact ⟨ret_int (by unfold sgn; rw [if_pos h1]), rfl⟩
  · by_cases h2 : 0 < n
    · go_wp2
      go_ret
      exact ⟨ret_int (by unfold sgn; rw [if_neg (by omega), if_pos h2]), rfl⟩
    · go_wp2
      go_ret
      exact ⟨ret_int (by unfold sgn; rw [if_neg (by omega), if_neg (by omega)]), rfl⟩
set_option maxRecDepth 100000 in
set_option maxHeartbeats 400000 in
theorem is_any (p : Pt) (w : World) :
    Calls Try.prog 28 #[.agg #[.int .i64 p.x, .int .i64 p.y]] w fun e w' => e = .returned (.bool (nearB p)) ∧ Below w.heap.size w w' := by
  go_enter Try.func28, Try.ntmps28
  by_cases h1 : -2097152 ≤ p.x
  · by_cases h2 : p.x ≤ 2097152
    · by_cases h3 : -2097152 ≤ p.y
      · by_cases h4 : p.y ≤ 2097152
        · go_wp2
          go_ret
          exact ⟨ret_bool (by unfold nearB; simp; omega), alloc1 _ _⟩
        · go_wp2
          go_ret
          exact ⟨ret_bool (by unfold nearB; simp; omega), alloc1 _ _⟩
      · go_wp2
        go_ret
        exact ⟨ret_bool (by unfold nearB; simp; omega), alloc1 _ _⟩
    · go_wp2
      go_ret
      exact ⟨ret_bool (by unfold nearB; simp; omega), alloc1 _ _⟩
  · go_wp2
    go_ret
    exact ⟨ret_bool (by unfold nearB; simp; omega), alloc1 _ _⟩
end Go.Proofs.Ytlagolgmkmdhhaa.Geo
