/- sweep.bounds, boxOf; the comparisons of the sorts. -/
import Derived.Test.YtlgmlgogpohgoaaSwKit
import Derived.BigQuiet
import Derived.Deep.QuietTactic
namespace Go.Proofs.Ytlgmlgogpohgoaa.Sw
open Go.RowKit Go.Sort
open Go.Proofs.Ytlgmlgogpohgoaa.Geo hiding intOf
theorem run_min2 {P : Program} (a b : Int) (ts : Array TypeId) (t : TypeId) (w : World) : (Builtin.min_ ts t #[.int .i64 a, .int .i64 b]).run P w = .ok (.int .i64 (min a b)) w := by
  rw [run_min_int2, show (if b < a then b else a) = min a b by split <;> omega]
theorem run_max2 {P : Program} (a b : Int) (ts : Array TypeId) (t : TypeId) (w : World) : (Builtin.max_ ts t #[.int .i64 a, .int .i64 b]).run P w = .ok (.int .i64 (max a b)) w := by
  rw [run_max_int2, show (if b > a then b else a) = max a b by split <;> omega]
set_option maxRecDepth 100000 in
theorem bounds_any (a b : Int) (w : World) : Calls Try.prog 54 #[.int .i64 a, .int .i64 b] w fun e w' => e = .returned (.tuple #[.int .i64 (min a b), .int .i64 (max a b)]) ∧ w = w' := by
  obtain ⟨x, hx⟩ : ∃ x, min a b = x := ⟨_, rfl⟩
  obtain ⟨y, hy⟩ : ∃ y, max a b = y := ⟨_, rfl⟩
  have hmin : ∀ ts t w, (Builtin.min_ ts t #[.int .i64 a, .int .i64 b]).run Try.prog w = .ok (.int .i64 x) w := fun ts t w => by rw [run_min2, hx]
  have hmax : ∀ ts t w, (Builtin.max_ ts t #[.int .i64 a, .int .i64 b]).run Try.prog w = .ok (.int .i64 y) w := fun ts t w => by rw [run_max2, hy]
  rw [hx, hy]
  clear hx hy
  go_enter Try.func54, Try.ntmps54
  go_wp2
  go_ret2
  exact ⟨rfl, rfl⟩
set_option maxRecDepth 100000 in
set_option maxHeartbeats 1000000 in
/-- the comparison of two entries: what it leaves is the world grown. -/
theorem orderE_grow (s t : Ent) (w : World) : Calls Try.prog 84 #[.agg (encE s).toArray, .agg (encE t).toArray] w fun e w' => e = .returned (.int .i64 (cmpI s.lo.x t.lo.x)) ∧ ∃ q os, w' = grow (w.drewN q) os := by
  unfold encE
  go_enter Try.func84, Try.ntmps84
  go_wp2_with fail
  refine (cmpInt_any s.lo.x t.lo.x _).mono ?_
  rintro e w1 ⟨rfl, rfl⟩
  go_wp2
  go_ret
  refine ⟨rfl, 0, #[.cells (encE s).toArray 85, .cells (encE t).toArray 85], ?_⟩
  rw [alloc_eq_grow, alloc_eq_grow, grow_grow]
  rfl
set_option maxRecDepth 100000 in
set_option maxHeartbeats 1000000 in
/-- the comparison of two meetings. -/
theorem orderM_grow (s t : Met) (w : World) : Calls Try.prog 58 #[.agg (encM s).toArray, .agg (encM t).toArray] w fun e w' => e = .returned (.int .i64 (ordM s t)) ∧ ∃ q os, w' = grow (w.drewN q) os := by
  unfold encM
  go_enter Try.func58, Try.ntmps58
  go_wp2
  all_goals
    go_ret
    refine ⟨ret_int (by unfold ordM; split <;> (try split) <;> omega), ?_⟩
    rw [alloc_eq_grow, alloc_eq_grow, grow_grow]
    exact ⟨0, _, rfl⟩
end Go.Proofs.Ytlgmlgogpohgoaa.Sw
