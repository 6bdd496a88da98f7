/- The least of two lengths and a number. -/
import Derived.WalkKit
import Derived.WalkLawsBesides
namespace Go.Proofs.YtjaaffchlaillaaDoor.Dg
theorem min3 (a b c : Nat) : ∃ m : Nat, (if (c : Int) < (if (b : Int) < a then (b : Int) else a) then (c : Int) else (if (b : Int) < a then (b : Int) else a)) = (m : Int) ∧ m ≤ c ∧ m ≤ a ∧ m ≤ b := by
  refine ⟨min (min a b) c, ?_, by omega, by omega, by omega⟩
  split <;> split <;> omega
theorem run_min3 (P : Program) (a b c m : Nat) (hm : (if (c : Int) < (if (b : Int) < a then (b : Int) else a) then (c : Int) else (if (b : Int) < a then (b : Int) else a)) = (m : Int)) (ts : Array TypeId) (t : TypeId) (w : World) :
    (Builtin.min_ ts t #[.int .i64 a, .int .i64 b, .int .i64 c]).run P w = .ok (.int .i64 m) w := by
  rw [run_min_int3, hm]
end Go.Proofs.YtjaaffchlaillaaDoor.Dg
