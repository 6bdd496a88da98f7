/- geom.Meets of near segments, and of others. -/
import Derived.Test.YtlgmlgogpohgoaaGmMeets
namespace Go.Proofs.Ytlgmlgogpohgoaa.Geo
open Go.RowKit Go.Sort
theorem meets_near {a b c d : Pt} {k : Int} (na : nearB a = true) (nb : nearB b = true) (nc : nearB c = true) (nd : nearB d = true) (hk : meetsN a b c d = k) :
    Answers Try.prog 31 #[.agg #[.int .i64 a.x, .int .i64 a.y, .int .i64 b.x, .int .i64 b.y], .agg #[.int .i64 c.x, .int .i64 c.y, .int .i64 d.x, .int .i64 d.y]] (.int .i64 k) :=
  (meets_any a b c d).to (congrArg (Value.int .i64) (by unfold meetsF; rw [na, nb, nc, nd, ← hk]; rfl))
theorem meets_far {a b c d : Pt} (h : (nearB a && nearB b && nearB c && nearB d) = false) :
    Answers Try.prog 31 #[.agg #[.int .i64 a.x, .int .i64 a.y, .int .i64 b.x, .int .i64 b.y], .agg #[.int .i64 c.x, .int .i64 c.y, .int .i64 d.x, .int .i64 d.y]] (.int .i64 0) :=
  (meets_any a b c d).to (congrArg (Value.int .i64) (by unfold meetsF; rw [h]; rfl))
end Go.Proofs.Ytlgmlgogpohgoaa.Geo
