/- How points and segments among a law's arguments are opened. -/
import Derived.Test.YtlagolgmkmdhhaaLawFrame
import Derived.Test.YtlagolgmkmdhhaaGmMath
import Derived.Lib.SmallJoins
namespace Go.Proofs.Ytlagolgmkmdhhaa.Frame
open Go.ChangeShapes Go.WideShapes Go.RowKit Go.WideMaps Go.WideElems Go.Joins Go.Deep
section
variable {H : Type} {enc : TypeId × Value → H} {P : Program}
theorem pt_of {t : TypeId} {f0 f1 : Field} {W : World} {b0 : Nat} {v : Value} {d : DataW H} {p : List MemPlace} (hs : P.underlying t = some (.struct #[f0, f1])) (hone : oneCellFields P #[f0, f1] = true) (hC : P.cellsOf t = 2)
    (h0 : P.underlying f0.type = some (.int .i64)) (h1 : P.underlying f1.type = some (.int .i64)) (hv : Value.okWide P W .any b0 t v) (h : DataW.Trod enc P W 0 (fun _ => true) true t v d p) :
    ∃ q : Geo.Pt, v = .agg #[.int .i64 q.x, .int .i64 q.y] := by
  obtain ⟨v0, v1, y0, y1, n, rfl, _, _, g0, g1⟩ := open_agg2 hs hone hC hv h
  obtain ⟨a, e0, _, _⟩ := DataW.trod_int h0 g0
  obtain ⟨b, e1, _, _⟩ := DataW.trod_int h1 g1
  simp only [List.cons.injEq, and_true] at e0 e1
  subst e0 e1
  exact ⟨⟨a, b⟩, rfl⟩
theorem two_cells {t : TypeId} {f0 f1 : Field} {W : World} {n : Nat} {c0 c1 : Value} {x : DataW H × List MemPlace} (hs : P.underlying t = some (.struct #[f0, f1])) (hone : oneCellFields P #[f0, f1] = true)
    (h0 : P.underlying f0.type = some (.int .i64)) (h1 : P.underlying f1.type = some (.int .i64)) (h : DataW.trod enc P W 0 (fun _ => true) true n t [c0, c1] = some x) : ∃ q : Geo.Pt, c0 = .int .i64 q.x ∧ c1 = .int .i64 q.y := by
  obtain ⟨y0, y1, m, _, _, g0, g1⟩ := trod_struct2 hs h
  obtain ⟨o0, k0⟩ := hone_of hone 0 f0 rfl
  obtain ⟨o1, k1⟩ := hone_of hone 1 f1 rfl
  rw [o0, k0] at g0
  rw [o1, k1] at g1
  obtain ⟨a, e0, _, _⟩ := DataW.trod_int h0 g0
  obtain ⟨b, e1, _, _⟩ := DataW.trod_int h1 g1
  simp at e0 e1
  exact ⟨⟨a, b⟩, e0, e1⟩
theorem seg_of {t : TypeId} {f0 f1 g0 g1 : Field} {W : World} {b0 : Nat} {v : Value} {d : DataW H} {p : List MemPlace} (hs : P.underlying t = some (.struct #[f0, f1])) (hC : P.cellsOf t = 4) (ho : f0.offset = 0) (ho1 : f1.offset = 2) (hf : f1.type = f0.type)
    (hs2 : P.underlying f0.type = some (.struct #[g0, g1])) (hone : oneCellFields P #[g0, g1] = true) (hC2 : P.cellsOf f0.type = 2)
    (h0 : P.underlying g0.type = some (.int .i64)) (h1 : P.underlying g1.type = some (.int .i64)) (hv : Value.okWide P W .any b0 t v) (h : DataW.Trod enc P W 0 (fun _ => true) true t v d p) :
    ∃ a b : Geo.Pt, v = .agg #[.int .i64 a.x, .int .i64 a.y, .int .i64 b.x, .int .i64 b.y] := by
  obtain ⟨cs, rfl, hsz⟩ := okWide_struct hs hv
  obtain ⟨c0, c1, c2, c3, rfl⟩ := array4 (hsz.trans hC)
  obtain ⟨fuel, hfu⟩ := h
  obtain ⟨y0, y1, n, _, _, k0, k1⟩ := trod_struct2 hs hfu
  rw [ho, hC2] at k0
  rw [ho1, hf, hC2] at k1
  obtain ⟨a, e0, e1⟩ := two_cells hs2 hone h0 h1 k0
  obtain ⟨b, e2, e3⟩ := two_cells hs2 hone h0 h1 k1
  subst e0 e1 e2 e3
  exact ⟨a, b, rfl⟩
end
end Go.Proofs.Ytlagolgmkmdhhaa.Frame
