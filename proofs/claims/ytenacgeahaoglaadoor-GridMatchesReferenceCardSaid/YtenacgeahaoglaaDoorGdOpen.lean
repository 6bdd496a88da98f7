/- How the arguments of grid's laws are opened, and what the row's variables give. No law is named here. -/
import Derived.Test.YtenacgeahaoglaaDoorLawFrame
import Derived.Test.YtenacgeahaoglaaDoorGdHead
import Derived.Test.YtenacgeahaoglaaDoorRows
import Derived.Lib.SmallJoins
import Derived.Shelf.Vars
import Derived.LaidLaws
namespace Go.Proofs.YtenacgeahaoglaaDoor.Frame
open Go.ChangeShapes Go.WideShapes Go.RowKit Go.WideMaps Go.WideElems Go.Joins Go.Deep
section
variable {H : Type} {enc : TypeId × Value → H} {P : Program}
theorem pn_of {t : TypeId} {f0 f1 : Field} {W : World} {b0 : Nat} {v : Value} {d : DataW H} {p : List MemPlace} (hs : P.underlying t = some (.struct #[f0, f1])) (hone : oneCellFields P #[f0, f1] = true) (hC : P.cellsOf t = 2)
    (h0 : P.underlying f0.type = some (.int .i64)) (h1 : P.underlying f1.type = some (.int .i64)) (hv : Value.okWide P W .any b0 t v) (h : DataW.Trod enc P W 0 (fun _ => true) true t v d p) :
    ∃ q : Gd.Pn, v = .agg #[.int .i64 q.x, .int .i64 q.y] := by
  obtain ⟨v0, v1, y0, y1, n, rfl, _, _, g0, g1⟩ := open_agg2 hs hone hC hv h
  obtain ⟨a, e0, _, _⟩ := DataW.trod_int h0 g0
  obtain ⟨b, e1, _, _⟩ := DataW.trod_int h1 g1
  simp only [List.cons.injEq, and_true] at e0 e1
  subst e0 e1
  exact ⟨⟨a, b⟩, rfl⟩
theorem tl_of {t : TypeId} {f0 f1 f2 : Field} {W : World} {b0 : Nat} {v : Value} {d : DataW H} {p : List MemPlace} (hs : P.underlying t = some (.struct #[f0, f1, f2])) (hone : oneCellFields P #[f0, f1, f2] = true) (hC : P.cellsOf t = 3)
    (h0 : P.underlying f0.type = some (.int .i64)) (h1 : P.underlying f1.type = some (.int .i64)) (h2 : P.underlying f2.type = some (.int .i64)) (hv : Value.okWide P W .any b0 t v) (h : DataW.Trod enc P W 0 (fun _ => true) true t v d p) :
    ∃ q : Gd.Tl, v = .agg #[.int .i64 q.z, .int .i64 q.x, .int .i64 q.y] := by
  obtain ⟨v0, v1, v2, y0, y1, y2, n, rfl, _, _, g0, g1, g2⟩ := open_agg3 hs hone hC hv h
  obtain ⟨a, e0, _, _⟩ := DataW.trod_int h0 g0
  obtain ⟨b, e1, _, _⟩ := DataW.trod_int h1 g1
  obtain ⟨c, e2, _, _⟩ := DataW.trod_int h2 g2
  simp only [List.cons.injEq, and_true] at e0 e1 e2
  subst e0 e1 e2
  exact ⟨⟨a, b, c⟩, rfl⟩
theorem two_cells {t : TypeId} {f0 f1 : Field} {W : World} {n : Nat} {c0 c1 : Value} {x : DataW H × List MemPlace} (hs : P.underlying t = some (.struct #[f0, f1])) (hone : oneCellFields P #[f0, f1] = true)
    (h0 : P.underlying f0.type = some (.int .i64)) (h1 : P.underlying f1.type = some (.int .i64)) (h : DataW.trod enc P W 0 (fun _ => true) true n t [c0, c1] = some x) : ∃ q : Gd.Pn, c0 = .int .i64 q.x ∧ c1 = .int .i64 q.y := by
  obtain ⟨y0, y1, m, _, _, g0, g1⟩ := trod_struct2 hs h
  obtain ⟨o0, k0⟩ := hone_of hone 0 f0 rfl
  obtain ⟨o1, k1⟩ := hone_of hone 1 f1 rfl
  rw [o0, k0] at g0
  rw [o1, k1] at g1
  obtain ⟨a, e0, _, _⟩ := DataW.trod_int h0 g0
  obtain ⟨b, e1, _, _⟩ := DataW.trod_int h1 g1
  simp at e0 e1
  exact ⟨⟨a, b⟩, e0, e1⟩
theorem bb_of {t : TypeId} {f0 f1 g0 g1 : Field} {W : World} {b0 : Nat} {v : Value} {d : DataW H} {p : List MemPlace} (hs : P.underlying t = some (.struct #[f0, f1])) (hC : P.cellsOf t = 4) (ho : f0.offset = 0) (ho1 : f1.offset = 2) (hf : f1.type = f0.type)
    (hs2 : P.underlying f0.type = some (.struct #[g0, g1])) (hone : oneCellFields P #[g0, g1] = true) (hC2 : P.cellsOf f0.type = 2)
    (h0 : P.underlying g0.type = some (.int .i64)) (h1 : P.underlying g1.type = some (.int .i64)) (hv : Value.okWide P W .any b0 t v) (h : DataW.Trod enc P W 0 (fun _ => true) true t v d p) :
    ∃ b : Gd.Bb, v = .agg #[.int .i64 b.a.x, .int .i64 b.a.y, .int .i64 b.b.x, .int .i64 b.b.y] := by
  obtain ⟨cs, rfl, hsz⟩ := okWide_struct hs hv
  obtain ⟨c0, c1, c2, c3, rfl⟩ := array4 (hsz.trans hC)
  obtain ⟨fuel, hfu⟩ := h
  obtain ⟨y0, y1, n, _, _, k0, k1⟩ := trod_struct2 hs hfu
  rw [ho, hC2] at k0
  rw [ho1, hf, hC2] at k1
  obtain ⟨a, e0, e1⟩ := two_cells hs2 hone h0 h1 k0
  obtain ⟨b, e2, e3⟩ := two_cells hs2 hone h0 h1 k1
  subst e0 e1 e2 e3
  exact ⟨⟨a, b⟩, rfl⟩
end
/-- what the row lists, in its order. -/
abbrev listed : List (String × DataW Unit) := [("math/bits.deBruijn32tab", Rows.laid_math_bits_deBruijn32tab), ("math/bits.deBruijn64tab", Rows.laid_math_bits_deBruijn64tab), ("internal/strconv.uint64pow10", Rows.laid_internal_strconv_uint64pow10), ("strconv.ErrRange", Rows.laid_strconv_ErrRange), ("strconv.ErrSyntax", Rows.laid_strconv_ErrSyntax), ("planisphere/grid.sides", Rows.laid_planisphere_grid_sides)]
theorem gTab : (Tryd.prog.globals[4]?).map (·.type) = some 100 := by kernel_rfl
theorem cTab : Tryd.prog.cellsOf 100 = 20 := by kernel_rfl
theorem cU64 : Tryd.prog.cellsOf 76 = 1 := by kernel_rfl
theorem gSides : (Tryd.prog.globals[0]?).map (·.type) = some 57 := by kernel_rfl
theorem cSides : Tryd.prog.cellsOf 57 = 18 := by kernel_rfl
theorem cInt : Tryd.prog.cellsOf 3 = 1 := by kernel_rfl
theorem cPt : Tryd.prog.cellsOf 23 = 2 := by kernel_rfl
theorem cBox : Tryd.prog.cellsOf 27 = 4 := by kernel_rfl
theorem cTile : Tryd.prog.cellsOf 25 = 3 := by kernel_rfl
theorem cErr : Tryd.prog.cellsOf 111 = 1 := by kernel_rfl
theorem cStr : Tryd.prog.cellsOf 9 = 1 := by kernel_rfl
theorem nSyn : Tryd.prog.globalNamed "strconv.ErrSyntax" = some 2 := by kernel_rfl
theorem nRng : Tryd.prog.globalNamed "strconv.ErrRange" = some 3 := by kernel_rfl
theorem gSyn : (Tryd.prog.globals[2]?).map (·.type) = some 68 := by kernel_rfl
theorem gRng : (Tryd.prog.globals[3]?).map (·.type) = some 68 := by kernel_rfl
theorem star : "*" ++ "errors.errorString" = "*errors.errorString" := by decide
theorem rowE (u : TypeId) (h : Tryd.prog.typeName? 3 u = some "*errors.errorString") : u = 109 :=
  typeName_ptr_named (nm := "errors.errorString") (by rw [star]; kernel_rfl) (by kernel_rfl) (by decide) u (by rw [star]; exact h)
theorem world_of {W : World} (h : laidMetH Tryd.prog listed W) (hs : W.ShapedOpen Tryd.prog) : Gd.Gw W := by
  have h2 := laidMet.tail (laidMet.tail h)
  have h3 := laidMet.tail h2
  have h4 := laidMet.tail h3
  have h5 := laidMet.tail h4
  refine ⟨Lib.tabIs_of_head Gd.sides_at gSides Tryd.underlying57 Tryd.underlying3 cInt cSides h5, Lib.tabIs_of_head Gd.tab_at gTab Tryd.underlying100 Tryd.underlying76 cU64 cTab h2, ?_, ?_, ?_⟩
  · exact Proofs.cell_of_shapedOpen_int hs (t := 3) (zero := #[.int .i64 0]) (of_decide_eq_true (by kernel_rfl)) (by kernel_rfl) (by kernel_rfl) (by kernel_rfl) (by kernel_rfl) Tryd.underlying3
  · obtain ⟨a, s, hv, _, _, _⟩ := laid_sentinel h4 nSyn gSyn Tryd.underlying68 rowE Tryd.underlying109 Tryd.underlying111 rfl rfl Tryd.underlying9 cErr cStr
    have := World.var?_cell nSyn hv 0
    exact ⟨_, this, .inr ⟨_, _, rfl⟩⟩
  · obtain ⟨a, s, hv, _, _, _⟩ := laid_sentinel h3 nRng gRng Tryd.underlying68 rowE Tryd.underlying109 Tryd.underlying111 rfl rfl Tryd.underlying9 cErr cStr
    have := World.var?_cell nRng hv 0
    exact ⟨_, this, .inr ⟨_, _, rfl⟩⟩
end Go.Proofs.YtenacgeahaoglaaDoor.Frame
