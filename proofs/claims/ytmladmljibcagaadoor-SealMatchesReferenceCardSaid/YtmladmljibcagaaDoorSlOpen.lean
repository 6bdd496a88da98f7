/- How a seal among a law's arguments is opened. -/
import Derived.Test.YtmladmljibcagaaDoorLawOpen
import Derived.Test.YtmladmljibcagaaDoorSlKit
import Derived.Lib.SmallJoins
import Derived.OpenShut
namespace Go.Proofs.YtmladmljibcagaaDoor.Frame
open Go.ChangeShapes Go.WideShapes Go.RowKit Go.WideMaps Go.WideElems Go.Joins Go.Deep
section
variable {H : Type} {enc : TypeId × Value → H} {P : Program}
theorem strs_field {t e : TypeId} {W : World} {v : Value} {n : Nat} {y : DataW H × List MemPlace} (ht : P.underlying t = some (.slice e)) (he : P.underlying e = some .string) (hc : P.cellsOf e = 1)
    (hf : DataW.trod enc P W 0 (fun _ => true) true n t [v] = some y) :
    ∃ a m cap L, v = .slice a m cap ∧ Sl.Txt W W.heap.size a L ∧ m = L.length ∧ m ≤ cap ∧ cap ≤ maxLen := by
  rcases open_strings ht he hc hf with ⟨hcs, _⟩ | ⟨a, len, cap, ss, hcs, _, hl, hm, hz, _, hcell, _⟩
  · simp only [List.cons.injEq, and_true] at hcs
    subst hcs
    exact ⟨none, 0, 0, [], rfl, Sl.Txt.none_, rfl, Nat.le_refl _, by unfold maxLen; omega⟩
  · simp only [List.cons.injEq, and_true] at hcs
    subst hcs
    simp only [if_true] at hz
    have hlen : (ss.take len).length = len := by rw [List.length_take]; omega
    refine ⟨some a, len, cap, Dg.lists (ss.take len), rfl, ?_, by unfold Dg.lists; rw [List.length_map, hlen], hl, hm⟩
    unfold Sl.Txt
    rw [Sl.bas_of]
    intro h0
    obtain ⟨b, off, spot⟩ := a
    have c0 := hcell 0 (by omega)
    have hspot : spot = none := by simpa [Addr.add] using World.cell?_spot c0
    subst hspot
    refine ⟨b, off, rfl, ?_, fun i s hi => ?_⟩
    · have := World.block_lt_of_cell? _ _ c0
      simpa [Addr.add] using this
    · rw [List.getElem?_take] at hi
      split at hi
      · obtain ⟨hil, rfl⟩ := List.getElem?_eq_some_iff.1 hi
        have := hcell i hil
        rw [show (⟨b, off, none⟩ : Addr).add i = ⟨b, off + i, none⟩ by unfold Addr.add; split <;> simp_all] at this
        rw [this]
        simp [hil]
      · cases hi
theorem seal_of {t e : TypeId} {f0 f1 f2 : Field} {W : World} {b0 : Nat} {v : Value} {d : DataW H} {p : List MemPlace} (hs : P.underlying t = some (.struct #[f0, f1, f2])) (hone : oneCellFields P #[f0, f1, f2] = true) (hC : P.cellsOf t = 3)
    (h0 : P.underlying f0.type = some (.int .i64)) (h1 : P.underlying f1.type = some (.slice e)) (h2 : P.underlying f2.type = some (.slice e)) (he : P.underlying e = some .string) (hce : P.cellsOf e = 1)
    (hv : Value.okWide P W .any b0 t v) (h : DataW.Trod enc P W 0 (fun _ => true) true t v d p) :
    ∃ idx a na ca q np cp sig ps, v = .agg #[.int .i64 idx, .slice a na ca, .slice q np cp] ∧ Sl.Txt W W.heap.size a sig ∧ Sl.Txt W W.heap.size q ps ∧ na = sig.length ∧ np = ps.length ∧ na ≤ ca ∧ ca ≤ maxLen ∧ np ≤ cp ∧ cp ≤ maxLen ∧
      -9223372036854775808 ≤ idx ∧ idx ≤ 9223372036854775807 := by
  obtain ⟨v0, v1, v2, y0, y1, y2, n, rfl, _, _, g0, g1, g2⟩ := open_agg3 hs hone hC hv h
  obtain ⟨idx, e0, _, wa⟩ := DataW.trod_int h0 g0
  simp only [List.cons.injEq, and_true] at e0
  subst e0
  obtain ⟨a, na, ca, sig, rfl, x1, x2, x3, x4⟩ := strs_field h1 he hce g1
  obtain ⟨q, np, cp, ps, rfl, z1, z2, z3, z4⟩ := strs_field h2 he hce g2
  obtain ⟨lo, hi⟩ := bounds_i64 wa
  exact ⟨idx, a, na, ca, q, np, cp, sig, ps, rfl, x1, z1, x2, z2, x3, x4, z3, z4, lo, hi⟩
end
end Go.Proofs.YtmladmljibcagaaDoor.Frame
