/- How a slice of points among a law's arguments is opened. -/
import Derived.Test.YtlagolgmkmdhhaaGmOpen
import Derived.Test.YtlagolgmkmdhhaaRgA
import Derived.Deep.SlicePairs
namespace Go.Proofs.Ytlagolgmkmdhhaa.Frame
open Go.ChangeShapes Go.WideShapes Go.RowKit Go.WideMaps Go.WideElems Go.Joins Go.Deep
section
variable {H : Type} {enc : TypeId × Value → H} {P : Program}
def num (v : Value) : Int := match v with | .int _ x => x | _ => 0
theorem pts_of {t e : TypeId} {f0 f1 : Field} {W : World} {b0 : Nat} {v : Value} {d : DataW H} {p : List MemPlace} (ht : P.underlying t = some (.slice e)) (he : P.underlying e = some (.struct #[f0, f1]))
    (ce : P.cellsOf e = 2) (o0 : f0.offset = 0) (o1 : f1.offset = 1) (c0 : P.cellsOf f0.type = 1) (c1 : P.cellsOf f1.type = 1)
    (h0 : P.underlying f0.type = some (.int .i64)) (h1 : P.underlying f1.type = some (.int .i64)) (hok : Value.okWide P W .any b0 t v) (h : DataW.Trod enc P W 0 (fun _ => true) true t v d p) :
    ∃ a n cap l, v = .slice a n cap ∧ n = List.length l ∧ n ≤ cap ∧ cap ≤ maxLen ∧ Rg.Pts W W.heap.size a l := by
  obtain ⟨a0, len, cap, rfl⟩ := okWide_slice ht hok
  obtain ⟨fuel, hf⟩ := h
  rcases open_slice_pairs ht he ce o0 o1 c0 c1 hf with ⟨hcs, _⟩ | ⟨a, len', cap', m, n, V0, V1, D0, D1, P0, P1, hcs, _, hl, hm, hz, _, hcell⟩
  · simp [Value.cells] at hcs
    obtain ⟨rfl, rfl, rfl⟩ := hcs
    exact ⟨none, 0, 0, [], rfl, rfl, Nat.le_refl _, Nat.zero_le _, fun h => absurd h (by simp)⟩
  · simp [Value.cells] at hcs
    obtain ⟨rfl, rfl, rfl⟩ := hcs
    have hlm : len ≤ m := by rw [hz]; split <;> omega
    refine ⟨some a, len, cap, (List.range len).map fun i => ⟨num (V0 i), num (V1 i)⟩, rfl, by simp, hl, hm, ?_⟩
    intro hpos
    simp at hpos
    obtain ⟨b, off, spot⟩ := a
    have e0 := (hcell 0 (by omega)).1
    have hspot : spot = none := by simpa [Addr.add] using World.cell?_spot e0
    subst hspot
    refine ⟨b, off, rfl, ?_, fun k q hk => ?_⟩
    · have := World.block_lt_of_cell? _ _ e0
      simpa [Addr.add] using this
    · rw [List.getElem?_map] at hk
      cases hr : (List.range len)[k]? with
      | none => rw [hr] at hk; cases hk
      | some i =>
        rw [hr] at hk
        obtain ⟨hil, hi⟩ := List.getElem?_eq_some_iff.1 hr
        simp at hil hi
        subst hi
        simp at hk
        subst hk
        obtain ⟨g0, g1, t0, t1⟩ := hcell k (by omega)
        obtain ⟨x, ex, _, _⟩ := DataW.trod_int h0 t0
        obtain ⟨y, ey, _, _⟩ := DataW.trod_int h1 t1
        simp at ex ey
        have ad : ∀ j, (⟨b, off, none⟩ : Addr).add j = ⟨b, off + j, none⟩ := fun j => by unfold Addr.add; split <;> simp_all
        rw [ad, ex] at g0
        rw [ad, ey] at g1
        rw [ex, ey]
        exact ⟨g0, g1⟩
end
end Go.Proofs.Ytlagolgmkmdhhaa.Frame
