/- How a slice of segments among a law's arguments is opened. -/
import Derived.Test.YtlgmlgogpohgoaaGmOpen
import Derived.Test.YtlgmlgogpohgoaaSwKit
import Derived.Deep.SlicePairs
namespace Go.Proofs.Ytlgmlgogpohgoaa.Frame
open Go.ChangeShapes Go.WideShapes Go.RowKit Go.WideMaps Go.WideElems Go.Joins Go.Deep
section
variable {H : Type} {enc : TypeId × Value → H} {P : Program}
def num (v : Value) : Int := match v with | .int _ x => x | _ => 0
theorem segs_of {t e : TypeId} {f0 f1 g0 g1 : Field} {W : World} {b0 : Nat} {v : Value} {d : DataW H} {p : List MemPlace} (ht : P.underlying t = some (.slice e)) (he : P.underlying e = some (.struct #[f0, f1]))
    (ce : P.cellsOf e = 4) (o0 : f0.offset = 0) (o1 : f1.offset = 2) (hf : f1.type = f0.type) (hs2 : P.underlying f0.type = some (.struct #[g0, g1])) (hone : oneCellFields P #[g0, g1] = true) (hC2 : P.cellsOf f0.type = 2)
    (h0 : P.underlying g0.type = some (.int .i64)) (h1 : P.underlying g1.type = some (.int .i64)) (hok : Value.okWide P W .any b0 t v) (h : DataW.Trod enc P W 0 (fun _ => true) true t v d p) :
    ∃ a n cap l, v = .slice a n cap ∧ n = List.length l ∧ n ≤ cap ∧ cap ≤ maxLen ∧ Sw.Segs W W.heap.size a l := by
  obtain ⟨a0, len, cap, rfl⟩ := okWide_slice ht hok
  obtain ⟨fuel, hfu⟩ := h
  rcases open_slice ht hfu with ⟨hcs, _⟩ | ⟨a, len', cap', m, n, D, Pl, hcs, _, hl, hm, hz, _, hx⟩
  · simp [Value.cells] at hcs
    obtain ⟨rfl, rfl, rfl⟩ := hcs
    exact ⟨none, 0, 0, [], rfl, rfl, Nat.le_refl _, Nat.zero_le _, fun h => absurd h (by simp)⟩
  · simp [Value.cells] at hcs
    obtain ⟨rfl, rfl, rfl⟩ := hcs
    have hlm : len ≤ m := by rw [hz]; split <;> omega
    have each : ∀ i, i < len → ∃ s : Sw.Sg, W.cell? (a.add (i * 4)) = some (.int .i64 s.a.x) ∧ W.cell? (a.add (i * 4 + 1)) = some (.int .i64 s.a.y) ∧ W.cell? (a.add (i * 4 + 2)) = some (.int .i64 s.b.x) ∧ W.cell? (a.add (i * 4 + 3)) = some (.int .i64 s.b.y) := by
      intro i hi
      obtain ⟨cs', h2, h3⟩ := hx i (by omega)
      rw [ce] at h2
      obtain ⟨_, hlen, hcell⟩ := World.cells?_some h2
      obtain ⟨y0, y1, k, _, _, k0, k1⟩ := trod_struct2 he h3
      rw [o0, hC2] at k0
      rw [o1, hf, hC2] at k1
      match cs', hlen with
      | [c0, c1, c2, c3], _ =>
        obtain ⟨q, e0, e1⟩ := two_cells hs2 hone h0 h1 k0
        obtain ⟨r, e2, e3⟩ := two_cells hs2 hone h0 h1 k1
        subst e0 e1 e2 e3
        have d0 := hcell 0 (by omega)
        have d1 := hcell 1 (by omega)
        have d2 := hcell 2 (by omega)
        have d3 := hcell 3 (by omega)
        rw [add_add] at d0 d1 d2 d3
        exact ⟨⟨q, r⟩, by simpa using d0, by simpa using d1, by simpa using d2, by simpa using d3⟩
    obtain ⟨q, hq⟩ := choose_lt each
    refine ⟨some a, len, cap, (List.range len).map q, rfl, by simp, hl, hm, ?_⟩
    intro hpos
    simp at hpos
    obtain ⟨b, off, spot⟩ := a
    have e0 := (hq 0 hpos).1
    have hspot : spot = none := by simpa [Addr.add] using World.cell?_spot e0
    subst hspot
    refine ⟨b, off, rfl, ?_, fun k s hk => ?_⟩
    · have := World.block_lt_of_cell? _ _ e0
      simpa [Addr.add] using this
    · rw [List.getElem?_map] at hk
      cases hr : (List.range len)[k]? with
      | none => rw [hr] at hk; cases hk
      | some i =>
        rw [hr] at hk
        obtain ⟨hil, hi⟩ := List.getElem?_eq_some_iff.1 hr
        simp at hil hi
        subst hi
        simp at hk
        subst hk
        have ad : ∀ j, (⟨b, off, none⟩ : Addr).add j = ⟨b, off + j, none⟩ := fun j => by unfold Addr.add; split <;> simp_all
        have := hq k hil
        rw [ad, ad, ad, ad] at this
        exact this
end
end Go.Proofs.Ytlgmlgogpohgoaa.Frame
