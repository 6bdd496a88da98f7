/- How slices of tags among a law's arguments are opened. -/
import Derived.Test.YtlknbjaippfemaaLawFrame
import Derived.Test.YtlknbjaippfemaaTgLeaf
import Derived.Lib.SmallJoins
import Derived.Deep.SlicePairs
import Derived.Deep.Strs
import Derived.ChangeMaps5
namespace Go.Proofs.Ytlknbjaippfemaa.Frame
open Go.ChangeShapes Go.WideShapes Go.RowKit Go.WideMaps Go.WideElems Go.Joins Go.Deep
section
variable {H : Type} {enc : TypeId × Value → H} {P : Program}
theorem two_strs {t : TypeId} {f0 f1 : Field} {W : World} {n : Nat} {c0 c1 : Value} {x : DataW H × List MemPlace} (hs : P.underlying t = some (.struct #[f0, f1])) (hone : oneCellFields P #[f0, f1] = true)
    (h0 : P.underlying f0.type = some .string) (h1 : P.underlying f1.type = some .string) (h : DataW.trod enc P W 0 (fun _ => true) true n t [c0, c1] = some x) : ∃ s : Tg.T, c0 = .string ⟨s.1.toArray⟩ ∧ c1 = .string ⟨s.2.toArray⟩ := by
  obtain ⟨y0, y1, m, _, _, g0, g1⟩ := trod_struct2 hs h
  obtain ⟨o0, k0⟩ := hone_of hone 0 f0 rfl
  obtain ⟨o1, k1⟩ := hone_of hone 1 f1 rfl
  rw [o0, k0] at g0
  rw [o1, k1] at g1
  obtain ⟨a, e0, _⟩ := DataW.trod_string h0 g0
  obtain ⟨b, e1, _⟩ := DataW.trod_string h1 g1
  simp at e0 e1
  exact ⟨(a.data.toList, b.data.toList), by rw [e0], by rw [e1]⟩
theorem tags_of {t e : TypeId} {m0 m1 : Field} {W : World} {bb : Nat} {v : Value} {d : DataW H} {p : List MemPlace} (ht : P.underlying t = some (.slice e)) (he : P.underlying e = some (.struct #[m0, m1])) (hone : oneCellFields P #[m0, m1] = true) (ce : P.cellsOf e = 2)
    (b0 : P.underlying m0.type = some .string) (b1 : P.underlying m1.type = some .string) (hok : Value.okWide P W .any bb t v) (h : DataW.Trod enc P W 0 (fun _ => true) true t v d p) :
    ∃ a n cap l, v = .slice a n cap ∧ List.length l = n ∧ n ≤ cap ∧ cap ≤ maxLen ∧ Tg.TagsT W W.heap.size a l := by
  obtain ⟨a0, len, cap, rfl⟩ := okWide_slice ht hok
  obtain ⟨fuel, hfu⟩ := h
  rcases open_slice ht hfu with ⟨hcs, _⟩ | ⟨a, len', cap', m, n, D, Pl, hcs, _, hl, hm, hz, _, hx⟩
  · simp [Value.cells] at hcs
    obtain ⟨rfl, rfl, rfl⟩ := hcs
    exact ⟨none, 0, 0, [], rfl, rfl, Nat.le_refl _, Nat.zero_le _, fun h => absurd h (by simp)⟩
  · simp [Value.cells] at hcs
    obtain ⟨rfl, rfl, rfl⟩ := hcs
    have hlm : len ≤ m := by rw [hz]; split <;> omega
    have each : ∀ i, i < len → ∃ s : Tg.T, W.cell? (a.add (i * 2)) = some (.string ⟨s.1.toArray⟩) ∧ W.cell? (a.add (i * 2 + 1)) = some (.string ⟨s.2.toArray⟩) := by
      intro i hi
      obtain ⟨cs', h2, h3⟩ := hx i (by omega)
      rw [ce] at h2
      obtain ⟨_, hlen, hcell⟩ := World.cells?_some h2
      match cs', hlen with
      | [c0, c1], _ =>
        obtain ⟨o, e0, e1⟩ := two_strs he hone b0 b1 h3
        subst e0 e1
        have d0 := hcell 0 (by omega)
        have d1 := hcell 1 (by omega)
        rw [add_add] at d0 d1
        exact ⟨o, by simpa using d0, by simpa using d1⟩
    obtain ⟨q, hq⟩ := choose_lt each
    refine ⟨some a, len, cap, (List.range len).map q, rfl, by simp, hl, hm, ?_⟩
    intro hpos
    simp at hpos
    obtain ⟨b, off, spot⟩ := a
    have e0 := (hq 0 hpos).1
    have hspot : spot = none := by simpa [Addr.add] using World.cell?_spot e0
    subst hspot
    refine ⟨b, off, rfl, ?_, fun k s hk => ?_⟩
    · have := World.block_lt_of_cell? _ _ e0
      simpa [Addr.add] using this
    · rw [List.getElem?_map] at hk
      cases hr : (List.range len)[k]? with
      | none => rw [hr] at hk; cases hk
      | some i =>
        rw [hr] at hk
        obtain ⟨hil, hi⟩ := List.getElem?_eq_some_iff.1 hr
        simp at hil hi
        subst hi
        simp at hk
        subst hk
        have ad : ∀ j, (⟨b, off, none⟩ : Addr).add j = ⟨b, off + j, none⟩ := fun j => by unfold Addr.add; split <;> simp_all
        have := hq k hil
        rw [ad, ad] at this
        exact this
end
end Go.Proofs.Ytlknbjaippfemaa.Frame
