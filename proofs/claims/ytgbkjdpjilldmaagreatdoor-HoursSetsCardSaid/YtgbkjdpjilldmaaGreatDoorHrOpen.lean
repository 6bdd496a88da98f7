/- How the arguments of hours' laws are opened, and what the row's variables give. No law is named here. -/
import Derived.Test.YtgbkjdpjilldmaaGreatDoorLawFrame
import Derived.Test.YtgbkjdpjilldmaaGreatDoorHz16
import Derived.Test.YtgbkjdpjilldmaaGreatDoorRows
import Derived.Lib.SmallJoins
import Derived.Shelf.Vars
import Derived.LaidLaws
import Derived.Deep.SlicePairs
import Derived.ChangeMaps5
namespace Go.Proofs.YtgbkjdpjilldmaaGreatDoor.Frame
open Go.ChangeShapes Go.WideShapes Go.RowKit Go.WideMaps Go.WideElems Go.Joins Go.Deep
section
variable {H : Type} {enc : TypeId × Value → H} {P : Program}
def num (v : Value) : Int := match v with | .int _ x => x | _ => 0
theorem spans_of {t e : TypeId} {f0 f1 : Field} {W : World} {b0 : Nat} {v : Value} {d : DataW H} {p : List MemPlace} (ht : P.underlying t = some (.slice e)) (he : P.underlying e = some (.struct #[f0, f1]))
    (ce : P.cellsOf e = 2) (o0 : f0.offset = 0) (o1 : f1.offset = 1) (c0 : P.cellsOf f0.type = 1) (c1 : P.cellsOf f1.type = 1)
    (h0 : P.underlying f0.type = some (.int .i64)) (h1 : P.underlying f1.type = some (.int .i64)) (hok : Value.okWide P W .any b0 t v) (h : DataW.Trod enc P W 0 (fun _ => true) true t v d p) :
    ∃ a n cap l, v = .slice a n cap ∧ List.length l = n ∧ n ≤ cap ∧ cap ≤ maxLen ∧ Hr.SpT W W.heap.size a l := by
  obtain ⟨a0, len, cap, rfl⟩ := okWide_slice ht hok
  obtain ⟨fuel, hf⟩ := h
  rcases open_slice_pairs ht he ce o0 o1 c0 c1 hf with ⟨hcs, _⟩ | ⟨a, len', cap', m, n, V0, V1, D0, D1, P0, P1, hcs, _, hl, hm, hz, _, hcell⟩
  · simp [Value.cells] at hcs
    obtain ⟨rfl, rfl, rfl⟩ := hcs
    exact ⟨none, 0, 0, [], rfl, rfl, Nat.le_refl _, Nat.zero_le _, fun h => absurd h (by simp)⟩
  · simp [Value.cells] at hcs
    obtain ⟨rfl, rfl, rfl⟩ := hcs
    have hlm : len ≤ m := by rw [hz]; split <;> omega
    refine ⟨some a, len, cap, (List.range len).map fun i => (num (V0 i), num (V1 i)), rfl, by simp, hl, hm, ?_⟩
    intro hpos
    simp at hpos
    obtain ⟨b, off, spot⟩ := a
    have e0 := (hcell 0 (by omega)).1
    have hspot : spot = none := by simpa [Addr.add] using World.cell?_spot e0
    subst hspot
    refine ⟨b, off, rfl, ?_, fun k q hk => ?_⟩
    · have := World.block_lt_of_cell? _ _ e0
      simpa [Addr.add] using this
    · rw [List.getElem?_map] at hk
      cases hr : (List.range len)[k]? with
      | none => rw [hr] at hk; cases hk
      | some i =>
        rw [hr] at hk
        obtain ⟨hil, hi⟩ := List.getElem?_eq_some_iff.1 hr
        simp at hil hi
        subst hi
        simp at hk
        subst hk
        obtain ⟨g0, g1, t0, t1⟩ := hcell k (by omega)
        obtain ⟨x, ex, _, _⟩ := DataW.trod_int h0 t0
        obtain ⟨y, ey, _, _⟩ := DataW.trod_int h1 t1
        simp at ex ey
        have ad : ∀ j, (⟨b, off, none⟩ : Addr).add j = ⟨b, off + j, none⟩ := fun j => by unfold Addr.add; split <;> simp_all
        rw [ad, ex] at g0
        rw [ad, ey] at g1
        rw [ex, ey]
        exact ⟨g0, g1⟩
/-- an array of texts as a row lists it. -/
def strData {H : Type} (zs : List (List UInt8)) : DataW H := .agg (zs.map fun z => .lit (.string z))
theorem cells_of_strs {w : World} {base : Nat} {sp : Nat → Bool} {held : Bool} {fuel : Nat} {t e : TypeId} {n : Nat} {cs : List Value} {zs : List (List UInt8)} {p : List MemPlace}
    (ht : P.underlying t = some (.array n e)) (he : P.underlying e = some .string) (hce : P.cellsOf e = 1) (hct : P.cellsOf t = n)
    (h : DataW.trod enc P w base sp held fuel t cs = some (strData zs, p)) : cs = zs.map fun z => Value.string ⟨z.toArray⟩ := by
  cases fuel with
  | zero => simp [DataW.trod] at h
  | succ fuel =>
    simp only [DataW.trod, ht, hce, hct, Nat.mul_one] at h
    split at h
    · rename_i hl
      obtain ⟨xs, hm, hx⟩ := Option.map_eq_some_iff.1 h
      have hxs : xs.map (·.1) = zs.map fun z => (DataW.lit (.string z) : DataW H) := by
        have := congrArg Prod.fst hx
        simpa [strData] using this
      have hxl : xs.length = n := by simpa using Lib.mapM_length hm
      have hzl : zs.length = n := by
        have := congrArg List.length hxs
        simp at this
        omega
      apply List.ext_getElem?
      intro i
      by_cases hi : i < n
      · obtain ⟨b, hb, hf⟩ := Lib.mapM_at hm i i (by simp [hi])
        obtain ⟨z, hc, rfl, _⟩ := DataW.trod_string he hf
        have h1 : cs[i]? = some (.string z) := by
          have := congrArg (·[0]?) hc
          simpa [List.getElem?_take, List.getElem?_drop] using this
        have h2 : (xs.map (·.1))[i]? = some (DataW.lit (.string z.data.toList) : DataW H) := by simp [hb]
        rw [hxs] at h2
        simp only [List.getElem?_map, Option.map_eq_some_iff, DataW.lit.injEq, Lit.string.injEq] at h2
        obtain ⟨z', hz', h3⟩ := h2
        rw [h1, List.getElem?_map, hz', h3]
        simp
      · rw [List.getElem?_eq_none (by omega), List.getElem?_eq_none (by simp; omega)]
    · cases h
end
/-- what the row lists, in its order. -/
abbrev listed : List (String × DataW Unit) := [("math/bits.deBruijn32tab", Rows.laid_math_bits_deBruijn32tab), ("math/bits.deBruijn64tab", Rows.laid_math_bits_deBruijn64tab), ("internal/strconv.uint64pow10", Rows.laid_internal_strconv_uint64pow10), ("strconv.ErrRange", Rows.laid_strconv_ErrRange), ("strconv.ErrSyntax", Rows.laid_strconv_ErrSyntax), ("planisphere/hours.dayNames", Rows.laid_planisphere_hours_dayNames)]
theorem dn_at : Tryz.prog.globalNamed "planisphere/hours.dayNames" = some 0 := by kernel_rfl
theorem gDn : (Tryz.prog.globals[0]?).map (·.type) = some 74 := by kernel_rfl
theorem cDn : Tryz.prog.cellsOf 74 = 7 := by kernel_rfl
theorem cStr : Tryz.prog.cellsOf 9 = 1 := by kernel_rfl
theorem cSpan : Tryz.prog.cellsOf 54 = 2 := by kernel_rfl
theorem cInt : Tryz.prog.cellsOf 3 = 1 := by kernel_rfl
theorem world_of {W : World} (h : laidMetH Tryz.prog listed W) : Hr.Dn W.heap.size W := by
  have h6 := laidMet.tail (laidMet.tail (laidMet.tail (laidMet.tail (laidMet.tail h))))
  obtain ⟨ps, ⟨g', t', cs, fuel, p, q, hg', ht', hvar, hd, _, _⟩, _⟩ := h6
  obtain rfl := Option.some.inj (dn_at.symm.trans hg')
  obtain rfl := Option.some.inj (gDn.symm.trans ht')
  have e := cells_of_strs (zs := [[109, 111], [116, 117], [119, 101], [116, 104], [102, 114], [115, 97], [115, 117]]) Tryz.underlying74 Tryz.underlying9 cStr cDn hd
  have key : ∀ i, i < 7 → W.cell? ⟨0, i, none⟩ = some (.string ⟨(Hr.dayB i).toArray⟩) := by
    intro i hi
    have h1 := World.var?_cell dn_at hvar i
    rw [← Array.getElem?_toList, e] at h1
    match i, hi with
    | 0, _ => exact h1
    | 1, _ => exact h1
    | 2, _ => exact h1
    | 3, _ => exact h1
    | 4, _ => exact h1
    | 5, _ => exact h1
    | 6, _ => exact h1
  exact ⟨World.block_lt_of_cell? _ _ (key 0 (by decide)), key⟩
end Go.Proofs.YtgbkjdpjilldmaaGreatDoor.Frame
