/- slices.SortFunc of entries and of meetings. -/
import Derived.Test.YtlgmlgogpohgoaaSwLeaf
import Derived.Test.YtlgmlgogpohgoaaSwShelf
import Derived.Sort.OwnSorted
import Derived.Shelf.SlSortCmp.NoneTotal
import Derived.Maps.AppendAt
namespace Go.Proofs.Ytlgmlgogpohgoaa.Sw
open Go.RowKit Go.Sort Go.Shelf
open Go.Proofs.Ytlgmlgogpohgoaa.Geo hiding intOf
section
variable {α : Type} {enc : α → List Value} {n : Nat} {t : TypeId}
theorem flatK_flat [Inhabited α] (he : ∀ x, (enc x).length = n) (h0 : 0 < n) (l : List α) : flatK enc n l.toArray = (l.flatMap enc).toArray := by
  apply Array.ext_getElem?
  intro q
  have e : (l.flatMap enc).toArray[q]? = (l.flatMap enc)[q]? := by simp
  rw [e]
  have hq : q = q / n * n + q % n := by rw [Nat.mul_comm]; exact (Nat.div_add_mod q n).symm
  have h7 : q % n < n := Nat.mod_lt _ h0
  by_cases h : q < l.length * n
  · have h6 : q / n < l.length := Nat.div_lt_of_lt_mul (by rw [Nat.mul_comm]; exact h)
    have hf := flat_at he h7 (List.getElem?_eq_getElem h6)
    rw [← hq] at hf
    rw [hf]
    unfold flatK
    simp only [Array.getElem?_map, List.size_toArray, h, Array.getElem?_range, if_true, Option.map_some]
    simp only [getElem!_pos l.toArray (q / n) (by simpa using h6), List.getElem_toArray]
    rw [getElem!_pos (enc l[q / n]) (q % n) (by rw [he]; exact h7), List.getElem?_eq_getElem (by rw [he]; exact h7)]
  · rw [Array.getElem?_eq_none (by rw [size_flatK]; simpa using h), List.getElem?_eq_none (by rw [flat_len he]; omega)]
theorem holds_row {w : World} {g : Nat} {cur : Array Value} {e : TypeId} {xs : List Value} (hb : w.heap[g]? = some (.cells cur e (0, 0))) (ht : cur.toList.take xs.length = xs) : Holds id w g 0 xs.toArray := by
  intro j hj
  have hj' : j < xs.length := by simpa using hj
  refine ⟨?_, by simp [World.frozen?, hb]⟩
  have h1 : (cur.toList.take xs.length)[j]? = xs[j]? := by rw [ht]
  rw [List.getElem?_take_of_lt hj'] at h1
  simp only [World.cell?, hb, Nat.zero_add]
  simp only [Option.isSome_none, Bool.false_eq_true, if_false]
  rw [← Array.getElem?_toList, h1]
  simp [hj']
theorem heap_sortedV {w : World} {g m : Nat} {os : Array Obj} {cur : Array Value} {e : TypeId} {fr : Nat × Nat} (F : Array Value) (hb : w.heap[g]? = some (.cells cur e fr)) :
    (grow (putRow id (Sort.ahead w m) g 0 F) os).heap[g]? = some (.cells (putCells id 0 F cur) e fr) := by
  have hg : g < w.heap.size := (Array.getElem?_eq_some_iff.1 hb).1
  rw [heap_grow_old _ _ (by simpa using hg)]
  simp [putRow, mapBlock, Sort.ahead, Array.getElem?_modify, hb, onCells]
theorem grownBy_sortedV {w : World} {g m : Nat} {os : Array Obj} (F : Array Value) : w.grownBy (grow (putRow id (Sort.ahead w m) g 0 F) os) (some g) := by
  refine ⟨rfl, rfl, rfl, by simp, fun k hk hne => ?_⟩
  rw [heap_grow_old _ _ (by simpa using hk)]
  have : g ≠ k := fun e => hne (by rw [e])
  simp [putRow, mapBlock, Sort.ahead, Array.getElem?_modify, this]
theorem take_putV (cur : Array Value) (xs : List Value) (h : xs.length ≤ cur.size) : (putCells id 0 xs.toArray cur).toList.take xs.length = xs := by
  apply List.ext_getElem?
  intro j
  by_cases hj : j < xs.length
  · rw [List.getElem?_take_of_lt hj, Array.getElem?_toList]
    simp [putCells, hj, show j < cur.size by omega]
  · rw [List.getElem?_take_eq_none (by omega), List.getElem?_eq_none (by omega)]
theorem own_sorted {w : World} {base g cap m : Nat} {os : Array Obj} {l l' : List α} (he : ∀ x, (enc x).length = n) (hl : l'.length = l.length) (h : Own enc n t w base (.slice (some ⟨g, 0, none⟩) l.length cap) l) :
    Own enc n t (grow (putRow id (Sort.ahead w m) g 0 (l'.flatMap enc).toArray) os) base (.slice (some ⟨g, 0, none⟩) l.length cap) l' := by
  obtain ⟨h1, ⟨hv, _⟩ | ⟨g', cap', cur, hv, hbase, hb, hc1, hc2, hc3, ht⟩⟩ := h
  · cases hv
  · injection hv with e1 e2 e3
    injection e1 with e1
    injection e1 with e1
    subst e1 e3
    refine ⟨flat_len he l', .inr ⟨g, cap, _, by rw [hl], hbase, heap_sortedV _ hb, by omega, hc2, by simp [putCells, hc3], ?_⟩⟩
    have e := take_putV cur (l'.flatMap enc) (by rw [flat_len he, hc3, hl]; exact Nat.mul_le_mul_right _ hc1)
    rw [flat_len he] at e
    exact e
end
theorem cmpI_lt {x y : Int} : cmpI x y < 0 ↔ x < y := by unfold cmpI; split <;> (try split) <;> omega
theorem orderE_swo : SWO (ltOf fun s t : Ent => cmpI s.lo.x t.lo.x) where
  irrefl x := by simp [ltOf, cmpI_lt]
  trans x y z h1 h2 := by
    unfold ltOf at *
    rw [decide_eq_true_iff, cmpI_lt] at *
    omega
  ntrans x y z h1 h2 := by
    unfold ltOf at *
    rw [decide_eq_false_iff_not, cmpI_lt] at *
    omega
theorem orderM_swo : SWO (ltOf ordM) where
  irrefl x := by simp [ltOf, ord_lt, lt_irrefl]
  trans x y z h1 h2 := by
    unfold ltOf at *
    rw [decide_eq_true_iff, ord_lt] at *
    unfold ltM at *
    omega
  ntrans x y z h1 h2 := by
    unfold ltOf at *
    rw [decide_eq_false_iff_not, ord_lt] at *
    unfold ltM at *
    omega
theorem sortE_any (base : Nat) (a : Option Addr) (m cap : Nat) (l : List Ent) (w : World) (h : OwnE w base (.slice a m cap) l) (hm : m = l.length) (ha : ∃ g, a = some ⟨g, 0, none⟩ ∧ g < w.heap.size) (hn : l.length ≤ 100000) :
    Calls Try.prog 83 #[.slice a m cap, .func (.func 84) #[] #[]] w fun e w' => e = .returned (.tuple #[]) ∧ ∃ l' : List Ent, l'.Perm l ∧ AscE l' ∧ OwnE w' base (.slice a m cap) l' ∧ w.grownBy w' (a.map Addr.block) := by
  subst hm
  obtain ⟨g, rfl, hg⟩ := ha
  obtain ⟨h1, ⟨hv, hz⟩ | ⟨g', cap', cur, hv, hbase, hb, hc1, hc2, hc3, ht⟩⟩ := id h
  · cases hv
  · injection hv with e1 e2 e3
    injection e1 with e1
    injection e1 with e1
    subst e1 e3
    have hH : HoldsK encE 5 w g 0 l.toArray := by
      unfold HoldsK
      rw [flatK_flat encE_len (by decide)]
      exact holds_row hb (by rw [flat_len encE_len]; exact ht)
    have hS := AnyQ.slices_SortFunc Try.sortEn 5 Try.isAgg85 Try.sizeOf85 encE encE_len encE_one (fun s t => cmpI s.lo.x t.lo.x) orderE_swo 84 #[] g 0 cap l.toArray w
      (enters_of Try.func84 (by kernel_rfl) rfl) (fun m os dk _ x y => orderE_grow x y _) hH hg (by simp; omega)
    rw [List.size_toArray] at hS
    refine Calls.mono hS ?_
    rintro e w' ⟨rfl, d', k, os, hp, hs, rfl⟩
    have hd : d' = d'.toList.toArray := by simp
    obtain ⟨p1, _, p3⟩ := hp
    have hlen : d'.toList.length = l.length := by simpa using p1
    refine ⟨rfl, d'.toList, ?_, ?_, ?_, ?_⟩
    · have e1 : d'.extract 0 l.length = d' := by rw [← hlen]; simp
      have e2 : l.toArray.extract 0 l.length = l.toArray := by simp
      rw [e1, e2] at p3
      simpa using p3
    · unfold AscE
      rw [List.pairwise_iff_getElem]
      intro i j hi hj hij
      have := hs i j (Nat.zero_le _) hij (by rw [← hlen]; exact hj)
      unfold ltOf at this
      rw [decide_eq_false_iff_not, cmpI_lt] at this
      have hi' : i < d'.size := by simpa using hi
      have hj' : j < d'.size := by simpa using hj
      rw [getElem!_pos d' i hi', getElem!_pos d' j hj'] at this
      simp only [Array.getElem_toList]
      omega
    · unfold sortWorldK putRowK
      rw [hd, flatK_flat encE_len (by decide)]
      exact own_sorted encE_len hlen h
    · exact grownBy_sortedV _
theorem sortM_some (base : Nat) (g m cap : Nat) (l : List Met) (w : World) (h : OwnM w base (.slice (some ⟨g, 0, none⟩) m cap) l) (hm : m = l.length) (hg : g < w.heap.size) (hn : l.length ≤ 1000000000) :
    Calls Try.prog 57 #[.slice (some ⟨g, 0, none⟩) m cap, .func (.func 58) #[] #[]] w fun e w' => e = .returned (.tuple #[]) ∧ ∃ l' : List Met, l'.Perm l ∧ AscM l' ∧ OwnM w' base (.slice (some ⟨g, 0, none⟩) m cap) l' ∧ w.grownBy w' (some g) := by
  subst hm
  obtain ⟨h1, ⟨hv, hz⟩ | ⟨g', cap', cur, hv, hbase, hb, hc1, hc2, hc3, ht⟩⟩ := id h
  · cases hv
  · injection hv with e1 e2 e3
    injection e1 with e1
    injection e1 with e1
    subst e1 e3
    have hH : HoldsK encM 3 w g 0 l.toArray := by
      unfold HoldsK
      rw [flatK_flat encM_len (by decide)]
      exact holds_row hb (by rw [flat_len encM_len]; exact ht)
    have hS := AnyQ.slices_SortFunc Try.sortMt 3 Try.isAgg48 Try.sizeOf48 encM encM_len encM_one ordM orderM_swo 58 #[] g 0 cap l.toArray w
      (enters_of Try.func58 (by kernel_rfl) rfl) (fun m os dk _ x y => orderM_grow x y _) hH hg (by simp; omega)
    rw [List.size_toArray] at hS
    refine Calls.mono hS ?_
    rintro e w' ⟨rfl, d', k, os, hp, hs, rfl⟩
    have hd : d' = d'.toList.toArray := by simp
    obtain ⟨p1, _, p3⟩ := hp
    have hlen : d'.toList.length = l.length := by simpa using p1
    refine ⟨rfl, d'.toList, ?_, ?_, ?_, ?_⟩
    · have e1 : d'.extract 0 l.length = d' := by rw [← hlen]; simp
      have e2 : l.toArray.extract 0 l.length = l.toArray := by simp
      rw [e1, e2] at p3
      simpa using p3
    · unfold AscM
      rw [List.pairwise_iff_getElem]
      intro i j hi hj hij
      have := hs i j (Nat.zero_le _) hij (by rw [← hlen]; exact hj)
      unfold ltOf at this
      rw [decide_eq_false_iff_not, ord_lt] at this
      have hi' : i < d'.size := by simpa using hi
      have hj' : j < d'.size := by simpa using hj
      rw [getElem!_pos d' i hi', getElem!_pos d' j hj'] at this
      simp only [Array.getElem_toList]
      exact this
    · unfold sortWorldK putRowK
      rw [hd, flatK_flat encM_len (by decide)]
      exact own_sorted encM_len hlen h
    · exact grownBy_sortedV _
theorem sortM_any (base : Nat) (v : Value) (l : List Met) (w : World) (h : OwnM w base v l) (hn : l.length ≤ 1000000000) :
    Calls Try.prog 57 #[v, .func (.func 58) #[] #[]] w fun e w' => e = .returned (.tuple #[]) ∧ ∃ l' : List Met, l'.Perm l ∧ AscM l' ∧ OwnM w' base v l' ∧ w.grownBy w' v.ownBlock := by
  obtain ⟨a, cap, rfl, h1, h2, ⟨rfl, rfl, rfl⟩ | ⟨g, rfl, hb, hg⟩⟩ := Own.shape h
  · refine (AnyF.slices_SortFunc_none { Try.sortMt with } none 0 _ w).mono ?_
    rintro e w' ⟨rfl, rfl⟩
    exact ⟨rfl, [], List.Perm.refl _, List.Pairwise.nil, h, World.grownBy.refl _ _⟩
  · exact sortM_some base g _ cap l w h rfl hg hn
end Go.Proofs.Ytlgmlgogpohgoaa.Sw
