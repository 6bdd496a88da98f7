/- slices.SortFunc of sides. -/
import Derived.Test.YtlagolgmkmdhhaaRgLeaf
import Derived.Test.YtlagolgmkmdhhaaRgShelf
import Derived.Sort.OwnSorted
import Derived.Deep.QuietTactic
namespace Go.Proofs.Ytlagolgmkmdhhaa.Rg
open Go.RowKit Go.Sort Go.Shelf
open Go.Proofs.Ytlagolgmkmdhhaa.Geo hiding intOf
instance : Inhabited Sd := ⟨⟨⟨0, 0⟩, ⟨0, 0⟩, 0, 0⟩⟩
def flatS (l : List Sd) : List Value := l.flatMap encSd
theorem encSd_len (s : Sd) : (encSd s).length = 6 := rfl
theorem flatS_len (l : List Sd) : (flatS l).length = l.length * 6 := by
  induction l with
  | nil => rfl
  | cons s l ih => unfold flatS at ih ⊢; rw [List.flatMap_cons, List.length_append, ih, List.length_cons, encSd_len]; omega
theorem flatS_get : ∀ (l : List Sd) (t : Nat), (flatS l)[t]? = (l[t / 6]?).bind fun s => (encSd s)[t % 6]? := by
  intro l
  induction l with
  | nil => intro t; simp [flatS]
  | cons s l ih =>
    intro t
    unfold flatS at ih ⊢
    rw [List.flatMap_cons]
    by_cases h : t < 6
    · rw [List.getElem?_append_left (by rw [encSd_len]; exact h), show t / 6 = 0 by omega, show t % 6 = t by omega]
      rfl
    · rw [List.getElem?_append_right (by rw [encSd_len]; omega), ih, encSd_len, show (t - 6) / 6 = t / 6 - 1 by omega, show (t - 6) % 6 = t % 6 by omega]
      obtain ⟨m, hm⟩ : ∃ m, t / 6 = m + 1 := ⟨t / 6 - 1, by omega⟩
      rw [hm]
      simp
theorem flatS_app (l m : List Sd) : flatS (l ++ m) = flatS l ++ flatS m := by unfold flatS; rw [List.flatMap_append]
theorem flatK_flatS (l : List Sd) : flatK encSd 6 l.toArray = (flatS l).toArray := by
  apply Array.ext_getElem?
  intro t
  have e : (flatS l).toArray[t]? = (flatS l)[t]? := by simp
  rw [e, flatS_get]
  clear e
  by_cases h : t < l.length * 6
  · have h6 : t / 6 < l.length := by omega
    have h7 : t % 6 < 6 := Nat.mod_lt _ (by decide)
    unfold flatK
    simp only [Array.getElem?_map, List.size_toArray, h, Array.getElem?_range, if_true, Option.map_some]
    rw [List.getElem?_eq_getElem h6]
    simp only [Option.bind_some, getElem!_pos l.toArray (t / 6) (by simpa using h6), List.getElem_toArray]
    rw [getElem!_pos (encSd l[t / 6]) (t % 6) (by rw [encSd_len]; exact h7), List.getElem?_eq_getElem (by rw [encSd_len]; exact h7)]
  · rw [Array.getElem?_eq_none (by rw [size_flatK]; simpa using h), List.getElem?_eq_none (by omega)]
    rfl
def OwnS (w : World) (base : Nat) (v : Value) (l : List Sd) : Prop := w.ownsRow base 45 6 v l.length (flatS l)
theorem holds_row {w : World} {g : Nat} {cur : Array Value} {e : TypeId} {xs : List Value} (hb : w.heap[g]? = some (.cells cur e (0, 0))) (ht : cur.toList.take xs.length = xs) : Holds id w g 0 xs.toArray := by
  intro j hj
  have hj' : j < xs.length := by simpa using hj
  refine ⟨?_, by simp [World.frozen?, hb]⟩
  have h1 : (cur.toList.take xs.length)[j]? = xs[j]? := by rw [ht]
  rw [List.getElem?_take_of_lt hj'] at h1
  simp only [World.cell?, hb, Nat.zero_add]
  simp only [Option.isSome_none, Bool.false_eq_true, if_false]
  rw [← Array.getElem?_toList, h1]
  simp [hj']
theorem heap_sortedV {w : World} {g n : Nat} {os : Array Obj} {cur : Array Value} {e : TypeId} {fr : Nat × Nat} (F : Array Value) (hb : w.heap[g]? = some (.cells cur e fr)) :
    (grow (putRow id (Sort.ahead w n) g 0 F) os).heap[g]? = some (.cells (putCells id 0 F cur) e fr) := by
  have hg : g < w.heap.size := (Array.getElem?_eq_some_iff.1 hb).1
  rw [heap_grow_old _ _ (by simpa using hg)]
  simp [putRow, mapBlock, Sort.ahead, Array.getElem?_modify, hb, onCells]
theorem grownBy_sortedV {w : World} {g n : Nat} {os : Array Obj} (F : Array Value) : w.grownBy (grow (putRow id (Sort.ahead w n) g 0 F) os) (some g) := by
  refine ⟨rfl, rfl, rfl, by simp, fun k hk hne => ?_⟩
  rw [heap_grow_old _ _ (by simpa using hk)]
  have : g ≠ k := fun e => hne (by rw [e])
  simp [putRow, mapBlock, Sort.ahead, Array.getElem?_modify, this]
theorem take_putV (cur : Array Value) (xs : List Value) (h : xs.length ≤ cur.size) : (putCells id 0 xs.toArray cur).toList.take xs.length = xs := by
  apply List.ext_getElem?
  intro j
  by_cases hj : j < xs.length
  · rw [List.getElem?_take_of_lt hj, Array.getElem?_toList]
    simp [putCells, hj, show j < cur.size by omega]
  · rw [List.getElem?_take_eq_none (by omega), List.getElem?_eq_none (by omega)]
theorem ownS_sorted {w : World} {base g cap n : Nat} {os : Array Obj} {l l' : List Sd} (hl : l'.length = l.length) (h : OwnS w base (.slice (some ⟨g, 0, none⟩) l.length cap) l) :
    OwnS (grow (putRow id (Sort.ahead w n) g 0 (flatS l').toArray) os) base (.slice (some ⟨g, 0, none⟩) l.length cap) l' := by
  obtain ⟨h1, ⟨hv, _⟩ | ⟨g', cap', cur, hv, hbase, hb, hc1, hc2, hc3, ht⟩⟩ := h
  · cases hv
  · injection hv with e1 e2 e3
    injection e1 with e1
    injection e1 with e1
    subst e1 e3
    refine ⟨flatS_len l', .inr ⟨g, cap, _, by rw [hl], hbase, heap_sortedV _ hb, by omega, hc2, by simp [putCells, hc3], ?_⟩⟩
    have e := take_putV cur (flatS l') (by rw [flatS_len, hc3, hl]; exact Nat.mul_le_mul_right _ hc1)
    rw [flatS_len] at e
    exact e
set_option maxRecDepth 100000 in
set_option maxHeartbeats 1000000 in
/-- geom.Compare: what it leaves is the world grown. -/
theorem lexical_grow (a b : Int × Int) (w : World) :
    Calls Try.prog 61 #[.agg #[.int .i64 a.1, .int .i64 a.2], .agg #[.int .i64 b.1, .int .i64 b.2]] w fun e w' => e = .returned (.int .i64 (lexI a b)) ∧ ∃ q os, w' = grow (w.drewN q) os := by
  obtain ⟨W0, hW0⟩ : ∃ W0, (w.alloc (.cells #[.int .i64 a.1, .int .i64 a.2] 82)).alloc (.cells #[.int .i64 b.1, .int .i64 b.2] 82) = W0 := ⟨_, rfl⟩
  have R0 : Hid (IsRow W0 w.heap.size 82 #[.int .i64 a.1, .int .i64 a.2]) := hW0 ▸ (IsRow.made _ _ _).later _
  have R1 : Hid (IsRow W0 (w.heap.size + 1) 82 #[.int .i64 b.1, .int .i64 b.2]) := by
    have := IsRow.made (w.alloc (.cells #[.int .i64 a.1, .int .i64 a.2] 82)) 82 #[.int .i64 b.1, .int .i64 b.2]
    rw [World.size_alloc] at this
    exact hW0 ▸ this
  have HW0 := Lib.hid hW0
  clear hW0
  go_enter Try.func61, Try.ntmps61
  go_wp2
  rw [HW0.out]
  have c1 : ∀ n, Calls Try.prog 75 #[.slice (some ⟨w.heap.size, 0, none⟩) 2 2, .slice (some ⟨w.heap.size + 1, 0, none⟩) 2 2] (W0.drewN n) fun e w' => e = .returned (.int .i64 (lexI a b)) ∧ w' = W0.drewN n :=
    fun n => (slicesCompare_any w.heap.size (w.heap.size + 1) 2 2 a b (W0.drewN n) R0.out R1.out).mono (fun _ _ h => ⟨h.1, h.2.symm⟩)
  go_quiet (first | exact Calls.quiet_of_same (c1 _))
  go_wp2
  go_ret
  refine ⟨rfl, nq, #[.cells #[.int .i64 a.1, .int .i64 a.2] 82, .cells #[.int .i64 b.1, .int .i64 b.2] 82], ?_⟩
  rw [← HW0.out, alloc_eq_grow, alloc_eq_grow, grow_grow]
  rfl
set_option maxRecDepth 100000 in
set_option maxHeartbeats 1000000 in
theorem compare_grow (a b : Pt) (w : World) : Calls Try.prog 40 #[.agg #[.int .i64 a.x, .int .i64 a.y], .agg #[.int .i64 b.x, .int .i64 b.y]] w fun e w' => e = .returned (.int .i64 (cmpN a b)) ∧ ∃ q os, w' = grow (w.drewN q) os := by
  go_enter Try.func40, Try.ntmps40
  go_wp2_with fail
  refine (lexical_grow (a.x, a.y) (b.x, b.y) _).mono ?_
  rintro e w1 ⟨rfl, q, os, rfl⟩
  go_wp2
  go_ret
  refine ⟨ret_int (lexI_eq a b), q, #[.cells #[.int .i64 a.x, .int .i64 a.y] 24, .cells #[.int .i64 b.x, .int .i64 b.y] 24] ++ os, ?_⟩
  rw [alloc_eq_grow, alloc_eq_grow, grow_grow]
  show grow (grow (w.drewN q) _) os = _
  rw [grow_grow]
  rfl
set_option maxRecDepth 100000 in
set_option maxHeartbeats 1000000 in
theorem order_grow (s t : Sd) (w : World) : Calls Try.prog 42 #[.agg (encSd s).toArray, .agg (encSd t).toArray] w fun e w' => e = .returned (.int .i64 (cmpN s.a t.a)) ∧ ∃ q os, w' = grow (w.drewN q) os := by
  unfold encSd
  go_enter Try.func42, Try.ntmps42
  go_wp2_with fail
  refine (compare_grow s.a t.a _).mono ?_
  rintro e w1 ⟨rfl, q, os, rfl⟩
  go_wp2
  go_ret
  refine ⟨rfl, q, #[.cells (encSd s).toArray 45, .cells (encSd t).toArray 45] ++ os, ?_⟩
  rw [alloc_eq_grow, alloc_eq_grow, grow_grow]
  show grow (grow (w.drewN q) _) os = _
  rw [grow_grow]
  rfl
theorem order_swo : SWO (ltOf fun s t : Sd => cmpN s.a t.a) where
  irrefl x := by simp [ltOf, cmp_self]
  trans x y z h1 h2 := by
    unfold ltOf at *
    rw [decide_eq_true_iff] at *
    dsimp only at *
    have := cmp_trans (a := x.a) (b := y.a) (c := z.a) (by omega) (by omega)
    omega
  ntrans x y z h1 h2 := by
    unfold ltOf at *
    rw [decide_eq_false_iff_not] at *
    dsimp only at *
    have h3 := cmp_swap x.a y.a
    have h4 := cmp_swap y.a z.a
    have h5 := cmp_swap x.a z.a
    have := cmp_trans (a := z.a) (b := y.a) (c := x.a) (by omega) (by omega)
    omega
/-- no later side has a lesser end that is less than that of an earlier one. -/
def Asc (l : List Sd) : Prop := l.Pairwise fun s t => cmpN s.a t.a ≤ 0
theorem sortFunc_any (base : Nat) (v : Value) (l : List Sd) (w : World) (h : OwnS w base v l) (h0 : 0 < l.length) (hn : l.length ≤ 100000) :
    Calls Try.prog 41 #[v, .func (.func 42) #[] #[]] w fun e w' => e = .returned (.tuple #[]) ∧ ∃ l' : List Sd, l'.Perm l ∧ Asc l' ∧ OwnS w' base v l' ∧ w.grownBy w' v.ownBlock := by
  have h' := h
  obtain ⟨h1, ⟨hv, hz⟩ | ⟨g, cap, cur, hv, hbase, hb, hc1, hc2, hc3, ht⟩⟩ := h'
  · omega
  · subst hv
    have hH : HoldsK encSd 6 w g 0 l.toArray := by
      unfold HoldsK
      rw [flatK_flatS]
      exact holds_row hb (by rw [flatS_len]; exact ht)
    have hS := AnyQ.slices_SortFunc Try.sortSd 6 Try.isAgg45 Try.sizeOf45 encSd encSd_len (fun x v hv => by simp [encSd] at hv; rcases hv with rfl | rfl | rfl | rfl | rfl | rfl <;> rfl) (fun s t => cmpN s.a t.a) order_swo 42 #[] g 0 cap l.toArray w
      (enters_of Try.func42 (by kernel_rfl) rfl) (fun m os dk _ x y => order_grow x y _) hH (Array.getElem?_eq_some_iff.1 hb).1 (by simp; omega)
    rw [List.size_toArray] at hS
    refine Calls.mono hS ?_
    rintro e w' ⟨rfl, d', n, os, hp, hs, rfl⟩
    have hd : d' = d'.toList.toArray := by simp
    obtain ⟨p1, _, p3⟩ := hp
    have hlen : d'.toList.length = l.length := by simpa using p1
    refine ⟨rfl, d'.toList, ?_, ?_, ?_, ?_⟩
    · have e1 : d'.extract 0 l.length = d' := by rw [← hlen]; simp
      have e2 : l.toArray.extract 0 l.length = l.toArray := by simp
      rw [e1, e2] at p3
      simpa using p3
    · unfold Asc
      rw [List.pairwise_iff_getElem]
      intro i j hi hj hij
      have := hs i j (Nat.zero_le _) hij (by rw [← hlen]; exact hj)
      unfold ltOf at this
      rw [decide_eq_false_iff_not] at this
      have h5 := cmp_swap d'.toList[i].a d'.toList[j].a
      have hi' : i < d'.size := by simpa using hi
      have hj' : j < d'.size := by simpa using hj
      rw [getElem!_pos d' i hi', getElem!_pos d' j hj'] at this
      simp only [Array.getElem_toList] at h5 ⊢
      dsimp only at this
      omega
    · unfold sortWorldK putRowK
      rw [hd, flatK_flatS]
      exact ownS_sorted hlen h
    · exact grownBy_sortedV _
end Go.Proofs.Ytlagolgmkmdhhaa.Rg
