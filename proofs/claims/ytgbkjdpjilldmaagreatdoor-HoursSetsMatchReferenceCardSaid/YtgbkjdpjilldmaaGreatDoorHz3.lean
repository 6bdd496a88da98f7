/- Merged: HrOwn, LxLeaf. -/
import Derived.Test.YtgbkjdpjilldmaaGreatDoorHz1
import Derived.Test.YtgbkjdpjilldmaaGreatDoorHz2
import Derived.Laws.OwnMore
import Derived.Laws.AppendOwn
import Derived.Lib.AppendZerosOnto
import Derived.Deep.AppendLies
import Derived.Deep.AppendSrc
import Derived.Sort.OwnSorted
/- hours: spans in memory; owned slices of spans; append. -/
namespace Go.Proofs.YtgbkjdpjilldmaaGreatDoor.Hr
open Go.RowKit Go.Sort Go.Shelf
open Lx (IsRow alloc1 drew_below)
open St (Sp encS encS_len encS_one)
section
variable {α : Type} {enc : α → List Value} {n : Nat} {t : TypeId}
theorem flat_len (he : ∀ x, (enc x).length = n) (l : List α) : (l.flatMap enc).length = l.length * n := by
  induction l with
  | nil => simp
  | cons s l ih => rw [List.flatMap_cons, List.length_append, ih, List.length_cons, he, Nat.add_mul]; omega
theorem flat_at (he : ∀ x, (enc x).length = n) {j : Nat} (hj : j < n) : ∀ {l : List α} {k : Nat} {x : α}, l[k]? = some x → (l.flatMap enc)[k * n + j]? = (enc x)[j]? := by
  intro l
  induction l with
  | nil => intro k x h; simp at h
  | cons y l ih =>
    intro k x h
    rw [List.flatMap_cons]
    cases k with
    | zero =>
      simp at h
      subst h
      rw [Nat.zero_mul, Nat.zero_add, List.getElem?_append_left (by rw [he]; exact hj)]
    | succ k =>
      simp at h
      have e : (k + 1) * n + j = k * n + j + n := by rw [Nat.add_mul, Nat.one_mul]; omega
      rw [e, List.getElem?_append_right (by rw [he]; omega), he, Nat.add_sub_cancel]
      exact ih h
theorem flat_take (he : ∀ x, (enc x).length = n) : ∀ (l : List α) (m : Nat), (l.flatMap enc).take (m * n) = (l.take m).flatMap enc := by
  intro l
  induction l with
  | nil => intro m; simp
  | cons y l ih =>
    intro m
    cases m with
    | zero => simp
    | succ m =>
      rw [List.flatMap_cons, List.take_succ_cons, List.flatMap_cons, ← ih m, Nat.add_mul, Nat.one_mul, List.take_append, he]
      rw [List.take_of_length_le (by rw [he]; omega)]
      congr 2
      omega
/-- a list of one's own: from a block's beginning. -/
def Own (enc : α → List Value) (n : Nat) (t : TypeId) (w : World) (base : Nat) (v : Value) (l : List α) : Prop := w.ownsRow base t n v l.length (l.flatMap enc)
theorem own_nil (w : World) (base : Nat) : Own enc n t w base (.slice none 0 0) [] := World.ownsRow_nil w base _ _
variable {w w' : World} {base : Nat} {v : Value} {l : List α}
theorem Own.kept {row : Option Nat} (h : Own enc n t w base v l) (hg : w.grownBy w' row) (hne : v.ownBlock = none ∨ v.ownBlock ≠ row) : Own enc n t w' base v l := World.ownsRow.kept h hg hne
theorem Own.below (h : Own enc n t w base v l) (hb : Below w.heap.size w w') : Own enc n t w' base v l := by
  refine h.kept (row := none) ⟨hb.os, hb.tape, hb.output, hb.size, fun k hk _ => hb.block k hk⟩ ?_
  cases hv : v.ownBlock with
  | none => exact .inl rfl
  | some g => exact .inr (by simp)
theorem Own.row (h : Own enc n t w base v l) : ∀ k, v.ownBlock = some k → base ≤ k ∧ ∃ cs, IsRow w k t cs := by
  intro k hk
  obtain ⟨_, ⟨rfl, _⟩ | ⟨g, cap, cur, rfl, hb, hg, _⟩⟩ := h
  · cases hk
  · injection hk with hk
    subst hk
    exact ⟨hb, cur, hg⟩
theorem Own.ne (h : Own enc n t w base v l) {g : Nat} {u : TypeId} {cs : Array Value} (hr : IsRow w g u cs) (ht : u ≠ t) : v.ownBlock ≠ some g := fun e => by
  obtain ⟨_, ds, hd⟩ := h.row g e
  have hd' : w.heap[g]? = some (.cells ds t (0, 0)) := hd
  rw [show w.heap[g]? = some (.cells cs u (0, 0)) from hr] at hd'
  injection hd' with hd'
  injection hd' with _ e2 _
  exact ht e2
/-- the same block, as it was. -/
theorem Own.same (h : Own enc n t w base v l) (hk : ∀ k cs, v.ownBlock = some k → IsRow w k t cs → IsRow w' k t cs) : Own enc n t w' base v l := by
  obtain ⟨h1, ⟨hv, h2⟩ | ⟨g, cap, cur, hv, hb, hg, h2⟩⟩ := h
  · exact ⟨h1, .inl ⟨hv, h2⟩⟩
  · exact ⟨h1, .inr ⟨g, cap, cur, hv, hb, hk g cur (by rw [hv]; rfl) hg, h2⟩⟩
theorem Own.put (h : Own enc n t w base v l) {g : Nat} {u : TypeId} {cs : Array Value} (hr : IsRow w g u cs) (ht : u ≠ t) (i : Nat) (x : Value) : Own enc n t (w.setCell ⟨g, i, none⟩ x) base v l :=
  h.kept (row := some g) ⟨rfl, rfl, rfl, Nat.le_of_eq (by simp), fun k _ hk => Below.heap_setCell w ⟨g, i, none⟩ x k (fun e => hk (by rw [e]))⟩ (.inr (h.ne hr ht))
theorem Own.base_le (h : Own enc n t w base v l) {b : Nat} (hb : b ≤ base) : Own enc n t w b v l := by
  obtain ⟨h1, ⟨hv, h2⟩ | ⟨g, cap, cur, hv, hb', h2⟩⟩ := h
  · exact ⟨h1, .inl ⟨hv, h2⟩⟩
  · exact ⟨h1, .inr ⟨g, cap, cur, hv, Nat.le_trans hb hb', h2⟩⟩
theorem own_snoc {x : α} (h : w.ownsRow base t n v (l.length + 1) (l.flatMap enc ++ enc x)) : Own enc n t w base v (l ++ [x]) := by
  unfold Own
  rw [List.length_append, List.flatMap_append]
  simpa using h
theorem Own.shape (h : Own enc n t w base v l) : ∃ a cap, v = .slice a l.length cap ∧ l.length ≤ cap ∧ cap ≤ maxLen ∧ (a = none ∧ cap = 0 ∧ l = [] ∨ ∃ g, a = some ⟨g, 0, none⟩ ∧ base ≤ g ∧ g < w.heap.size) := by
  obtain ⟨_, ⟨hv, h0⟩ | ⟨g, cap, cur, hv, hb, hg, h1, h2, _⟩⟩ := h
  · exact ⟨none, 0, by rw [h0, hv], by omega, Nat.zero_le _, .inl ⟨rfl, rfl, List.eq_nil_of_length_eq_zero h0⟩⟩
  · exact ⟨_, cap, hv, h1, h2, .inr ⟨g, rfl, hb, (Array.getElem?_eq_some_iff.1 hg).1⟩⟩
theorem Own.cells {g cap m : Nat} (h : Own enc n t w base (.slice (some ⟨g, 0, none⟩) m cap) l) (he : ∀ x, (enc x).length = n) {k j : Nat} {x : α} (hk : l[k]? = some x) (hj : j < n) : w.cell? ⟨g, k * n + j, none⟩ = (enc x)[j]? := by
  have e : m = l.length := by
    obtain ⟨_, ⟨hv, _⟩ | ⟨g', cap', cur, hv, _⟩⟩ := h
    · cases hv
    · injection hv
  subst e
  have hlt := (List.getElem?_eq_some_iff.1 hk).1
  have hh : k * n + j < l.length * n := by
    have : (k + 1) * n ≤ l.length * n := Nat.mul_le_mul_right _ hlt
    rw [Nat.add_mul, Nat.one_mul] at this
    omega
  rw [World.ownsRow.cellAt h _ hh, flat_at he hj hk]
theorem Own.open_ {g cap m : Nat} (h : Own enc n t w base (.slice (some ⟨g, 0, none⟩) m cap) l) (j : Nat) : w.frozen? ⟨g, j, none⟩ = false := by
  have e : m = l.length := by
    obtain ⟨_, ⟨hv, _⟩ | ⟨g', cap', cur, hv, _⟩⟩ := h
    · cases hv
    · injection hv
  subst e
  exact World.ownsRow.frozenAt h j
theorem Own.take {a : Option Addr} {m cap k : Nat} (h : Own enc n t w base (.slice a m cap) l) (he : ∀ x, (enc x).length = n) (hk : k ≤ l.length) : Own enc n t w base (.slice a k cap) (l.take k) := by
  have hlen : (l.take k).length = k := by rw [List.length_take]; omega
  obtain ⟨h1, ⟨hv, h0⟩ | ⟨g, cap', cur, hv, hb, hg, h2, h3, h4, h5⟩⟩ := h
  · injection hv with e1 e2 e3
    subst e1 e2 e3
    have : k = 0 := by omega
    subst this
    have hl : l = [] := List.eq_nil_of_length_eq_zero h0
    subst hl
    exact World.ownsRow_nil w base _ _
  · injection hv with e1 e2 e3
    subst e1 e2 e3
    refine ⟨by rw [flat_len he, hlen], .inr ⟨g, cap, cur, by rw [hlen], hb, hg, by omega, h3, h4, ?_⟩⟩
    rw [hlen, ← flat_take he, ← h5, List.take_take, Nat.min_eq_left (Nat.mul_le_mul_right _ hk)]
end
section
variable {α : Type} {enc : α → List Value} {n : Nat} {t : TypeId}
theorem flatK_flat [Inhabited α] (he : ∀ x, (enc x).length = n) (h0 : 0 < n) (l : List α) : flatK enc n l.toArray = (l.flatMap enc).toArray := by
  apply Array.ext_getElem?
  intro q
  have e : (l.flatMap enc).toArray[q]? = (l.flatMap enc)[q]? := by simp
  rw [e]
  have hq : q = q / n * n + q % n := by rw [Nat.mul_comm]; exact (Nat.div_add_mod q n).symm
  have h7 : q % n < n := Nat.mod_lt _ h0
  by_cases h : q < l.length * n
  · have h6 : q / n < l.length := Nat.div_lt_of_lt_mul (by rw [Nat.mul_comm]; exact h)
    have hf := flat_at he h7 (List.getElem?_eq_getElem h6)
    rw [← hq] at hf
    rw [hf]
    unfold flatK
    simp only [Array.getElem?_map, List.size_toArray, h, Array.getElem?_range, if_true, Option.map_some]
    simp only [getElem!_pos l.toArray (q / n) (by simpa using h6), List.getElem_toArray]
    rw [getElem!_pos (enc l[q / n]) (q % n) (by rw [he]; exact h7), List.getElem?_eq_getElem (by rw [he]; exact h7)]
  · rw [Array.getElem?_eq_none (by rw [size_flatK]; simpa using h), List.getElem?_eq_none (by rw [flat_len he]; omega)]
theorem holds_row {w : World} {g : Nat} {cur : Array Value} {e : TypeId} {xs : List Value} (hb : w.heap[g]? = some (.cells cur e (0, 0))) (ht : cur.toList.take xs.length = xs) : Holds id w g 0 xs.toArray := by
  intro j hj
  have hj' : j < xs.length := by simpa using hj
  refine ⟨?_, by simp [World.frozen?, hb]⟩
  have h1 : (cur.toList.take xs.length)[j]? = xs[j]? := by rw [ht]
  rw [List.getElem?_take_of_lt hj'] at h1
  simp only [World.cell?, hb, Nat.zero_add]
  simp only [Option.isSome_none, Bool.false_eq_true, if_false]
  rw [← Array.getElem?_toList, h1]
  simp [hj']
theorem heap_sortedV {w : World} {g m : Nat} {os : Array Obj} {cur : Array Value} {e : TypeId} {fr : Nat × Nat} (F : Array Value) (hb : w.heap[g]? = some (.cells cur e fr)) :
    (grow (putRow id (Sort.ahead w m) g 0 F) os).heap[g]? = some (.cells (putCells id 0 F cur) e fr) := by
  have hg : g < w.heap.size := (Array.getElem?_eq_some_iff.1 hb).1
  rw [heap_grow_old _ _ (by simpa using hg)]
  simp [putRow, mapBlock, Sort.ahead, Array.getElem?_modify, hb, onCells]
theorem grownBy_sortedV {w : World} {g m : Nat} {os : Array Obj} (F : Array Value) : w.grownBy (grow (putRow id (Sort.ahead w m) g 0 F) os) (some g) := by
  refine ⟨rfl, rfl, rfl, by simp, fun k hk hne => ?_⟩
  rw [heap_grow_old _ _ (by simpa using hk)]
  have : g ≠ k := fun e => hne (by rw [e])
  simp [putRow, mapBlock, Sort.ahead, Array.getElem?_modify, this]
theorem take_putV (cur : Array Value) (xs : List Value) (h : xs.length ≤ cur.size) : (putCells id 0 xs.toArray cur).toList.take xs.length = xs := by
  apply List.ext_getElem?
  intro j
  by_cases hj : j < xs.length
  · rw [List.getElem?_take_of_lt hj, Array.getElem?_toList]
    simp [putCells, hj, show j < cur.size by omega]
  · rw [List.getElem?_take_eq_none (by omega), List.getElem?_eq_none (by omega)]
theorem own_sorted {w : World} {base g cap m : Nat} {os : Array Obj} {l l' : List α} (he : ∀ x, (enc x).length = n) (hl : l'.length = l.length) (h : Own enc n t w base (.slice (some ⟨g, 0, none⟩) l.length cap) l) :
    Own enc n t (grow (putRow id (Sort.ahead w m) g 0 (l'.flatMap enc).toArray) os) base (.slice (some ⟨g, 0, none⟩) l.length cap) l' := by
  obtain ⟨h1, ⟨hv, _⟩ | ⟨g', cap', cur, hv, hbase, hb, hc1, hc2, hc3, ht⟩⟩ := h
  · cases hv
  · injection hv with e1 e2 e3
    injection e1 with e1
    injection e1 with e1
    subst e1 e3
    refine ⟨flat_len he l', .inr ⟨g, cap, _, by rw [hl], hbase, heap_sortedV _ hb, by omega, hc2, by simp [putCells, hc3], ?_⟩⟩
    have e := take_putV cur (l'.flatMap enc) (by rw [flat_len he, hc3, hl]; exact Nat.mul_le_mul_right _ hc1)
    rw [flat_len he] at e
    exact e
end
theorem info_of {P : Program} {t : TypeId} {n b : Nat} {z : Value} (h : (P.info? t).map (fun i => (i.size, i.bytes, i.zero)) = some (n, b, some z)) : ∃ i, P.info? t = some i ∧ i.size = n ∧ i.bytes = b ∧ i.zero = some z := by
  cases hi : P.info? t with
  | none => rw [hi] at h; cases h
  | some i =>
    rw [hi] at h
    simp only [Option.map_some, Option.some.injEq, Prod.mk.injEq] at h
    exact ⟨i, rfl, h.1, h.2.1, h.2.2⟩
theorem grown_twice {w w1 w2 : World} {row : Option Nat} (h : w.grownBy w1 row) (k : w1.grownBy w2 row) : w.grownBy w2 row :=
  ⟨k.os.trans h.os, k.tape.trans h.tape, k.output.trans h.output, Nat.le_trans h.size k.size, fun i hi hn => (k.block i (Nat.lt_of_lt_of_le hi h.size) hn).trans (h.block i hi hn)⟩
theorem own_len {α : Type} {enc : α → List Value} {n : Nat} {t : TypeId} {w : World} {base m cap : Nat} {a : Option Addr} {l : List α} (h : Own enc n t w base (.slice a m cap) l) : m = l.length := by
  obtain ⟨_, ⟨hv, e⟩ | ⟨g', cap', cur, hv, _⟩⟩ := h
  · injection hv with _ e2 _
    rw [e2, e]
  · injection hv
abbrev OwnS (w : World) (base : Nat) (v : Value) (l : List Sp) : Prop := Own encS 2 54 w base v l
abbrev flatS (l : List Sp) : List Value := l.flatMap encS
theorem flatS_app (l m : List Sp) : flatS (l ++ m) = flatS l ++ flatS m := by unfold flatS; rw [List.flatMap_append]
theorem flatS_len (l : List Sp) : (flatS l).length = 2 * l.length := by rw [flat_len encS_len]; omega
theorem flatS_get {l : List Sp} {k : Nat} {t : Sp} (h : l[k]? = some t) : (flatS l)[k * 2]? = some (.int .i64 t.1) ∧ (flatS l)[k * 2 + 1]? = some (.int .i64 t.2) :=
  ⟨flat_at encS_len (j := 0) (by decide) h, flat_at encS_len (j := 1) (by decide) h⟩
theorem flatS_one (l : List Sp) : ∀ u ∈ flatS l, u.oneCell' = true := fun u hu => by
  obtain ⟨p, _, hp⟩ := List.mem_flatMap.1 hu
  exact encS_one p u hp
theorem OwnS.nil (w : World) (base : Nat) : OwnS w base (.slice none 0 0) [] := World.ownsRow_nil w base _ _
theorem span_info : (Tryz.prog.info? 54).map (fun i => (i.size, i.bytes, i.zero)) = some (2, 16, some (.agg #[.int .i64 0, .int .i64 0])) := by kernel_rfl
/-- a slice of spans in memory below Z. -/
def SpT (w : World) (Z : Nat) (ao : Option Addr) (l : List Sp) : Prop := 0 < l.length → ∃ g off, ao = some ⟨g, off, none⟩ ∧ g < Z ∧ ∀ (k : Nat) (t : Sp), l[k]? = some t →
  w.cell? ⟨g, off + k * 2, none⟩ = some (.int .i64 t.1) ∧ w.cell? ⟨g, off + k * 2 + 1, none⟩ = some (.int .i64 t.2)
theorem SpT.below {w w' : World} {Z Z' : Nat} {ao : Option Addr} {l : List Sp} (h : SpT w Z ao l) (hb : Below Z' w w') (hZ : Z ≤ Z') : SpT w' Z ao l := fun h0 => by
  obtain ⟨g, off, e, hg, hc⟩ := h h0
  exact ⟨g, off, e, hg, fun k t hk => by
    obtain ⟨c0, c1⟩ := hc k t hk
    exact ⟨(hb.cell (p := ⟨g, _, none⟩) (Nat.lt_of_lt_of_le hg hZ)).trans c0, (hb.cell (p := ⟨g, _, none⟩) (Nat.lt_of_lt_of_le hg hZ)).trans c1⟩⟩
theorem SpT.more {w : World} {Z Z' : Nat} {ao : Option Addr} {l : List Sp} (h : SpT w Z ao l) (hZ : Z ≤ Z') : SpT w Z' ao l := fun h0 => by
  obtain ⟨g, off, e, hg, hc⟩ := h h0
  exact ⟨g, off, e, Nat.lt_of_lt_of_le hg hZ, hc⟩
theorem SpT.later {w w' : World} {ao : Option Addr} {l : List Sp} (h : SpT w w.heap.size ao l) (hb : Below w.heap.size w w') : SpT w' w'.heap.size ao l := (h.below hb (Nat.le_refl _)).more hb.size
theorem SpT.at_ {w : World} {Z : Nat} {ao : Option Addr} {l : List Sp} {k : Nat} (h : SpT w Z ao l) (hk : k < l.length) : ∃ g off, ao = some ⟨g, off, none⟩ ∧ g < Z ∧
    w.cell? ⟨g, off + k * 2, none⟩ = some (.int .i64 l[k].1) ∧ w.cell? ⟨g, off + k * 2 + 1, none⟩ = some (.int .i64 l[k].2) := by
  obtain ⟨g, off, e, hg, hc⟩ := h (by omega)
  exact ⟨g, off, e, hg, hc k _ (List.getElem?_eq_getElem hk)⟩
theorem SpT.nil {w : World} {Z : Nat} {ao : Option Addr} : SpT w Z ao [] := fun h => by cases h
theorem facts2 {w : World} {g : Nat} {t : TypeId} {a b : Value} (h : IsRow w g t #[a, b]) :
    w.cell? ⟨g, 0, none⟩ = some a ∧ w.cell? ⟨g, 1, none⟩ = some b ∧ w.frozen? ⟨g, 0, none⟩ = false ∧ w.frozen? ⟨g, 1, none⟩ = false := ⟨h.get 0, h.get 1, h.open_ 0, h.open_ 1⟩
theorem run_append_none (w : World) (ty : TypeId) (q : Option Addr) (k c : Nat) (p : Option Addr) (cp : Nat) (hk : k ≤ c) (hq : q = none → k = 0 ∧ c = 0) (hz : ∀ a, q = some a → ∃ g, a = ⟨g, 0, none⟩) :
    (Builtin.append_ #[22, 22] ty #[.slice q k c, .slice p 0 cp]).run Tryz.prog w = .ok (.slice q k c) w := by
  obtain ⟨i0, hi, hz0, hz1, hz2⟩ := info_of span_info
  cases q with
  | none =>
    obtain ⟨rfl, rfl⟩ := hq rfl
    cases p with
    | none => simp [Builtin.append_, run_underlying Tryz.underlying22, sizeOf, typeInfo, hi, Builtin.lenOf, Builtin.firstCells]
    | some q => simp [Builtin.append_, run_underlying Tryz.underlying22, sizeOf, typeInfo, hi, Builtin.lenOf, Builtin.firstCells, loadCells, loadCellsFrom]
  | some a =>
    obtain ⟨g, rfl⟩ := hz a rfl
    cases p with
    | none => simp [Builtin.append_, run_underlying Tryz.underlying22, sizeOf, typeInfo, hi, Builtin.lenOf, Builtin.firstCells, storeCells, hk]
    | some q => simp [Builtin.append_, run_underlying Tryz.underlying22, sizeOf, typeInfo, hi, Builtin.lenOf, Builtin.firstCells, storeCells, loadCells, loadCellsFrom, hk]
theorem sps_news {w : World} {b off : Nat} {l : List Sp} (h : ∀ k t, l[k]? = some t → w.cell? ⟨b, off + k * 2, none⟩ = some (.int .i64 t.1) ∧ w.cell? ⟨b, off + k * 2 + 1, none⟩ = some (.int .i64 t.2)) :
    ∀ j u, (flatS l)[j]? = some u → w.cell? ((⟨b, off, none⟩ : Addr).add j) = some u := by
  intro j u hj
  have e : (⟨b, off, none⟩ : Addr).add j = ⟨b, off + j, none⟩ := by unfold Addr.add; split <;> simp_all
  rw [e]
  have hlt : j < 2 * l.length := by rw [← flatS_len]; exact (List.getElem?_eq_some_iff.1 hj).1
  obtain ⟨p, hp⟩ : ∃ p, l[j / 2]? = some p := ⟨_, List.getElem?_eq_getElem (by omega)⟩
  obtain ⟨f0, f1⟩ := flatS_get hp
  obtain ⟨c0, c1⟩ := h _ _ hp
  rcases Nat.mod_two_eq_zero_or_one j with h2 | h2
  · have e2 : j / 2 * 2 = j := by omega
    rw [e2] at f0 c0
    rw [f0] at hj
    injection hj with hj
    rw [← hj]; exact c0
  · have e2 : j / 2 * 2 + 1 = j := by omega
    have e3 : off + j / 2 * 2 + 1 = off + j := by omega
    rw [e2] at f1
    rw [e3] at c1
    rw [f1] at hj
    injection hj with hj
    rw [← hj]; exact c1
section
variable {ops : Array Oper} {rest : List Oper} {o : Oper} {a : Act} {Q : Exit → Act → World → Prop} {w : World}
/-- append of tags that lie anywhere in memory, of none, too. -/
theorem wpList_appS (hgd : o.guard = none) (s x : Operand) (ho : o.op = .call { callee := .builtin .append, args := #[s, x], argTypes := #[22, 22] }) (base : Nat) (v : Value) (l m : List Sp) (ad : Option Addr) (n c : Nat)
    (hs : a.eval s = v) (hown : OwnS w base v l) (hx : a.eval x = .slice ad n c) (hp : SpT w w.heap.size ad m) (hm : n = m.length) (hlen : l.length + n ≤ 100000) (hbase : base ≤ w.heap.size)
    (h : ∀ v' w', OwnS w' base v' (l ++ m) → w.grownBy w' v.ownBlock → (∀ k, v.ownBlock = some k → base ≤ k ∧ k < w.heap.size) → wpList Tryz.prog ops Q rest (a.put o.dst v') w') : wpList Tryz.prog ops Q (o :: rest) a w := by
  by_cases h0 : 0 < n
  · obtain ⟨i0, hi, hz0, hz1, hz2⟩ := info_of span_info
    obtain ⟨b, off, rfl, hb, hc⟩ := hp (by omega)
    refine wpList_append_lies w hgd s x _ ho base 54 i0 _ 2 16 Tryz.underlying22 hi hz2 hz0 hz1 (by decide) (by decide) v l.length (flatS l) hs hown ⟨b, off, none⟩ n c (flatS m) hx (by rw [flatS_len]; omega) (sps_news hc) (flatS_one m) h0 (by unfold maxLen; omega) (by omega) hbase _ rfl ?_
    intro g cap w' h1 h2 _ _
    refine h _ w' ?_ h2 hown.lt
    show World.ownsRow _ _ _ _ _ (l ++ m).length ((l ++ m).flatMap encS)
    rw [List.flatMap_append, List.length_append, ← hm]
    exact h1
  · obtain rfl : n = 0 := by omega
    obtain rfl : m = [] := List.eq_nil_of_length_eq_zero hm.symm
    have hrun : ∀ ty, (Builtin.append_ #[22, 22] ty #[v, .slice ad 0 c]).run Tryz.prog w = .ok v w := fun ty => by
      obtain ⟨_, ⟨hv, h1⟩ | ⟨g, cap, cur, hv, hb, hg, h1, h2, h3, h4⟩⟩ := hown
      · subst hv
        exact run_append_none w ty none 0 0 ad c (Nat.le_refl _) (fun _ => ⟨rfl, rfl⟩) (fun _ h => by cases h)
      · subst hv
        exact run_append_none w ty (some ⟨g, 0, none⟩) _ cap ad c h1 (fun h => by cases h) (fun a h => by injection h with h; exact ⟨g, h.symm⟩)
    refine Lib.wpList_append_run w hgd _ _ _ _ ho _ _ hs hx _ _ (hrun _) ?_
    refine h v w (by rw [List.append_nil]; exact hown) ⟨rfl, rfl, rfl, Nat.le_refl _, fun _ _ _ => rfl⟩ hown.lt
end
theorem spt_of {w : World} {base : Nat} {v : Value} {l : List Sp} (h : OwnS w base v l) : ∃ a cap, v = .slice a l.length cap ∧ l.length ≤ cap ∧ cap ≤ maxLen ∧ (a = none → l = []) ∧ SpT w w.heap.size a l := by
  obtain ⟨a, cap, hv, h1, h2, h3⟩ := Own.shape h
  refine ⟨a, cap, hv, h1, h2, fun e => ?_, fun h0 => ?_⟩
  · rcases h3 with h3 | ⟨g, h3, _⟩
    · exact h3.2.2
    · rw [e] at h3; cases h3
  · rcases h3 with ⟨_, _, h3⟩ | ⟨g, rfl, h4, h5⟩
    · rw [h3] at h0; cases h0
    · subst hv
      refine ⟨g, 0, rfl, h5, fun k t hk => ?_⟩
      have c0 := Own.cells h encS_len (j := 0) hk (by decide)
      have c1 := Own.cells h encS_len (j := 1) hk (by decide)
      rw [Nat.zero_add]
      exact ⟨c0, c1⟩
theorem span_made (w : World) (a b : Int) : ∃ w', w.alloc (.cells #[.int .i64 a, .int .i64 b] 54) = w' ∧ Below w.heap.size w w' ∧ IsRow w' w.heap.size 54 #[.int .i64 a, .int .i64 b] := ⟨_, rfl, alloc1 _ _, IsRow.made _ _ _⟩
theorem sps_one (w : World) (a b : Int) : SpT (w.alloc (.cells #[.int .i64 a, .int .i64 b] 54)) (w.alloc (.cells #[.int .i64 a, .int .i64 b] 54)).heap.size (some ⟨w.heap.size, 0, none⟩) [(a, b)] := fun _ => by
  have r := IsRow.made w 54 #[.int .i64 a, .int .i64 b]
  refine ⟨w.heap.size, 0, rfl, r.inside, fun k t hk => ?_⟩
  match k, hk with
  | 0, hk =>
    simp at hk
    subst hk
    exact ⟨r.get 0, r.get 1⟩
theorem ownS_made (w : World) (base : Nat) (hb : base ≤ w.heap.size) : OwnS (w.alloc (.cells #[] 54)) base (.slice (some ⟨w.heap.size, 0, none⟩) 0 0) [] :=
  ⟨rfl, .inr ⟨w.heap.size, 0, #[], rfl, hb, by unfold World.alloc; simp, Nat.le_refl _, Nat.zero_le _, rfl, rfl⟩⟩
end Go.Proofs.YtgbkjdpjilldmaaGreatDoor.Hr
/- lexer: letters and digits; the reference's letter, digit, word. -/
namespace Go.Proofs.YtgbkjdpjilldmaaGreatDoor.Lx
open Go.RowKit
set_option maxRecDepth 100000 in
set_option maxHeartbeats 400000 in
theorem isLetter_any (c : UInt8) (w : World) :
    Calls Tryz.prog 84 #[.int .u8 c.toNat] w fun e w' => e = .returned (.bool (isLet c)) ∧ w = w' := by
  have hx := c.toNat_lt
  go_enter Tryz.func84, Tryz.ntmps84
  go_wp2
  all_goals go_ret
  all_goals exact ⟨ret_bool (by rw [Bool.eq_iff_iff]; simp [isLet, UInt8.le_iff_toNat_le]; omega), rfl⟩
set_option maxRecDepth 100000 in
set_option maxHeartbeats 400000 in
theorem isDigit_any (c : UInt8) (w : World) :
    Calls Tryz.prog 85 #[.int .u8 c.toNat] w fun e w' => e = .returned (.bool (isDig c)) ∧ w = w' := by
  have hx := c.toNat_lt
  go_enter Tryz.func85, Tryz.ntmps85
  go_wp2
  all_goals go_ret
  all_goals exact ⟨ret_bool (by rw [Bool.eq_iff_iff]; simp [isDig, UInt8.le_iff_toNat_le]; omega), rfl⟩
set_option maxRecDepth 100000 in
set_option maxHeartbeats 400000 in
theorem letter_any (c : UInt8) (w : World) :
    Calls Tryz.prog 101 #[.int .u8 c.toNat] w fun e w' => e = .returned (.bool (isLet c)) ∧ w = w' := by
  have hx := c.toNat_lt
  go_enter Tryz.func101, Tryz.ntmps101
  go_wp2
  all_goals go_ret
  all_goals exact ⟨ret_bool (by rw [Bool.eq_iff_iff]; simp [isLet, UInt8.le_iff_toNat_le]; omega), rfl⟩
set_option maxRecDepth 100000 in
set_option maxHeartbeats 400000 in
theorem digit_any (c : UInt8) (w : World) :
    Calls Tryz.prog 103 #[.int .u8 c.toNat] w fun e w' => e = .returned (.bool (isDig c)) ∧ w = w' := by
  have hx := c.toNat_lt
  go_enter Tryz.func103, Tryz.ntmps103
  go_wp2
  all_goals go_ret
  all_goals exact ⟨ret_bool (by rw [Bool.eq_iff_iff]; simp [isDig, UInt8.le_iff_toNat_le]; omega), rfl⟩
set_option maxRecDepth 100000 in
set_option maxHeartbeats 400000 in
theorem word_any (c : UInt8) (w : World) :
    Calls Tryz.prog 102 #[.int .u8 c.toNat] w fun e w' => e = .returned (.bool (isWord c)) ∧ w = w' := by
  have hx := c.toNat_lt
  have hu := Lib.hid (u8_beq c 95 (by decide))
  go_enter Tryz.func102, Tryz.ntmps102
  go_wp2_with (first | ((with_reducible refine (letter_any _ _).mono ?_); rintro e w' ⟨rfl, rfl⟩) | ((with_reducible refine (digit_any _ _).mono ?_); rintro e w' ⟨rfl, rfl⟩))
  all_goals go_ret
  all_goals exact ⟨ret_bool (by unfold isWord; have := hu.out; simp_all), rfl⟩
end Go.Proofs.YtgbkjdpjilldmaaGreatDoor.Lx
