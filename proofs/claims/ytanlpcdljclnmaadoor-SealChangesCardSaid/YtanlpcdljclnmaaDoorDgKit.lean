/- Small facts on memory that the walks of this seat share: a row of cells of the call's own; copy out of a string; tables behind 'Below'. -/
import Derived.Test.YtanlpcdljclnmaaDoorDgLeaf
import Derived.Laws.CopyOwn
import Derived.Lib.AppendStr
import Derived.Lib.Strings
namespace Go.Proofs.YtanlpcdljclnmaaDoor.Dg
open Go.RowKit

/-- block g is the row cs of element type t, nothing of it frozen. -/
def IsRow (w : World) (g : Nat) (t : TypeId) (cs : Array Value) : Prop := w.heap[g]? = some (.cells cs t (0, 0))
section
variable {w w' : World} {g : Nat} {t : TypeId} {cs : Array Value}
theorem IsRow.inside (h : IsRow w g t cs) : g < w.heap.size := by
  refine Nat.lt_of_not_le fun hge => ?_
  unfold IsRow at h
  rw [Array.getElem?_eq_none hge] at h
  cases h
theorem IsRow.get (h : IsRow w g t cs) (i : Nat) : w.cell? ⟨g, i, none⟩ = cs[i]? := by unfold IsRow at h; simp [World.cell?, h]
theorem IsRow.open_ (h : IsRow w g t cs) (i : Nat) : w.frozen? ⟨g, i, none⟩ = false := by unfold IsRow at h; simp [World.frozen?, h]
theorem IsRow.made (w : World) (t : TypeId) (cs : Array Value) : IsRow (w.alloc (.cells cs t)) w.heap.size t cs := heap_alloc_new w _
theorem IsRow.later (h : IsRow w g t cs) (o : Obj) : IsRow (w.alloc o) g t cs := (Below.heap_alloc w o g h.inside).trans h
theorem IsRow.put (h : IsRow w g t cs) (i : Nat) (u : Value) : IsRow (w.setCell ⟨g, i, none⟩ u) g t (cs.setIfInBounds i u) := by
  unfold IsRow at h ⊢
  simp [World.setCell, Array.getElem?_modify, h]
theorem IsRow.putOther (h : IsRow w g t cs) {p : Addr} (hp : g ≠ p.block) (u : Value) : IsRow (w.setCell p u) g t cs := (Below.heap_setCell w p u g hp).trans h
theorem IsRow.below {B : Nat} (h : IsRow w g t cs) (hb : Below B w w') (hg : g < B) : IsRow w' g t cs := (hb.block g hg).trans h
end

/-- copy(d, s) of a string into the beginning of a row. -/
theorem run_copy_string {P : Program} (w : World) (dT sT ty elem : TypeId) (g dLen dCap : Nat) (s : ByteArray) (cur : Array Value) (t : TypeId)
    (hu : P.underlying dT = some (.slice elem)) (hs : (P.info? elem).map (·.size) = some 1) (hg : w.heap[g]? = some (.cells cur t (0, 0))) (hfit : dLen ≤ cur.size) :
    (Builtin.copy_ #[dT, sT] ty #[.slice (some ⟨g, 0, none⟩) dLen dCap, .string s]).run P w =
      .ok (.int .i64 (Nat.min s.size dLen)) (w.setRow g ((Lib.strCells s).take (Nat.min s.size dLen) ++ cur.toList.drop (Nat.min s.size dLen)).toArray) := by
  have hl : ((Lib.strCells s).take (Nat.min s.size dLen)).length = Nat.min s.size dLen := by
    rw [List.length_take, Lib.strCells_length]; exact Nat.min_eq_left (Nat.min_le_left _ _)
  have hst := run_storeCells_at P g 0 t ((Lib.strCells s).take (Nat.min s.size dLen)) 0 cur w hg (by rw [hl]; simp only [Nat.zero_add]; exact Nat.le_trans (Nat.min_le_right _ _) hfit)
    (fun v hv => Lib.strCells_oneCell s v (List.mem_of_mem_take hv))
  rw [hl] at hst
  simp only [Nat.zero_add, List.take_zero, List.nil_append] at hst
  have hf : (Builtin.firstCells 1 (Nat.min s.size dLen) (.string s)).run P w = .ok ((Lib.strCells s).take (Nat.min s.size dLen)).toArray w := by
    simp [Builtin.firstCells, Lib.strCells]
    apply Array.ext'
    simp
  cases hq : P.info? elem with
  | none => simp [hq] at hs
  | some i =>
    have hi : i.size = 1 := by simpa [hq] using hs
    simp [Builtin.copy_, run_underlying hu, Builtin.lenOf, sizeOf, typeInfo, hq, hi, hf, hst]
    rfl
/-- string(b[:n]): a row's first n bytes as a string. -/
theorem foldl_push : ∀ (l : List UInt8) (a : Array UInt8), (l.map fun c => (c.toNat : Int)).foldl (fun (r : ByteArray) n => r.push (UInt8.ofNat n.toNat)) ⟨a⟩ = ⟨a ++ l.toArray⟩ := by
  intro l
  induction l with
  | nil => intro a; simp
  | cons c l ih =>
    intro a
    rw [List.map_cons, List.foldl_cons]
    have e : (ByteArray.push ⟨a⟩ (UInt8.ofNat ((c.toNat : Int)).toNat)) = ⟨a.push c⟩ := by
      rw [Int.toNat_natCast, UInt8.ofNat_toNat]; rfl
    rw [e, ih]
    simp
theorem run_string_of_row {P : Program} (w : World) (src dst e : TypeId) (g n c : Nat) (t : TypeId) (cs : Array Value) (l : List UInt8) (hr : IsRow w g t cs)
    (ht : cs.toList.take n = l.map fun c => Value.int .u8 (c.toNat : Int)) (hn : l.length = n)
    (hs : P.underlying src = some (.slice e)) (he : P.underlying e = some (.int .u8)) (hd : P.underlying dst = some .string) :
    (convert src dst (.slice (some ⟨g, 0, none⟩) n c)).run P w = .ok (.string ⟨l.toArray⟩) w := by
  rw [run_convert_bytes_string w src dst e _ n c hs he hd]
  have hl : (loadCells ⟨g, 0, none⟩ n).run P w = .ok ((l.map fun c => (c.toNat : Int)).map (Value.int .u8)).toArray w := by
    have := run_loadCells_list (P := P) w ⟨g, 0, none⟩ (l.map fun c => Value.int .u8 (c.toNat : Int)) (by
      intro j v hj
      rw [← ht] at hj
      have h2 := hr.get j
      rw [List.getElem?_take] at hj
      split at hj
      · rw [show (⟨g, 0, none⟩ : Addr).add j = ⟨g, j, none⟩ by unfold Addr.add; split <;> simp_all, h2]
        simpa using hj
      · cases hj)
    rw [List.length_map, hn] at this
    rw [this]
    simp
  rw [run_bytesToString w _ n c _ hl]
  have := foldl_push l #[]
  rw [show ByteArray.empty = ⟨#[]⟩ from rfl, this]
  simp
end Go.Proofs.YtanlpcdljclnmaaDoor.Dg
