/- index: an index in memory. -/
import Derived.Test.YteghhfkllclghaaIxWithoutTop
import Derived.Maps.OwnSet
namespace Go.Proofs.Yteghhfkllclghaa.Ix
open Go.RowKit Go.Sort
open Go.Maps (Keyed IsMap has)
/-- an element of the map is held as it is. -/
def heldE (v : Value) : Option (DataW Value × List MemPlace) := some (.held v, [])
def kS (i : Id) : Lit := .string i
theorem kS_inj {i j : Id} (h : kS i = kS j) : i = j := by
  unfold kS at h
  injection h
theorem str_keyed : Keyed Try.prog 9 := Maps.string_keyed Try.underlying9
theorem keyOf_str {i : Id} (h : i.length ≤ 1000) : keyOf Try.prog 9 (.string ⟨i.toArray⟩) = some (kS i) := by
  unfold keyOf
  rw [Try.underlying9]
  show mapKey Try.prog 9 (.string ⟨i.toArray⟩) = _
  unfold mapKey
  rw [Try.underlying9]
  have : (ByteArray.mk i.toArray).size ≤ maxLen := by
    show i.toArray.size ≤ maxLen
    unfold maxLen
    simp
    omega
  simp [this, kS]
theorem key_lit (i : Id) : WideAt.IsKeyLit (kS i) := by unfold kS; first | trivial | exact Or.inl ⟨i, rfl⟩ | simp [WideAt.IsKeyLit]
def plV (p i : Nat) : Value := .agg #[ptr p, .int .i64 i]
def pl0 : Value := .agg #[.pointer none, .int .i64 0]
theorem zero_place (w : World) : (zeroValue 68).run Try.prog w = .ok pl0 w := by kernel_rfl
/-- the map's datum says where the Ids are. -/
def mapD (D : DataW Value) (lk : Id → Option (Nat × Nat)) : Prop := IsMap D ∧ ∀ x, match lk x with
  | some (p, i) => has D (kS x) = true ∧ D.atKey (kS x) (.held pl0) = .held (plV p i)
  | none => has D (kS x) = false ∧ D.atKey (kS x) (.held pl0) = .held pl0
theorem mapD_empty : mapD (.map []) fun _ => none := ⟨⟨[], rfl⟩, fun _ => ⟨rfl, rfl⟩⟩
theorem mapD.put {D : DataW Value} {lk : Id → Option (Nat × Nat)} (h : mapD D lk) (x : Id) (p i : Nat) : mapD (D.put (kS x) (.held (plV p i))) fun y => if y = x then some (p, i) else lk y := by
  refine ⟨h.1.put _ _, fun y => ?_⟩
  dsimp only
  by_cases e : y = x
  · subst e
    rw [if_pos rfl]
    exact ⟨Maps.has_put_same h.1 (key_lit y) _, Maps.atKey_put_same h.1 (key_lit y) _ _⟩
  · rw [if_neg e]
    have hne : kS y ≠ kS x := fun h => e (kS_inj h)
    have := h.2 y
    rw [Maps.has_put_other hne, Maps.atKey_put_other hne]
    exact this
theorem mapD.del {D : DataW Value} {lk : Id → Option (Nat × Nat)} (h : mapD D lk) (x : Id) : mapD (D.del (kS x)) fun y => if y = x then none else lk y := by
  refine ⟨h.1.del _, fun y => ?_⟩
  dsimp only
  by_cases e : y = x
  · subst e
    rw [if_pos rfl]
    exact ⟨Maps.has_del_same, Maps.atKey_del_same _⟩
  · rw [if_neg e]
    have hne : kS y ≠ kS x := fun h => e (kS_inj h)
    have := h.2 y
    rw [Maps.has_del_other hne, Maps.atKey_del_other hne]
    exact this
/-- a tree or none: its root as a value, in memory, its blocks. -/
def rootV : Option (Tr Value) → Value
  | none => nilP
  | some t => ptr t.blk
def inO (w : World) : Option (Tr Value) → Prop
  | none => True
  | some t => t.inT w ∧ t.fp.Nodup ∧ t.ok
def fpO : Option (Tr Value) → List Nat
  | none => []
  | some t => t.fp
/-- an index: its struct at block x, its map at block m, its tree t, the boxes S. -/
structure Idx (w : World) (x m n : Nat) (t : Option (Tr Value)) (D : DataW Value) (lk : Id → Option (Nat × Nat)) (S : List It) : Prop where
  row : IsRow w x 61 #[rootV t, .map (some m)]
  tree : inO w t
  map : w.ownsMap Try.prog 9 heldE m n D
  dat : mapD D lk
  ok : mapOK lk (Tr.leavesO t)
  perm : (itemsL (Tr.leavesO t)).Perm S
  srt : Srt S
  ax : x ∉ fpO t
  am : m ∉ fpO t
  xm : x ≠ m
  len : S.length ≤ n
  few : (Tr.leavesO t).length ≤ n
/-- an index somewhere, with at most n operations behind it; its blocks are those of F. -/
def IdxP (w : World) (x n : Nat) (F : List Nat) (S : List It) : Prop := ∃ m t D lk, Idx w x m n t D lk S ∧ ∀ k, k ∈ F ↔ k = x ∨ k = m ∨ k ∈ fpO t
theorem inO_keep {w w' : World} {t : Option (Tr Value)} (h : inO w t) (hk : ∀ k ∈ fpO t, w'.heap[k]? = w.heap[k]?) : inO w' t := by
  cases t with
  | none => trivial
  | some t => exact ⟨Tr.inT_keep h.1 hk, h.2⟩
theorem inO_lt {w : World} {t : Option (Tr Value)} (h : inO w t) : ∀ k ∈ fpO t, k < w.heap.size := by
  cases t with
  | none => intro k hk; cases hk
  | some t => exact Tr.inT_lt h.1
theorem map_keep {w w' : World} {m n : Nat} {D : DataW Value} (h : w.ownsMap Try.prog 9 heldE m n D) (hk : w'.heap[m]? = w.heap[m]?) : w'.ownsMap Try.prog 9 heldE m n D := by
  obtain ⟨es, clock, hb, F, hs, hD⟩ := h
  exact ⟨es, clock, hk.trans hb, F, hs, hD⟩
theorem Idx.lt {w : World} {x m n : Nat} {t : Option (Tr Value)} {D : DataW Value} {lk : Id → Option (Nat × Nat)} {S : List It} (h : Idx w x m n t D lk S) : x < w.heap.size ∧ m < w.heap.size ∧ ∀ k ∈ fpO t, k < w.heap.size := ⟨h.row.inside, h.map.lt, inO_lt h.tree⟩
end Go.Proofs.Yteghhfkllclghaa.Ix
