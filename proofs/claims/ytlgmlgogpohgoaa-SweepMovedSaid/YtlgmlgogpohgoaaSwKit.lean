/- Lists of segments, entries and meetings in memory. -/
import Derived.Test.YtlgmlgogpohgoaaSwMath
import Derived.Test.YtlgmlgogpohgoaaGmOwn
import Derived.Laws.OwnMore
namespace Go.Proofs.Ytlgmlgogpohgoaa.Sw
open Go.RowKit Go.Sort
open Go.Proofs.Ytlgmlgogpohgoaa.Geo hiding intOf
def encG (s : Sg) : List Value := [.int .i64 s.a.x, .int .i64 s.a.y, .int .i64 s.b.x, .int .i64 s.b.y]
def encE (e : Ent) : List Value := [.int .i64 e.i, .int .i64 e.lo.x, .int .i64 e.lo.y, .int .i64 e.hi.x, .int .i64 e.hi.y]
def encM (m : Met) : List Value := [.int .i64 m.a, .int .i64 m.b, .int .i64 m.k]
section
variable {α : Type} {enc : α → List Value} {n : Nat} {t : TypeId}
theorem flat_len (he : ∀ x, (enc x).length = n) (l : List α) : (l.flatMap enc).length = l.length * n := by
  induction l with
  | nil => simp
  | cons s l ih => rw [List.flatMap_cons, List.length_append, ih, List.length_cons, he, Nat.add_mul]; omega
theorem flat_at (he : ∀ x, (enc x).length = n) {j : Nat} (hj : j < n) : ∀ {l : List α} {k : Nat} {x : α}, l[k]? = some x → (l.flatMap enc)[k * n + j]? = (enc x)[j]? := by
  intro l
  induction l with
  | nil => intro k x h; simp at h
  | cons y l ih =>
    intro k x h
    rw [List.flatMap_cons]
    cases k with
    | zero =>
      simp at h
      subst h
      rw [Nat.zero_mul, Nat.zero_add, List.getElem?_append_left (by rw [he]; exact hj)]
    | succ k =>
      simp at h
      have e : (k + 1) * n + j = k * n + j + n := by rw [Nat.add_mul, Nat.one_mul]; omega
      rw [e, List.getElem?_append_right (by rw [he]; omega), he, Nat.add_sub_cancel]
      exact ih h
theorem flat_take (he : ∀ x, (enc x).length = n) : ∀ (l : List α) (m : Nat), (l.flatMap enc).take (m * n) = (l.take m).flatMap enc := by
  intro l
  induction l with
  | nil => intro m; simp
  | cons y l ih =>
    intro m
    cases m with
    | zero => simp
    | succ m =>
      rw [List.flatMap_cons, List.take_succ_cons, List.flatMap_cons, ← ih m, Nat.add_mul, Nat.one_mul, List.take_append, he]
      rw [List.take_of_length_le (by rw [he]; omega)]
      congr 2
      omega
/-- a list of one's own: from a block's beginning. -/
def Own (enc : α → List Value) (n : Nat) (t : TypeId) (w : World) (base : Nat) (v : Value) (l : List α) : Prop := w.ownsRow base t n v l.length (l.flatMap enc)
theorem own_nil (w : World) (base : Nat) : Own enc n t w base (.slice none 0 0) [] := World.ownsRow_nil w base _ _
variable {w w' : World} {base : Nat} {v : Value} {l : List α}
theorem Own.kept {row : Option Nat} (h : Own enc n t w base v l) (hg : w.grownBy w' row) (hne : v.ownBlock = none ∨ v.ownBlock ≠ row) : Own enc n t w' base v l := World.ownsRow.kept h hg hne
theorem Own.below (h : Own enc n t w base v l) (hb : Below w.heap.size w w') : Own enc n t w' base v l := by
  refine h.kept (row := none) ⟨hb.os, hb.tape, hb.output, hb.size, fun k hk _ => hb.block k hk⟩ ?_
  cases hv : v.ownBlock with
  | none => exact .inl rfl
  | some g => exact .inr (by simp)
theorem Own.row (h : Own enc n t w base v l) : ∀ k, v.ownBlock = some k → base ≤ k ∧ ∃ cs, IsRow w k t cs := by
  intro k hk
  obtain ⟨_, ⟨rfl, _⟩ | ⟨g, cap, cur, rfl, hb, hg, _⟩⟩ := h
  · cases hk
  · injection hk with hk
    subst hk
    exact ⟨hb, cur, hg⟩
theorem Own.ne (h : Own enc n t w base v l) {g : Nat} {u : TypeId} {cs : Array Value} (hr : IsRow w g u cs) (ht : u ≠ t) : v.ownBlock ≠ some g := fun e => by
  obtain ⟨_, ds, hd⟩ := h.row g e
  have hd' : w.heap[g]? = some (.cells ds t (0, 0)) := hd
  rw [show w.heap[g]? = some (.cells cs u (0, 0)) from hr] at hd'
  injection hd' with hd'
  injection hd' with _ e2 _
  exact ht e2
/-- the same block, as it was. -/
theorem Own.same (h : Own enc n t w base v l) (hk : ∀ k cs, v.ownBlock = some k → IsRow w k t cs → IsRow w' k t cs) : Own enc n t w' base v l := by
  obtain ⟨h1, ⟨hv, h2⟩ | ⟨g, cap, cur, hv, hb, hg, h2⟩⟩ := h
  · exact ⟨h1, .inl ⟨hv, h2⟩⟩
  · exact ⟨h1, .inr ⟨g, cap, cur, hv, hb, hk g cur (by rw [hv]; rfl) hg, h2⟩⟩
theorem Own.put (h : Own enc n t w base v l) {g : Nat} {u : TypeId} {cs : Array Value} (hr : IsRow w g u cs) (ht : u ≠ t) (i : Nat) (x : Value) : Own enc n t (w.setCell ⟨g, i, none⟩ x) base v l :=
  h.kept (row := some g) ⟨rfl, rfl, rfl, Nat.le_of_eq (by simp), fun k _ hk => Below.heap_setCell w ⟨g, i, none⟩ x k (fun e => hk (by rw [e]))⟩ (.inr (h.ne hr ht))
theorem Own.base_le (h : Own enc n t w base v l) {b : Nat} (hb : b ≤ base) : Own enc n t w b v l := by
  obtain ⟨h1, ⟨hv, h2⟩ | ⟨g, cap, cur, hv, hb', h2⟩⟩ := h
  · exact ⟨h1, .inl ⟨hv, h2⟩⟩
  · exact ⟨h1, .inr ⟨g, cap, cur, hv, Nat.le_trans hb hb', h2⟩⟩
theorem own_snoc {x : α} (h : w.ownsRow base t n v (l.length + 1) (l.flatMap enc ++ enc x)) : Own enc n t w base v (l ++ [x]) := by
  unfold Own
  rw [List.length_append, List.flatMap_append]
  simpa using h
theorem Own.shape (h : Own enc n t w base v l) : ∃ a cap, v = .slice a l.length cap ∧ l.length ≤ cap ∧ cap ≤ maxLen ∧ (a = none ∧ cap = 0 ∧ l = [] ∨ ∃ g, a = some ⟨g, 0, none⟩ ∧ base ≤ g ∧ g < w.heap.size) := by
  obtain ⟨_, ⟨hv, h0⟩ | ⟨g, cap, cur, hv, hb, hg, h1, h2, _⟩⟩ := h
  · exact ⟨none, 0, by rw [h0, hv], by omega, Nat.zero_le _, .inl ⟨rfl, rfl, List.eq_nil_of_length_eq_zero h0⟩⟩
  · exact ⟨_, cap, hv, h1, h2, .inr ⟨g, rfl, hb, (Array.getElem?_eq_some_iff.1 hg).1⟩⟩
theorem Own.cells {g cap m : Nat} (h : Own enc n t w base (.slice (some ⟨g, 0, none⟩) m cap) l) (he : ∀ x, (enc x).length = n) {k j : Nat} {x : α} (hk : l[k]? = some x) (hj : j < n) : w.cell? ⟨g, k * n + j, none⟩ = (enc x)[j]? := by
  have e : m = l.length := by
    obtain ⟨_, ⟨hv, _⟩ | ⟨g', cap', cur, hv, _⟩⟩ := h
    · cases hv
    · injection hv
  subst e
  have hlt := (List.getElem?_eq_some_iff.1 hk).1
  have hh : k * n + j < l.length * n := by
    have : (k + 1) * n ≤ l.length * n := Nat.mul_le_mul_right _ hlt
    rw [Nat.add_mul, Nat.one_mul] at this
    omega
  rw [World.ownsRow.cellAt h _ hh, flat_at he hj hk]
theorem Own.open_ {g cap m : Nat} (h : Own enc n t w base (.slice (some ⟨g, 0, none⟩) m cap) l) (j : Nat) : w.frozen? ⟨g, j, none⟩ = false := by
  have e : m = l.length := by
    obtain ⟨_, ⟨hv, _⟩ | ⟨g', cap', cur, hv, _⟩⟩ := h
    · cases hv
    · injection hv
  subst e
  exact World.ownsRow.frozenAt h j
theorem Own.take {a : Option Addr} {m cap k : Nat} (h : Own enc n t w base (.slice a m cap) l) (he : ∀ x, (enc x).length = n) (hk : k ≤ l.length) : Own enc n t w base (.slice a k cap) (l.take k) := by
  have hlen : (l.take k).length = k := by rw [List.length_take]; omega
  obtain ⟨h1, ⟨hv, h0⟩ | ⟨g, cap', cur, hv, hb, hg, h2, h3, h4, h5⟩⟩ := h
  · injection hv with e1 e2 e3
    subst e1 e2 e3
    have : k = 0 := by omega
    subst this
    have hl : l = [] := List.eq_nil_of_length_eq_zero h0
    subst hl
    exact World.ownsRow_nil w base _ _
  · injection hv with e1 e2 e3
    subst e1 e2 e3
    refine ⟨by rw [flat_len he, hlen], .inr ⟨g, cap, cur, by rw [hlen], hb, hg, by omega, h3, h4, ?_⟩⟩
    rw [hlen, ← flat_take he, ← h5, List.take_take, Nat.min_eq_left (Nat.mul_le_mul_right _ hk)]
end
theorem encG_len (s : Sg) : (encG s).length = 4 := rfl
theorem encE_len (s : Ent) : (encE s).length = 5 := rfl
theorem encM_len (s : Met) : (encM s).length = 3 := rfl
theorem encE_one (s : Ent) : ∀ u ∈ encE s, u.oneCell' = true := by intro u hu; simp [encE] at hu; rcases hu with rfl | rfl | rfl | rfl | rfl <;> rfl
theorem encM_one (s : Met) : ∀ u ∈ encM s, u.oneCell' = true := by intro u hu; simp [encM] at hu; rcases hu with rfl | rfl | rfl <;> rfl
theorem encG_one (s : Sg) : ∀ u ∈ encG s, u.oneCell' = true := by intro u hu; simp [encG] at hu; rcases hu with rfl | rfl | rfl | rfl <;> rfl
abbrev OwnE (w : World) (base : Nat) (v : Value) (l : List Ent) : Prop := Own encE 5 85 w base v l
abbrev OwnM (w : World) (base : Nat) (v : Value) (l : List Met) : Prop := Own encM 3 48 w base v l
abbrev OwnG (w : World) (base : Nat) (v : Value) (l : List Sg) : Prop := Own encG 4 36 w base v l
theorem entry_info : (Try.prog.info? 85).map (fun i => (i.size, i.bytes, i.zero)) = some (5, 40, some (.agg (encE default).toArray)) := by kernel_rfl
theorem meet_info : (Try.prog.info? 48).map (fun i => (i.size, i.bytes, i.zero)) = some (3, 24, some (.agg (encM default).toArray)) := by kernel_rfl
theorem segm_info : (Try.prog.info? 36).map (fun i => (i.size, i.bytes, i.zero)) = some (4, 32, some (.agg (encG default).toArray)) := by kernel_rfl
theorem flatE_set : ∀ (l : List Ent) (k : Nat) (e : Ent), k < l.length →
    (((((l.flatMap encE).set (k * 5) (.int .i64 e.i)).set (k * 5 + 1) (.int .i64 e.lo.x)).set (k * 5 + 2) (.int .i64 e.lo.y)).set (k * 5 + 3) (.int .i64 e.hi.x)).set (k * 5 + 4) (.int .i64 e.hi.y) = (l.set k e).flatMap encE := by
  intro l
  induction l with
  | nil => intro k e h; simp at h
  | cons y l ih =>
    intro k e h
    cases k with
    | zero => simp [encE]
    | succ k =>
      have := ih k e (by simpa using h)
      have e0 : (k + 1) * 5 = k * 5 + 5 := by omega
      rw [e0]
      simp only [List.flatMap_cons, List.set_cons_succ, ← this]
      simp [encE]
theorem grown_twice {w w1 w2 : World} {row : Option Nat} (h : w.grownBy w1 row) (k : w1.grownBy w2 row) : w.grownBy w2 row :=
  ⟨k.os.trans h.os, k.tape.trans h.tape, k.output.trans h.output, Nat.le_trans h.size k.size, fun i hi hn => (k.block i (Nat.lt_of_lt_of_le hi h.size) hn).trans (h.block i hi hn)⟩
theorem own_len {α : Type} {enc : α → List Value} {n : Nat} {t : TypeId} {w : World} {base m cap : Nat} {a : Option Addr} {l : List α} (h : Own enc n t w base (.slice a m cap) l) : m = l.length := by
  obtain ⟨_, ⟨hv, e⟩ | ⟨g', cap', cur, hv, _⟩⟩ := h
  · injection hv with _ e2 _
    rw [e2, e]
  · injection hv
def put5 (w : World) (g o : Nat) (e : Ent) : World := ((((w.setCell ⟨g, o, none⟩ (.int .i64 e.i)).setCell ⟨g, o + 1, none⟩ (.int .i64 e.lo.x)).setCell ⟨g, o + 2, none⟩ (.int .i64 e.lo.y)).setCell ⟨g, o + 3, none⟩ (.int .i64 e.hi.x)).setCell ⟨g, o + 4, none⟩ (.int .i64 e.hi.y)
theorem OwnE.store {w : World} {base g cap m : Nat} {l : List Ent} (h : OwnE w base (.slice (some ⟨g, 0, none⟩) m cap) l) {k : Nat} (hk : k < l.length) (e : Ent) :
    OwnE (put5 w g (k * 5) e) base (.slice (some ⟨g, 0, none⟩) m cap) (l.set k e) ∧ w.grownBy (put5 w g (k * 5) e) (some g) := by
  have em := own_len h
  subst em
  have s0 := World.ownsRow.stored h (k * 5) (.int .i64 e.i)
  have s1 := World.ownsRow.stored s0.1 (k * 5 + 1) (.int .i64 e.lo.x)
  have s2 := World.ownsRow.stored s1.1 (k * 5 + 2) (.int .i64 e.lo.y)
  have s3 := World.ownsRow.stored s2.1 (k * 5 + 3) (.int .i64 e.hi.x)
  have s4 := World.ownsRow.stored s3.1 (k * 5 + 4) (.int .i64 e.hi.y)
  refine ⟨?_, grown_twice (grown_twice (grown_twice (grown_twice s0.2 s1.2) s2.2) s3.2) s4.2⟩
  have h4 := s4.1
  rw [flatE_set l k e hk] at h4
  have e5 : (l.set k e).length = l.length := List.length_set
  show World.ownsRow _ _ _ _ _ (l.set k e).length _
  rw [e5]
  exact h4
/-- segments to read: the slice at address a holds the segments l, in a block below N. -/
def Segs (w : World) (N : Nat) (a : Option Addr) (l : List Sg) : Prop := 0 < l.length → ∃ b off, a = some ⟨b, off, none⟩ ∧ b < N ∧
  ∀ k s, l[k]? = some s → w.cell? ⟨b, off + k * 4, none⟩ = some (.int .i64 s.a.x) ∧ w.cell? ⟨b, off + k * 4 + 1, none⟩ = some (.int .i64 s.a.y) ∧ w.cell? ⟨b, off + k * 4 + 2, none⟩ = some (.int .i64 s.b.x) ∧ w.cell? ⟨b, off + k * 4 + 3, none⟩ = some (.int .i64 s.b.y)
section
variable {w w' : World} {N N' : Nat} {a : Option Addr} {l : List Sg}
theorem Segs.below (h : Segs w N a l) (hb : Below N w w') : Segs w' N a l := fun h0 => by
  obtain ⟨b, off, rfl, hN, hc⟩ := h h0
  refine ⟨b, off, rfl, hN, fun k p hk => ?_⟩
  obtain ⟨h0, h1, h2, h3⟩ := hc k p hk
  exact ⟨(hb.cell (p := ⟨b, off + k * 4, none⟩) hN).trans h0, (hb.cell (p := ⟨b, off + k * 4 + 1, none⟩) hN).trans h1, (hb.cell (p := ⟨b, off + k * 4 + 2, none⟩) hN).trans h2, (hb.cell (p := ⟨b, off + k * 4 + 3, none⟩) hN).trans h3⟩
theorem Segs.more (h : Segs w N a l) (hN : N ≤ N') : Segs w N' a l := fun h0 => by
  obtain ⟨b, off, rfl, hb, hc⟩ := h h0
  exact ⟨b, off, rfl, by omega, hc⟩
theorem Segs.later (h : Segs w w.heap.size a l) (hb : Below w.heap.size w w') : Segs w' w'.heap.size a l := (h.below hb).more hb.size
theorem Segs.at_ (h : Segs w N a l) {k : Nat} (hk : k < l.length) : ∃ b off, a = some ⟨b, off, none⟩ ∧ b < N ∧ w.cell? ⟨b, off + k * 4, none⟩ = some (.int .i64 (sgAt l k).a.x) ∧ w.cell? ⟨b, off + k * 4 + 1, none⟩ = some (.int .i64 (sgAt l k).a.y) ∧ w.cell? ⟨b, off + k * 4 + 2, none⟩ = some (.int .i64 (sgAt l k).b.x) ∧ w.cell? ⟨b, off + k * 4 + 3, none⟩ = some (.int .i64 (sgAt l k).b.y) := by
  obtain ⟨b, off, rfl, hb, hc⟩ := h (by omega)
  exact ⟨b, off, rfl, hb, hc k _ (by unfold sgAt; rw [List.getD_eq_getElem?_getD, List.getElem?_eq_getElem hk]; rfl)⟩
theorem Segs.first (h : Segs w N a l) (k : Nat) : Segs w N a (l.take k) := fun h0 => by
  rw [List.length_take] at h0
  obtain ⟨b, off, rfl, hb, hc⟩ := h (by omega)
  refine ⟨b, off, rfl, hb, fun i s hi => hc i s ?_⟩
  rw [List.getElem?_take] at hi
  split at hi
  · exact hi
  · cases hi
end
theorem OwnG.segs {w : World} {base : Nat} {v : Value} {l : List Sg} (h : OwnG w base v l) : ∃ a cap, v = .slice a l.length cap ∧ l.length ≤ cap ∧ cap ≤ maxLen ∧ Segs w w.heap.size a l := by
  obtain ⟨a, cap, rfl, h1, h2, h3⟩ := Own.shape h
  refine ⟨a, cap, rfl, h1, h2, fun h0 => ?_⟩
  rcases h3 with ⟨_, _, rfl⟩ | ⟨g, rfl, _, hg⟩
  · simp at h0
  · refine ⟨g, 0, rfl, hg, fun k s hk => ?_⟩
    rw [Nat.zero_add]
    exact ⟨Own.cells h encG_len (j := 0) hk (by decide), Own.cells h encG_len (j := 1) hk (by decide), Own.cells h encG_len (j := 2) hk (by decide), Own.cells h encG_len (j := 3) hk (by decide)⟩
end Go.Proofs.Ytlgmlgogpohgoaa.Sw
