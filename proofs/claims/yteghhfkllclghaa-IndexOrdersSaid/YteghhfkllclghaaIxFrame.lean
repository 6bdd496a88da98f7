/- index: what the queue's methods leave as it is: all ahead of base, and every row of strings. -/
import Derived.Test.YteghhfkllclghaaIxQueue
namespace Go.Proofs.Yteghhfkllclghaa.Ix
open Go.RowKit Go.Sort
/-- block nb is none of the queue's. -/
def Off (w : World) (qb nb : Nat) : Prop := nb < w.heap.size ∧ qb < w.heap.size ∧ nb ≠ qb ∧ ∀ u, w.cell? ⟨qb, 0, none⟩ = some u → u.ownBlock ≠ some nb
structure Bq (base qb : Nat) (w w' : World) : Prop where
  b : Below base w w'
  s : ∀ (k : Nat) (cur : Array Value) (fr : Nat × Nat), w.heap[k]? = some (.cells cur 9 fr) → w'.heap[k]? = w.heap[k]?
  k : ∀ nb, Off w qb nb → w'.heap[nb]? = w.heap[nb]? ∧ Off w' qb nb
theorem Bq.refl (base qb : Nat) (w : World) : Bq base qb w w := ⟨Below.refl _ _, fun _ _ _ _ => rfl, fun _ h => ⟨rfl, h⟩⟩
theorem Bq.trans {base qb : Nat} {w w1 w2 : World} (h : Bq base qb w w1) (k : Bq base qb w1 w2) : Bq base qb w w2 :=
  ⟨h.b.trans k.b, fun i cur fr e => (k.s i cur fr ((h.s i cur fr e).trans e)).trans (h.s i cur fr e), fun nb o => by
    obtain ⟨e1, o1⟩ := h.k nb o
    obtain ⟨e2, o2⟩ := k.k nb o1
    exact ⟨e2.trans e1, o2⟩⟩
theorem Bq.size {base qb : Nat} {w w' : World} (h : Bq base qb w w') : w.heap.size ≤ w'.heap.size := h.b.size
theorem _root_.Go.RowKit.Below.q {base qb : Nat} {w w' : World} (h : Below w.heap.size w w') (hb : base ≤ w.heap.size) : Bq base qb w w' :=
  ⟨h.mono hb, fun k _ _ e => h.block k (Array.getElem?_eq_some_iff.1 e).1, fun nb o => ⟨h.block nb o.1, Nat.lt_of_lt_of_le o.1 h.size, Nat.lt_of_lt_of_le o.2.1 h.size, o.2.2.1, fun u hu => o.2.2.2 u ((h.cell (p := ⟨qb, 0, none⟩) o.2.1).symm.trans hu)⟩⟩
theorem Bq.grown {base qb : Nat} {row : Option Nat} {w w' : World} (hg : w.grownBy w' row) (hb : base ≤ w.heap.size) (hr : ∀ k, row = some k → base ≤ k ∧ ∃ cur t fr, w.heap[k]? = some (.cells cur t fr) ∧ t ≠ 9)
    (hq : ∀ k, row = some k → k ≠ qb ∧ ∃ u, w.cell? ⟨qb, 0, none⟩ = some u ∧ u.ownBlock = some k) : Bq base qb w w' :=
  ⟨(Below.refl base w).grown hg hb fun k e => (hr k e).1, fun k cur fr e => hg.block k (Array.getElem?_eq_some_iff.1 e).1 fun h => by
    obtain ⟨_, c2, t2, f2, e2, n2⟩ := hr k h.symm
    rw [e2] at e
    injection e with e
    injection e with _ e' _
    exact n2 e', fun nb o => by
      have hn : some nb ≠ row := fun e => by
        obtain ⟨_, u, hu, ho⟩ := hq nb e.symm
        exact o.2.2.2 u hu ho
      have hqn : some qb ≠ row := fun e => (hq qb e.symm).1 rfl
      have hc : w'.cell? ⟨qb, 0, none⟩ = w.cell? ⟨qb, 0, none⟩ := by
        have := hg.block qb o.2.1 hqn
        simp [World.cell?, this]
      exact ⟨hg.block nb o.1 hn, Nat.lt_of_lt_of_le o.1 hg.size, Nat.lt_of_lt_of_le o.2.1 hg.size, o.2.2.1, fun u hu => o.2.2.2 u (hc.symm.trans hu)⟩⟩
theorem Bq.hdr {base qb : Nat} {t : TypeId} {cs : Array Value} {w : World} (hr : IsRow w qb t cs) (ht : t ≠ 9) (hb : base ≤ qb) (z u : Value) (h0 : cs[0]? = some z) (hu : u.ownBlock = z.ownBlock) : Bq base qb w (w.setCell ⟨qb, 0, none⟩ u) :=
  ⟨(Below.refl base w).setCell (p := ⟨qb, 0, none⟩) hb u, fun k cur fr e => Below.heap_setCell _ _ _ _ fun h => by
    have h' : k = qb := h
    subst h'
    unfold IsRow at hr
    rw [hr] at e
    injection e with e
    injection e with _ e' _
    exact ht e', fun nb o => by
      refine ⟨Below.heap_setCell _ _ _ _ o.2.2.1, by simpa using o.1, by simpa using o.2.1, o.2.2.1, fun u' hu' => ?_⟩
      rw [(hr.put 0 u).get 0] at hu'
      have hs : 0 < cs.size := (Array.getElem?_eq_some_iff.1 h0).1
      have e : u = u' := by simpa [hs] using hu'
      subst e
      rw [hu]
      exact o.2.2.2 z ((hr.get 0).trans h0)⟩
theorem Qu.hdr {w : World} {base q : Nat} {v : Value} {L : List Qi} (h : Qu w base q v L) : ∀ k, v.ownBlock = some k → k ≠ q ∧ ∃ u, w.cell? ⟨q, 0, none⟩ = some u ∧ u.ownBlock = some k := fun k hk => by
  refine ⟨?_, v, h.row.get 0, hk⟩
  obtain ⟨_, ⟨hv, _⟩ | ⟨g, cap, cur, hv, _⟩⟩ := id h.own
  · rw [hv] at hk; cases hk
  · subst hv
    have e : g = k := by injection hk
    rw [← e]
    exact h.ne
theorem OwnQ.typed {w : World} {base : Nat} {v : Value} {L : List Qi} (h : OwnQ w base v L) : ∀ k, v.ownBlock = some k → base ≤ k ∧ ∃ cur t fr, w.heap[k]? = some (.cells cur t fr) ∧ t ≠ 9 := fun k hk => by
  obtain ⟨_, ⟨hv, _⟩ | ⟨g, cap, cur, hv, hb, hg, _⟩⟩ := h
  · rw [hv] at hk; cases hk
  · rw [hv] at hk
    have e : g = k := by injection hk
    subst e
    exact ⟨hb, cur, _, _, hg, by decide⟩
end Go.Proofs.Yteghhfkllclghaa.Ix
