/- index: trees in memory. -/
import Derived.Test.YteghhfkllclghaaIxDigit
import Derived.Deep.AppendLies
import Derived.Sort.EncStr
namespace Go.Proofs.Yteghhfkllclghaa.Ix
open Go.RowKit Go.Sort
/-- what a call does that may write into the blocks of S alone. -/
structure Ch (S : Nat → Prop) (w w' : World) : Prop where
  os : w'.os = w.os
  tape : w'.tape = w.tape
  output : w'.output = w.output
  size : w.heap.size ≤ w'.heap.size
  block : ∀ k, k < w.heap.size → ¬ S k → w'.heap[k]? = w.heap[k]?
section
variable {S T : Nat → Prop} {w w1 w2 w' : World}
theorem Ch.refl (S : Nat → Prop) (w : World) : Ch S w w := ⟨rfl, rfl, rfl, Nat.le_refl _, fun _ _ _ => rfl⟩
theorem Ch.of_below (h : Below w.heap.size w w') : Ch S w w' := ⟨h.os, h.tape, h.output, h.size, fun k hk _ => h.block k hk⟩
/-- first S, then T: what T names is S's or new. -/
theorem Ch.trans (h : Ch S w w1) (k : Ch T w1 w2) (hT : ∀ i, T i → i < w.heap.size → S i) : Ch S w w2 :=
  ⟨k.os.trans h.os, k.tape.trans h.tape, k.output.trans h.output, Nat.le_trans h.size k.size, fun i hi hn => (k.block i (Nat.lt_of_lt_of_le hi h.size) fun ht => hn (hT i ht hi)).trans (h.block i hi hn)⟩
theorem Ch.mono (h : Ch S w w') (hS : ∀ i, S i → i < w.heap.size → T i) : Ch T w w' := ⟨h.os, h.tape, h.output, h.size, fun i hi hn => h.block i hi fun hs => hn (hS i hs hi)⟩
theorem Ch.then_below (h : Ch S w w1) (k : Below w1.heap.size w1 w2) : Ch S w w2 := h.trans (Ch.of_below k (S := fun _ => False)) fun _ h => h.elim
theorem Ch.setCell (h : Ch S w w1) {p : Addr} (hp : p.block < w.heap.size → S p.block) (u : Value) : Ch S w (w1.setCell p u) :=
  ⟨h.os, h.tape, h.output, by simpa using h.size, fun i hi hn => (Below.heap_setCell w1 p u i fun e => hn (e ▸ hp (e ▸ hi))).trans (h.block i hi hn)⟩
theorem Ch.alloc (h : Ch S w w1) (o : Obj) : Ch S w (w1.alloc o) := h.then_below (alloc1 w1 o)
theorem Ch.drew (h : Ch S w w1) : Ch S w w1.drew := h.then_below (drew_below w1)
theorem Ch.grown {row : Option Nat} (h : Ch S w w1) (hg : w1.grownBy w2 row) (hr : ∀ k, row = some k → k < w.heap.size → S k) : Ch S w w2 :=
  h.trans (T := fun k => some k = row) ⟨hg.os, hg.tape, hg.output, hg.size, hg.block⟩ fun i hi hl => hr i hi.symm hl
theorem Ch.below {B : Nat} (h : Ch S w w') (hB : B ≤ w.heap.size) (hS : ∀ k, S k → B ≤ k) : Below B w w' := ⟨h.os, h.tape, h.output, h.size, fun k hk => h.block k (by omega) fun hs => by have := hS k hs; omega⟩
theorem Ch.row {g : Nat} {t : TypeId} {cs : Array Value} (h : Ch S w w') (hr : IsRow w g t cs) (hn : ¬ S g) : IsRow w' g t cs := (h.block g hr.inside hn).trans hr
end
/-- strings of one's own. -/
def sv (L : List Id) : List Value := L.map encStr
def OwnS (w : World) (v : Value) (L : List Id) : Prop := w.ownsRow 0 9 1 v L.length (sv L)
theorem OwnS.nil (w : World) : OwnS w (.slice none 0 0) [] := World.ownsRow_nil w 0 _ _
theorem OwnS.lt {w : World} {v : Value} {L : List Id} (h : OwnS w v L) : ∀ k, v.ownBlock = some k → k < w.heap.size := fun k hk => (World.ownsRow.lt h k hk).2
theorem OwnS.keep {w w' : World} {v : Value} {L : List Id} (h : OwnS w v L) (hk : ∀ k, v.ownBlock = some k → w'.heap[k]? = w.heap[k]?) : OwnS w' v L := by
  refine ⟨h.1, ?_⟩
  rcases h.2 with hn | ⟨g, cap, cur, rfl, hb, hgg, rest⟩
  · exact .inl hn
  · exact .inr ⟨g, cap, cur, rfl, hb, (hk g rfl).trans hgg, rest⟩
/-- a node's cells. -/
def nodeC (b : Bx) (f : Nat) (l r v : Value) : Array Value := #[.int .i64 b.a, .int .i64 b.b, .int .i64 b.c, .int .i64 b.d, .int .i64 f, l, r, v]
def nilP : Value := .pointer none
def nilS : Value := .slice none 0 0
def ptr (n : Nat) : Value := .pointer (some ⟨n, 0, none⟩)
namespace Tr
def inT (w : World) : Tr Value → Prop
  | leaf p b ids v => IsRow w p 72 (nodeC b 128 nilP nilP v) ∧ OwnS w v ids
  | fork p f l r => IsRow w p 72 (nodeC (hull l.box r.box) f (ptr l.blk) (ptr r.blk) nilS) ∧ l.inT w ∧ r.inT w
def fp : Tr Value → List Nat
  | leaf p _ _ v => p :: v.ownBlock.toList
  | fork p _ l r => p :: (l.fp ++ r.fp)
/-- the value of a node's last cell, of its two kids. -/
def idsV : Tr Value → Value
  | leaf _ _ _ v => v
  | fork _ _ _ _ => nilS
def kid0 : Tr Value → Value
  | leaf _ _ _ _ => nilP
  | fork _ _ l _ => ptr l.blk
def kid1 : Tr Value → Value
  | leaf _ _ _ _ => nilP
  | fork _ _ _ r => ptr r.blk
theorem inT_row {w : World} : ∀ {t : Tr Value}, t.inT w → IsRow w t.blk 72 (nodeC t.box t.fk t.kid0 t.kid1 t.idsV)
  | leaf _ _ _ _, h => h.1
  | fork _ _ _ _, h => h.1
theorem blk_fp : ∀ (t : Tr Value), t.blk ∈ t.fp
  | leaf _ _ _ _ => List.mem_cons_self ..
  | fork _ _ _ _ => List.mem_cons_self ..
theorem inT_lt {w : World} : ∀ {t : Tr Value}, t.inT w → ∀ k ∈ t.fp, k < w.heap.size
  | leaf p b ids v, h, k, hk => by
    rcases List.mem_cons.1 hk with rfl | hk
    · exact h.1.inside
    · cases hv : v.ownBlock with
      | none => rw [hv] at hk; cases hk
      | some g =>
        rw [hv] at hk
        simp at hk
        subst hk
        exact h.2.lt k hv
  | fork p f l r, h, k, hk => by
    rcases List.mem_cons.1 hk with rfl | hk
    · exact h.1.inside
    · rcases List.mem_append.1 hk with hk | hk
      · exact inT_lt h.2.1 k hk
      · exact inT_lt h.2.2 k hk
theorem inT_keep {w w' : World} : ∀ {t : Tr Value}, t.inT w → (∀ k ∈ t.fp, w'.heap[k]? = w.heap[k]?) → t.inT w'
  | leaf p b ids v, h, hk => ⟨(hk p (List.mem_cons_self ..)).trans h.1, h.2.keep fun k e => hk k (by unfold fp; rw [e]; simp)⟩
  | fork p f l r, h, hk => ⟨(hk p (List.mem_cons_self ..)).trans h.1, inT_keep h.2.1 fun k e => hk k (by unfold fp; simp [e]), inT_keep h.2.2 fun k e => hk k (by unfold fp; simp [e])⟩
theorem inT_ch {w w' : World} {S : Nat → Prop} {t : Tr Value} (h : t.inT w) (hc : Ch S w w') (hS : ∀ k ∈ t.fp, ¬ S k) : t.inT w' := inT_keep h fun k hk => hc.block k (inT_lt h k hk) (hS k hk)
theorem inT_below {w w' : World} {t : Tr Value} (h : t.inT w) (hb : Below w.heap.size w w') : t.inT w' := inT_keep h fun k hk => hb.block k (inT_lt h k hk)
end Tr
theorem node_facts {w : World} {g : Nat} {b : Bx} {f : Nat} {l r v : Value} (h : IsRow w g 72 (nodeC b f l r v)) :
    (w.cell? ⟨g, 0, none⟩ = some (.int .i64 b.a) ∧ w.cell? ⟨g, 1, none⟩ = some (.int .i64 b.b) ∧ w.cell? ⟨g, 2, none⟩ = some (.int .i64 b.c) ∧ w.cell? ⟨g, 3, none⟩ = some (.int .i64 b.d)) ∧
    w.cell? ⟨g, 4, none⟩ = some (.int .i64 f) ∧ w.cell? ⟨g, 5, none⟩ = some l ∧ w.cell? ⟨g, 6, none⟩ = some r ∧ w.cell? ⟨g, 7, none⟩ = some v :=
  ⟨⟨h.get 0, h.get 1, h.get 2, h.get 3⟩, h.get 4, h.get 5, h.get 6, h.get 7⟩
theorem box_facts {w : World} {g : Nat} {t : TypeId} {b : Bx} (h : IsRow w g t (cB b)) :
    w.cell? ⟨g, 0, none⟩ = some (.int .i64 b.a) ∧ w.cell? ⟨g, 1, none⟩ = some (.int .i64 b.b) ∧ w.cell? ⟨g, 2, none⟩ = some (.int .i64 b.c) ∧ w.cell? ⟨g, 3, none⟩ = some (.int .i64 b.d) :=
  ⟨h.get 0, h.get 1, h.get 2, h.get 3⟩
end Go.Proofs.Yteghhfkllclghaa.Ix
