/- index: New; an index of one's own, as the laws use it: its blocks lie from b0 on. -/
import Derived.Test.YteghhfkllclghaaIxBox
import Derived.Maps.Own
import Derived.Carry
import Derived.Test.YteghhfkllclghaaIxNearAll
import Derived.Test.YteghhfkllclghaaIxPutOk
import Derived.Test.YteghhfkllclghaaIxDrop
import Derived.Test.YteghhfkllclghaaIxIn
namespace Go.Proofs.Yteghhfkllclghaa.Ix
open Go.RowKit Go.Sort
open Go.Maps (Keyed IsMap has)
theorem new_end (w : World) : Idx ((w.alloc (.map #[] 0)).alloc (.cells #[.pointer none, .map (some w.heap.size)] 61)) (w.heap.size + 1) w.heap.size 0 none (.map []) (fun _ => none) [] where
  row := by
    have := IsRow.made (w.alloc (.map #[] 0)) 61 #[.pointer none, .map (some w.heap.size)]
    have e : (w.alloc (.map #[] 0)).heap.size = w.heap.size + 1 := by simp
    rw [e] at this
    exact this
  tree := trivial
  map := by
    have h := World.ownsMap_made w Try.prog 9 heldE
    exact map_keep h (Below.heap_alloc _ _ _ h.lt)
  dat := mapD_empty
  ok := fun x p i => by
    constructor
    · intro h; cases h
    · rintro ⟨b, ids, v, h, _⟩; cases h
  perm := List.Perm.refl _
  srt := List.Pairwise.nil
  ax := by intro h; cases h
  am := by intro h; cases h
  xm := by omega
  len := Nat.le_refl _
  few := Nat.le_refl _
set_option maxRecDepth 100000 in
set_option maxHeartbeats 2000000 in
theorem new_any (w : World) : Calls Try.prog 11 #[] w fun e w' => e = .returned (ptr (w.heap.size + 1)) ∧ Idx w' (w.heap.size + 1) w.heap.size 0 none (.map []) (fun _ => none) [] ∧ Below w.heap.size w w' := by
  have hfin := Lib.hid (new_end w)
  have hb := Lib.hid (((Below.refl w.heap.size w).alloc (Nat.le_refl _) (.map #[] 0)).alloc (by simp) (.cells #[.pointer none, .map (some w.heap.size)] 61))
  have hmm := @run_makeMap Try.prog
  unfold ptr
  go_enter Try.func11, Try.ntmps11
  go_wp2
  go_ret
  exact ⟨rfl, hfin.out, hb.out⟩
end Go.Proofs.Yteghhfkllclghaa.Ix
namespace Go.Proofs.Yteghhfkllclghaa.Ix
open Go.RowKit Go.Sort
def IxA (w : World) (b0 x n : Nat) (S : List It) : Prop :=
  ∃ m t D lk, Idx w x m n t D lk S ∧ b0 ≤ x ∧ b0 ≤ m ∧ (∀ k ∈ fpO t, b0 ≤ k) ∧ ∀ z ∈ S, z.1.length ≤ 1000
theorem IxA.below {w w' : World} {b0 x n : Nat} {S : List It} (h : IxA w b0 x n S) (hb : Below w.heap.size w w') : IxA w' b0 x n S := by
  obtain ⟨m, t, D, lk, h1, h2, h3, h4, h5⟩ := h
  exact ⟨m, t, D, lk, h1.below hb, h2, h3, h4, h5⟩
theorem IxA.lt {w : World} {b0 x n : Nat} {S : List It} (h : IxA w b0 x n S) : b0 ≤ x ∧ x < w.heap.size := by
  obtain ⟨m, t, D, lk, h1, h2, _⟩ := h
  exact ⟨h2, h1.lt.1⟩
theorem IxA.srt {w : World} {b0 x n : Nat} {S : List It} (h : IxA w b0 x n S) : Srt S ∧ S.length ≤ n := by
  obtain ⟨m, t, D, lk, h1, _⟩ := h
  exact ⟨h1.srt, h1.len⟩
theorem IxA.op {w w' : World} {b0 x m n : Nat} {t : Option (Tr Value)} {S : List It} (hx : b0 ≤ x) (hm : b0 ≤ m) (hf : ∀ k ∈ fpO t, b0 ≤ k) (hw : b0 ≤ w.heap.size) (h : OpQ w x m n t S w') (hS : ∀ z ∈ S, z.1.length ≤ 1000) : IxA w' b0 x n S ∧ Below b0 w w' := by
  obtain ⟨t', D', lk', h1, h2, h3⟩ := h
  refine ⟨⟨m, t', D', lk', h1, hx, hm, fun k hk => ?_, hS⟩, h3.below hw ?_⟩
  · rcases h2 k hk with h | h
    · exact hf k h
    · omega
  · rintro k (rfl | rfl | h)
    · exact hx
    · exact hm
    · exact hf k h
theorem newA (w : World) : Calls Try.prog 11 #[] w fun e w' => ∃ x, e = .returned (ptr x) ∧ IxA w' w.heap.size x 0 [] ∧ Below w.heap.size w w' := by
  refine (new_any w).mono ?_
  rintro e w' ⟨rfl, h, hb⟩
  exact ⟨_, rfl, ⟨_, none, _, _, h, by omega, Nat.le_refl _, fun k hk => (by cases hk), fun z hz => (by cases hz)⟩, hb⟩
theorem putR_len {i : Id} {b : Bx} {S : List It} (hi : i.length ≤ 1000) (hS : ∀ z ∈ S, z.1.length ≤ 1000) : ∀ z ∈ putR i b S, z.1.length ≤ 1000 := by
  intro z hz
  unfold putR at hz
  split at hz
  · rcases List.mem_cons.1 ((putS_perm i b S).mem_iff.1 hz) with rfl | h
    · exact hi
    · exact hS z h
  · exact hS z hz
theorem putA {w : World} {b0 x n : Nat} {S : List It} (h : IxA w b0 x n S) (i : Id) (b : Bx) (hi : i.length ≤ 1000) (hn : n < 100000) :
    Calls Try.prog 29 #[ptr x, .string ⟨i.toArray⟩, vB b] w fun e w' => e = .returned (.int .i64 (putE i b S)) ∧ IxA w' b0 x (n + 1) (putR i b S) ∧ Below b0 w w' := by
  obtain ⟨m, t, D, lk, h1, h2, h3, h4, h5⟩ := h
  refine (put_any w x m n t D lk S i b h1 hi hn).mono ?_
  rintro e w' ⟨rfl, hq⟩
  have := h1.lt.1
  exact ⟨rfl, IxA.op h2 h3 h4 (by omega) hq (putR_len hi h5)⟩
theorem dropA {w : World} {b0 x n : Nat} {S : List It} (h : IxA w b0 x n S) (i : Id) (hi : i.length ≤ 1000) (hn : n < 100000) :
    Calls Try.prog 30 #[ptr x, .string ⟨i.toArray⟩] w fun e w' => e = .returned (.int .i64 (dropE i S)) ∧ IxA w' b0 x (n + 1) (dropS i S) ∧ Below b0 w w' := by
  obtain ⟨m, t, D, lk, h1, h2, h3, h4, h5⟩ := h
  refine (drop_any w x m n t D lk S i h1 hi h5 hn).mono ?_
  rintro e w' ⟨rfl, hq⟩
  have := h1.lt.1
  exact ⟨rfl, IxA.op h2 h3 h4 (by omega) hq (fun z hz => h5 z (List.mem_filter.1 hz).1)⟩
theorem boxA {w : World} {b0 x n : Nat} {S : List It} (h : IxA w b0 x n S) (i : Id) (hi : i.length ≤ 1000) :
    Calls Try.prog 16 #[ptr x, .string ⟨i.toArray⟩] w fun e w' => e = .returned (.tuple #[vB ((boxS i S).getD zB), .bool (boxS i S).isSome]) ∧ Below w.heap.size w w' := by
  obtain ⟨m, t, D, lk, h1, _⟩ := h
  exact box_any w x m n t D lk S i h1 hi
theorem inA_any {w : World} {b0 x n : Nat} {S : List It} (h : IxA w b0 x n S) (b : Bx) (hn : n ≤ 100000) :
    Calls Try.prog 19 #[ptr x, vB b] w fun e w' => (∃ ao cap, e = .returned (.slice ao (inA b S).length cap) ∧ (inA b S).length ≤ cap ∧ IdsT w' w'.heap.size ao (inA b S)) ∧ Below w.heap.size w w' := by
  obtain ⟨m, t, D, lk, h1, _⟩ := h
  refine (in_any w x m n t D lk S b h1 hn).mono ?_
  rintro e w' ⟨v, rfl, ho, hb⟩
  obtain ⟨ao, cap, rfl, hc, ht⟩ := ho.ids
  exact ⟨⟨ao, cap, rfl, hc, ht⟩, hb⟩
theorem nearA_any {w : World} {b0 x n : Nat} {S : List It} (h : IxA w b0 x n S) (px py k : Int) (hn : n ≤ 10000) :
    Calls Try.prog 21 #[ptr x, vP px py, .int .i64 k] w fun e w' => (∃ ao cap, e = .returned (.slice ao (nearR px py k S).length cap) ∧ (nearR px py k S).length ≤ cap ∧ IdsT w' w'.heap.size ao (nearR px py k S)) ∧ Below w.heap.size w w' := by
  obtain ⟨m, t, D, lk, h1, _⟩ := h
  refine (near_any w x m n t D lk S px py k h1 hn).mono ?_
  rintro e w' ⟨v, rfl, ho, hb⟩
  obtain ⟨ao, cap, rfl, hc, ht⟩ := ho.ids
  exact ⟨⟨ao, cap, rfl, hc, ht⟩, hb⟩
end Go.Proofs.Yteghhfkllclghaa.Ix
