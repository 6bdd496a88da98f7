/- index: an index whose blocks are none of those that Z names; what stays when it is changed. -/
import Derived.Test.YteghhfkllclghaaIxMk
namespace Go.Proofs.Yteghhfkllclghaa.Ix
open Go.RowKit Go.Sort
def IxZ (w : World) (Z : Nat → Prop) (x n : Nat) (S : List It) : Prop :=
  ∃ m t D lk, Idx w x m n t D lk S ∧ ¬ Z x ∧ ¬ Z m ∧ (∀ k ∈ fpO t, ¬ Z k) ∧ ∀ z ∈ S, z.1.length ≤ 1000
theorem IxA.zone {w : World} {b0 x n : Nat} {S : List It} (h : IxA w b0 x n S) (Z : Nat → Prop) (hZ : ∀ k, Z k → k < b0 ∨ w.heap.size ≤ k) : IxZ w Z x n S := by
  obtain ⟨m, t, D, lk, h1, h2, h3, h4, h5⟩ := h
  have hl := h1.lt
  have key : ∀ k, b0 ≤ k → k < w.heap.size → ¬ Z k := fun k g1 g2 hz => by
    have := hZ k hz
    omega
  exact ⟨m, t, D, lk, h1, key x h2 hl.1, key m h3 hl.2.1, fun k hk => key k (h4 k hk) (hl.2.2 k hk), h5⟩
theorem IxZ.below {w w' : World} {Z : Nat → Prop} {x n : Nat} {S : List It} (h : IxZ w Z x n S) (hb : Below w.heap.size w w') : IxZ w' Z x n S := by
  obtain ⟨m, t, D, lk, h1, h2, h3, h4, h5⟩ := h
  exact ⟨m, t, D, lk, h1.below hb, h2, h3, h4, h5⟩
theorem IxZ.more {w : World} {Z Z' : Nat → Prop} {x n : Nat} {S : List It} (h : IxZ w Z x n S) (hZ : ∀ k, Z' k → Z k ∨ w.heap.size ≤ k) : IxZ w Z' x n S := by
  obtain ⟨m, t, D, lk, h1, h2, h3, h4, h5⟩ := h
  have hl := h1.lt
  have key : ∀ k, ¬ Z k → k < w.heap.size → ¬ Z' k := fun k g1 g2 hz => by
    rcases hZ k hz with h | h
    · exact g1 h
    · omega
  exact ⟨m, t, D, lk, h1, key x h2 hl.1, key m h3 hl.2.1, fun k hk => key k (h4 k hk) (hl.2.2 k hk), h5⟩
theorem IxZ.keep {w w' : World} {Z T : Nat → Prop} {x n : Nat} {S : List It} (h : IxZ w Z x n S) (hc : Ch T w w') (hT : ∀ k, T k → Z k) : IxZ w' Z x n S := by
  obtain ⟨m, t, D, lk, h1, h2, h3, h4, h5⟩ := h
  have hl := h1.lt
  exact ⟨m, t, D, lk, ⟨hc.row h1.row fun g => h2 (hT _ g), inO_keep h1.tree fun k hk => hc.block k (hl.2.2 k hk) fun g => h4 k hk (hT _ g), map_keep h1.map (hc.block m hl.2.1 fun g => h3 (hT _ g)), h1.dat, h1.ok, h1.perm, h1.srt, h1.ax, h1.am, h1.xm, h1.len, h1.few⟩, h2, h3, h4, h5⟩
theorem IxZ.srt {w : World} {Z : Nat → Prop} {x n : Nat} {S : List It} (h : IxZ w Z x n S) : Srt S ∧ S.length ≤ n := by
  obtain ⟨m, t, D, lk, h1, _⟩ := h
  exact ⟨h1.srt, h1.len⟩
theorem IxZ.op {w w' : World} {Z : Nat → Prop} {x m n : Nat} {t : Option (Tr Value)} {S : List It} (hx : ¬ Z x) (hm : ¬ Z m) (hf : ∀ k ∈ fpO t, ¬ Z k) (hZ : ∀ k, Z k → k < w.heap.size) (h : OpQ w x m n t S w') (hS : ∀ z ∈ S, z.1.length ≤ 1000) : IxZ w' Z x n S ∧ Ch (fun k => ¬ Z k) w w' := by
  obtain ⟨t', D', lk', h1, h2, h3⟩ := h
  refine ⟨⟨m, t', D', lk', h1, hx, hm, fun k hk => ?_, hS⟩, h3.mono ?_⟩
  · rcases h2 k hk with h | h
    · exact hf k h
    · exact fun hz => by have := hZ k hz; omega
  · rintro k (rfl | rfl | h) _
    · exact hx
    · exact hm
    · exact hf k h
theorem putZ {w : World} {Z : Nat → Prop} {x n : Nat} {S : List It} (h : IxZ w Z x n S) (hZ : ∀ k, Z k → k < w.heap.size) (i : Id) (b : Bx) (hi : i.length ≤ 1000) (hn : n < 100000) :
    Calls Try.prog 29 #[ptr x, .string ⟨i.toArray⟩, vB b] w fun e w' => e = .returned (.int .i64 (putE i b S)) ∧ IxZ w' Z x (n + 1) (putR i b S) ∧ Ch (fun k => ¬ Z k) w w' := by
  obtain ⟨m, t, D, lk, h1, h2, h3, h4, h5⟩ := h
  refine (put_any w x m n t D lk S i b h1 hi hn).mono ?_
  rintro e w' ⟨rfl, hq⟩
  exact ⟨rfl, IxZ.op h2 h3 h4 hZ hq (putR_len hi h5)⟩
theorem dropZ {w : World} {Z : Nat → Prop} {x n : Nat} {S : List It} (h : IxZ w Z x n S) (hZ : ∀ k, Z k → k < w.heap.size) (i : Id) (hi : i.length ≤ 1000) (hn : n < 100000) :
    Calls Try.prog 30 #[ptr x, .string ⟨i.toArray⟩] w fun e w' => e = .returned (.int .i64 (dropE i S)) ∧ IxZ w' Z x (n + 1) (dropS i S) ∧ Ch (fun k => ¬ Z k) w w' := by
  obtain ⟨m, t, D, lk, h1, h2, h3, h4, h5⟩ := h
  refine (drop_any w x m n t D lk S i h1 hi h5 hn).mono ?_
  rintro e w' ⟨rfl, hq⟩
  exact ⟨rfl, IxZ.op h2 h3 h4 hZ hq (fun z hz => h5 z (List.mem_filter.1 hz).1)⟩
theorem boxZ {w : World} {Z : Nat → Prop} {x n : Nat} {S : List It} (h : IxZ w Z x n S) (i : Id) (hi : i.length ≤ 1000) :
    Calls Try.prog 16 #[ptr x, .string ⟨i.toArray⟩] w fun e w' => e = .returned (.tuple #[vB ((boxS i S).getD zB), .bool (boxS i S).isSome]) ∧ Below w.heap.size w w' := by
  obtain ⟨m, t, D, lk, h1, _⟩ := h
  exact box_any w x m n t D lk S i h1 hi
/-- a slice of Ids in blocks that Z names. -/
def IdsZ (w : World) (Z : Nat → Prop) (ao : Option Addr) (l : List Id) : Prop := 0 < l.length → ∃ g off, ao = some ⟨g, off, none⟩ ∧ Z g ∧ g < w.heap.size ∧ ∀ (k : Nat) (y : Id), l[k]? = some y → w.cell? ⟨g, off + k, none⟩ = some (.string ⟨y.toArray⟩)
theorem IdsZ.ids {w : World} {Z : Nat → Prop} {ao : Option Addr} {l : List Id} (h : IdsZ w Z ao l) : IdsT w w.heap.size ao l := fun h0 => by
  obtain ⟨g, off, e, _, hg, hc⟩ := h h0
  exact ⟨g, off, e, hg, hc⟩
theorem IdsZ.more {w : World} {Z Z' : Nat → Prop} {ao : Option Addr} {l : List Id} (h : IdsZ w Z ao l) (hZ : ∀ k, Z k → k < w.heap.size → Z' k) : IdsZ w Z' ao l := fun h0 => by
  obtain ⟨g, off, e, hz, hg, hc⟩ := h h0
  exact ⟨g, off, e, hZ g hz hg, hg, hc⟩
theorem cell_of_block {w w' : World} {g : Nat} (h : w'.heap[g]? = w.heap[g]?) (i : Nat) : w'.cell? ⟨g, i, none⟩ = w.cell? ⟨g, i, none⟩ := by
  simp [World.cell?, h]
theorem IdsZ.keep {w w' : World} {Z T : Nat → Prop} {ao : Option Addr} {l : List Id} (h : IdsZ w Z ao l) (hc : Ch T w w') (hT : ∀ k, T k → ¬ Z k) : IdsZ w' Z ao l := fun h0 => by
  obtain ⟨g, off, e, hz, hg, hcs⟩ := h h0
  refine ⟨g, off, e, hz, Nat.lt_of_lt_of_le hg hc.size, fun k y hk => ?_⟩
  rw [cell_of_block (hc.block g hg fun ht => hT g ht hz)]
  exact hcs k y hk
theorem IdsZ.below {w w' : World} {Z : Nat → Prop} {ao : Option Addr} {l : List Id} (h : IdsZ w Z ao l) (hb : Below w.heap.size w w') : IdsZ w' Z ao l :=
  h.keep (Ch.of_below (S := fun _ => False) hb) fun _ h => h.elim
theorem OwnB.idsZ {w : World} {base : Nat} {v : Value} {l : List Id} (h : OwnB w base v l) : ∃ ao cap, v = .slice ao l.length cap ∧ l.length ≤ cap ∧ IdsZ w (fun k => base ≤ k) ao l := by
  obtain ⟨_, ⟨hv, h1⟩ | ⟨g, cap, cur, hv, hb, hg, h1, h2, h3, h4⟩⟩ := h
  · exact ⟨none, 0, by rw [hv, h1], by omega, fun hp => by omega⟩
  · subst hv
    have hr : IsRow w g 9 cur := hg
    refine ⟨some ⟨g, 0, none⟩, cap, rfl, h1, fun _ => ⟨g, 0, rfl, hb, hr.inside, fun k y hk => ?_⟩⟩
    have hkl := (List.getElem?_eq_some_iff.1 hk).1
    have e : (sv l)[k]? = some (.string ⟨y.toArray⟩) := by unfold sv; rw [List.getElem?_map, hk]; rfl
    rw [← h4, List.getElem?_take, if_pos (by omega)] at e
    rw [hr.get, Nat.zero_add]
    simpa using e
theorem inZ {w : World} {Z : Nat → Prop} {x n : Nat} {S : List It} (h : IxZ w Z x n S) (b : Bx) (hn : n ≤ 100000) :
    Calls Try.prog 19 #[ptr x, vB b] w fun e w' => (∃ ao cap, e = .returned (.slice ao (inA b S).length cap) ∧ (inA b S).length ≤ cap ∧ IdsZ w' (fun k => w.heap.size ≤ k) ao (inA b S)) ∧ Below w.heap.size w w' := by
  obtain ⟨m, t, D, lk, h1, _⟩ := h
  refine (in_any w x m n t D lk S b h1 hn).mono ?_
  rintro e w' ⟨v, rfl, ho, hb⟩
  obtain ⟨ao, cap, rfl, hc, ht⟩ := ho.idsZ
  exact ⟨⟨ao, cap, rfl, hc, ht⟩, hb⟩
theorem nearZ {w : World} {Z : Nat → Prop} {x n : Nat} {S : List It} (h : IxZ w Z x n S) (px py k : Int) (hn : n ≤ 10000) :
    Calls Try.prog 21 #[ptr x, vP px py, .int .i64 k] w fun e w' => (∃ ao cap, e = .returned (.slice ao (nearR px py k S).length cap) ∧ (nearR px py k S).length ≤ cap ∧ IdsZ w' (fun k => w.heap.size ≤ k) ao (nearR px py k S)) ∧ Below w.heap.size w w' := by
  obtain ⟨m, t, D, lk, h1, _⟩ := h
  refine (near_any w x m n t D lk S px py k h1 hn).mono ?_
  rintro e w' ⟨v, rfl, ho, hb⟩
  obtain ⟨ao, cap, rfl, hc, ht⟩ := ho.idsZ
  exact ⟨⟨ao, cap, rfl, hc, ht⟩, hb⟩
set_option maxRecDepth 100000 in
set_option maxHeartbeats 1000000 in
theorem doZ {w : World} {Z : Nat → Prop} {x n : Nat} {S : List It} (h : IxZ w Z x n S) (hZ : ∀ k, Z k → k < w.heap.size) (o : Opn) (hi : o.id.length ≤ 1000) (hn : n < 100000) :
    Calls Try.prog 15 #[ptr x, opV o] w fun e w' => e = .returned (.int .i64 (opE o S)) ∧ IxZ w' Z x (n + 1) (opR o S) ∧ Ch (fun k => ¬ Z k) w w' := by
  obtain ⟨dr, i, b⟩ := o
  dsimp only at hi
  obtain ⟨W, hW⟩ : ∃ W, w.alloc (.cells #[.bool dr, .string ⟨i.toArray⟩, .int .i64 b.a, .int .i64 b.b, .int .i64 b.c, .int .i64 b.d] 35) = W := ⟨_, rfl⟩
  have hB : Below w.heap.size w W := hW ▸ alloc1 _ _
  have R0 : IsRow W w.heap.size 35 #[.bool dr, .string ⟨i.toArray⟩, .int .i64 b.a, .int .i64 b.b, .int .i64 b.c, .int .i64 b.d] := hW ▸ IsRow.made _ _ _
  have HW := Lib.hid hW
  have hZ2 : ∀ k, Z k → k < W.heap.size := fun k hk => Nat.lt_of_lt_of_le (hZ k hk) hB.size
  have BB := Lib.hid (Ch.of_below (S := fun k => ¬ Z k) hB)
  obtain ⟨c0, c1, c2, c3, c4, c5⟩ := facts6 R0
  have h2 := h.below hB
  have KD := Lib.hid (dropZ h2 hZ2 i hi hn)
  have KP := Lib.hid (putZ h2 hZ2 i b hi hn)
  clear hW hB R0 h h2 hZ hZ2
  unfold ptr vB at KP
  unfold ptr at KD
  unfold ptr opV opC
  have fin : ∀ w1, Ch (fun k => ¬ Z k) W w1 → Ch (fun k => ¬ Z k) w w1 := fun w1 h1 => BB.out.trans h1 fun _ h _ => h
  have FIN := Lib.hid fin
  clear fin
  cases dr with
  | true =>
    go_enter Try.func15, Try.ntmps15
    go_upto_region 1 with fail
    rw [HW.out]
    go_wp2_with (refine KD.out.mono ?_; rintro e w1 ⟨rfl, h1, b1⟩)
    go_ret
    exact ⟨rfl, h1, FIN.out _ b1⟩
  | false =>
    go_enter Try.func15, Try.ntmps15
    go_upto_region 1 with fail
    rw [HW.out]
    go_wp2_with (refine KP.out.mono ?_; rintro e w1 ⟨rfl, h1, b1⟩)
    go_ret
    exact ⟨rfl, h1, FIN.out _ b1⟩
theorem near_le (px py k : Int) (S : List It) : (nearR px py k S).length ≤ S.length := by
  unfold nearR
  split
  · unfold nearS
    rw [List.length_map, List.length_take, near_len]
    omega
  · simp
theorem in_le (q : Bx) (S : List It) : (inA q S).length ≤ S.length := by
  unfold inA
  split
  · unfold inS
    rw [List.length_map]
    exact List.length_filter_le _ _
  · simp
end Go.Proofs.Yteghhfkllclghaa.Ix
