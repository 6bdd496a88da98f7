/- index: Put that adds a box. -/
import Derived.Test.YteghhfkllclghaaIxPutEnd
namespace Go.Proofs.Yteghhfkllclghaa.Ix
open Go.RowKit Go.Sort
open Go.Maps (Keyed IsMap has)
set_option maxRecDepth 100000 in
set_option maxHeartbeats 8000000 in
theorem put_ok (w : World) (x m n : Nat) (t : Option (Tr Value)) (D : DataW Value) (lk : Id → Option (Nat × Nat)) (S : List It) (i : Id) (b : Bx) (h : Idx w x m n t D lk S) (hi : i.length ≤ 1000) (hv : validB b = true) (hl : lk i = none) (hn : n < 100000) :
    Calls Try.prog 29 #[ptr x, .string ⟨i.toArray⟩, vB b] w fun e w' => e = .returned (.int .i64 0) ∧ OpQ w x m (n + 1) t (putS i b S) w' := by
  have HI := Lib.hid hi
  have HV := Lib.hid hv
  have HL := Lib.hid hl
  have HNN := Lib.hid hn
  have H := Lib.hid h
  obtain ⟨W, hW, hB, hR⟩ := box_row w 26 b
  have HW := Lib.hid hW
  have B0 := Lib.hid hB
  have R0 := Lib.hid hR
  have H0 := Lib.hid (h.below hB)
  obtain ⟨b0, b1, b2, b3⟩ := box_facts hR
  have k1 := Lib.hid (isValid_any b W)
  rw [hv] at k1
  clear hW hB hR h hi hv hl
  unfold ptr
  unfold vB at k1 ⊢
  unfold cB at HW
  go_enter Try.func29, Try.ntmps29
  go_upto_region 1 with fail
  rw [HW.out]
  go_wp2_with fail
  refine k1.out.mono ?_
  rintro e w1 ⟨rfl, bb⟩
  have B1 := Lib.hid (B0.out.trans (bb.mono B0.out.size))
  have H1 := Lib.hid (H0.out.below bb)
  have R1 := Lib.hid (R0.out.below bb R0.out.inside)
  clear bb k1 H0 R0 b0 b1 b2 b3 HW B0
  have hmap := H1.out.map
  have hdat := H1.out.dat
  have r1 := H1.out.row.get 1
  go_upto_region 4 with (first | (at_lookup; refine wpList_missed rfl _ _ rfl m n D lk rfl hmap hdat i HI.out rfl HL.out ?_))
  obtain ⟨W4, hW4⟩ : ∃ W4, w1.alloc (.cells #[.pointer none, .int .i64 0] 68) = W4 := ⟨_, rfl⟩
  have bb : Below w1.heap.size w1 W4 := hW4 ▸ alloc1 _ _
  have B4 := Lib.hid (B1.out.trans (bb.mono B1.out.size))
  have H4 := Lib.hid (H1.out.below bb)
  have R4 := Lib.hid (R1.out.below bb R1.out.inside)
  rw [hW4]
  clear hW4 bb hmap hdat r1 H1 R1 B1
  have hlen := fun ty => H4.out.map.len (t := 58) Try.underlying58 ty
  have hsz : Maps.size D ≤ n := H4.out.map.size_le
  have hfull : ¬ (1000000 : Int) ≤ ((Maps.size D : Nat) : Int) := by omega
  have r1 := H4.out.row.get 1
  obtain ⟨pr, hpr⟩ : ∃ a, rootV t = .pointer a := by cases t <;> exact ⟨_, rfl⟩
  have r0 : W4.cell? ⟨x, 0, none⟩ = some (.pointer pr) := by rw [← hpr]; exact H4.out.row.get 0
  obtain ⟨b0, b1, b2, b3⟩ := box_facts R4.out
  have hK := with_root HV.out t W4.drew (inO_keep H4.out.tree fun _ _ => rfl) lk H4.out.ok
  rw [hpr] at hK
  unfold vB at hK
  have HPR := Lib.hid hpr
  clear hpr
  go_upto_region 8 with fail
  go_region_with (go_at_call 45; refine hK.mono ?_; rintro e w5 ⟨t1, p, ids, v, rfl, ht1, hn1, ho1, hs1, hc1, hl1, hm1, hp1, hfw1⟩; obtain ⟨r, hr⟩ : ∃ r, t1.blk = r := ⟨_, rfl⟩; rw [hr]; unfold ptr)
  all_goals
    have hc1' : Ch (· ∈ fpO t) W4 w5 := ⟨hc1.os, hc1.tape, hc1.output, hc1.size, hc1.block⟩
    have hx5 : IsRow w5 x 61 #[.pointer pr, .map (some m)] := Ch.row hc1' (by have := H4.out.row; rw [HPR.out] at this; exact this) H4.out.ax
    have M5 := map_keep H4.out.map (hc1'.block m H4.out.lt.2.1 H4.out.am)
    obtain ⟨P5, O5⟩ := leaf_row ht1 hl1
    obtain ⟨va, vc, hvv⟩ : ∃ va vc, v = .slice va ids.length vc := by
      obtain ⟨_, ⟨hv0, h00⟩ | ⟨g', cap', cur, hv0, _⟩⟩ := O5
      · exact ⟨none, 0, by rw [hv0, h00]⟩
      · exact ⟨_, cap', hv0⟩
    have hfp := leaf_fp hl1
    have sep : ∀ k ∈ t1.fp, k ≠ x ∧ k ≠ m := fun k hk => by
      have h4 := H4.out.lt
      rcases hs1 k hk with e | e
      · exact ⟨fun e' => H4.out.ax (e' ▸ e), fun e' => H4.out.am (e' ▸ e)⟩
      · have e' : W4.heap.size ≤ k := e
        exact ⟨by omega, by omega⟩
    have px := (sep p hfp.1).1
    have pm := (sep p hfp.1).2
    have fx := hx5.open_ 0
    have cx := hx5.get 0
    obtain ⟨w6, hw6⟩ : ∃ w6, w5.setCell ⟨x, 0, none⟩ (.pointer (some ⟨r, 0, none⟩)) = w6 := ⟨_, rfl⟩
    have X6 : IsRow w6 x 61 #[.pointer (some ⟨r, 0, none⟩), .map (some m)] := by rw [← hw6]; simpa using hx5.put 0 (.pointer (some ⟨r, 0, none⟩))
    have P6 : IsRow w6 p 72 (nodeC b 128 nilP nilP v) := hw6 ▸ P5.putOther px _
    have M6 : w6.ownsMap Try.prog 9 heldE m n D := hw6 ▸ map_keep M5 (Below.heap_setCell _ _ _ _ fun e => H4.out.xm e.symm)
    have O6 : OwnS w6 v ids := hw6 ▸ O5.keep fun k hk => Below.heap_setCell _ _ _ _ fun e => (sep k (hfp.2 k hk)).1 e
    obtain ⟨w7, hrun, hm7, hg7⟩ := M6.drew.update (t := 58) str_keyed Try.underlying58 (by have := HNN.out; unfold maxLen; omega) (keyOf_str HI.out) (val := .agg #[.pointer (some ⟨p, 0, none⟩), .int .i64 (ids.length : Nat)]) (d := .held (plV p ids.length)) (ps := []) rfl
    have P7 : IsRow w7 p 72 (nodeC b 128 nilP nilP v) := (hg7.block p P6.inside (fun e => pm (by injection e))).trans P6
    have O7 : OwnS w7 v ids := O6.keep fun k hk => hg7.block k (O6.lt k hk) fun e => (sep k (hfp.2 k hk)).2 (by injection e)
    have HE := Lib.hid (fun w8 g cap ob (hg8 : (w7.alloc ob).grownBy w8 v.ownBlock) ho8 hor => put_end (g := g) (cap := cap) (ob := ob) H.out B4.out hc1' ht1 hn1 ho1 hs1 hl1 hm1 hp1 hfw1 HL.out hx5 (by
      have e : w5.setCell ⟨x, 0, none⟩ (ptr t1.blk) = w6 := by rw [hr]; exact hw6
      rw [e]; exact ⟨hg7.os, hg7.tape, hg7.output, hg7.size, hg7.block⟩) hm7 hg8 ho8 hor)
    have x1 := X6.get 1
    obtain ⟨_, _, _, _, q7⟩ := node_facts P6
    obtain ⟨_, _, _, _, s7⟩ := node_facts P7
    have hlen6 := Lib.hid (show ids.length ≤ 100000 by
      have e1 := (hp1.trans H.out.perm).length_eq
      have e2 := H.out.len
      have e3 : ids.length ≤ (itemsL t1.leaves).length := by
        obtain ⟨L, r1, _, _⟩ := upd_perm (is := []) (u := v) (leaf_blk hn1).1 hl1
        rw [(itemsL_perm r1).length_eq, itemsL_cons]
        simp
      have := HNN.out
      omega)
    rw [hvv] at q7 s7 O7
    have hvo : v.ownBlock = (Value.slice va ids.length vc).ownBlock := by rw [hvv]
    have f7 := P7.open_ 7
    have hN7 := P7.inside
    have HP7 := Lib.hid P7
    have HVO := Lib.hid hvo
    have hpn := Lib.hid (leaf_own hn1 hl1)
    clear hc1 hc1' M5 P5 O5 hfp sep ht1 hn1 ho1 hs1 hl1 hm1 hp1 hx5 hm7 hg7 P7 P6 M6 O6 X6 hK hlen r1 r0 b0 b1 b2 b3 hr hvo
    go_upto_region 10 with fail
    try rw [hw6]
    clear hw6
    go_region
    all_goals
      have ho' : OwnS (w7.alloc (.cells #[.string ⟨i.toArray⟩] 9)) (.slice va ids.length vc) ids := O7.keep fun k hk => Below.heap_alloc _ _ _ (O7.lt k hk)
      have hrow' : (w7.alloc (.cells #[.string ⟨i.toArray⟩] 9)).heap[w7.heap.size]? = some (.cells #[.string ⟨i.toArray⟩] 9 (0, 0)) := IsRow.made w7 9 #[.string ⟨i.toArray⟩]
      have hl6 : ids.length ≤ 1000000 := by have := hlen6.out; omega
      have hs7 : (w7.alloc (.cells #[.string ⟨i.toArray⟩] 9)).heap.size = w7.heap.size + 1 := by simp
      have HH := Lib.hid (And.intro ho' (And.intro hrow' (And.intro hl6 hs7)))
      clear ho' hrow' hl6 hs7
      go_wp2_with (first | (at_builtin; refine wpList_appS rfl _ _ (by rfl) (.slice va ids.length vc) ids i w7.heap.size (by rfl) HH.out.1 (by rfl) HH.out.2.1 HH.out.2.2.1 (w7.heap.size + 1) HH.out.2.2.2 ?_; intro g cap w8 ho8 hg8 hor hgl; have P8 := (hg8.block p (by simp; omega) (fun e => hpn.out (HVO.out.trans e.symm))).trans (HP7.out.later (.cells #[.string ⟨i.toArray⟩] 9)); obtain ⟨_, _, _, _, c8⟩ := node_facts P8; have f8 := IsRow.open_ P8 7))
      go_ret
      exact ⟨rfl, HE.out w8 g cap _ (by rw [HVO.out]; exact hg8) ho8 (by rw [HVO.out]; exact hor)⟩
theorem put_any (w : World) (x m n : Nat) (t : Option (Tr Value)) (D : DataW Value) (lk : Id → Option (Nat × Nat)) (S : List It) (i : Id) (b : Bx) (h : Idx w x m n t D lk S) (hi : i.length ≤ 1000) (hn : n < 100000) :
    Calls Try.prog 29 #[ptr x, .string ⟨i.toArray⟩, vB b] w fun e w' => e = .returned (.int .i64 (putE i b S)) ∧ OpQ w x m (n + 1) t (putR i b S) w' := by
  cases hv : validB b with
  | false =>
    refine (put_bad w x m n t D lk S i b h hi (.inl hv)).mono ?_
    rintro e w' ⟨rfl, hb⟩
    have e1 : putE i b S = 1 := by unfold putE; rw [hv]; rfl
    have e2 : putR i b S = S := by unfold putR; rw [hv]; rfl
    rw [e1, e2, hv]
    exact ⟨rfl, OpQ.same h hb⟩
  | true =>
    cases hl : lk i with
    | none =>
      have hs := h.none_.1 hl
      have e1 : putE i b S = 0 := by unfold putE; rw [hv, hs]; rfl
      have e2 : putR i b S = putS i b S := by unfold putR; rw [hv, hs]; rfl
      rw [e1, e2]
      exact put_ok w x m n t D lk S i b h hi hv hl hn
    | some pj =>
      have hs : boxS i S ≠ none := fun e => by rw [h.none_.2 e] at hl; cases hl
      obtain ⟨c, hc⟩ := Option.ne_none_iff_exists'.1 hs
      refine (put_bad w x m n t D lk S i b h hi (.inr (by rw [hl]; simp))).mono ?_
      rintro e w' ⟨rfl, hb⟩
      have e1 : putE i b S = 9 := by unfold putE; rw [hv, hc]; rfl
      have e2 : putR i b S = S := by unfold putR; rw [hv, hc]; rfl
      rw [e1, e2, hv]
      exact ⟨rfl, OpQ.same h hb⟩
end Go.Proofs.Yteghhfkllclghaa.Ix
