/- index: Drop. -/
import Derived.Test.YteghhfkllclghaaIxDropEnd
namespace Go.Proofs.Yteghhfkllclghaa.Ix
open Go.RowKit Go.Sort
open Go.Maps (Keyed IsMap has)
set_option maxRecDepth 100000 in
set_option maxHeartbeats 2000000 in
theorem drop_none (w : World) (x m n : Nat) (t : Option (Tr Value)) (D : DataW Value) (lk : Id → Option (Nat × Nat)) (S : List It) (i : Id) (h : Idx w x m n t D lk S) (hi : i.length ≤ 1000) (hl : lk i = none) :
    Calls Try.prog 30 #[ptr x, .string ⟨i.toArray⟩] w fun e w' => e = .returned (.int .i64 11) ∧ Below w.heap.size w w' := by
  have HI := Lib.hid hi
  have HL := Lib.hid hl
  have H := Lib.hid h
  have hmap := H.out.map
  have hdat := H.out.dat
  have r1 := H.out.row.get 1
  clear h hi hl
  unfold ptr
  go_enter Try.func30, Try.ntmps30
  go_upto_region 4 with (first | (at_lookup; refine wpList_missed rfl _ _ rfl m n D lk rfl hmap hdat i HI.out rfl HL.out ?_))
  have B2 := Lib.hid ((Below.refl w.heap.size w).alloc (Nat.le_refl _) (.cells #[.pointer none, .int .i64 0] 68))
  clear hmap hdat r1 H
  go_wp2
  go_ret
  exact ⟨rfl, B2.out⟩
theorem wrap_nat {k cap : Nat} (h : k + 1 ≤ cap) (h2 : cap ≤ maxLen) : wrap64 (k : Int) = (k : Int) ∧ wrap64 ((k : Int) + 1) = (k : Int) + 1 := by
  unfold maxLen at h2
  constructor <;> (unfold wrap64; omega)
set_option maxRecDepth 100000 in
set_option maxHeartbeats 8000000 in
theorem drop_ok (w : World) (x m n : Nat) (t : Option (Tr Value)) (D : DataW Value) (lk : Id → Option (Nat × Nat)) (S : List It) (i : Id) (h : Idx w x m n t D lk S) (hi : i.length ≤ 1000) (hS : ∀ z ∈ S, z.1.length ≤ 1000) {p j : Nat} (hl : lk i = some (p, j)) (hn : n < 100000) :
    Calls Try.prog 30 #[ptr x, .string ⟨i.toArray⟩] w fun e w' => e = .returned (.int .i64 0) ∧ OpQ w x m (n + 1) t (dropS i S) w' := by
  obtain ⟨tt, b, ids, v, rfl, hm, hj, hbx⟩ := h.leaf hl
  have hjl := (List.getElem?_eq_some_iff.1 hj).1
  obtain ⟨k, hk⟩ : ∃ k, ids.length = k + 1 := ⟨ids.length - 1, by omega⟩
  obtain ⟨P0, O0⟩ := leaf_row h.tree.1 hm
  obtain ⟨g, cap, rfl, hc1, hc2⟩ := O0.shape (by omega)
  rw [hk] at O0 hm P0 hc1
  have hww := wrap_nat hc1 hc2
  have HC := Lib.hid (And.intro hc1 hc2)
  clear hc1 hc2
  have hjk : j < k + 1 := by rw [← hk]; exact hjl
  obtain ⟨mv, hmv⟩ : ∃ mv, ids[k]? = some mv := ⟨ids[k], List.getElem?_eq_getElem (by omega)⟩
  have hmvS : mv.length ≤ 1000 := by
    have : (mv, b) ∈ S := h.perm.mem_iff.1 (List.mem_flatMap.2 ⟨_, hm, List.mem_map.2 ⟨mv, List.mem_of_getElem? hmv, rfl⟩⟩)
    exact hS _ this
  have hf := leaf_fp hm
  have hgf : g ∈ tt.fp := hf.2 g rfl
  have gp : g ≠ p := fun e => leaf_own h.tree.2.1 hm (by rw [← e]; rfl)
  have px : p ≠ x := fun e => h.ax (e ▸ hf.1)
  have pm : p ≠ m := fun e => h.am (e ▸ hf.1)
  have gx : g ≠ x := fun e => h.ax (e ▸ hgf)
  have gm : g ≠ m := fun e => h.am (e ▸ hgf)
  obtain ⟨hxl, hml, hfl⟩ := h.lt
  have pl : p < w.heap.size := hfl p hf.1
  have gl : g < w.heap.size := hfl g hgf
  have HI := Lib.hid hi
  have HL := Lib.hid hl
  have H := Lib.hid h
  have HM := Lib.hid hm
  have HJ := Lib.hid hj
  have HMV := Lib.hid hmv
  have HMS := Lib.hid hmvS
  have HK := Lib.hid hk
  have HNN := Lib.hid hn
  have P0' := Lib.hid P0
  have O0' := Lib.hid O0
  have hmap := H.out.map
  have hdat := H.out.dat
  have r1 := H.out.row.get 1
  clear h hi hS hl hm hj hmv hmvS hk hn P0 O0 hf hgf hbx
  unfold ptr
  go_enter Try.func30, Try.ntmps30
  go_upto_region 4 with (first | (at_lookup; refine wpList_found rfl _ _ rfl m n D lk rfl hmap hdat i HI.out rfl HL.out ?_))
  obtain ⟨W, hW⟩ : ∃ W, w.alloc (.cells #[.pointer (some ⟨p, 0, none⟩), .int .i64 j] 68) = W := ⟨_, rfl⟩
  have B1 := Lib.hid (show Below w.heap.size w W from hW ▸ (Below.refl w.heap.size w).alloc (Nat.le_refl _) _)
  have Q1 := Lib.hid (show IsRow W w.heap.size 68 #[.pointer (some ⟨p, 0, none⟩), .int .i64 j] from hW ▸ IsRow.made _ _ _)
  have P1 := Lib.hid (show IsRow W p 72 (nodeC b 128 nilP nilP (.slice (some ⟨g, 0, none⟩) (k + 1) cap)) from hW ▸ P0'.out.later _)
  have O1 := Lib.hid (show OwnS W (.slice (some ⟨g, 0, none⟩) (k + 1) cap) ids from O0'.out.keep fun r hr => B1.out.block r (Nat.lt_of_le_of_lt (Nat.le_of_eq (by injection hr with e; exact e.symm)) gl))
  have X1 := Lib.hid (show IsRow W x 61 #[ptr tt.blk, .map (some m)] from hW ▸ H.out.row.later _)
  rw [hW]
  obtain ⟨q, hq⟩ : ∃ q, w.heap.size = q := ⟨_, rfl⟩
  have HQ := Lib.hid hq
  rw [hq] at Q1 ⊢
  have hqp : ¬ q = p := by omega
  have hqg : ¬ q = g := by omega
  have hqx : ¬ q = x := by omega
  have hqm : ¬ q = m := by omega
  clear hW hmap hdat r1 hq hfl
  have q0 := Q1.out.get 0
  have q1 := Q1.out.get 1
  obtain ⟨_, _, _, _, p7⟩ := node_facts P1.out
  have gk := OwnS.cell (by rw [HK.out]; exact O1.out) HMV.out
  have go := OwnS.open_ (L := ids) (cap := cap) (g := g) (w := W) (by rw [HK.out]; exact O1.out)
  have goj := go j
  have hm0 : (0 : Int) ≤ (k : Int) := by omega
  have hm2 : (k : Int) < (k : Int) + 1 := by omega
  obtain ⟨hmw, hmw1⟩ := hww
  have hj0 : (0 : Int) ≤ (j : Int) := by omega
  have hj2 : (j : Int) < (k : Int) + 1 := by omega
  clear go
  have gj := OwnS.cell (by rw [HK.out]; exact O1.out) HJ.out
  go_upto_region 8 with fail
  rw [hmw]
  go_region
  obtain ⟨w2, hw2⟩ : ∃ w2, (W.setCell ⟨g, j, none⟩ (.string ⟨mv.toArray⟩)).drew = w2 := ⟨_, rfl⟩
  have C2 := Lib.hid (show Ch (fun r => r = p ∨ r = g ∨ r = m) w w2 from hw2 ▸ ((Ch.of_below B1.out).setCell (p := ⟨g, j, none⟩) (fun _ => .inr (.inl rfl)) _).drew)
  have Q2 := Lib.hid (show IsRow w2 q 68 #[.pointer (some ⟨p, 0, none⟩), .int .i64 j] from hw2 ▸ Q1.out.putOther hqg _)
  have P2 := Lib.hid (show IsRow w2 p 72 (nodeC b 128 nilP nilP (.slice (some ⟨g, 0, none⟩) (k + 1) cap)) from hw2 ▸ P1.out.putOther (fun e => gp e.symm) _)
  have X2 := Lib.hid (show IsRow w2 x 61 #[ptr tt.blk, .map (some m)] from hw2 ▸ X1.out.putOther (fun e => gx e.symm) _)
  have O2 := Lib.hid (show OwnS w2 (.slice (some ⟨g, 0, none⟩) (k + 1) cap) (ids.set j mv) by
    have ho := (OwnS.set (by rw [HK.out]; exact O1.out) j mv).1
    rw [HK.out] at ho
    rw [← hw2]
    exact ho.keep fun _ _ => rfl)
  have M2 := Lib.hid (show w2.ownsMap Try.prog 9 heldE m n D from hw2 ▸ map_keep (map_keep H.out.map (B1.out.block m hml)) (Below.heap_setCell W ⟨g, j, none⟩ (.string ⟨mv.toArray⟩) m fun e => gm e.symm))
  rw [hw2]
  clear hw2 q0 q1 p7 gk goj gj P1 O1 X1 Q1 B1 P0' O0'
  obtain ⟨w3, hrun, M3, hg3⟩ := M2.out.drew.update (t := 58) str_keyed Try.underlying58 (by have := HNN.out; unfold maxLen; omega) (keyOf_str HMS.out) (val := .agg #[.pointer (some ⟨p, 0, none⟩), .int .i64 (j : Nat)]) (d := .held (plV p j)) (ps := []) rfl
  have hg3' : w2.grownBy w3 (some m) := ⟨hg3.os, hg3.tape, hg3.output, hg3.size, hg3.block⟩
  have C3 := Lib.hid (C2.out.grown hg3' (fun r e _ => .inr (.inr (by injection e with e; exact e.symm))))
  have Q3 := Lib.hid (show IsRow w3 q 68 #[.pointer (some ⟨p, 0, none⟩), .int .i64 j] from (hg3'.block q Q2.out.inside (fun e => hqm (by injection e))).trans Q2.out)
  have P3 := Lib.hid (show IsRow w3 p 72 (nodeC b 128 nilP nilP (.slice (some ⟨g, 0, none⟩) (k + 1) cap)) from (hg3'.block p P2.out.inside (fun e => pm (by injection e))).trans P2.out)
  have X3 := Lib.hid (show IsRow w3 x 61 #[ptr tt.blk, .map (some m)] from (hg3'.block x X2.out.inside (fun e => H.out.xm (by injection e))).trans X2.out)
  have O3 := Lib.hid (show OwnS w3 (.slice (some ⟨g, 0, none⟩) (k + 1) cap) (ids.set j mv) from O2.out.keep fun r e => by
    have e' : g = r := by injection e
    subst e'
    exact hg3'.block g (O2.out.lt g rfl) (fun e => gm (by injection e)))
  have M3' := Lib.hid M3
  have q0 := IsRow.get Q2.out 0
  have q1 := IsRow.get Q2.out 1
  have x1 := IsRow.get X2.out 1
  clear hg3 hg3' M3
  go_upto_region 9 with fail
  go_region
  clear hrun q0 q1 x1 Q2 P2 X2 O2 M2 C2
  obtain ⟨T, hT, hTl⟩ : ∃ T, T = ids.set j mv ∧ T.length = k + 1 := ⟨_, rfl, by rw [List.length_set]; exact HK.out⟩
  have HT := Lib.hid hT
  have HTL := Lib.hid hTl
  rw [← hT] at O3
  have O3' : OwnS w3.drew (.slice (some ⟨g, 0, none⟩) T.length cap) T := by rw [hTl]; exact O3.out.keep fun _ _ => rfl
  obtain ⟨hh1, hh2, hh3, hh4⟩ := holds_own O3' (by omega)
  have hK := Try.slices_Delete_string g 0 cap k (k + 1) T w3.drew hh1 hh2 hh3 (Nat.le_succ k) (by omega)
  rw [hTl, show k + 1 - (k + 1 - k) = k by omega, show ((k + 1 : Nat) : Int) = (k : Int) + 1 by omega] at hK
  have HQQ := Lib.hid (fun q' => del_last (q := q') (w := w3.drew) hTl (by rw [hTl] at O3'; exact O3'))
  have hwi : IntKind.i64.wrap ((k : Int) + 1) = (k : Int) + 1 := (IntWalk.i64_left _).trans hmw1
  clear hh1 hh2 hh3 hh4 O3' hT hTl
  have q0 := IsRow.get Q3.out 0
  obtain ⟨_, _, _, _, p7⟩ := node_facts P3.out
  go_upto_region 10 with fail
  go_region_with (go_at_call 46; (try rw [hwi]); refine hK.mono ?_; rintro e w4 ⟨rfl, q', rfl⟩; obtain ⟨w4, hw4⟩ : ∃ w4, putRow encStr (Sort.ahead w3.drew q') g 0 (T.take k ++ T.drop (k + 1) ++ List.replicate (k + 1 - k) []).toArray = w4 := ⟨_, rfl⟩; obtain ⟨O4, G4⟩ := HQQ.out q'; rw [hw4] at O4 G4 ⊢; have P4 : IsRow w4 p 72 (nodeC b 128 nilP nilP (.slice (some ⟨g, 0, none⟩) (k + 1) cap)) := (G4.block p (IsRow.inside P3.out) (fun e => gp (by injection e with e; exact e.symm))).trans P3.out; have f7 := IsRow.open_ P4 7; obtain ⟨_, _, _, _, p47⟩ := node_facts P4; have Q4 : IsRow w4 q 68 #[.pointer (some ⟨p, 0, none⟩), .int .i64 j] := (G4.block q (IsRow.inside Q3.out) (fun e => hqg (by injection e))).trans Q3.out; have q40 := IsRow.get Q4 0)
  all_goals
    have X4 : IsRow w4 x 61 #[ptr tt.blk, .map (some m)] := (G4.block x (IsRow.inside X3.out) (fun e => gx (by injection e with e; exact e.symm))).trans X3.out
    have M4 := map_keep (w' := w4) M3'.out (G4.block m M3'.out.lt (fun e => gm (by injection e with e; exact e.symm)))
    have C4 : Ch (fun r => r = p ∨ r = g ∨ r = m) w w4 := C3.out.grown (⟨G4.os, G4.tape, G4.output, G4.size, G4.block⟩ : w3.grownBy w4 (some g)) (fun r e _ => .inr (.inl (by injection e with e; exact e.symm)))
    obtain ⟨w5, hw5⟩ : ∃ w5, w4.setCell ⟨p, 7, none⟩ (.slice (some ⟨g, 0, none⟩) k cap) = w5 := ⟨_, rfl⟩
    have C5 := Lib.hid (show Ch (fun r => r = p ∨ r = g ∨ r = m) w w5 from hw5 ▸ C4.setCell (p := ⟨p, 7, none⟩) (fun _ => .inl rfl) _)
    have P5 := Lib.hid (show IsRow w5 p 72 (nodeC b 128 nilP nilP (.slice (some ⟨g, 0, none⟩) k cap)) from hw5 ▸ (by have := P4.put 7 (.slice (some ⟨g, 0, none⟩) k cap); simpa [nodeC] using this))
    have Q5 := Lib.hid (show IsRow w5 q 68 #[.pointer (some ⟨p, 0, none⟩), .int .i64 j] from hw5 ▸ Q4.putOther hqp _)
    have X5 := Lib.hid (show IsRow w5 x 61 #[ptr tt.blk, .map (some m)] from hw5 ▸ X4.putOther (fun e => px e.symm) _)
    have O5 := Lib.hid (show OwnS w5 (.slice (some ⟨g, 0, none⟩) k cap) (T.take k) from hw5 ▸ O4.keep fun r e => Below.heap_setCell _ _ _ _ (by
      have e' : g = r := by injection e
      subst e'
      exact gp))
    have M5 := Lib.hid (show w5.ownsMap Try.prog 9 heldE m (n + 1) (D.put (kS mv) (.held (plV p j))) from hw5 ▸ map_keep M4 (Below.heap_setCell _ _ _ _ fun e => pm e.symm))
    have hmap := M5.out
    have x1 := IsRow.get X5.out 1
    rw [hw5]
    clear hw5 P4 Q4 q40 f7 p47 X4 M4 C4 O4 G4 hw4 hK p7 q0 C3 Q3 P3 X3 O3 M3' HQQ
    go_upto_region 11 with fail
    go_upto_region 12 with (first | (at_delete; refine wpList_delete_own w5 rfl _ _ _ _ rfl 68 str_keyed Try.underlying58 heldE m (n + 1) _ rfl hmap _ _ rfl (keyOf_str HI.out) ?_; intro w6 M6 hg6))
  all_goals
    have G6 := hg6.grown
    have C6 : Ch (fun r => r = p ∨ r = g ∨ r = m) w w6 := C5.out.grown G6 (fun r e _ => .inr (.inr (by injection e with e; exact e.symm)))
    have P6 : IsRow w6 p 72 (nodeC b 128 nilP nilP (.slice (some ⟨g, 0, none⟩) k cap)) := (G6.block p (IsRow.inside P5.out) (fun e => pm (by injection e))).trans P5.out
    have Q6 : IsRow w6 q 68 #[.pointer (some ⟨p, 0, none⟩), .int .i64 j] := (G6.block q (IsRow.inside Q5.out) (fun e => hqm (by injection e))).trans Q5.out
    have hmT : T.take k = moveL ids j mv := by unfold moveL; rw [HT.out, HK.out]; rfl
    have O6 : OwnS w6 (.slice (some ⟨g, 0, none⟩) k cap) (moveL ids j mv) := by
      rw [← hmT]
      exact O5.out.keep fun r e => by
        have e' : g = r := by injection e
        subst e'
        exact G6.block g (O5.out.lt g rfl) (fun e => gm (by injection e))
    obtain ⟨D', lk', t', I6, eb, hs6, C6', hl6⟩ := drop_end H.out HM.out HK.out HJ.out HMV.out C6.os C6.tape C6.output C6.size (fun r hr h1 h2 h3 => C6.block r hr (by rintro (e | e | e); exact h1 e; exact h2 e; exact h3 e)) P6 O6 M6
    clear M6 hg6 G6 C6 O6 hmap x1 M5 O5 P5 Q5 X5 C5
    by_cases hk0 : k = 0
    · subst hk0
      have hnil : moveL ids j mv = [] := by apply List.eq_nil_of_length_eq_zero; unfold moveL; simp [HK.out]
      rw [hnil] at hl6
      have hvb : validB b = true := (Tr.ok_valid I6.tree.2.2).2 b (List.mem_map.2 ⟨_, hl6, rfl⟩)
      have I6d : Idx w6.drew x m (n + 1) (some t') D' lk' (dropS i S) := I6.keep fun _ _ => rfl
      have hK := out_any hvb t' w6.drew I6d.tree.1 I6d.tree.2.1 I6d.tree.2.2
      obtain ⟨⟨a0, a1, a2, a3⟩, _, _, _, _⟩ := node_facts P6
      have q0 := IsRow.get Q6 0
      have x0 : w6.cell? ⟨x, 0, none⟩ = some (ptr t'.blk) := I6.row.get 0
      have HF := Lib.hid (fun e w7 (hq : OutQ b t' w6.drew e w7) => out_end2 I6d hl6 hq)
      have HC6 := Lib.hid C6'
      have HS6 := Lib.hid hs6
      have HEB := Lib.hid eb
      obtain ⟨r, hr⟩ : ∃ r, t'.blk = r := ⟨_, rfl⟩
      rw [hr] at hK x0
      unfold ptr at hK x0
      unfold vB at hK
      clear P6 Q6 I6 I6d C6' hs6 eb hl6 hvb hnil
      go_upto_region 13 with fail
      go_region_with (go_at_call 47; refine hK.mono ?_; intro e w7 hq; obtain ⟨t2, rfl, X7, I8, hs8, C8⟩ := HF.out e w7 hq; have x70 := IsRow.get X7 0; have f70 := IsRow.open_ X7 0; obtain ⟨pr, hpr⟩ : ∃ a, rootV t2 = .pointer a := (by cases t2 <;> exact ⟨_, rfl⟩); rw [hpr] at I8 C8 ⊢; unfold ptr at x70; rw [hr] at x70)
      all_goals
        go_wp2
        go_ret
        exact ⟨rfl, t2, D', lk', I8, fun k hk => .inl (HS6.out k (hs8 k hk)), HC6.out.drew.trans C8 fun k hk _ => hk.imp id (Or.imp id (HS6.out k))⟩
    · have hk1 : ¬ (k : Int) = 0 := by omega
      clear P6 Q6
      go_wp2
      go_ret
      exact ⟨rfl, some t', D', lk', I6, fun r hr => .inl (hs6 r hr), C6'⟩
def dropE (i : Id) (S : List It) : Int := if (boxS i S).isSome then 0 else 11
theorem drop_any (w : World) (x m n : Nat) (t : Option (Tr Value)) (D : DataW Value) (lk : Id → Option (Nat × Nat)) (S : List It) (i : Id) (h : Idx w x m n t D lk S) (hi : i.length ≤ 1000) (hS : ∀ z ∈ S, z.1.length ≤ 1000) (hn : n < 100000) :
    Calls Try.prog 30 #[ptr x, .string ⟨i.toArray⟩] w fun e w' => e = .returned (.int .i64 (dropE i S)) ∧ OpQ w x m (n + 1) t (dropS i S) w' := by
  cases hl : lk i with
  | none =>
    have hs := h.none_.1 hl
    refine (drop_none w x m n t D lk S i h hi hl).mono ?_
    rintro e w' ⟨rfl, hb⟩
    have e1 : dropE i S = 11 := by unfold dropE; rw [hs]; rfl
    have e2 : dropS i S = S := by
      unfold dropS
      rw [List.filter_eq_self]
      intro p hp
      simpa using box_none.1 hs p hp
    rw [e1, e2]
    exact ⟨rfl, OpQ.same h hb⟩
  | some pj =>
    have hs : boxS i S ≠ none := fun e => by rw [h.none_.2 e] at hl; cases hl
    obtain ⟨c, hc⟩ := Option.ne_none_iff_exists'.1 hs
    have e1 : dropE i S = 0 := by unfold dropE; rw [hc]; rfl
    rw [e1]
    exact drop_ok w x m n t D lk S i h hi hS hl hn
end Go.Proofs.Yteghhfkllclghaa.Ix
