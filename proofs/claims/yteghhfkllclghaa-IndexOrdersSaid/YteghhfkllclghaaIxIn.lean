/- index: In. -/
import Derived.Test.YteghhfkllclghaaIxVisAll
namespace Go.Proofs.Yteghhfkllclghaa.Ix
open Go.RowKit Go.Sort
/-- what In answers. -/
def inA (b : Bx) (S : List It) : List Id := if validB b then inS b S else []
set_option maxRecDepth 100000 in
set_option maxHeartbeats 1000000 in
theorem in_bad (w : World) (x : Nat) (b : Bx) (hv : validB b = false) :
    Calls Try.prog 19 #[ptr x, vB b] w fun e w' => e = .returned (.slice none 0 0) ∧ Below w.heap.size w w' := by
  obtain ⟨W, hW, hB, hR⟩ := box_row w 26 b
  have HW := Lib.hid hW
  have B0 := Lib.hid hB
  obtain ⟨b0, b1, b2, b3⟩ := box_facts hR
  have k1 := Lib.hid (isValid_any b W)
  rw [hv] at k1
  clear hW hB hR hv
  unfold ptr
  unfold vB at k1 ⊢
  unfold cB at HW
  go_enter Try.func19, Try.ntmps19
  go_upto_region 1 with fail
  rw [HW.out]
  go_wp2_with fail
  refine k1.out.mono ?_
  rintro e w1 ⟨rfl, bb⟩
  have B1 := Lib.hid (B0.out.trans (bb.mono B0.out.size))
  clear bb k1 b0 b1 b2 b3
  go_wp2
  go_ret
  exact ⟨rfl, B1.out⟩
def visO (b : Bx) : Option (Tr Value) → List Id
  | none => []
  | some t => visT b t
theorem visO_is (b : Bx) (t : Option (Tr Value)) : visO b t = ((itemsL (Tr.leavesO t)).filter fun p => meetB p.2 b).map Prod.fst := by
  cases t with
  | none => rfl
  | some t => exact vis_is b t
theorem visO_any (b : Bx) (base qb c1 c2 : Nat) (t : Option (Tr Value)) (w : World) (v : Value) (ht : inO w t) (hf : ∀ k ∈ fpO t, k < base) (hb : base ≤ w.heap.size) (hv : Vis w base qb c1 c2 b v []) (hl : (visO b t).length ≤ 1000000) :
    Calls Try.prog 35 #[rootV t, ptr qb, ptr c1, ptr c2] w (visQ base qb c1 c2 b (visO b t) w) := by
  cases t with
  | none =>
    refine (visit_nil qb c1 c2 w).mono ?_
    rintro e w' ⟨rfl, h⟩
    exact ⟨rfl, ⟨v, hv.below h⟩, h.mono hb⟩
  | some t => exact visit_any b base qb c1 c2 t w v [] ht.1 hf hb hv (by rw [List.length_nil, Nat.zero_add]; exact hl)
set_option maxRecDepth 100000 in
set_option maxHeartbeats 4000000 in
theorem in_ok (w : World) (x m n : Nat) (t : Option (Tr Value)) (D : DataW Value) (lk : Id → Option (Nat × Nat)) (S : List It) (b : Bx) (h : Idx w x m n t D lk S) (hv : validB b = true) (hn : n ≤ 100000) :
    Calls Try.prog 19 #[ptr x, vB b] w fun e w' => ∃ v, e = .returned v ∧ OwnB w' w.heap.size v (inS b S) ∧ Below w.heap.size w w' := by
  have H := Lib.hid h
  obtain ⟨W, hW, hB, hR⟩ := box_row w 26 b
  have HW := Lib.hid hW
  have B0 := Lib.hid hB
  have R0 := Lib.hid hR
  obtain ⟨b0, b1, b2, b3⟩ := box_facts hR
  have k1 := Lib.hid (isValid_any b W)
  rw [hv] at k1
  have HNN := Lib.hid hn
  clear hW hB hR hv hn
  unfold ptr
  unfold vB at k1 ⊢
  unfold cB at HW
  go_enter Try.func19, Try.ntmps19
  go_upto_region 1 with fail
  rw [HW.out]
  go_wp2_with fail
  refine k1.out.mono ?_
  rintro e w1 ⟨rfl, bb⟩
  have B1 := Lib.hid (B0.out.trans (bb.mono B0.out.size))
  have R1 := Lib.hid (R0.out.below bb R0.out.inside)
  clear bb k1 b0 b1 b2 b3 HW B0 R0
  have hmf : ∀ (fn : Fn) (first cap : Array Value) (w : World), (Instr.makeFunc fn first cap).run Try.prog w = .ok (.func fn first cap) w := fun _ _ _ _ => rfl
  have hst : ∀ (a : Addr) (fn : Fn) (fi ca : Array Value) (w : World) (m : Mode), (store a (.func fn fi ca) m).run Try.prog w = stored Try.prog w a (.func fn fi ca) m := fun a fn fi ca w m => run_store _ w a _ m rfl
  obtain ⟨W3, hW3, bb3, I3, F3⟩ := two_made w1 42 73 #[.slice none 0 0] #[.nilFunc]
  have B3 := Lib.hid (B1.out.trans (bb3.mono B1.out.size))
  have R3 := Lib.hid (R1.out.below bb3 R1.out.inside)
  have hge := Lib.hid B1.out.size
  go_upto_region 5 with fail
  obtain ⟨c, hc⟩ : ∃ c, w1.heap.size = c := ⟨_, rfl⟩
  have HGE := Lib.hid (show w.heap.size ≤ c from hc ▸ hge.out)
  rw [hc] at I3 F3 ⊢
  obtain ⟨d, hd⟩ : ∃ d, c + 1 = d := ⟨_, rfl⟩
  have hcd : ¬ c = d := by omega
  have hwd : ¬ w.heap.size = d := by have := HGE.out; omega
  have HDE := Lib.hid (show w.heap.size ≤ d by have := HGE.out; omega)
  rw [hd] at F3 ⊢
  clear hW3 hc hd bb3 hge B1 R1
  have cF0 := IsRow.get F3 0
  have fF0 := IsRow.open_ F3 0
  go_upto_region 6 with fail
  obtain ⟨w4, hw4⟩ : ∃ w4, W3.setCell ⟨d, 0, none⟩ (.func (.func 35) #[] #[.pointer (some ⟨w.heap.size, 0, none⟩), .pointer (some ⟨c, 0, none⟩), .pointer (some ⟨d, 0, none⟩)]) = w4 := ⟨_, rfl⟩
  have B4 := Lib.hid (show Below w.heap.size w w4 from hw4 ▸ B3.out.setCell (p := ⟨d, 0, none⟩) HDE.out _)
  have V4 := Lib.hid (show Vis w4 w.heap.size w.heap.size c d b (.slice none 0 0) [] from ⟨hw4 ▸ R3.out.putOther hwd _, hw4 ▸ I3.putOther hcd _, by
    rw [← hw4]
    have := F3.put 0 (visF w.heap.size c d)
    simpa [visF, ptr] using this, World.ownsRow_nil _ _ _ _, Nat.le_refl _, HGE.out, HDE.out⟩)
  rw [hw4]
  clear hw4 cF0 fF0 I3 F3 B3 R3
  have HL := Lib.hid (show (visO b t).length ≤ 1000000 by
    rw [visO_is, List.length_map]
    have e1 := List.length_filter_le (fun p => meetB p.2 b) (itemsL (Tr.leavesO t))
    have e2 := H.out.perm.length_eq
    have e3 := H.out.len
    have e4 := HNN.out
    omega)
  have H4 := Lib.hid (H.out.below B4.out)
  have hK := visO_any b w.heap.size w.heap.size c d t w4.drew (.slice none 0 0) (inO_keep H4.out.tree fun _ _ => rfl) H.out.lt.2.2 B4.out.size (V4.out.below (drew_below _)) HL.out
  have x0 : w4.cell? ⟨x, 0, none⟩ = some (rootV t) := H4.out.row.get 0
  obtain ⟨pr, hpr⟩ : ∃ a, rootV t = .pointer a := by cases t <;> exact ⟨_, rfl⟩
  rw [hpr] at hK x0
  have cF := IsRow.get V4.out.rowF 0
  unfold visF at cF
  unfold ptr at hK cF
  go_region_with (go_at_call 35; refine hK.mono ?_; rintro e w5 ⟨rfl, ⟨v5, V5⟩, B5⟩)
  all_goals
    have BB5 := Lib.hid (show Below w.heap.size w w5 from B4.out.drew.trans B5)
    obtain ⟨a5, m5, c5, rfl⟩ : ∃ a m c, v5 = .slice a m c := by
      obtain ⟨_, ⟨e, _⟩ | ⟨g, cap, cur, e, _⟩⟩ := V5.own
      · exact ⟨_, _, _, e⟩
      · exact ⟨_, _, _, e⟩
    have i5 := IsRow.get V5.rowI 0
    have n5 := V5.own.ne V5.rowI (by decide)
    have R5 := Lib.hid V5.rowI
    have O5 := Lib.hid V5.own
    have hS := sort_any w5 w.heap.size (.slice a5 m5 c5) (visO b t) V5.own BB5.out.size HL.out
    rw [visO_is, in_is H.out.perm H.out.srt] at hS
    clear hK cF x0 V5 B5 H4 V4 B4 hst hmf
    go_upto_region 7 with fail
    go_wp2_with (go_at_call 37; refine hS.mono ?_; rintro e w6 ⟨rfl, O6, G6⟩; have i6 := IsRow.get (show IsRow w6 c 42 #[.slice a5 m5 c5] from (G6.block c (IsRow.inside R5.out) (fun e => n5 e.symm)).trans R5.out) 0)
    go_ret
    exact ⟨_, rfl, O6, BB5.out.grown G6 BB5.out.size fun k hk => (World.ownsRow.lt O5.out k hk).1⟩
theorem in_any (w : World) (x m n : Nat) (t : Option (Tr Value)) (D : DataW Value) (lk : Id → Option (Nat × Nat)) (S : List It) (b : Bx) (h : Idx w x m n t D lk S) (hn : n ≤ 100000) :
    Calls Try.prog 19 #[ptr x, vB b] w fun e w' => ∃ v, e = .returned v ∧ OwnB w' w.heap.size v (inA b S) ∧ Below w.heap.size w w' := by
  cases hv : validB b with
  | false =>
    refine (in_bad w x b hv).mono ?_
    rintro e w' ⟨rfl, hb⟩
    have e1 : inA b S = [] := by unfold inA; rw [hv]; rfl
    rw [e1]
    exact ⟨_, rfl, World.ownsRow_nil _ _ _ _, hb⟩
  | true =>
    have e1 : inA b S = inS b S := by unfold inA; rw [hv]; rfl
    rw [e1]
    exact in_ok w x m n t D lk S b h hv hn
end Go.Proofs.Yteghhfkllclghaa.Ix
