/- index: with, at a fork. -/
import Derived.Test.YteghhfkllclghaaIxWithAll
import Derived.Deep.RegionWith
namespace Go.Proofs.Yteghhfkllclghaa.Ix
open Go.RowKit Go.Sort
/-- what with does at a fork below which it goes on in the kid s, whose place is k. -/
def ForkQ (b : Bx) (p f : Nat) (m : Bx) (s : Tr Value) (o : Value) (k : Nat) (w : World) (e : Ending) (w' : World) : Prop :=
  ∃ pl pf, e = .returned (.tuple #[ptr p, ptr (Tr.at_ b (Tr.ins b pl pf nilS s))]) ∧ (Tr.ins b pl pf nilS s).inT w' ∧ (Tr.ins b pl pf nilS s).fp.Nodup ∧
    (∀ i ∈ (Tr.ins b pl pf nilS s).fp, i ∈ s.fp ∨ w.heap.size ≤ i) ∧ Ch (fun i => i = p ∨ i ∈ s.fp) w w' ∧
    IsRow w' p 72 (if k = 0 then nodeC m f (ptr (Tr.ins b pl pf nilS s).blk) o nilS else nodeC m f o (ptr (Tr.ins b pl pf nilS s).blk) nilS)
theorem fork_end {b : Bx} {p f pl pf : Nat} {x m : Bx} {s : Tr Value} {w w3 w4 w6 : World} {l r l' r' : Value} (B3 : Below w.heap.size w w3) (hi : (Tr.ins b pl pf nilS s).inT w4) (hsub : ∀ k ∈ (Tr.ins b pl pf nilS s).fp, k ∈ s.fp ∨ w3.heap.size ≤ k)
    (hch : Ch (· ∈ s.fp) w3 w4) (hp : p ∉ s.fp) (hpl : p < w.heap.size) (N4 : IsRow w4 p 72 (nodeC x f l r nilS)) {i : Nat} {u : Value} (hrow : (nodeC x f l r nilS).setIfInBounds i u = nodeC x f l' r' nilS)
    (hb6 : Below (w4.setCell ⟨p, i, none⟩ u).heap.size (w4.setCell ⟨p, i, none⟩ u) w6) :
    let w7 := (((w6.setCell ⟨p, 0, none⟩ (.int .i64 m.a)).setCell ⟨p, 1, none⟩ (.int .i64 m.b)).setCell ⟨p, 2, none⟩ (.int .i64 m.c)).setCell ⟨p, 3, none⟩ (.int .i64 m.d)
    IsRow w7 p 72 (nodeC m f l' r' nilS) ∧ (Tr.ins b pl pf nilS s).inT w7 ∧ (∀ k ∈ (Tr.ins b pl pf nilS s).fp, k ∈ s.fp ∨ w.heap.size ≤ k) ∧ Ch (fun i => i = p ∨ i ∈ s.fp) w w7 := by
  have N5 := N4.put i u
  rw [hrow] at N5
  have N6 := N5.below hb6 N5.inside
  have N7 := (((N6.put 0 (.int .i64 m.a)).put 1 (.int .i64 m.b)).put 2 (.int .i64 m.c)).put 3 (.int .i64 m.d)
  have pnot : p ∉ (Tr.ins b pl pf nilS s).fp := fun h => by
    rcases hsub p h with h | h
    · exact hp h
    · have := B3.size; omega
  have c1 : Ch (fun i => i = p ∨ i ∈ s.fp) w w3 := Ch.of_below B3
  have c2 : Ch (fun i => i = p ∨ i ∈ s.fp) w w4 := c1.trans hch fun i h _ => .inr h
  have c3 : Ch (fun i => i = p ∨ i ∈ s.fp) w w6 := (c2.setCell (p := ⟨p, i, none⟩) (fun _ => .inl rfl) u).then_below hb6
  have c4 := (((c3.setCell (p := ⟨p, 0, none⟩) (fun _ => .inl rfl) (.int .i64 m.a)).setCell (p := ⟨p, 1, none⟩) (fun _ => .inl rfl) (.int .i64 m.b)).setCell (p := ⟨p, 2, none⟩) (fun _ => .inl rfl) (.int .i64 m.c)).setCell (p := ⟨p, 3, none⟩) (fun _ => .inl rfl) (.int .i64 m.d)
  refine ⟨?_, ?_, fun k hk => (hsub k hk).imp id fun h => Nat.le_trans B3.size h, c4⟩
  · simpa [nodeC] using N7
  · have t5 : (Tr.ins b pl pf nilS s).inT (w4.setCell ⟨p, i, none⟩ u) := Tr.inT_keep hi fun k hk => Below.heap_setCell w4 _ _ k fun (e : k = p) => pnot (e ▸ hk)
    have t6 := Tr.inT_below t5 hb6
    refine Tr.inT_keep t6 fun k hk => ?_
    have hne : k ≠ p := fun e => pnot (e ▸ hk)
    rw [Below.heap_setCell _ _ _ k hne, Below.heap_setCell _ _ _ k hne, Below.heap_setCell _ _ _ k hne, Below.heap_setCell _ _ _ k hne]
set_option maxRecDepth 100000 in
set_option maxHeartbeats 4000000 in
theorem with_fork0 {b : Bx} (hb : validB b = true) (p f : Nat) (x : Bx) (s : Tr Value) (o : Value) (w : World) (hx : validB x = true) (hrow : IsRow w p 72 (nodeC x f (ptr s.blk) o nilS)) (hs : s.inT w) (hn : s.fp.Nodup) (hp : p ∉ s.fp)
    (hd : ¬ difN x b < f) (hf : f < 128) (hk : dig b f = 0) (ih : ∀ w, s.inT w → Calls Try.prog 45 #[ptr s.blk, vB b] w (WithQ b s w)) :
    Calls Try.prog 45 #[ptr p, vB b] w (ForkQ b p f (hull x b) s o 0 w) := by
  have HBV := Lib.hid hb
  have HXV := Lib.hid hx
  have HN := Lib.hid hn
  have HP := Lib.hid hp
  have HS := Lib.hid hs
  have IH := Lib.hid ih
  have HK := Lib.hid hk
  have HF := Lib.hid hf
  obtain ⟨W, hW, hB, hR⟩ := box_row w 26 b
  have HW := Lib.hid hW
  have B0 := Lib.hid hB
  have R0 := Lib.hid hR
  have N0 := Lib.hid (hrow.below hB hrow.inside)
  have S0 := Lib.hid (Tr.inT_below hs hB)
  obtain ⟨⟨a0, a1, a2, a3⟩, _, _, _, _⟩ := node_facts N0.out
  obtain ⟨b0, b1, b2, b3⟩ := box_facts hR
  have g0 := cell_regrown a0
  have g1 := cell_regrown a1
  have g2 := cell_regrown a2
  have g3 := cell_regrown a3
  have k0 := cell_regrown b0
  have k1 := cell_regrown b1
  have k2 := cell_regrown b2
  have k3 := cell_regrown b3
  obtain ⟨d, hdd⟩ : ∃ d, difN x b = d := ⟨_, rfl⟩
  have q1 := (differ_any HXV.out HBV.out).quiet W
  have HRW := Lib.hid hrow
  rw [hdd] at q1 hd
  have hfi : ((f : Nat) : Int) ≠ 128 := by omega
  clear hW hB hR hx hn hp hs ih hb hk hrow hdd
  unfold ptr vB
  unfold vB at q1
  unfold cB at HW
  go_enter Try.func45, Try.ntmps45
  go_wp2_with fail
  rw [HW.out]
  refine wp_region_quiet_below (by kernel_rfl) (by kernel_rfl) ?_
  repeat (go_big_quiet_step (first | with_reducible exact q1 _ _))
  refine wpQuiet_nil ?_
  intro _ hw'
  obtain ⟨⟨dq, osq⟩, hw''⟩ := hw'
  subst hw''
  have hb2 := below_regrown W dq osq
  clear g0 g1 g2 g3 k0 k1 k2 k3 q1
  generalize grow (redrawn W dq) osq = w2 at *
  have B2 := Lib.hid (B0.out.trans (hb2.mono B0.out.size))
  have R2 := Lib.hid (R0.out.below hb2 R0.out.inside)
  have N2 := Lib.hid (N0.out.below hb2 N0.out.inside)
  have S2 := Lib.hid (Tr.inT_below S0.out hb2)
  clear hb2 a0 a1 a2 a3 b0 b1 b2 b3 HW B0 R0 N0 S0
  obtain ⟨⟨a0, a1, a2, a3⟩, a4, a5, _, _⟩ := node_facts N2.out
  obtain ⟨b0, b1, b2, b3⟩ := box_facts R2.out
  go_upto_region 12 with fail
  have g4 := cell_regrown a4
  have k0 := cell_regrown b0
  have k1 := cell_regrown b1
  have k2 := cell_regrown b2
  have k3 := cell_regrown b3
  have q1 := quiet_of (w := w2) (fun w' _ => digit_at HBV.out f HF.out HK.out w')
  refine wp_region_quiet_below (by kernel_rfl) (by kernel_rfl) ?_
  repeat (go_big_quiet_step (first | with_reducible exact q1 _ _))
  refine wpQuiet_nil ?_
  intro _ hw'
  obtain ⟨⟨dq2, osq2⟩, hw''⟩ := hw'
  subst hw''
  have hb3 := below_regrown w2 dq2 osq2
  clear g4 k0 k1 k2 k3 q1
  generalize grow (redrawn w2 dq2) osq2 = w3 at *
  have B3 := Lib.hid (B2.out.trans (hb3.mono B2.out.size))
  have R3 := Lib.hid (R2.out.below hb3 R2.out.inside)
  have N3 := Lib.hid (N2.out.below hb3 N2.out.inside)
  have S3 := Lib.hid (Tr.inT_below S2.out hb3)
  clear hb3 a0 a1 a2 a3 a4 a5 b0 b1 b2 b3 B2 R2 N2 S2
  obtain ⟨⟨a0, a1, a2, a3⟩, a4, a5, _, _⟩ := node_facts N3.out
  obtain ⟨b0, b1, b2, b3⟩ := box_facts R3.out
  unfold ptr at a5
  have hK := IH.out w3.drew (Tr.inT_below S3.out (drew_below w3))
  unfold ptr vB at hK
  go_upto_region 13 with fail
  go_region_with (go_at_call 45; refine hK.mono ?_; rintro e w4 ⟨pl, pf, rfl, hi, hnd, hsub, hch⟩; have N4 := Ch.row hch (show IsRow w3.drew p _ _ from N3.out) HP.out; obtain ⟨_, _, c5, _, _⟩ := node_facts N4; have f5 := N4.open_ 5; obtain ⟨r1, hr1⟩ : ∃ r, (Tr.ins b pl pf nilS s).blk = r := ⟨_, rfl⟩; obtain ⟨r2, hr2⟩ : ∃ r, Tr.at_ b (Tr.ins b pl pf nilS s) = r := ⟨_, rfl⟩; rw [hr1, hr2]; unfold ptr)
  all_goals
    have R4 := Ch.row hch (show IsRow w3.drew w.heap.size _ _ from R3.out) (fun h => Nat.lt_irrefl _ (Tr.inT_lt HS.out _ h))
    obtain ⟨w5, hw5⟩ : ∃ w5, w4.setCell ⟨p, 5, none⟩ (.pointer (some ⟨r1, 0, none⟩)) = w5 := ⟨_, rfl⟩
    have N5 := N4.put 5 (.pointer (some ⟨r1, 0, none⟩))
    have R5 := R4.putOther (p := ⟨p, 5, none⟩) (fun e => by have h1 := HRW.out.inside; have e' : w.heap.size = p := e; omega) (.pointer (some ⟨r1, 0, none⟩))
    rw [hw5] at N5 R5 ⊢
    have N5' : IsRow w5 p 72 (nodeC x f (ptr r1) o nilS) := by simpa [nodeC, ptr] using N5
    have HE := Lib.hid (fun w6 (hb6 : Below w5.heap.size w5 w6) => fork_end (m := hull x b) (i := 5) (u := ptr r1) (l' := ptr r1) (r' := o) B3.out hi hsub (show Ch (· ∈ s.fp) w3 w4 from ⟨hch.os, hch.tape, hch.output, hch.size, hch.block⟩) HP.out HRW.out.inside N4 rfl (by rw [show w4.setCell ⟨p, 5, none⟩ (ptr r1) = w5 from hw5]; exact hb6))
    have HNI := Lib.hid hnd
    have HR := Lib.hid (And.intro hr1 hr2)
    clear hch hi hnd hsub N4 R4 N5 hw5 c5 f5 hr1 hr2 hK a0 a1 a2 a3 a4 a5 b0 b1 b2 b3
    obtain ⟨⟨a0, a1, a2, a3⟩, _, _, _, _⟩ := node_facts N5'
    obtain ⟨b0, b1, b2, b3⟩ := box_facts R5
    have N5 := Lib.hid N5'
    clear N5' R5
    have K1 := around_any x b w5.drew
    obtain ⟨m, hm⟩ : ∃ m, hull x b = m := ⟨_, rfl⟩
    rw [hm] at K1 HE ⊢
    unfold vB at K1
    have HM := Lib.hid hm
    clear hm
    go_upto_region 14 with fail
    go_region_with (go_at_call 53; refine K1.mono ?_; rintro e w6 ⟨rfl, hb6⟩; have hb6' := (drew_below w5).trans hb6; have N6 := N5.out.below hb6' N5.out.inside; obtain ⟨⟨c0, c1, c2, c3⟩, _, _, _, _⟩ := node_facts N6; have f0 := N6.open_ 0; have f1 := N6.open_ 1; have f2 := N6.open_ 2; have f3 := N6.open_ 3)
    all_goals
      have hfin := Lib.hid (HE.out w6 hb6')
      clear HE hb6 hb6' N6 N5 c0 c1 c2 c3 f0 f1 f2 f3 a0 a1 a2 a3 b0 b1 b2 b3 K1
      go_wp2
      go_ret2
      exact ⟨pl, pf, by rw [HR.out.2]; rfl, hfin.out.2.1, HNI.out, hfin.out.2.2.1, hfin.out.2.2.2, by rw [if_pos rfl, HR.out.1, HM.out]; exact hfin.out.1⟩
set_option maxRecDepth 100000 in
set_option maxHeartbeats 4000000 in
theorem with_fork1 {b : Bx} (hb : validB b = true) (p f : Nat) (x : Bx) (s : Tr Value) (o : Value) (w : World) (hx : validB x = true) (hrow : IsRow w p 72 (nodeC x f o (ptr s.blk) nilS)) (hs : s.inT w) (hn : s.fp.Nodup) (hp : p ∉ s.fp)
    (hd : ¬ difN x b < f) (hf : f < 128) (hk : dig b f = 1) (ih : ∀ w, s.inT w → Calls Try.prog 45 #[ptr s.blk, vB b] w (WithQ b s w)) :
    Calls Try.prog 45 #[ptr p, vB b] w (ForkQ b p f (hull x b) s o 1 w) := by
  have HBV := Lib.hid hb
  have HXV := Lib.hid hx
  have HN := Lib.hid hn
  have HP := Lib.hid hp
  have HS := Lib.hid hs
  have IH := Lib.hid ih
  have HK := Lib.hid hk
  have HF := Lib.hid hf
  obtain ⟨W, hW, hB, hR⟩ := box_row w 26 b
  have HW := Lib.hid hW
  have B0 := Lib.hid hB
  have R0 := Lib.hid hR
  have N0 := Lib.hid (hrow.below hB hrow.inside)
  have S0 := Lib.hid (Tr.inT_below hs hB)
  obtain ⟨⟨a0, a1, a2, a3⟩, _, _, _, _⟩ := node_facts N0.out
  obtain ⟨b0, b1, b2, b3⟩ := box_facts hR
  have g0 := cell_regrown a0
  have g1 := cell_regrown a1
  have g2 := cell_regrown a2
  have g3 := cell_regrown a3
  have k0 := cell_regrown b0
  have k1 := cell_regrown b1
  have k2 := cell_regrown b2
  have k3 := cell_regrown b3
  obtain ⟨d, hdd⟩ : ∃ d, difN x b = d := ⟨_, rfl⟩
  have q1 := (differ_any HXV.out HBV.out).quiet W
  have HRW := Lib.hid hrow
  rw [hdd] at q1 hd
  have hfi : ((f : Nat) : Int) ≠ 128 := by omega
  clear hW hB hR hx hn hp hs ih hb hk hrow hdd
  unfold ptr vB
  unfold vB at q1
  unfold cB at HW
  go_enter Try.func45, Try.ntmps45
  go_wp2_with fail
  rw [HW.out]
  refine wp_region_quiet_below (by kernel_rfl) (by kernel_rfl) ?_
  repeat (go_big_quiet_step (first | with_reducible exact q1 _ _))
  refine wpQuiet_nil ?_
  intro _ hw'
  obtain ⟨⟨dq, osq⟩, hw''⟩ := hw'
  subst hw''
  have hb2 := below_regrown W dq osq
  clear g0 g1 g2 g3 k0 k1 k2 k3 q1
  generalize grow (redrawn W dq) osq = w2 at *
  have B2 := Lib.hid (B0.out.trans (hb2.mono B0.out.size))
  have R2 := Lib.hid (R0.out.below hb2 R0.out.inside)
  have N2 := Lib.hid (N0.out.below hb2 N0.out.inside)
  have S2 := Lib.hid (Tr.inT_below S0.out hb2)
  clear hb2 a0 a1 a2 a3 b0 b1 b2 b3 HW B0 R0 N0 S0
  obtain ⟨⟨a0, a1, a2, a3⟩, a4, _, a5, _⟩ := node_facts N2.out
  obtain ⟨b0, b1, b2, b3⟩ := box_facts R2.out
  go_upto_region 12 with fail
  have g4 := cell_regrown a4
  have k0 := cell_regrown b0
  have k1 := cell_regrown b1
  have k2 := cell_regrown b2
  have k3 := cell_regrown b3
  have q1 := quiet_of (w := w2) (fun w' _ => digit_at HBV.out f HF.out HK.out w')
  refine wp_region_quiet_below (by kernel_rfl) (by kernel_rfl) ?_
  repeat (go_big_quiet_step (first | with_reducible exact q1 _ _))
  refine wpQuiet_nil ?_
  intro _ hw'
  obtain ⟨⟨dq2, osq2⟩, hw''⟩ := hw'
  subst hw''
  have hb3 := below_regrown w2 dq2 osq2
  clear g4 k0 k1 k2 k3 q1
  generalize grow (redrawn w2 dq2) osq2 = w3 at *
  have B3 := Lib.hid (B2.out.trans (hb3.mono B2.out.size))
  have R3 := Lib.hid (R2.out.below hb3 R2.out.inside)
  have N3 := Lib.hid (N2.out.below hb3 N2.out.inside)
  have S3 := Lib.hid (Tr.inT_below S2.out hb3)
  clear hb3 a0 a1 a2 a3 a4 a5 b0 b1 b2 b3 B2 R2 N2 S2
  obtain ⟨⟨a0, a1, a2, a3⟩, a4, _, a5, _⟩ := node_facts N3.out
  obtain ⟨b0, b1, b2, b3⟩ := box_facts R3.out
  unfold ptr at a5
  have hK := IH.out w3.drew (Tr.inT_below S3.out (drew_below w3))
  unfold ptr vB at hK
  go_upto_region 13 with fail
  go_region_with (go_at_call 45; refine hK.mono ?_; rintro e w4 ⟨pl, pf, rfl, hi, hnd, hsub, hch⟩; have N4 := Ch.row hch (show IsRow w3.drew p _ _ from N3.out) HP.out; obtain ⟨_, _, _, c5, _⟩ := node_facts N4; have f5 := N4.open_ 6; obtain ⟨r1, hr1⟩ : ∃ r, (Tr.ins b pl pf nilS s).blk = r := ⟨_, rfl⟩; obtain ⟨r2, hr2⟩ : ∃ r, Tr.at_ b (Tr.ins b pl pf nilS s) = r := ⟨_, rfl⟩; rw [hr1, hr2]; unfold ptr)
  all_goals
    have R4 := Ch.row hch (show IsRow w3.drew w.heap.size _ _ from R3.out) (fun h => Nat.lt_irrefl _ (Tr.inT_lt HS.out _ h))
    obtain ⟨w5, hw5⟩ : ∃ w5, w4.setCell ⟨p, 6, none⟩ (.pointer (some ⟨r1, 0, none⟩)) = w5 := ⟨_, rfl⟩
    have N5 := N4.put 6 (.pointer (some ⟨r1, 0, none⟩))
    have R5 := R4.putOther (p := ⟨p, 6, none⟩) (fun e => by have h1 := HRW.out.inside; have e' : w.heap.size = p := e; omega) (.pointer (some ⟨r1, 0, none⟩))
    rw [hw5] at N5 R5 ⊢
    have N5' : IsRow w5 p 72 (nodeC x f o (ptr r1) nilS) := by simpa [nodeC, ptr] using N5
    have HE := Lib.hid (fun w6 (hb6 : Below w5.heap.size w5 w6) => fork_end (m := hull x b) (i := 6) (u := ptr r1) (l' := o) (r' := ptr r1) B3.out hi hsub (show Ch (· ∈ s.fp) w3 w4 from ⟨hch.os, hch.tape, hch.output, hch.size, hch.block⟩) HP.out HRW.out.inside N4 rfl (by rw [show w4.setCell ⟨p, 6, none⟩ (ptr r1) = w5 from hw5]; exact hb6))
    have HNI := Lib.hid hnd
    have HR := Lib.hid (And.intro hr1 hr2)
    clear hch hi hnd hsub N4 R4 N5 hw5 c5 f5 hr1 hr2 hK a0 a1 a2 a3 a4 a5 b0 b1 b2 b3
    obtain ⟨⟨a0, a1, a2, a3⟩, _, _, _, _⟩ := node_facts N5'
    obtain ⟨b0, b1, b2, b3⟩ := box_facts R5
    have N5 := Lib.hid N5'
    clear N5' R5
    have K1 := around_any x b w5.drew
    obtain ⟨m, hm⟩ : ∃ m, hull x b = m := ⟨_, rfl⟩
    rw [hm] at K1 HE ⊢
    unfold vB at K1
    have HM := Lib.hid hm
    clear hm
    go_upto_region 14 with fail
    go_region_with (go_at_call 53; refine K1.mono ?_; rintro e w6 ⟨rfl, hb6⟩; have hb6' := (drew_below w5).trans hb6; have N6 := N5.out.below hb6' N5.out.inside; obtain ⟨⟨c0, c1, c2, c3⟩, _, _, _, _⟩ := node_facts N6; have f0 := N6.open_ 0; have f1 := N6.open_ 1; have f2 := N6.open_ 2; have f3 := N6.open_ 3)
    all_goals
      have hfin := Lib.hid (HE.out w6 hb6')
      clear HE hb6 hb6' N6 N5 c0 c1 c2 c3 f0 f1 f2 f3 a0 a1 a2 a3 b0 b1 b2 b3 K1
      go_wp2
      go_ret2
      exact ⟨pl, pf, by rw [HR.out.2]; rfl, hfin.out.2.1, HNI.out, hfin.out.2.2.1, hfin.out.2.2.2, by rw [if_neg (by decide), HR.out.1, HM.out]; exact hfin.out.1⟩
end Go.Proofs.Yteghhfkllclghaa.Ix
