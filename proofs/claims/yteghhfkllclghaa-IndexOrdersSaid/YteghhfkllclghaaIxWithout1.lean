/- index: without, at a fork, on the other side. -/
import Derived.Test.YteghhfkllclghaaIxWithout
namespace Go.Proofs.Yteghhfkllclghaa.Ix
open Go.RowKit Go.Sort
set_option maxRecDepth 100000 in
set_option maxHeartbeats 4000000 in
theorem out_fork1 {b : Bx} (hb : validB b = true) (p f : Nat) (x : Bx) (s o : Tr Value) (w : World) (hrow : IsRow w p 72 (nodeC x f (ptr o.blk) (ptr s.blk) nilS)) (hs : s.inT w) (hq : o.inT w) (hp : p ∉ s.fp) (hpo : p ∉ o.fp) (hso : ∀ i ∈ s.fp, i ∉ o.fp)
    (hf : f < 128) (hk : dig b f = 1) (ih : ∀ w, s.inT w → Calls Try.prog 47 #[ptr s.blk, vB b] w (OutQ b s w)) :
    Calls Try.prog 47 #[ptr p, vB b] w (OutF b p f s o 1 w) := by
  have HBV := Lib.hid hb
  have HP := Lib.hid hp
  have HPO := Lib.hid hpo
  have HSO := Lib.hid hso
  have HS := Lib.hid hs
  have IH := Lib.hid ih
  have HK := Lib.hid hk
  have HF := Lib.hid hf
  have HQ := Lib.hid hq
  have HRW := Lib.hid hrow
  obtain ⟨W, hW, hB, hR⟩ := box_row w 26 b
  have HW := Lib.hid hW
  have B2 := Lib.hid hB
  have R2 := Lib.hid hR
  have N2 := Lib.hid (hrow.below hB hrow.inside)
  have S2 := Lib.hid (Tr.inT_below hs hB)
  have O2 := Lib.hid (Tr.inT_below hq hB)
  have hfi : ((f : Nat) : Int) ≠ 128 := by omega
  clear hW hB hR hp hs ih hb hk hrow hq hpo hso
  obtain ⟨⟨a0, a1, a2, a3⟩, a4, _, a5, _⟩ := node_facts N2.out
  obtain ⟨b0, b1, b2, b3⟩ := box_facts R2.out
  unfold ptr vB
  unfold cB at HW
  go_enter Try.func47, Try.ntmps47
  go_upto_region 1 with fail
  rw [HW.out]
  go_upto_region 3 with fail
  have g4 := cell_regrown a4
  have k0 := cell_regrown b0
  have k1 := cell_regrown b1
  have k2 := cell_regrown b2
  have k3 := cell_regrown b3
  have q1 := quiet_of (w := W) (fun w' _ => digit_at HBV.out f HF.out HK.out w')
  refine wp_region_quiet_below (by kernel_rfl) (by kernel_rfl) ?_
  repeat (go_big_quiet_step (first | with_reducible exact q1 _ _))
  refine wpQuiet_nil ?_
  intro _ hw'
  obtain ⟨⟨dq2, osq2⟩, hw''⟩ := hw'
  subst hw''
  have hb3 := below_regrown W dq2 osq2
  clear g4 k0 k1 k2 k3 q1
  generalize grow (redrawn W dq2) osq2 = w3 at *
  have B3 := Lib.hid (B2.out.trans (hb3.mono B2.out.size))
  have R3 := Lib.hid (R2.out.below hb3 R2.out.inside)
  have N3 := Lib.hid (N2.out.below hb3 N2.out.inside)
  have S3 := Lib.hid (Tr.inT_below S2.out hb3)
  have O3 := Lib.hid (Tr.inT_below O2.out hb3)
  clear hb3 a0 a1 a2 a3 a4 a5 b0 b1 b2 b3 B2 R2 N2 S2 O2
  obtain ⟨⟨a0, a1, a2, a3⟩, a4, _, a5, _⟩ := node_facts N3.out
  obtain ⟨b0, b1, b2, b3⟩ := box_facts R3.out
  unfold ptr at a5
  have hK := IH.out w3.drew (Tr.inT_below S3.out (drew_below w3))
  unfold ptr vB at hK
  cases hd : Tr.del b s with
  | none =>
    have HD := Lib.hid hd
    unfold OutQ at hK
    rw [hd] at hK
    clear hd
    go_upto_region 4 with fail
    go_region_with (go_at_call 47; refine hK.mono ?_; rintro e w4 ⟨hch, rfl⟩; have N4 := Ch.row hch (show IsRow w3.drew p _ _ from N3.out) HP.out; obtain ⟨_, _, c6, c5, _⟩ := node_facts N4; have f5 := N4.open_ 6; unfold nilP; unfold ptr at c6)
    all_goals
      have C3 := Lib.hid ((Ch.of_below B3.out (S := fun i => i = p ∨ i ∈ s.fp)).trans (T := (· ∈ s.fp)) ⟨hch.os, hch.tape, hch.output, hch.size, hch.block⟩ (fun i h _ => .inr h))
      have C5 := Lib.hid (C3.out.setCell (p := ⟨p, 6, none⟩) (fun _ => .inl rfl) (.pointer none))
      have N5 := N4.put 6 (.pointer none)
      obtain ⟨w5, hw5⟩ : ∃ w5, w4.setCell ⟨p, 6, none⟩ (.pointer none) = w5 := ⟨_, rfl⟩
      rw [hw5] at C5 N5 ⊢
      have d5 : w5.cell? ⟨p, 6, none⟩ = some (.pointer none) := N5.get 6
      have d6 : w5.cell? ⟨p, 5, none⟩ = some (.pointer (some ⟨o.blk, 0, none⟩)) := N5.get 5
      clear hch C3 N4 N5 hw5 c5 c6 f5 hK
      go_wp2
      go_ret
      refine ⟨C5.out, ?_⟩
      rw [HD.out]
      rfl
  | some s' =>
    have HD := Lib.hid hd
    unfold OutQ at hK
    rw [hd] at hK
    clear hd
    go_upto_region 4 with fail
    go_region_with (go_at_call 47; refine hK.mono ?_; rintro e w4 ⟨hch, rfl, hi, hnd, hsub⟩; have N4 := Ch.row hch (show IsRow w3.drew p _ _ from N3.out) HP.out; obtain ⟨_, _, c6, c5, _⟩ := node_facts N4; have f5 := N4.open_ 6; obtain ⟨r1, hr1⟩ : ∃ r, s'.blk = r := ⟨_, rfl⟩; rw [hr1]; unfold ptr; unfold ptr at c6)
    all_goals
      have O4 := Tr.inT_ch (show o.inT w3.drew from Tr.inT_below O3.out (drew_below w3)) hch (fun k hk h => HSO.out k h hk)
      obtain ⟨w5, hw5⟩ : ∃ w5, w4.setCell ⟨p, 6, none⟩ (.pointer (some ⟨r1, 0, none⟩)) = w5 := ⟨_, rfl⟩
      have N5 := N4.put 6 (.pointer (some ⟨r1, 0, none⟩))
      have pn : p ∉ s'.fp := fun h => HP.out (hsub p h)
      have S5 : s'.inT w5 := hw5 ▸ Tr.inT_keep hi fun k hk => Below.heap_setCell w4 _ _ k fun (e : k = p) => pn (e ▸ hk)
      have O5 : o.inT w5 := hw5 ▸ Tr.inT_keep O4 fun k hk => Below.heap_setCell w4 _ _ k fun (e : k = p) => HPO.out (e ▸ hk)
      rw [hw5] at N5 ⊢
      have N5' : IsRow w5 p 72 (nodeC x f (ptr o.blk) (ptr r1) nilS) := by simpa [nodeC, ptr] using N5
      have HE := Lib.hid (fun w6 (hb6 : Below w5.heap.size w5 w6) => out_end (m := hull o.box s'.box) (i := 6) (u := ptr r1) (l' := ptr o.blk) (r' := ptr r1) B3.out hi hsub (show Ch (· ∈ s.fp) w3 w4 from ⟨hch.os, hch.tape, hch.output, hch.size, hch.block⟩) HP.out N4 rfl (by rw [show w4.setCell ⟨p, 6, none⟩ (ptr r1) = w5 from hw5]; exact hb6))
      have HNI := Lib.hid (And.intro hnd hsub)
      have rs := Tr.inT_row S5
      have ro := Tr.inT_row O5
      rw [hr1] at rs
      have HR := Lib.hid hr1
      obtain ⟨q1, hq1⟩ : ∃ q, o.blk = q := ⟨_, rfl⟩
      rw [hq1] at ro N5' HE
      obtain ⟨xs, hxs⟩ : ∃ z, s'.box = z := ⟨_, rfl⟩
      obtain ⟨xo, hxo⟩ : ∃ z, o.box = z := ⟨_, rfl⟩
      rw [hxs] at rs HE
      rw [hxo] at ro HE
      have HXS := Lib.hid hxs
      have HXO := Lib.hid hxo
      have HQ1 := Lib.hid hq1
      clear hch hi hnd hsub N4 N5 hw5 c5 c6 f5 hr1 hK a0 a1 a2 a3 a4 a5 b0 b1 b2 b3 S5 O5 O4 hq1 hxs hxo pn
      obtain ⟨_, _, d6, d5, _⟩ := node_facts N5'
      obtain ⟨⟨a0, a1, a2, a3⟩, _, _, _, _⟩ := node_facts ro
      obtain ⟨⟨b0, b1, b2, b3⟩, _, _, _, _⟩ := node_facts rs
      unfold ptr at d5 d6
      have N5 := Lib.hid N5'
      clear N5' rs ro
      have K1 := around_any xo xs w5.drew
      obtain ⟨m, hm⟩ : ∃ m, hull xo xs = m := ⟨_, rfl⟩
      rw [hm] at K1 HE
      unfold vB at K1
      have HM := Lib.hid hm
      clear hm
      go_upto_region 7 with fail
      go_region_with (go_at_call 53; refine K1.mono ?_; rintro e w6 ⟨rfl, hb6⟩; have hb6' := (drew_below w5).trans hb6; have N6 := N5.out.below hb6' N5.out.inside; obtain ⟨⟨c0, c1, c2, c3⟩, _, _, _, _⟩ := node_facts N6; have f0 := N6.open_ 0; have f1 := N6.open_ 1; have f2 := N6.open_ 2; have f3 := N6.open_ 3)
      all_goals
        have hfin := Lib.hid (HE.out w6 hb6')
        clear HE hb6 hb6' N6 N5 c0 c1 c2 c3 f0 f1 f2 f3 a0 a1 a2 a3 b0 b1 b2 b3 K1 d5 d6
        go_wp2
        go_ret
        refine ⟨hfin.out.2.2, ?_⟩
        rw [HD.out]
        exact ⟨rfl, hfin.out.2.1, HNI.out.1, HNI.out.2, by rw [if_neg (by decide), HR.out, HXS.out, HXO.out, HM.out, HQ1.out]; exact hfin.out.1⟩
end Go.Proofs.Yteghhfkllclghaa.Ix
