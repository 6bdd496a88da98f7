/- index: with: a box is added to a tree. -/
import Derived.Test.YteghhfkllclghaaIxMem
import Derived.BigQuiet
import Derived.Deep.CutRange
import Derived.Deep.RegionHeld3
namespace Go.Proofs.Yteghhfkllclghaa.Ix
open Go.RowKit Go.Sort
/-- the eight cells of two boxes. -/
theorem two_boxes {w w' : World} {p g N : Nat} {x b : Bx} (hb : Below N w w') (hp : p < N) (hg : g < N)
    (h : w.cell? ⟨p, 0, none⟩ = some (.int .i64 x.a) ∧ w.cell? ⟨p, 1, none⟩ = some (.int .i64 x.b) ∧ w.cell? ⟨p, 2, none⟩ = some (.int .i64 x.c) ∧ w.cell? ⟨p, 3, none⟩ = some (.int .i64 x.d) ∧
      w.cell? ⟨g, 0, none⟩ = some (.int .i64 b.a) ∧ w.cell? ⟨g, 1, none⟩ = some (.int .i64 b.b) ∧ w.cell? ⟨g, 2, none⟩ = some (.int .i64 b.c) ∧ w.cell? ⟨g, 3, none⟩ = some (.int .i64 b.d)) :
    w'.cell? ⟨p, 0, none⟩ = some (.int .i64 x.a) ∧ w'.cell? ⟨p, 1, none⟩ = some (.int .i64 x.b) ∧ w'.cell? ⟨p, 2, none⟩ = some (.int .i64 x.c) ∧ w'.cell? ⟨p, 3, none⟩ = some (.int .i64 x.d) ∧
      w'.cell? ⟨g, 0, none⟩ = some (.int .i64 b.a) ∧ w'.cell? ⟨g, 1, none⟩ = some (.int .i64 b.b) ∧ w'.cell? ⟨g, 2, none⟩ = some (.int .i64 b.c) ∧ w'.cell? ⟨g, 3, none⟩ = some (.int .i64 b.d) := by
  have c : ∀ q : Addr, q.block < N → w'.cell? q = w.cell? q := fun q hq => hb.cell hq
  rw [c _ hp, c _ hp, c _ hp, c _ hp, c _ hg, c _ hg, c _ hg, c _ hg]
  exact h
theorem digit_at {b : Bx} (hv : validB b = true) (i : Nat) (hi : i < 128) {k : Nat} (hk : dig b i = k) (w : World) :
    Calls Try.prog 54 #[.agg #[.int .i64 b.a, .int .i64 b.b, .int .i64 b.c, .int .i64 b.d], .int .i64 i] w fun e w' => e = .returned (.int .i64 k) ∧ Below w.heap.size w w' := by
  rw [← hk]
  exact digit_any hv i hi w
/-- what with does. -/
def WithQ (b : Bx) (t : Tr Value) (w : World) (e : Ending) (w' : World) : Prop :=
  ∃ pl pf, e = .returned (.tuple #[ptr (Tr.ins b pl pf nilS t).blk, ptr (Tr.at_ b (Tr.ins b pl pf nilS t))]) ∧ (Tr.ins b pl pf nilS t).inT w' ∧ (Tr.ins b pl pf nilS t).fp.Nodup ∧
    (∀ k ∈ (Tr.ins b pl pf nilS t).fp, k ∈ t.fp ∨ w.heap.size ≤ k) ∧ Ch (· ∈ t.fp) w w'
theorem join_mem {b : Bx} {t : Tr Value} {w w5 W9 : World} {g q d : Nat} {m : Bx} {k0 k1 : Value} (B5 : Below w.heap.size w w5) (H9 : Below q w5 W9) (hwq : w.heap.size < q) (hwg : w.heap.size ≤ g) (hgq : g < q) (ht : t.inT w)
    (L5 : IsRow w5 g 72 (nodeC b 128 nilP nilP nilS)) (Q9 : IsRow W9 q 72 (nodeC m d k0 k1 nilS)) (hm : hull t.box b = m) (hd : difN t.box b = d)
    (hk : (dig b d = 0 ∧ k0 = ptr g ∧ k1 = ptr t.blk) ∨ (dig b d ≠ 0 ∧ k0 = ptr t.blk ∧ k1 = ptr g)) :
    (Tr.join b g q nilS t).blk = q ∧ (Tr.join b g q nilS t).inT W9 ∧ Ch (fun _ => False) w W9 := by
  have L9 : IsRow W9 g 72 (nodeC b 128 nilP nilP nilS) := L5.below H9 hgq
  have T9 : t.inT W9 := Tr.inT_keep ht fun k hk => by
    have := Tr.inT_lt ht k hk
    exact (H9.block k (by omega)).trans (B5.block k this)
  have C9 : Ch (fun _ => False) w W9 := Ch.of_below (B5.trans (H9.mono (Nat.le_of_lt hwq)))
  subst hd hm
  unfold Tr.join
  rcases hk with ⟨h, rfl, rfl⟩ | ⟨h, rfl, rfl⟩
  · rw [if_pos h]
    refine ⟨rfl, ⟨?_, ⟨L9, OwnS.nil _⟩, T9⟩, C9⟩
    rw [hull_comm]
    exact Q9
  · rw [if_neg h]
    exact ⟨rfl, ⟨Q9, T9, ⟨L9, OwnS.nil _⟩⟩, C9⟩
set_option maxRecDepth 100000 in
set_option maxHeartbeats 4000000 in
theorem with_join {b : Bx} (hb : validB b = true) (t : Tr Value) (w : World) (ht : t.inT w) (hn : t.fp.Nodup) (ho : t.ok) (hd : difN t.box b < t.fk) :
    Calls Try.prog 45 #[ptr t.blk, vB b] w fun e w' => ∃ pl pf, e = .returned (.tuple #[ptr (Tr.join b pl pf nilS t).blk, ptr pl]) ∧ (Tr.join b pl pf nilS t).inT w' ∧ w.heap.size ≤ pl ∧ w.heap.size ≤ pf ∧ pl ≠ pf ∧ Ch (fun _ => False) w w' := by
  have HT := Lib.hid ht
  have ho' := Lib.hid ho
  have HN := Lib.hid hn
  have HV := Lib.hid (Tr.ok_valid ho).1
  have HBV := Lib.hid hb
  obtain ⟨W, hW, hB, hR⟩ := box_row w 26 b
  have HW := Lib.hid hW
  have B0 := Lib.hid hB
  have R0 := Lib.hid hR
  have T0 := Lib.hid (Tr.inT_below ht hB)
  obtain ⟨⟨a0, a1, a2, a3⟩, a4, _, _, _⟩ := node_facts (Tr.inT_row T0.out)
  obtain ⟨b0, b1, b2, b3⟩ := box_facts hR
  obtain ⟨x, hx⟩ : ∃ x, t.box = x := ⟨_, rfl⟩
  obtain ⟨p, hp⟩ : ∃ p, t.blk = p := ⟨_, rfl⟩
  obtain ⟨f, hf⟩ : ∃ f, t.fk = f := ⟨_, rfl⟩
  have HX := Lib.hid hx
  have HP := Lib.hid hp
  have HF := Lib.hid hf
  rw [hx, hp] at a0 a1 a2 a3
  rw [hp, hf] at a4
  rw [hx] at HV hd
  rw [hf] at hd
  rw [hp]
  have hdi : ((difN x b : Nat) : Int) < (f : Int) := by omega
  have hdf := Lib.hid hd
  have g0 := cell_regrown a0
  have g1 := cell_regrown a1
  have g2 := cell_regrown a2
  have g3 := cell_regrown a3
  have k0 := cell_regrown b0
  have k1 := cell_regrown b1
  have k2 := cell_regrown b2
  have k3 := cell_regrown b3
  obtain ⟨d, hdd⟩ : ∃ d, difN x b = d := ⟨_, rfl⟩
  have q1 := (differ_any HV.out HBV.out).quiet W
  have HD := Lib.hid hdd
  rw [hdd] at q1 hdi
  clear hW hB hR ht hn ho hx hp hf hd hdd
  unfold ptr vB
  unfold vB at q1
  unfold cB at HW
  go_enter Try.func45, Try.ntmps45
  go_wp2_with fail
  rw [HW.out]
  refine wp_region_quiet_below (by kernel_rfl) (by kernel_rfl) ?_
  repeat (go_big_quiet_step (first | with_reducible exact q1 _ _))
  refine wpQuiet_nil ?_
  intro _ hw'
  obtain ⟨⟨dq, osq⟩, hw''⟩ := hw'
  subst hw''
  have hb2 := below_regrown W dq osq
  clear g0 g1 g2 g3 k0 k1 k2 k3 q1
  generalize grow (redrawn W dq) osq = w2 at *
  have B2 := Lib.hid (B0.out.trans (hb2.mono B0.out.size))
  have R2 := Lib.hid (R0.out.below hb2 R0.out.inside)
  have T2 := Lib.hid (Tr.inT_below T0.out hb2)
  clear hb2 a0 a1 a2 a3 a4 b0 b1 b2 b3 HW B0 R0 T0
  have hrow := Tr.inT_row T2.out
  rw [HX.out, HP.out, HF.out] at hrow
  obtain ⟨⟨a0, a1, a2, a3⟩, a4, _, _, _⟩ := node_facts hrow
  obtain ⟨b0, b1, b2, b3⟩ := box_facts R2.out
  have hpl := hrow.inside
  have hgl := R2.out.inside
  clear hrow
  go_upto_region 7 with fail
  obtain ⟨w3, hw3⟩ : ∃ w3, w2.alloc (.cells #[.int .i64 b.a, .int .i64 b.b, .int .i64 b.c, .int .i64 b.d, .int .i64 128, .pointer none, .pointer none, .slice none 0 0] 72) = w3 := ⟨_, rfl⟩
  have hb3 : Below w2.heap.size w2 w3 := hw3 ▸ alloc1 _ _
  have B3 := Lib.hid (B2.out.trans (hb3.mono B2.out.size))
  have R3 := Lib.hid (R2.out.below hb3 R2.out.inside)
  have T3 := Lib.hid (Tr.inT_below T2.out hb3)
  have L3 := Lib.hid (show IsRow w3 w2.heap.size 72 (nodeC b 128 nilP nilP nilS) from hw3 ▸ IsRow.made _ _ _)
  have c8 := two_boxes hb3 hpl hgl ⟨a0, a1, a2, a3, b0, b1, b2, b3⟩
  have hpl3 : p < w3.heap.size := Nat.lt_of_lt_of_le hpl hb3.size
  have hgl3 : w.heap.size < w3.heap.size := Nat.lt_of_lt_of_le hgl hb3.size
  have hpw : w.heap.size ≤ w2.heap.size := B2.out.size
  rw [hw3]
  obtain ⟨g, hg⟩ : ∃ g, w2.heap.size = g := ⟨_, rfl⟩
  rw [hg] at L3 hpw ⊢
  clear hw3 hb3 hg B2 R2 T2 a0 a1 a2 a3 a4 b0 b1 b2 b3 hpl hgl hdi
  have KG := Lib.hid (fun (wy : World) (h : Below w3.heap.size w3 wy) => two_boxes h hpl3 hgl3 c8)
  obtain ⟨a0, a1, a2, a3, b0, b1, b2, b3⟩ := c8
  obtain ⟨m, hm⟩ : ∃ m, hull x b = m := ⟨_, rfl⟩
  have K1 := around_any x b w3.drew
  rw [hm] at K1
  unfold vB at K1
  have HM := Lib.hid hm
  clear hm
  go_region_held3 (fun w' => w'.cell? ⟨p, 0, none⟩ = some (.int .i64 x.a) ∧ w'.cell? ⟨p, 1, none⟩ = some (.int .i64 x.b) ∧ w'.cell? ⟨p, 2, none⟩ = some (.int .i64 x.c) ∧ w'.cell? ⟨p, 3, none⟩ = some (.int .i64 x.d) ∧
      w'.cell? ⟨w.heap.size, 0, none⟩ = some (.int .i64 b.a) ∧ w'.cell? ⟨w.heap.size, 1, none⟩ = some (.int .i64 b.b) ∧ w'.cell? ⟨w.heap.size, 2, none⟩ = some (.int .i64 b.c) ∧ w'.cell? ⟨w.heap.size, 3, none⟩ = some (.int .i64 b.d)) (first | exact KS | go_keep)
    (first | (go_at_call 53; (with_reducible refine K1.mono ?_); rintro e w4 ⟨rfl, hb4⟩; have G4 := Lib.hid ((drew_below w3).trans hb4); have KS := KG.out w4 G4.out))
  obtain ⟨w5, hw5⟩ : ∃ w5, w4.alloc (.cells #[.int .i64 m.a, .int .i64 m.b, .int .i64 m.c, .int .i64 m.d, .int .i64 d, .pointer none, .pointer none, .slice none 0 0] 72) = w5 := ⟨_, rfl⟩
  have hb5 : Below w3.heap.size w3 w5 := hw5 ▸ G4.out.alloc G4.out.size _
  have B5 := Lib.hid (B3.out.trans (hb5.mono B3.out.size))
  have T5 := Lib.hid (Tr.inT_below T3.out hb5)
  have L5 := Lib.hid (L3.out.below hb5 L3.out.inside)
  have Q5 := Lib.hid (show IsRow w5 w4.heap.size 72 (nodeC m d nilP nilP nilS) from hw5 ▸ IsRow.made _ _ _)
  have c8 := two_boxes hb5 hpl3 hgl3 ⟨a0, a1, a2, a3, b0, b1, b2, b3⟩
  have hpq : p < w4.heap.size := Nat.lt_of_lt_of_le hpl3 G4.out.size
  have hwq : w.heap.size < w4.heap.size := Nat.lt_of_lt_of_le hgl3 G4.out.size
  have hgq : g < w4.heap.size := Nat.lt_of_lt_of_le L3.out.inside G4.out.size
  rw [hw5]
  obtain ⟨q, hq⟩ : ∃ q, w4.heap.size = q := ⟨_, rfl⟩
  rw [hq] at Q5 hgq hpq hwq ⊢
  clear hw5 hb5 hq KS KG K1 G4 B3 R3 T3 L3 a0 a1 a2 a3 b0 b1 b2 b3
  have hq5 : q ≤ w5.heap.size := Nat.le_of_lt Q5.out.inside
  have KG := Lib.hid (fun (wy : World) (h : Below q w5 wy) => two_boxes h hpq hwq c8)
  obtain ⟨a0, a1, a2, a3, b0, b1, b2, b3⟩ := c8
  have D5 := Lib.hid ((drew_below w5).mono hq5)
  have hd128 : d < 128 := by have := Tr.fk_le ho'.out; rw [HF.out] at this; have h2 := hdf.out; rw [HD.out] at h2; omega
  have hne := dif_ne (p := x) (q := b) (by rw [HD.out]; exact hd128)
  rw [HD.out] at hne
  have t1 := dig_two x d
  have t2 := dig_two b d
  have hcase : (dig x d = 1 ∧ dig b d = 0) ∨ (dig x d = 0 ∧ dig b d = 1) := by omega
  clear hne t1 t2
  rcases hcase with ⟨s1, s2⟩ | ⟨s1, s2⟩
  · have S1 := Lib.hid s1
    have S2 := Lib.hid s2
    clear s1 s2
    have K1 := digit_at HV.out d hd128 S1.out w5.drew
    have HD128 := Lib.hid hd128
    go_upto_region 8 with fail
    go_region_held3 (fun w' => w'.cell? ⟨p, 0, none⟩ = some (.int .i64 x.a) ∧ w'.cell? ⟨p, 1, none⟩ = some (.int .i64 x.b) ∧ w'.cell? ⟨p, 2, none⟩ = some (.int .i64 x.c) ∧ w'.cell? ⟨p, 3, none⟩ = some (.int .i64 x.d) ∧
        w'.cell? ⟨w.heap.size, 0, none⟩ = some (.int .i64 b.a) ∧ w'.cell? ⟨w.heap.size, 1, none⟩ = some (.int .i64 b.b) ∧ w'.cell? ⟨w.heap.size, 2, none⟩ = some (.int .i64 b.c) ∧ w'.cell? ⟨w.heap.size, 3, none⟩ = some (.int .i64 b.d)) (first | exact KS | exact KG.out _ (G2.out.setCell (Nat.le_refl q) _) | exact KG.out _ ((G2.out.setCell (Nat.le_refl q) _).setCell (Nat.le_refl q) _) | go_keep)
      (first
        | (go_at_call 54; have K2 := digit_at HBV.out d HD128.out S2.out v1; (with_reducible refine K2.mono ?_); rintro e v2 ⟨rfl, hb⟩; have hb5 := H1.out.trans (hb.mono H1.out.size); have G2 := Lib.hid (hb5.mono hq5); have KS := KG.out v2 G2.out; have RR := Q5.out.below hb5 Q5.out.inside; obtain ⟨_, _, r5, r6, _⟩ := node_facts RR; have f5 := RR.open_ 5; have f6 := RR.open_ 6)
        | (go_at_call 54; (with_reducible refine K1.mono ?_); rintro e v1 ⟨rfl, hb⟩; have H1 := Lib.hid ((drew_below w5).trans hb); have KS := KG.out v1 (H1.out.mono hq5)))
    have Q9 := (RR.put 6 (.pointer (some ⟨p, 0, none⟩))).put 5 (.pointer (some ⟨g, 0, none⟩))
    have H9 := (G2.out.setCell (p := ⟨q, 6, none⟩) (Nat.le_refl q) (.pointer (some ⟨p, 0, none⟩))).setCell (p := ⟨q, 5, none⟩) (Nat.le_refl q) (.pointer (some ⟨g, 0, none⟩))
    have hfin := Lib.hid (join_mem (k0 := ptr g) (k1 := ptr p) B5.out H9 hwq hpw hgq HT.out L5.out Q9 (by rw [HX.out]; exact HM.out) (by rw [HX.out]; exact HD.out) (.inl ⟨S2.out, rfl, by rw [HP.out]⟩))
    clear Q9 H9
    go_wp2
    go_ret2
    exact ⟨g, q, by rw [hfin.out.1]; rfl, hfin.out.2.1, hpw, Nat.le_of_lt hwq, Nat.ne_of_lt hgq, hfin.out.2.2⟩
  · have S1 := Lib.hid s1
    have S2 := Lib.hid s2
    clear s1 s2
    have K1 := digit_at HV.out d hd128 S1.out w5.drew
    have HD128 := Lib.hid hd128
    go_upto_region 8 with fail
    go_region_held3 (fun w' => w'.cell? ⟨p, 0, none⟩ = some (.int .i64 x.a) ∧ w'.cell? ⟨p, 1, none⟩ = some (.int .i64 x.b) ∧ w'.cell? ⟨p, 2, none⟩ = some (.int .i64 x.c) ∧ w'.cell? ⟨p, 3, none⟩ = some (.int .i64 x.d) ∧
        w'.cell? ⟨w.heap.size, 0, none⟩ = some (.int .i64 b.a) ∧ w'.cell? ⟨w.heap.size, 1, none⟩ = some (.int .i64 b.b) ∧ w'.cell? ⟨w.heap.size, 2, none⟩ = some (.int .i64 b.c) ∧ w'.cell? ⟨w.heap.size, 3, none⟩ = some (.int .i64 b.d)) (first | exact KS | exact KG.out _ (G2.out.setCell (Nat.le_refl q) _) | exact KG.out _ ((G2.out.setCell (Nat.le_refl q) _).setCell (Nat.le_refl q) _) | go_keep)
      (first
        | (go_at_call 54; have K2 := digit_at HBV.out d HD128.out S2.out v1; (with_reducible refine K2.mono ?_); rintro e v2 ⟨rfl, hb⟩; have hb5 := H1.out.trans (hb.mono H1.out.size); have G2 := Lib.hid (hb5.mono hq5); have KS := KG.out v2 G2.out; have RR := Q5.out.below hb5 Q5.out.inside; obtain ⟨_, _, r5, r6, _⟩ := node_facts RR; have f5 := RR.open_ 5; have f6 := RR.open_ 6)
        | (go_at_call 54; (with_reducible refine K1.mono ?_); rintro e v1 ⟨rfl, hb⟩; have H1 := Lib.hid ((drew_below w5).trans hb); have KS := KG.out v1 (H1.out.mono hq5)))
    have Q9 := (RR.put 5 (.pointer (some ⟨p, 0, none⟩))).put 6 (.pointer (some ⟨g, 0, none⟩))
    have H9 := (G2.out.setCell (p := ⟨q, 5, none⟩) (Nat.le_refl q) (.pointer (some ⟨p, 0, none⟩))).setCell (p := ⟨q, 6, none⟩) (Nat.le_refl q) (.pointer (some ⟨g, 0, none⟩))
    have hfin := Lib.hid (join_mem (k0 := ptr p) (k1 := ptr g) B5.out H9 hwq hpw hgq HT.out L5.out Q9 (by rw [HX.out]; exact HM.out) (by rw [HX.out]; exact HD.out) (.inr ⟨by rw [S2.out]; decide, by rw [HP.out], rfl⟩))
    clear Q9 H9
    go_wp2
    go_ret2
    exact ⟨g, q, by rw [hfin.out.1]; rfl, hfin.out.2.1, hpw, Nat.le_of_lt hwq, Nat.ne_of_lt hgq, hfin.out.2.2⟩
end Go.Proofs.Yteghhfkllclghaa.Ix
