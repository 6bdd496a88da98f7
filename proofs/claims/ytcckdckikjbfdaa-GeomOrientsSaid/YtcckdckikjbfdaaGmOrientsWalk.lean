/- P3.2, GeomOrients: its walk. -/
import Derived.Test.YtcckdckikjbfdaaGmSharesWalk
import Derived.Deep.RegionHeld3
namespace Go.Proofs.Ytcckdckikjbfdaa.Geo
open Go.RowKit Go.Sort
theorem add_near {p d : Pt} (hp : nearB p = true) (hd : nearB d = true) : wrap64 (p.x + d.x) = p.x + d.x ∧ wrap64 (p.y + d.y) = p.y + d.y := by
  rw [nearB_iff] at hp hd
  unfold wrap64
  omega
set_option maxRecDepth 100000 in
set_option maxHeartbeats 400000 in
theorem moved_any (p d : Pt) (hp : nearB p = true) (hd : nearB d = true) : Answers Try.prog 26 #[.agg #[.int .i64 p.x, .int .i64 p.y], .agg #[.int .i64 d.x, .int .i64 d.y]] (.agg #[.int .i64 (movedN p d).x, .int .i64 (movedN p d).y]) := by
  intro w
  have W1 := Lib.hid (add_near hp hd).1
  have W2 := Lib.hid (add_near hp hd).2
  go_enter Try.func26, Try.ntmps26
  go_wp2
  rw [W1.out, W2.out]
  refine bodyPost_ret (results_cell_row rfl _ _ (w.heap.size + 1 + 1) _ _ (0, 0) _ rfl (row_at (by simp) (IsRow.made ((w.alloc _).alloc _) 23 #[.int .i64 (p.x + d.x), .int .i64 (p.y + d.y)])) Try.underlying23 rfl infoPt) rfl ?_
  exact ⟨rfl, alloc3 _ _ _ _⟩
theorem moved_of {p d x : Pt} (hp : nearB p = true) (hd : nearB d = true) (hx : movedN p d = x) : Answers Try.prog 26 #[.agg #[.int .i64 p.x, .int .i64 p.y], .agg #[.int .i64 d.x, .int .i64 d.y]] (.agg #[.int .i64 x.x, .int .i64 x.y]) := hx ▸ moved_any p d hp hd
theorem name_region {P : Program} {md : Region.Mode} {ops : Array Oper} {Q : Exit → Act → World → Prop} {S : World → Prop} {n : Nat} {l : Array Bool} {a : Act} {w : World}
    (h : ∀ G : Nat → Array Bool → Act → World → Prop, (∀ n l a w, wpAnyH P md ops Q S n l a w ↔ G n l a w) → G n l a w) : wpAnyH P md ops Q S n l a w := h _ (fun _ _ _ _ => Iff.rfl)
theorem recast {G : Nat → Array Bool → Act → World → Prop} {n n' : Nat} {l l' : Array Bool} {a : Act} {w : World} (hn : n' = n) (hl : l' = l) (h : G n l a w) : G n' l' a w := by subst hn hl; exact h
theorem pts8 {w : World} {g1 g2 g3 g4 : Nat} {a b c d : Pt} (h1 : Has w g1 a) (h2 : Has w g2 b) (h3 : Has w g3 c) (h4 : Has w g4 d) :
    w.cell? ⟨g1, 0, none⟩ = some (.int .i64 a.x) ∧ w.cell? ⟨g1, 1, none⟩ = some (.int .i64 a.y) ∧ w.cell? ⟨g2, 0, none⟩ = some (.int .i64 b.x) ∧ w.cell? ⟨g2, 1, none⟩ = some (.int .i64 b.y) ∧
    w.cell? ⟨g3, 0, none⟩ = some (.int .i64 c.x) ∧ w.cell? ⟨g3, 1, none⟩ = some (.int .i64 c.y) ∧ w.cell? ⟨g4, 0, none⟩ = some (.int .i64 d.x) ∧ w.cell? ⟨g4, 1, none⟩ = some (.int .i64 d.y) :=
  ⟨h1.2.1, h1.2.2, h2.2.1, h2.2.2, h3.2.1, h3.2.2, h4.2.1, h4.2.2⟩
theorem row_facts2 {w : World} {g : Nat} {t : TypeId} {v0 v1 : Value} (h : IsRow w g t #[v0, v1]) :
    w.cell? ⟨g, 0, none⟩ = some v0 ∧ w.cell? ⟨g, 1, none⟩ = some v1 ∧ w.frozen? ⟨g, 0, none⟩ = false ∧ w.frozen? ⟨g, 1, none⟩ = false := ⟨h.get 0, h.get 1, h.open_ 0, h.open_ 1⟩
theorem has_row {w : World} {g : Nat} {t : TypeId} {a : Pt} (h : IsRow w g t #[.int .i64 a.x, .int .i64 a.y]) : Has w g a := ⟨h.inside, h.get 0, h.get 1⟩
theorem near_three {xa xb xc : Pt} {bb : Bool} {w : World} (h : (nearB xa && nearB xb && nearB xc) = bb) :
    Calls Try.prog 25 #[.slice (some ⟨w.heap.size, 0, none⟩) 3 3] (w.alloc (.cells #[.int .i64 xa.x, .int .i64 xa.y, .int .i64 xb.x, .int .i64 xb.y, .int .i64 xc.x, .int .i64 xc.y] 23)) fun e w' => e = .returned (.bool bb) ∧ Below w.heap.size w w' := by
  have := near_list [xa, xb, xc] 3 _ w.heap.size w rfl rfl (by simp) rfl
  rw [all3, h] at this
  exact this
theorem near_drew {xa xb xc : Pt} {bb : Bool} {w : World} (h : (nearB xa && nearB xb && nearB xc) = bb) :
    Calls Try.prog 25 #[.slice (some ⟨w.heap.size, 0, none⟩) 3 3] (w.alloc (.cells #[.int .i64 xa.x, .int .i64 xa.y, .int .i64 xb.x, .int .i64 xb.y, .int .i64 xc.x, .int .i64 xc.y] 23)).drew fun e w' => e = .returned (.bool bb) ∧ Below w.heap.size w w' := by
  have hr : IsRow (w.alloc (.cells #[.int .i64 xa.x, .int .i64 xa.y, .int .i64 xb.x, .int .i64 xb.y, .int .i64 xc.x, .int .i64 xc.y] 23)).drew w.heap.size 23 (flat [xa, xb, xc]).toArray := IsRow.made w 23 (flat [xa, xb, xc]).toArray
  have := near_any w.heap.size 3 [xa, xb, xc] _ hr (by simp)
  rw [all3, h] at this
  exact this.mono fun e w' ⟨he, hb⟩ => ⟨he, ((alloc1 w _).trans ((drew_below _).mono (by simp))).trans (hb.mono (by simp))⟩
theorem pts10 {w : World} {g1 g2 g3 g4 g5 : Nat} {a b c d e : Pt} (h1 : Has w g1 a) (h2 : Has w g2 b) (h3 : Has w g3 c) (h4 : Has w g4 d) (h5 : Has w g5 e) :
    w.cell? ⟨g1, 0, none⟩ = some (.int .i64 a.x) ∧ w.cell? ⟨g1, 1, none⟩ = some (.int .i64 a.y) ∧ w.cell? ⟨g2, 0, none⟩ = some (.int .i64 b.x) ∧ w.cell? ⟨g2, 1, none⟩ = some (.int .i64 b.y) ∧
    w.cell? ⟨g3, 0, none⟩ = some (.int .i64 c.x) ∧ w.cell? ⟨g3, 1, none⟩ = some (.int .i64 c.y) ∧ w.cell? ⟨g4, 0, none⟩ = some (.int .i64 d.x) ∧ w.cell? ⟨g4, 1, none⟩ = some (.int .i64 d.y) ∧
    w.cell? ⟨g5, 0, none⟩ = some (.int .i64 e.x) ∧ w.cell? ⟨g5, 1, none⟩ = some (.int .i64 e.y) :=
  ⟨h1.2.1, h1.2.2, h2.2.1, h2.2.2, h3.2.1, h3.2.2, h4.2.1, h4.2.2, h5.2.1, h5.2.2⟩
theorem points4 (w : World) (t : TypeId) (a b c d : Pt) : ∃ W, (((w.alloc (.cells #[.int .i64 a.x, .int .i64 a.y] t)).alloc (.cells #[.int .i64 b.x, .int .i64 b.y] t)).alloc (.cells #[.int .i64 c.x, .int .i64 c.y] t)).alloc (.cells #[.int .i64 d.x, .int .i64 d.y] t) = W ∧
    Below w.heap.size w W ∧ Has W w.heap.size a ∧ Has W (w.heap.size + 1) b ∧ Has W (w.heap.size + 1 + 1) c ∧ Has W (w.heap.size + 1 + 1 + 1) d := by
  obtain ⟨W, h1, h2, h3, h4, h5, h6⟩ := three w t a b c
  rw [h1]
  exact ⟨_, rfl, h3.alloc (by omega) _, h4.alloc _, h5.alloc _, h6.alloc _, by rw [← h2]; exact Has.made W t d⟩
set_option maxRecDepth 100000 in
set_option maxHeartbeats 4000000 in
theorem orients_any (a b c d : Pt) : Answers Try.prog 4 #[.agg #[.int .i64 a.x, .int .i64 a.y], .agg #[.int .i64 b.x, .int .i64 b.y], .agg #[.int .i64 c.x, .int .i64 c.y], .agg #[.int .i64 d.x, .int .i64 d.y]] (.bool true) := by
  intro w
  obtain ⟨W, hW, hB, hA, hBb, hC, hD⟩ := points4 w 23 a b c d
  have HW := Lib.hid hW
  have HB := Lib.hid hB
  clear hW hB
  go_enter Try.func4, Try.ntmps4
  go_wp2_with fail
  rw [HW.out]
  refine (head_any W).mono ?_
  rintro e w0 ⟨rfl, hb0⟩
  have HB0 := Lib.hid (HB.out.trans (hb0.mono HB.out.size))
  have A0 := Lib.hid (hA.below hb0)
  have B0 := Lib.hid (hBb.below hb0)
  have C0 := Lib.hid (hC.below hb0)
  have D0 := Lib.hid (hD.below hb0)
  clear hA hBb hC hD hb0 HB HW
  obtain ⟨a0, a1⟩ := has_facts A0.out
  obtain ⟨b0, b1⟩ := has_facts B0.out
  obtain ⟨c0, c1⟩ := has_facts C0.out
  obtain ⟨d0, d1⟩ := has_facts D0.out
  go_wp2_with fail
  refine (near_list [a, b, c, d] 4 _ _ w0 rfl rfl (by decide) rfl).mono ?_
  rw [all4]
  rintro e w1 ⟨rfl, hb1⟩
  have HB1 := Lib.hid (HB0.out.trans (hb1.mono HB0.out.size))
  have A1 := Lib.hid (A0.out.below hb1)
  have B1 := Lib.hid (B0.out.below hb1)
  have C1 := Lib.hid (C0.out.below hb1)
  have D1 := Lib.hid (D0.out.below hb1)
  clear hb1 a0 a1 b0 b1 c0 c1 d0 d1 A0 B0 C0 D0
  cases h1 : (nearB a && nearB b && nearB c && nearB d) with
  | false =>
    clear h1
    go_wp2
    go_ret
    exact ⟨rfl, HB1.out⟩
  | true =>
    obtain ⟨⟨⟨na, nb⟩, nc⟩, nd⟩ : ((nearB a = true ∧ nearB b = true) ∧ nearB c = true) ∧ nearB d = true := by simpa using h1
    clear h1
    obtain ⟨o, ho⟩ : ∃ o, sideN a b c = o := ⟨_, rfl⟩
    have O1 := Lib.hid (orient_near na nb nc ho)
    have O2 := Lib.hid (orient_near nb na nc ((side_swap1 a b c).trans (congrArg (fun x => -x) ho)))
    have O3 := Lib.hid (orient_near na nc nb ((side_swap2 a b c).trans (congrArg (fun x => -x) ho)))
    have O4 := Lib.hid (orient_near nb nc na ((side_cycle a b c).trans ho))
    have O5 := Lib.hid (orient_near na na nc (side_same1 a c))
    have O6 := Lib.hid (orient_near na nb nb (side_same2 a b))
    have HO := Lib.hid ho
    have hw : wrap64 (-(-o)) = o := by
      have := sgn_bound (crs a b c)
      rw [← ho, Int.neg_neg]
      unfold sideN wrap64
      omega
    rw [Int.neg_neg] at hw
    clear ho
    obtain ⟨a0, a1⟩ := has_facts A1.out
    obtain ⟨b0, b1⟩ := has_facts B1.out
    obtain ⟨c0, c1⟩ := has_facts C1.out
    go_wp2_with fail
    refine (O1.out _).mono ?_
    rintro e w2 ⟨rfl, hb2⟩
    have HB2 := Lib.hid (HB1.out.trans (hb2.mono HB1.out.size))
    have A2 := Lib.hid (A1.out.below hb2)
    have B2 := Lib.hid (B1.out.below hb2)
    have C2 := Lib.hid (C1.out.below hb2)
    have D2 := Lib.hid (D1.out.below hb2)
    clear hb2 a0 a1 b0 b1 c0 c1 A1 B1 C1 D1
    obtain ⟨a0, a1⟩ := has_facts A2.out
    obtain ⟨b0, b1⟩ := has_facts B2.out
    obtain ⟨c0, c1⟩ := has_facts C2.out
    go_upto_region 5 with fail
    go_cut [64] from 27 to 63 (fun s64 wx => s64 = .bool false ∧ Hid (Below w2.heap.size w2 wx))
    case first =>
      have B_1 : Hid (Below w2.heap.size w2 w2) := Below.refl _ _
      go_wp2_with fail
      refine (O2.out _).mono ?_
      rintro e x2 ⟨rfl, hbx⟩
      have B_2 := Lib.hid (B_1.out.trans (hbx.mono B_1.out.size))
      clear hbx a0 a1 b0 b1 c0 c1
      obtain ⟨a0, a1⟩ := has_facts (A2.out.below B_2.out)
      obtain ⟨b0, b1⟩ := has_facts (B2.out.below B_2.out)
      obtain ⟨c0, c1⟩ := has_facts (C2.out.below B_2.out)
      go_wp2_with fail
      refine (O3.out _).mono ?_
      rintro e x3 ⟨rfl, hbx⟩
      have B_3 := Lib.hid (B_2.out.trans (hbx.mono B_2.out.size))
      clear hbx a0 a1 b0 b1 c0 c1
      obtain ⟨a0, a1⟩ := has_facts (A2.out.below B_3.out)
      obtain ⟨b0, b1⟩ := has_facts (B2.out.below B_3.out)
      obtain ⟨c0, c1⟩ := has_facts (C2.out.below B_3.out)
      go_wp2_with fail
      refine (O4.out _).mono ?_
      rintro e x4 ⟨rfl, hbx⟩
      have B_4 := Lib.hid (B_3.out.trans (hbx.mono B_3.out.size))
      clear hbx a0 a1 b0 b1 c0 c1
      obtain ⟨a0, a1⟩ := has_facts (A2.out.below B_4.out)
      obtain ⟨b0, b1⟩ := has_facts (B2.out.below B_4.out)
      obtain ⟨c0, c1⟩ := has_facts (C2.out.below B_4.out)
      go_wp2_with fail
      refine (O5.out _).mono ?_
      rintro e x5 ⟨rfl, hbx⟩
      have B_5 := Lib.hid (B_4.out.trans (hbx.mono B_4.out.size))
      clear hbx a0 a1 b0 b1 c0 c1
      obtain ⟨a0, a1⟩ := has_facts (A2.out.below B_5.out)
      obtain ⟨b0, b1⟩ := has_facts (B2.out.below B_5.out)
      obtain ⟨c0, c1⟩ := has_facts (C2.out.below B_5.out)
      go_wp2_with fail
      refine (O6.out _).mono ?_
      rintro e x6 ⟨rfl, hbx⟩
      have B_6 := Lib.hid (B_5.out.trans (hbx.mono B_5.out.size))
      clear hbx a0 a1 b0 b1 c0 c1
      obtain ⟨a0, a1⟩ := has_facts (A2.out.below B_6.out)
      obtain ⟨b0, b1⟩ := has_facts (B2.out.below B_6.out)
      obtain ⟨c0, c1⟩ := has_facts (C2.out.below B_6.out)
      go_wp2_with fail
      go_meet
      exact ⟨rfl, B_6⟩
    case rest =>
      obtain ⟨rfl, hb3⟩ := hcut
      have HB3 := Lib.hid (HB2.out.trans (hb3.out.mono HB2.out.size))
      have A3 := Lib.hid (A2.out.below hb3.out)
      have B3 := Lib.hid (B2.out.below hb3.out)
      have C3 := Lib.hid (C2.out.below hb3.out)
      have D3 := Lib.hid (D2.out.below hb3.out)
      clear hb3 a0 a1 b0 b1 c0 c1 A2 B2 C2 D2 O1 O2 O3 O4 O5 O6 hw
      obtain ⟨xa, hxa⟩ : ∃ x, movedN a d = x := ⟨_, rfl⟩
      obtain ⟨xb, hxb⟩ : ∃ x, movedN b d = x := ⟨_, rfl⟩
      obtain ⟨xc, hxc⟩ : ∃ x, movedN c d = x := ⟨_, rfl⟩
      have HXA := Lib.hid hxa
      have HXB := Lib.hid hxb
      have HXC := Lib.hid hxc
      have M1 := Lib.hid (moved_of na nd hxa)
      have M2 := Lib.hid (moved_of nb nd hxb)
      have M3 := Lib.hid (moved_of nc nd hxc)
      clear hxa hxb hxc
      go_upto_region 7 with fail
      go_cut [11, 12, 13] from 65 to 73 (fun s11 s12 s13 wx => ∃ g11 g12 g13 : Nat, s11 = .pointer (some ⟨g11, 0, none⟩) ∧ s12 = .pointer (some ⟨g12, 0, none⟩) ∧ s13 = .pointer (some ⟨g13, 0, none⟩) ∧ Hid (Has wx g11 xa) ∧ Hid (Has wx g12 xb) ∧ Hid (Has wx g13 xc) ∧ Hid (Below wc.heap.size wc wx))
      case first =>
        obtain ⟨a0, a1⟩ := has_facts A3.out
        obtain ⟨b0, b1⟩ := has_facts B3.out
        obtain ⟨c0, c1⟩ := has_facts C3.out
        obtain ⟨d0, d1⟩ := has_facts D3.out
        refine wp_region_noPanic ?_
        refine wp_region_held_drew (S := (fun w' : World => w'.cell? ⟨w.heap.size, 0, none⟩ = some (.int .i64 a.x) ∧ w'.cell? ⟨w.heap.size, 1, none⟩ = some (.int .i64 a.y) ∧ w'.cell? ⟨w.heap.size + 1, 0, none⟩ = some (.int .i64 b.x) ∧ w'.cell? ⟨w.heap.size + 1, 1, none⟩ = some (.int .i64 b.y) ∧
            w'.cell? ⟨w.heap.size + 1 + 1, 0, none⟩ = some (.int .i64 c.x) ∧ w'.cell? ⟨w.heap.size + 1 + 1, 1, none⟩ = some (.int .i64 c.y) ∧ w'.cell? ⟨w.heap.size + 1 + 1 + 1, 0, none⟩ = some (.int .i64 d.x) ∧ w'.cell? ⟨w.heap.size + 1 + 1 + 1, 1, none⟩ = some (.int .i64 d.y))) (by kernel_rfl) (pts8 (A3.out.below (drew_below wc)) (B3.out.below (drew_below wc)) (C3.out.below (drew_below wc)) (D3.out.below (drew_below wc))) (fun hHeld => ?_)
        have B_0 := drew_below wc
        generalize wc.drew = v0 at *
        refine wpAnyH_take (i := 0) (oi := _) (v := .agg #[.int .i64 a.x, .int .i64 a.y]) rfl (by kernel_rfl) (by kernel_rfl) (by kernel_rfl) (fun _ _ _ h => h) (Or.inl ⟨by rfl, ?_⟩) hHeld ?_
        · intro w hSw
          go_simp
        refine wpAnyH_take (i := 1) (oi := _) (v := .agg #[.int .i64 d.x, .int .i64 d.y]) rfl (by kernel_rfl) (by kernel_rfl) (by kernel_rfl) (fun _ _ _ h => h) (Or.inl ⟨by rfl, ?_⟩) hHeld ?_
        · intro w hSw
          go_simp
        refine wpAnyH_take (i := 3) (oi := _) (v := .agg #[.int .i64 b.x, .int .i64 b.y]) rfl (by kernel_rfl) (by kernel_rfl) (by kernel_rfl) (fun _ _ _ h => h) (Or.inl ⟨by rfl, ?_⟩) hHeld ?_
        · intro w hSw
          go_simp
        refine wpAnyH_take (i := 4) (oi := _) (v := .agg #[.int .i64 d.x, .int .i64 d.y]) rfl (by kernel_rfl) (by kernel_rfl) (by kernel_rfl) (fun _ _ _ h => h) (Or.inl ⟨by rfl, ?_⟩) hHeld ?_
        · intro w hSw
          go_simp
        refine wpAnyH_take (i := 6) (oi := _) (v := .agg #[.int .i64 c.x, .int .i64 c.y]) rfl (by kernel_rfl) (by kernel_rfl) (by kernel_rfl) (fun _ _ _ h => h) (Or.inl ⟨by rfl, ?_⟩) hHeld ?_
        · intro w hSw
          go_simp
        refine wpAnyH_take (i := 7) (oi := _) (v := .agg #[.int .i64 d.x, .int .i64 d.y]) rfl (by kernel_rfl) (by kernel_rfl) (by kernel_rfl) (fun _ _ _ h => h) (Or.inl ⟨by rfl, ?_⟩) hHeld ?_
        · intro w hSw
          go_simp
        simp only [Act.put, List.setIfInBounds_toArray]
        clear hHeld a0 a1 b0 b1 c0 c1 d0 d1
        refine name_region (fun G hG => ?_)
        have HG := Lib.hid hG
        clear hG
        have st3_111213 : Hid (∀ (wl : World) (g11 : Nat) (g12 : Nat) (g13 : Nat) (hB : Below wc.heap.size wc wl) (n11 : wc.heap.size ≤ g11) (r11 : IsRow wl g11 23 #[.int .i64 0, .int .i64 0]) (n12 : wc.heap.size ≤ g12) (r12 : IsRow wl g12 23 #[.int .i64 0, .int .i64 0]) (n13 : wc.heap.size ≤ g13) (r13 : IsRow wl g13 23 #[.int .i64 0, .int .i64 0]) (e1112 : g11 ≠ g12) (e1113 : g11 ≠ g13) (e1213 : g12 ≠ g13), G 3 #[true, true, true, true, true, true, true, true, true, true, true, true, false, false, false] { tmps := #[.agg #[.int .i64 a.x, .int .i64 a.y], .agg #[.int .i64 b.x, .int .i64 b.y], .agg #[.int .i64 c.x, .int .i64 c.y], .agg #[.int .i64 d.x, .int .i64 d.y], .pointer (some ⟨w.heap.size, 0, none⟩), .pointer (some ⟨w.heap.size + 1, 0, none⟩), .pointer (some ⟨w.heap.size + 1 + 1, 0, none⟩), .pointer (some ⟨w.heap.size + 1 + 1 + 1, 0, none⟩), .bool false, .bool true, .int .i64 o, .pointer (some ⟨g11, 0, none⟩), .pointer (some ⟨g12, 0, none⟩), .pointer (some ⟨g13, 0, none⟩), .bool true, .agg #[.int .i64 a.x, .int .i64 a.y], .agg #[.int .i64 b.x, .int .i64 b.y], .agg #[.int .i64 c.x, .int .i64 c.y], .agg #[.int .i64 d.x, .int .i64 d.y], .slice (some ⟨w0.heap.size, 0, none⟩) 4 4, .bool true, .bool false, undef, .agg #[.int .i64 a.x, .int .i64 a.y], .agg #[.int .i64 b.x, .int .i64 b.y], .agg #[.int .i64 c.x, .int .i64 c.y], .int .i64 o, u27, u28, u29, u30, u31, u32, u33, u34, u35, u36, u37, u38, u39, u40, u41, u42, u43, u44, u45, u46, u47, u48, u49, u50, u51, u52, u53, u54, u55, u56, u57, u58, u59, u60, u61, u62, u63, .bool false, .agg #[.int .i64 a.x, .int .i64 a.y], .agg #[.int .i64 d.x, .int .i64 d.y], .agg #[.int .i64 xa.x, .int .i64 xa.y], .agg #[.int .i64 b.x, .int .i64 b.y], .agg #[.int .i64 d.x, .int .i64 d.y], .agg #[.int .i64 xb.x, .int .i64 xb.y], .agg #[.int .i64 c.x, .int .i64 c.y], .agg #[.int .i64 d.x, .int .i64 d.y], .agg #[.int .i64 xc.x, .int .i64 xc.y], undef, undef, undef, undef, undef, undef, undef, undef, undef, undef, undef, undef, undef, undef, undef, undef, undef, undef, undef, undef, undef, undef, undef, undef, undef, undef], defers := [] } wl) := by
          intro wl g11 g12 g13 hB n11 r11 n12 r12 n13 r13 e1112 e1113 e1213
          refine (HG.out _ _ _ _).1 ?_
          refine wpAnyH_ready (rs := [12]) (by kernel_rfl) (by simp) ?_
          refine AllReadyH.cons (o := _) rfl (fun K hK => ?_) AllReadyH.nil
          obtain ⟨k0, k1, f0, f1⟩ := row_facts2 r11
          go_simp
          obtain ⟨y0, hw⟩ : ∃ w', (wl.setCell ⟨g11, 0, none⟩ (.int .i64 xa.x)).setCell ⟨g11, 1, none⟩ (.int .i64 xa.y) = w' := ⟨_, rfl⟩
          rw [hw]
          have hB0 := hw ▸ below2 hB n11 (.int .i64 xa.x) (.int .i64 xa.y)
          have r11_0 := hw ▸ set2 r11 (.int .i64 xa.x) (.int .i64 xa.y)
          have r12_0 := hw ▸ (r12.putOther (p := ⟨g11, 0, none⟩) (Ne.symm e1112) (.int .i64 xa.x)).putOther (p := ⟨g11, 1, none⟩) (Ne.symm e1112) (.int .i64 xa.y)
          have r13_0 := hw ▸ (r13.putOther (p := ⟨g11, 0, none⟩) (Ne.symm e1113) (.int .i64 xa.x)).putOther (p := ⟨g11, 1, none⟩) (Ne.symm e1113) (.int .i64 xa.y)
          clear hw k0 k1 f0 f1
          refine hK.out _ _ (pts8 (A3.out.below hB0) (B3.out.below hB0) (C3.out.below hB0) (D3.out.below hB0)) (fun _ => ?_)
          clear hK
          refine wpAnyH_ready (rs := [13]) (by kernel_rfl) (by simp) ?_
          refine AllReadyH.cons (o := _) rfl (fun K hK => ?_) AllReadyH.nil
          obtain ⟨k0, k1, f0, f1⟩ := row_facts2 r12_0
          go_simp
          obtain ⟨y1, hw⟩ : ∃ w', (y0.setCell ⟨g12, 0, none⟩ (.int .i64 xb.x)).setCell ⟨g12, 1, none⟩ (.int .i64 xb.y) = w' := ⟨_, rfl⟩
          rw [hw]
          have hB1 := hw ▸ below2 hB0 n12 (.int .i64 xb.x) (.int .i64 xb.y)
          have r11_1 := hw ▸ (r11_0.putOther (p := ⟨g12, 0, none⟩) e1112 (.int .i64 xb.x)).putOther (p := ⟨g12, 1, none⟩) e1112 (.int .i64 xb.y)
          have r12_1 := hw ▸ set2 r12_0 (.int .i64 xb.x) (.int .i64 xb.y)
          have r13_1 := hw ▸ (r13_0.putOther (p := ⟨g12, 0, none⟩) (Ne.symm e1213) (.int .i64 xb.x)).putOther (p := ⟨g12, 1, none⟩) (Ne.symm e1213) (.int .i64 xb.y)
          clear hw k0 k1 f0 f1
          refine hK.out _ _ (pts8 (A3.out.below hB1) (B3.out.below hB1) (C3.out.below hB1) (D3.out.below hB1)) (fun _ => ?_)
          clear hK
          refine wpAnyH_ready (rs := [14]) (by kernel_rfl) (by simp) ?_
          refine AllReadyH.cons (o := _) rfl (fun K hK => ?_) AllReadyH.nil
          obtain ⟨k0, k1, f0, f1⟩ := row_facts2 r13_1
          go_simp
          obtain ⟨y2, hw⟩ : ∃ w', (y1.setCell ⟨g13, 0, none⟩ (.int .i64 xc.x)).setCell ⟨g13, 1, none⟩ (.int .i64 xc.y) = w' := ⟨_, rfl⟩
          rw [hw]
          have hB2 := hw ▸ below2 hB1 n13 (.int .i64 xc.x) (.int .i64 xc.y)
          have r11_2 := hw ▸ (r11_1.putOther (p := ⟨g13, 0, none⟩) e1113 (.int .i64 xc.x)).putOther (p := ⟨g13, 1, none⟩) e1113 (.int .i64 xc.y)
          have r12_2 := hw ▸ (r12_1.putOther (p := ⟨g13, 0, none⟩) e1213 (.int .i64 xc.x)).putOther (p := ⟨g13, 1, none⟩) e1213 (.int .i64 xc.y)
          have r13_2 := hw ▸ set2 r13_1 (.int .i64 xc.x) (.int .i64 xc.y)
          clear hw k0 k1 f0 f1
          refine hK.out _ _ (pts8 (A3.out.below hB2) (B3.out.below hB2) (C3.out.below hB2) (D3.out.below hB2)) (fun _ => ?_)
          clear hK
          refine wpAnyH_done (by kernel_rfl) ?_ _
          refine NoPanic.normal ?_
          go_wp2_with fail
          go_meet
          exact ⟨g11, g12, g13, rfl, rfl, rfl, Lib.hid (has_row r11_2), Lib.hid (has_row r12_2), Lib.hid (has_row r13_2), Lib.hid hB2⟩
        have st3_1112 : Hid (∀ (wl : World) (g11 : Nat) (g12 : Nat) (hB : Below wc.heap.size wc wl) (n11 : wc.heap.size ≤ g11) (r11 : IsRow wl g11 23 #[.int .i64 0, .int .i64 0]) (n12 : wc.heap.size ≤ g12) (r12 : IsRow wl g12 23 #[.int .i64 0, .int .i64 0]) (e1112 : g11 ≠ g12), G 4 #[true, true, true, true, true, true, true, true, true, true, true, false, false, false, false] { tmps := #[.agg #[.int .i64 a.x, .int .i64 a.y], .agg #[.int .i64 b.x, .int .i64 b.y], .agg #[.int .i64 c.x, .int .i64 c.y], .agg #[.int .i64 d.x, .int .i64 d.y], .pointer (some ⟨w.heap.size, 0, none⟩), .pointer (some ⟨w.heap.size + 1, 0, none⟩), .pointer (some ⟨w.heap.size + 1 + 1, 0, none⟩), .pointer (some ⟨w.heap.size + 1 + 1 + 1, 0, none⟩), .bool false, .bool true, .int .i64 o, .pointer (some ⟨g11, 0, none⟩), .pointer (some ⟨g12, 0, none⟩), undef, .bool true, .agg #[.int .i64 a.x, .int .i64 a.y], .agg #[.int .i64 b.x, .int .i64 b.y], .agg #[.int .i64 c.x, .int .i64 c.y], .agg #[.int .i64 d.x, .int .i64 d.y], .slice (some ⟨w0.heap.size, 0, none⟩) 4 4, .bool true, .bool false, undef, .agg #[.int .i64 a.x, .int .i64 a.y], .agg #[.int .i64 b.x, .int .i64 b.y], .agg #[.int .i64 c.x, .int .i64 c.y], .int .i64 o, u27, u28, u29, u30, u31, u32, u33, u34, u35, u36, u37, u38, u39, u40, u41, u42, u43, u44, u45, u46, u47, u48, u49, u50, u51, u52, u53, u54, u55, u56, u57, u58, u59, u60, u61, u62, u63, .bool false, .agg #[.int .i64 a.x, .int .i64 a.y], .agg #[.int .i64 d.x, .int .i64 d.y], .agg #[.int .i64 xa.x, .int .i64 xa.y], .agg #[.int .i64 b.x, .int .i64 b.y], .agg #[.int .i64 d.x, .int .i64 d.y], .agg #[.int .i64 xb.x, .int .i64 xb.y], .agg #[.int .i64 c.x, .int .i64 c.y], .agg #[.int .i64 d.x, .int .i64 d.y], .agg #[.int .i64 xc.x, .int .i64 xc.y], undef, undef, undef, undef, undef, undef, undef, undef, undef, undef, undef, undef, undef, undef, undef, undef, undef, undef, undef, undef, undef, undef, undef, undef, undef, undef], defers := [] } wl) := by
          intro wl g11 g12 hB n11 r11 n12 r12 e1112
          refine (HG.out _ _ _ _).1 ?_
          refine wpAnyH_ready (rs := [11]) (by kernel_rfl) (by simp) ?_
          refine AllReadyH.cons (o := _) rfl (fun K hK => ?_) AllReadyH.nil
          go_simp
          obtain ⟨wn, hw⟩ : ∃ w', wl.alloc (.cells #[.int .i64 0, .int .i64 0] 23) = w' := ⟨_, rfl⟩
          rw [hw]
          have hBn := hw ▸ hB.alloc hB.size (.cells #[.int .i64 0, .int .i64 0] 23)
          have rn := hw ▸ IsRow.made wl 23 #[.int .i64 0, .int .i64 0]
          have t11 := hw ▸ r11.later (.cells #[.int .i64 0, .int .i64 0] 23)
          have t12 := hw ▸ r12.later (.cells #[.int .i64 0, .int .i64 0] 23)
          clear hw
          refine hK.out _ _ (pts8 (A3.out.below hBn) (B3.out.below hBn) (C3.out.below hBn) (D3.out.below hBn)) (fun _ => ?_)
          refine (HG.out _ _ _ _).2 ?_
          exact recast rfl (by decide) (st3_111213.out wn g11 g12 wl.heap.size hBn n11 t11 n12 t12 hB.size rn e1112 (Nat.ne_of_lt r11.inside) (Nat.ne_of_lt r12.inside))
        have st3_1113 : Hid (∀ (wl : World) (g11 : Nat) (g13 : Nat) (hB : Below wc.heap.size wc wl) (n11 : wc.heap.size ≤ g11) (r11 : IsRow wl g11 23 #[.int .i64 0, .int .i64 0]) (n13 : wc.heap.size ≤ g13) (r13 : IsRow wl g13 23 #[.int .i64 0, .int .i64 0]) (e1113 : g11 ≠ g13), G 4 #[true, true, true, true, true, true, true, true, true, true, false, true, false, false, false] { tmps := #[.agg #[.int .i64 a.x, .int .i64 a.y], .agg #[.int .i64 b.x, .int .i64 b.y], .agg #[.int .i64 c.x, .int .i64 c.y], .agg #[.int .i64 d.x, .int .i64 d.y], .pointer (some ⟨w.heap.size, 0, none⟩), .pointer (some ⟨w.heap.size + 1, 0, none⟩), .pointer (some ⟨w.heap.size + 1 + 1, 0, none⟩), .pointer (some ⟨w.heap.size + 1 + 1 + 1, 0, none⟩), .bool false, .bool true, .int .i64 o, .pointer (some ⟨g11, 0, none⟩), undef, .pointer (some ⟨g13, 0, none⟩), .bool true, .agg #[.int .i64 a.x, .int .i64 a.y], .agg #[.int .i64 b.x, .int .i64 b.y], .agg #[.int .i64 c.x, .int .i64 c.y], .agg #[.int .i64 d.x, .int .i64 d.y], .slice (some ⟨w0.heap.size, 0, none⟩) 4 4, .bool true, .bool false, undef, .agg #[.int .i64 a.x, .int .i64 a.y], .agg #[.int .i64 b.x, .int .i64 b.y], .agg #[.int .i64 c.x, .int .i64 c.y], .int .i64 o, u27, u28, u29, u30, u31, u32, u33, u34, u35, u36, u37, u38, u39, u40, u41, u42, u43, u44, u45, u46, u47, u48, u49, u50, u51, u52, u53, u54, u55, u56, u57, u58, u59, u60, u61, u62, u63, .bool false, .agg #[.int .i64 a.x, .int .i64 a.y], .agg #[.int .i64 d.x, .int .i64 d.y], .agg #[.int .i64 xa.x, .int .i64 xa.y], .agg #[.int .i64 b.x, .int .i64 b.y], .agg #[.int .i64 d.x, .int .i64 d.y], .agg #[.int .i64 xb.x, .int .i64 xb.y], .agg #[.int .i64 c.x, .int .i64 c.y], .agg #[.int .i64 d.x, .int .i64 d.y], .agg #[.int .i64 xc.x, .int .i64 xc.y], undef, undef, undef, undef, undef, undef, undef, undef, undef, undef, undef, undef, undef, undef, undef, undef, undef, undef, undef, undef, undef, undef, undef, undef, undef, undef], defers := [] } wl) := by
          intro wl g11 g13 hB n11 r11 n13 r13 e1113
          refine (HG.out _ _ _ _).1 ?_
          refine wpAnyH_ready (rs := [10]) (by kernel_rfl) (by simp) ?_
          refine AllReadyH.cons (o := _) rfl (fun K hK => ?_) AllReadyH.nil
          go_simp
          obtain ⟨wn, hw⟩ : ∃ w', wl.alloc (.cells #[.int .i64 0, .int .i64 0] 23) = w' := ⟨_, rfl⟩
          rw [hw]
          have hBn := hw ▸ hB.alloc hB.size (.cells #[.int .i64 0, .int .i64 0] 23)
          have rn := hw ▸ IsRow.made wl 23 #[.int .i64 0, .int .i64 0]
          have t11 := hw ▸ r11.later (.cells #[.int .i64 0, .int .i64 0] 23)
          have t13 := hw ▸ r13.later (.cells #[.int .i64 0, .int .i64 0] 23)
          clear hw
          refine hK.out _ _ (pts8 (A3.out.below hBn) (B3.out.below hBn) (C3.out.below hBn) (D3.out.below hBn)) (fun _ => ?_)
          refine (HG.out _ _ _ _).2 ?_
          exact recast rfl (by decide) (st3_111213.out wn g11 wl.heap.size g13 hBn n11 t11 hB.size rn n13 t13 (Nat.ne_of_lt r11.inside) e1113 (Nat.ne_of_gt r13.inside))
        have st3_1213 : Hid (∀ (wl : World) (g12 : Nat) (g13 : Nat) (hB : Below wc.heap.size wc wl) (n12 : wc.heap.size ≤ g12) (r12 : IsRow wl g12 23 #[.int .i64 0, .int .i64 0]) (n13 : wc.heap.size ≤ g13) (r13 : IsRow wl g13 23 #[.int .i64 0, .int .i64 0]) (e1213 : g12 ≠ g13), G 4 #[true, true, true, true, true, true, true, true, true, false, true, true, false, false, false] { tmps := #[.agg #[.int .i64 a.x, .int .i64 a.y], .agg #[.int .i64 b.x, .int .i64 b.y], .agg #[.int .i64 c.x, .int .i64 c.y], .agg #[.int .i64 d.x, .int .i64 d.y], .pointer (some ⟨w.heap.size, 0, none⟩), .pointer (some ⟨w.heap.size + 1, 0, none⟩), .pointer (some ⟨w.heap.size + 1 + 1, 0, none⟩), .pointer (some ⟨w.heap.size + 1 + 1 + 1, 0, none⟩), .bool false, .bool true, .int .i64 o, undef, .pointer (some ⟨g12, 0, none⟩), .pointer (some ⟨g13, 0, none⟩), .bool true, .agg #[.int .i64 a.x, .int .i64 a.y], .agg #[.int .i64 b.x, .int .i64 b.y], .agg #[.int .i64 c.x, .int .i64 c.y], .agg #[.int .i64 d.x, .int .i64 d.y], .slice (some ⟨w0.heap.size, 0, none⟩) 4 4, .bool true, .bool false, undef, .agg #[.int .i64 a.x, .int .i64 a.y], .agg #[.int .i64 b.x, .int .i64 b.y], .agg #[.int .i64 c.x, .int .i64 c.y], .int .i64 o, u27, u28, u29, u30, u31, u32, u33, u34, u35, u36, u37, u38, u39, u40, u41, u42, u43, u44, u45, u46, u47, u48, u49, u50, u51, u52, u53, u54, u55, u56, u57, u58, u59, u60, u61, u62, u63, .bool false, .agg #[.int .i64 a.x, .int .i64 a.y], .agg #[.int .i64 d.x, .int .i64 d.y], .agg #[.int .i64 xa.x, .int .i64 xa.y], .agg #[.int .i64 b.x, .int .i64 b.y], .agg #[.int .i64 d.x, .int .i64 d.y], .agg #[.int .i64 xb.x, .int .i64 xb.y], .agg #[.int .i64 c.x, .int .i64 c.y], .agg #[.int .i64 d.x, .int .i64 d.y], .agg #[.int .i64 xc.x, .int .i64 xc.y], undef, undef, undef, undef, undef, undef, undef, undef, undef, undef, undef, undef, undef, undef, undef, undef, undef, undef, undef, undef, undef, undef, undef, undef, undef, undef], defers := [] } wl) := by
          intro wl g12 g13 hB n12 r12 n13 r13 e1213
          refine (HG.out _ _ _ _).1 ?_
          refine wpAnyH_ready (rs := [9]) (by kernel_rfl) (by simp) ?_
          refine AllReadyH.cons (o := _) rfl (fun K hK => ?_) AllReadyH.nil
          go_simp
          obtain ⟨wn, hw⟩ : ∃ w', wl.alloc (.cells #[.int .i64 0, .int .i64 0] 23) = w' := ⟨_, rfl⟩
          rw [hw]
          have hBn := hw ▸ hB.alloc hB.size (.cells #[.int .i64 0, .int .i64 0] 23)
          have rn := hw ▸ IsRow.made wl 23 #[.int .i64 0, .int .i64 0]
          have t12 := hw ▸ r12.later (.cells #[.int .i64 0, .int .i64 0] 23)
          have t13 := hw ▸ r13.later (.cells #[.int .i64 0, .int .i64 0] 23)
          clear hw
          refine hK.out _ _ (pts8 (A3.out.below hBn) (B3.out.below hBn) (C3.out.below hBn) (D3.out.below hBn)) (fun _ => ?_)
          refine (HG.out _ _ _ _).2 ?_
          exact recast rfl (by decide) (st3_111213.out wn wl.heap.size g12 g13 hBn hB.size rn n12 t12 n13 t13 (Nat.ne_of_gt r12.inside) (Nat.ne_of_gt r13.inside) e1213)
        have st2_111213 : Hid (∀ (wl : World) (g11 : Nat) (g12 : Nat) (g13 : Nat) (hB : Below wc.heap.size wc wl) (n11 : wc.heap.size ≤ g11) (r11 : IsRow wl g11 23 #[.int .i64 0, .int .i64 0]) (n12 : wc.heap.size ≤ g12) (r12 : IsRow wl g12 23 #[.int .i64 0, .int .i64 0]) (n13 : wc.heap.size ≤ g13) (r13 : IsRow wl g13 23 #[.int .i64 0, .int .i64 0]) (e1112 : g11 ≠ g12) (e1113 : g11 ≠ g13) (e1213 : g12 ≠ g13), G 4 #[true, true, true, true, true, true, true, true, false, true, true, true, false, false, false] { tmps := #[.agg #[.int .i64 a.x, .int .i64 a.y], .agg #[.int .i64 b.x, .int .i64 b.y], .agg #[.int .i64 c.x, .int .i64 c.y], .agg #[.int .i64 d.x, .int .i64 d.y], .pointer (some ⟨w.heap.size, 0, none⟩), .pointer (some ⟨w.heap.size + 1, 0, none⟩), .pointer (some ⟨w.heap.size + 1 + 1, 0, none⟩), .pointer (some ⟨w.heap.size + 1 + 1 + 1, 0, none⟩), .bool false, .bool true, .int .i64 o, .pointer (some ⟨g11, 0, none⟩), .pointer (some ⟨g12, 0, none⟩), .pointer (some ⟨g13, 0, none⟩), .bool true, .agg #[.int .i64 a.x, .int .i64 a.y], .agg #[.int .i64 b.x, .int .i64 b.y], .agg #[.int .i64 c.x, .int .i64 c.y], .agg #[.int .i64 d.x, .int .i64 d.y], .slice (some ⟨w0.heap.size, 0, none⟩) 4 4, .bool true, .bool false, undef, .agg #[.int .i64 a.x, .int .i64 a.y], .agg #[.int .i64 b.x, .int .i64 b.y], .agg #[.int .i64 c.x, .int .i64 c.y], .int .i64 o, u27, u28, u29, u30, u31, u32, u33, u34, u35, u36, u37, u38, u39, u40, u41, u42, u43, u44, u45, u46, u47, u48, u49, u50, u51, u52, u53, u54, u55, u56, u57, u58, u59, u60, u61, u62, u63, .bool false, .agg #[.int .i64 a.x, .int .i64 a.y], .agg #[.int .i64 d.x, .int .i64 d.y], .agg #[.int .i64 xa.x, .int .i64 xa.y], .agg #[.int .i64 b.x, .int .i64 b.y], .agg #[.int .i64 d.x, .int .i64 d.y], .agg #[.int .i64 xb.x, .int .i64 xb.y], .agg #[.int .i64 c.x, .int .i64 c.y], .agg #[.int .i64 d.x, .int .i64 d.y], undef, undef, undef, undef, undef, undef, undef, undef, undef, undef, undef, undef, undef, undef, undef, undef, undef, undef, undef, undef, undef, undef, undef, undef, undef, undef, undef], defers := [] } wl) := by
          intro wl g11 g12 g13 hB n11 r11 n12 r12 n13 r13 e1112 e1113 e1213
          refine (HG.out _ _ _ _).1 ?_
          refine wpAnyH_ready (rs := [8]) (by kernel_rfl) (by simp) ?_
          refine AllReadyH.cons (o := _) rfl (fun K hK => ?_) AllReadyH.nil
          go_simp
          go_at_call 26
          refine (M3.out _).mono ?_
          rintro e wn ⟨rfl, hb⟩
          have hBn := hB.trans (hb.mono hB.size)
          refine hK.out _ _ (pts8 (A3.out.below hBn) (B3.out.below hBn) (C3.out.below hBn) (D3.out.below hBn)) (fun _ => ?_)
          refine (HG.out _ _ _ _).2 ?_
          exact recast rfl (by decide) (st3_111213.out wn g11 g12 g13 hBn n11 (r11.below hb r11.inside) n12 (r12.below hb r12.inside) n13 (r13.below hb r13.inside) e1112 e1113 e1213)
        have st3_11 : Hid (∀ (wl : World) (g11 : Nat) (hB : Below wc.heap.size wc wl) (n11 : wc.heap.size ≤ g11) (r11 : IsRow wl g11 23 #[.int .i64 0, .int .i64 0]), G 5 #[true, true, true, true, true, true, true, true, true, true, false, false, false, false, false] { tmps := #[.agg #[.int .i64 a.x, .int .i64 a.y], .agg #[.int .i64 b.x, .int .i64 b.y], .agg #[.int .i64 c.x, .int .i64 c.y], .agg #[.int .i64 d.x, .int .i64 d.y], .pointer (some ⟨w.heap.size, 0, none⟩), .pointer (some ⟨w.heap.size + 1, 0, none⟩), .pointer (some ⟨w.heap.size + 1 + 1, 0, none⟩), .pointer (some ⟨w.heap.size + 1 + 1 + 1, 0, none⟩), .bool false, .bool true, .int .i64 o, .pointer (some ⟨g11, 0, none⟩), undef, undef, .bool true, .agg #[.int .i64 a.x, .int .i64 a.y], .agg #[.int .i64 b.x, .int .i64 b.y], .agg #[.int .i64 c.x, .int .i64 c.y], .agg #[.int .i64 d.x, .int .i64 d.y], .slice (some ⟨w0.heap.size, 0, none⟩) 4 4, .bool true, .bool false, undef, .agg #[.int .i64 a.x, .int .i64 a.y], .agg #[.int .i64 b.x, .int .i64 b.y], .agg #[.int .i64 c.x, .int .i64 c.y], .int .i64 o, u27, u28, u29, u30, u31, u32, u33, u34, u35, u36, u37, u38, u39, u40, u41, u42, u43, u44, u45, u46, u47, u48, u49, u50, u51, u52, u53, u54, u55, u56, u57, u58, u59, u60, u61, u62, u63, .bool false, .agg #[.int .i64 a.x, .int .i64 a.y], .agg #[.int .i64 d.x, .int .i64 d.y], .agg #[.int .i64 xa.x, .int .i64 xa.y], .agg #[.int .i64 b.x, .int .i64 b.y], .agg #[.int .i64 d.x, .int .i64 d.y], .agg #[.int .i64 xb.x, .int .i64 xb.y], .agg #[.int .i64 c.x, .int .i64 c.y], .agg #[.int .i64 d.x, .int .i64 d.y], .agg #[.int .i64 xc.x, .int .i64 xc.y], undef, undef, undef, undef, undef, undef, undef, undef, undef, undef, undef, undef, undef, undef, undef, undef, undef, undef, undef, undef, undef, undef, undef, undef, undef, undef], defers := [] } wl) := by
          intro wl g11 hB n11 r11
          refine (HG.out _ _ _ _).1 ?_
          refine wpAnyH_ready (rs := [10, 11]) (by kernel_rfl) (by simp) ?_
          refine AllReadyH.cons (o := _) rfl (fun K hK => ?_) ?_
          · go_simp
            obtain ⟨wn, hw⟩ : ∃ w', wl.alloc (.cells #[.int .i64 0, .int .i64 0] 23) = w' := ⟨_, rfl⟩
            rw [hw]
            have hBn := hw ▸ hB.alloc hB.size (.cells #[.int .i64 0, .int .i64 0] 23)
            have rn := hw ▸ IsRow.made wl 23 #[.int .i64 0, .int .i64 0]
            have t11 := hw ▸ r11.later (.cells #[.int .i64 0, .int .i64 0] 23)
            clear hw
            refine hK.out _ _ (pts8 (A3.out.below hBn) (B3.out.below hBn) (C3.out.below hBn) (D3.out.below hBn)) (fun _ => ?_)
            refine (HG.out _ _ _ _).2 ?_
            exact recast rfl (by decide) (st3_1112.out wn g11 wl.heap.size hBn n11 t11 hB.size rn (Nat.ne_of_lt r11.inside))
          refine AllReadyH.cons (o := _) rfl (fun K hK => ?_) AllReadyH.nil
          go_simp
          obtain ⟨wn, hw⟩ : ∃ w', wl.alloc (.cells #[.int .i64 0, .int .i64 0] 23) = w' := ⟨_, rfl⟩
          rw [hw]
          have hBn := hw ▸ hB.alloc hB.size (.cells #[.int .i64 0, .int .i64 0] 23)
          have rn := hw ▸ IsRow.made wl 23 #[.int .i64 0, .int .i64 0]
          have t11 := hw ▸ r11.later (.cells #[.int .i64 0, .int .i64 0] 23)
          clear hw
          refine hK.out _ _ (pts8 (A3.out.below hBn) (B3.out.below hBn) (C3.out.below hBn) (D3.out.below hBn)) (fun _ => ?_)
          refine (HG.out _ _ _ _).2 ?_
          exact recast rfl (by decide) (st3_1113.out wn g11 wl.heap.size hBn n11 t11 hB.size rn (Nat.ne_of_lt r11.inside))
        have st3_12 : Hid (∀ (wl : World) (g12 : Nat) (hB : Below wc.heap.size wc wl) (n12 : wc.heap.size ≤ g12) (r12 : IsRow wl g12 23 #[.int .i64 0, .int .i64 0]), G 5 #[true, true, true, true, true, true, true, true, true, false, true, false, false, false, false] { tmps := #[.agg #[.int .i64 a.x, .int .i64 a.y], .agg #[.int .i64 b.x, .int .i64 b.y], .agg #[.int .i64 c.x, .int .i64 c.y], .agg #[.int .i64 d.x, .int .i64 d.y], .pointer (some ⟨w.heap.size, 0, none⟩), .pointer (some ⟨w.heap.size + 1, 0, none⟩), .pointer (some ⟨w.heap.size + 1 + 1, 0, none⟩), .pointer (some ⟨w.heap.size + 1 + 1 + 1, 0, none⟩), .bool false, .bool true, .int .i64 o, undef, .pointer (some ⟨g12, 0, none⟩), undef, .bool true, .agg #[.int .i64 a.x, .int .i64 a.y], .agg #[.int .i64 b.x, .int .i64 b.y], .agg #[.int .i64 c.x, .int .i64 c.y], .agg #[.int .i64 d.x, .int .i64 d.y], .slice (some ⟨w0.heap.size, 0, none⟩) 4 4, .bool true, .bool false, undef, .agg #[.int .i64 a.x, .int .i64 a.y], .agg #[.int .i64 b.x, .int .i64 b.y], .agg #[.int .i64 c.x, .int .i64 c.y], .int .i64 o, u27, u28, u29, u30, u31, u32, u33, u34, u35, u36, u37, u38, u39, u40, u41, u42, u43, u44, u45, u46, u47, u48, u49, u50, u51, u52, u53, u54, u55, u56, u57, u58, u59, u60, u61, u62, u63, .bool false, .agg #[.int .i64 a.x, .int .i64 a.y], .agg #[.int .i64 d.x, .int .i64 d.y], .agg #[.int .i64 xa.x, .int .i64 xa.y], .agg #[.int .i64 b.x, .int .i64 b.y], .agg #[.int .i64 d.x, .int .i64 d.y], .agg #[.int .i64 xb.x, .int .i64 xb.y], .agg #[.int .i64 c.x, .int .i64 c.y], .agg #[.int .i64 d.x, .int .i64 d.y], .agg #[.int .i64 xc.x, .int .i64 xc.y], undef, undef, undef, undef, undef, undef, undef, undef, undef, undef, undef, undef, undef, undef, undef, undef, undef, undef, undef, undef, undef, undef, undef, undef, undef, undef], defers := [] } wl) := by
          intro wl g12 hB n12 r12
          refine (HG.out _ _ _ _).1 ?_
          refine wpAnyH_ready (rs := [9, 11]) (by kernel_rfl) (by simp) ?_
          refine AllReadyH.cons (o := _) rfl (fun K hK => ?_) ?_
          · go_simp
            obtain ⟨wn, hw⟩ : ∃ w', wl.alloc (.cells #[.int .i64 0, .int .i64 0] 23) = w' := ⟨_, rfl⟩
            rw [hw]
            have hBn := hw ▸ hB.alloc hB.size (.cells #[.int .i64 0, .int .i64 0] 23)
            have rn := hw ▸ IsRow.made wl 23 #[.int .i64 0, .int .i64 0]
            have t12 := hw ▸ r12.later (.cells #[.int .i64 0, .int .i64 0] 23)
            clear hw
            refine hK.out _ _ (pts8 (A3.out.below hBn) (B3.out.below hBn) (C3.out.below hBn) (D3.out.below hBn)) (fun _ => ?_)
            refine (HG.out _ _ _ _).2 ?_
            exact recast rfl (by decide) (st3_1112.out wn wl.heap.size g12 hBn hB.size rn n12 t12 (Nat.ne_of_gt r12.inside))
          refine AllReadyH.cons (o := _) rfl (fun K hK => ?_) AllReadyH.nil
          go_simp
          obtain ⟨wn, hw⟩ : ∃ w', wl.alloc (.cells #[.int .i64 0, .int .i64 0] 23) = w' := ⟨_, rfl⟩
          rw [hw]
          have hBn := hw ▸ hB.alloc hB.size (.cells #[.int .i64 0, .int .i64 0] 23)
          have rn := hw ▸ IsRow.made wl 23 #[.int .i64 0, .int .i64 0]
          have t12 := hw ▸ r12.later (.cells #[.int .i64 0, .int .i64 0] 23)
          clear hw
          refine hK.out _ _ (pts8 (A3.out.below hBn) (B3.out.below hBn) (C3.out.below hBn) (D3.out.below hBn)) (fun _ => ?_)
          refine (HG.out _ _ _ _).2 ?_
          exact recast rfl (by decide) (st3_1213.out wn g12 wl.heap.size hBn n12 t12 hB.size rn (Nat.ne_of_lt r12.inside))
        have st3_13 : Hid (∀ (wl : World) (g13 : Nat) (hB : Below wc.heap.size wc wl) (n13 : wc.heap.size ≤ g13) (r13 : IsRow wl g13 23 #[.int .i64 0, .int .i64 0]), G 5 #[true, true, true, true, true, true, true, true, true, false, false, true, false, false, false] { tmps := #[.agg #[.int .i64 a.x, .int .i64 a.y], .agg #[.int .i64 b.x, .int .i64 b.y], .agg #[.int .i64 c.x, .int .i64 c.y], .agg #[.int .i64 d.x, .int .i64 d.y], .pointer (some ⟨w.heap.size, 0, none⟩), .pointer (some ⟨w.heap.size + 1, 0, none⟩), .pointer (some ⟨w.heap.size + 1 + 1, 0, none⟩), .pointer (some ⟨w.heap.size + 1 + 1 + 1, 0, none⟩), .bool false, .bool true, .int .i64 o, undef, undef, .pointer (some ⟨g13, 0, none⟩), .bool true, .agg #[.int .i64 a.x, .int .i64 a.y], .agg #[.int .i64 b.x, .int .i64 b.y], .agg #[.int .i64 c.x, .int .i64 c.y], .agg #[.int .i64 d.x, .int .i64 d.y], .slice (some ⟨w0.heap.size, 0, none⟩) 4 4, .bool true, .bool false, undef, .agg #[.int .i64 a.x, .int .i64 a.y], .agg #[.int .i64 b.x, .int .i64 b.y], .agg #[.int .i64 c.x, .int .i64 c.y], .int .i64 o, u27, u28, u29, u30, u31, u32, u33, u34, u35, u36, u37, u38, u39, u40, u41, u42, u43, u44, u45, u46, u47, u48, u49, u50, u51, u52, u53, u54, u55, u56, u57, u58, u59, u60, u61, u62, u63, .bool false, .agg #[.int .i64 a.x, .int .i64 a.y], .agg #[.int .i64 d.x, .int .i64 d.y], .agg #[.int .i64 xa.x, .int .i64 xa.y], .agg #[.int .i64 b.x, .int .i64 b.y], .agg #[.int .i64 d.x, .int .i64 d.y], .agg #[.int .i64 xb.x, .int .i64 xb.y], .agg #[.int .i64 c.x, .int .i64 c.y], .agg #[.int .i64 d.x, .int .i64 d.y], .agg #[.int .i64 xc.x, .int .i64 xc.y], undef, undef, undef, undef, undef, undef, undef, undef, undef, undef, undef, undef, undef, undef, undef, undef, undef, undef, undef, undef, undef, undef, undef, undef, undef, undef], defers := [] } wl) := by
          intro wl g13 hB n13 r13
          refine (HG.out _ _ _ _).1 ?_
          refine wpAnyH_ready (rs := [9, 10]) (by kernel_rfl) (by simp) ?_
          refine AllReadyH.cons (o := _) rfl (fun K hK => ?_) ?_
          · go_simp
            obtain ⟨wn, hw⟩ : ∃ w', wl.alloc (.cells #[.int .i64 0, .int .i64 0] 23) = w' := ⟨_, rfl⟩
            rw [hw]
            have hBn := hw ▸ hB.alloc hB.size (.cells #[.int .i64 0, .int .i64 0] 23)
            have rn := hw ▸ IsRow.made wl 23 #[.int .i64 0, .int .i64 0]
            have t13 := hw ▸ r13.later (.cells #[.int .i64 0, .int .i64 0] 23)
            clear hw
            refine hK.out _ _ (pts8 (A3.out.below hBn) (B3.out.below hBn) (C3.out.below hBn) (D3.out.below hBn)) (fun _ => ?_)
            refine (HG.out _ _ _ _).2 ?_
            exact recast rfl (by decide) (st3_1113.out wn wl.heap.size g13 hBn hB.size rn n13 t13 (Nat.ne_of_gt r13.inside))
          refine AllReadyH.cons (o := _) rfl (fun K hK => ?_) AllReadyH.nil
          go_simp
          obtain ⟨wn, hw⟩ : ∃ w', wl.alloc (.cells #[.int .i64 0, .int .i64 0] 23) = w' := ⟨_, rfl⟩
          rw [hw]
          have hBn := hw ▸ hB.alloc hB.size (.cells #[.int .i64 0, .int .i64 0] 23)
          have rn := hw ▸ IsRow.made wl 23 #[.int .i64 0, .int .i64 0]
          have t13 := hw ▸ r13.later (.cells #[.int .i64 0, .int .i64 0] 23)
          clear hw
          refine hK.out _ _ (pts8 (A3.out.below hBn) (B3.out.below hBn) (C3.out.below hBn) (D3.out.below hBn)) (fun _ => ?_)
          refine (HG.out _ _ _ _).2 ?_
          exact recast rfl (by decide) (st3_1213.out wn wl.heap.size g13 hBn hB.size rn n13 t13 (Nat.ne_of_gt r13.inside))
        have st2_1112 : Hid (∀ (wl : World) (g11 : Nat) (g12 : Nat) (hB : Below wc.heap.size wc wl) (n11 : wc.heap.size ≤ g11) (r11 : IsRow wl g11 23 #[.int .i64 0, .int .i64 0]) (n12 : wc.heap.size ≤ g12) (r12 : IsRow wl g12 23 #[.int .i64 0, .int .i64 0]) (e1112 : g11 ≠ g12), G 5 #[true, true, true, true, true, true, true, true, false, true, true, false, false, false, false] { tmps := #[.agg #[.int .i64 a.x, .int .i64 a.y], .agg #[.int .i64 b.x, .int .i64 b.y], .agg #[.int .i64 c.x, .int .i64 c.y], .agg #[.int .i64 d.x, .int .i64 d.y], .pointer (some ⟨w.heap.size, 0, none⟩), .pointer (some ⟨w.heap.size + 1, 0, none⟩), .pointer (some ⟨w.heap.size + 1 + 1, 0, none⟩), .pointer (some ⟨w.heap.size + 1 + 1 + 1, 0, none⟩), .bool false, .bool true, .int .i64 o, .pointer (some ⟨g11, 0, none⟩), .pointer (some ⟨g12, 0, none⟩), undef, .bool true, .agg #[.int .i64 a.x, .int .i64 a.y], .agg #[.int .i64 b.x, .int .i64 b.y], .agg #[.int .i64 c.x, .int .i64 c.y], .agg #[.int .i64 d.x, .int .i64 d.y], .slice (some ⟨w0.heap.size, 0, none⟩) 4 4, .bool true, .bool false, undef, .agg #[.int .i64 a.x, .int .i64 a.y], .agg #[.int .i64 b.x, .int .i64 b.y], .agg #[.int .i64 c.x, .int .i64 c.y], .int .i64 o, u27, u28, u29, u30, u31, u32, u33, u34, u35, u36, u37, u38, u39, u40, u41, u42, u43, u44, u45, u46, u47, u48, u49, u50, u51, u52, u53, u54, u55, u56, u57, u58, u59, u60, u61, u62, u63, .bool false, .agg #[.int .i64 a.x, .int .i64 a.y], .agg #[.int .i64 d.x, .int .i64 d.y], .agg #[.int .i64 xa.x, .int .i64 xa.y], .agg #[.int .i64 b.x, .int .i64 b.y], .agg #[.int .i64 d.x, .int .i64 d.y], .agg #[.int .i64 xb.x, .int .i64 xb.y], .agg #[.int .i64 c.x, .int .i64 c.y], .agg #[.int .i64 d.x, .int .i64 d.y], undef, undef, undef, undef, undef, undef, undef, undef, undef, undef, undef, undef, undef, undef, undef, undef, undef, undef, undef, undef, undef, undef, undef, undef, undef, undef, undef], defers := [] } wl) := by
          intro wl g11 g12 hB n11 r11 n12 r12 e1112
          refine (HG.out _ _ _ _).1 ?_
          refine wpAnyH_ready (rs := [8, 11]) (by kernel_rfl) (by simp) ?_
          refine AllReadyH.cons (o := _) rfl (fun K hK => ?_) ?_
          · go_simp
            go_at_call 26
            refine (M3.out _).mono ?_
            rintro e wn ⟨rfl, hb⟩
            have hBn := hB.trans (hb.mono hB.size)
            refine hK.out _ _ (pts8 (A3.out.below hBn) (B3.out.below hBn) (C3.out.below hBn) (D3.out.below hBn)) (fun _ => ?_)
            refine (HG.out _ _ _ _).2 ?_
            exact recast rfl (by decide) (st3_1112.out wn g11 g12 hBn n11 (r11.below hb r11.inside) n12 (r12.below hb r12.inside) e1112)
          refine AllReadyH.cons (o := _) rfl (fun K hK => ?_) AllReadyH.nil
          go_simp
          obtain ⟨wn, hw⟩ : ∃ w', wl.alloc (.cells #[.int .i64 0, .int .i64 0] 23) = w' := ⟨_, rfl⟩
          rw [hw]
          have hBn := hw ▸ hB.alloc hB.size (.cells #[.int .i64 0, .int .i64 0] 23)
          have rn := hw ▸ IsRow.made wl 23 #[.int .i64 0, .int .i64 0]
          have t11 := hw ▸ r11.later (.cells #[.int .i64 0, .int .i64 0] 23)
          have t12 := hw ▸ r12.later (.cells #[.int .i64 0, .int .i64 0] 23)
          clear hw
          refine hK.out _ _ (pts8 (A3.out.below hBn) (B3.out.below hBn) (C3.out.below hBn) (D3.out.below hBn)) (fun _ => ?_)
          refine (HG.out _ _ _ _).2 ?_
          exact recast rfl (by decide) (st2_111213.out wn g11 g12 wl.heap.size hBn n11 t11 n12 t12 hB.size rn e1112 (Nat.ne_of_lt r11.inside) (Nat.ne_of_lt r12.inside))
        have st2_1113 : Hid (∀ (wl : World) (g11 : Nat) (g13 : Nat) (hB : Below wc.heap.size wc wl) (n11 : wc.heap.size ≤ g11) (r11 : IsRow wl g11 23 #[.int .i64 0, .int .i64 0]) (n13 : wc.heap.size ≤ g13) (r13 : IsRow wl g13 23 #[.int .i64 0, .int .i64 0]) (e1113 : g11 ≠ g13), G 5 #[true, true, true, true, true, true, true, true, false, true, false, true, false, false, false] { tmps := #[.agg #[.int .i64 a.x, .int .i64 a.y], .agg #[.int .i64 b.x, .int .i64 b.y], .agg #[.int .i64 c.x, .int .i64 c.y], .agg #[.int .i64 d.x, .int .i64 d.y], .pointer (some ⟨w.heap.size, 0, none⟩), .pointer (some ⟨w.heap.size + 1, 0, none⟩), .pointer (some ⟨w.heap.size + 1 + 1, 0, none⟩), .pointer (some ⟨w.heap.size + 1 + 1 + 1, 0, none⟩), .bool false, .bool true, .int .i64 o, .pointer (some ⟨g11, 0, none⟩), undef, .pointer (some ⟨g13, 0, none⟩), .bool true, .agg #[.int .i64 a.x, .int .i64 a.y], .agg #[.int .i64 b.x, .int .i64 b.y], .agg #[.int .i64 c.x, .int .i64 c.y], .agg #[.int .i64 d.x, .int .i64 d.y], .slice (some ⟨w0.heap.size, 0, none⟩) 4 4, .bool true, .bool false, undef, .agg #[.int .i64 a.x, .int .i64 a.y], .agg #[.int .i64 b.x, .int .i64 b.y], .agg #[.int .i64 c.x, .int .i64 c.y], .int .i64 o, u27, u28, u29, u30, u31, u32, u33, u34, u35, u36, u37, u38, u39, u40, u41, u42, u43, u44, u45, u46, u47, u48, u49, u50, u51, u52, u53, u54, u55, u56, u57, u58, u59, u60, u61, u62, u63, .bool false, .agg #[.int .i64 a.x, .int .i64 a.y], .agg #[.int .i64 d.x, .int .i64 d.y], .agg #[.int .i64 xa.x, .int .i64 xa.y], .agg #[.int .i64 b.x, .int .i64 b.y], .agg #[.int .i64 d.x, .int .i64 d.y], .agg #[.int .i64 xb.x, .int .i64 xb.y], .agg #[.int .i64 c.x, .int .i64 c.y], .agg #[.int .i64 d.x, .int .i64 d.y], undef, undef, undef, undef, undef, undef, undef, undef, undef, undef, undef, undef, undef, undef, undef, undef, undef, undef, undef, undef, undef, undef, undef, undef, undef, undef, undef], defers := [] } wl) := by
          intro wl g11 g13 hB n11 r11 n13 r13 e1113
          refine (HG.out _ _ _ _).1 ?_
          refine wpAnyH_ready (rs := [8, 10]) (by kernel_rfl) (by simp) ?_
          refine AllReadyH.cons (o := _) rfl (fun K hK => ?_) ?_
          · go_simp
            go_at_call 26
            refine (M3.out _).mono ?_
            rintro e wn ⟨rfl, hb⟩
            have hBn := hB.trans (hb.mono hB.size)
            refine hK.out _ _ (pts8 (A3.out.below hBn) (B3.out.below hBn) (C3.out.below hBn) (D3.out.below hBn)) (fun _ => ?_)
            refine (HG.out _ _ _ _).2 ?_
            exact recast rfl (by decide) (st3_1113.out wn g11 g13 hBn n11 (r11.below hb r11.inside) n13 (r13.below hb r13.inside) e1113)
          refine AllReadyH.cons (o := _) rfl (fun K hK => ?_) AllReadyH.nil
          go_simp
          obtain ⟨wn, hw⟩ : ∃ w', wl.alloc (.cells #[.int .i64 0, .int .i64 0] 23) = w' := ⟨_, rfl⟩
          rw [hw]
          have hBn := hw ▸ hB.alloc hB.size (.cells #[.int .i64 0, .int .i64 0] 23)
          have rn := hw ▸ IsRow.made wl 23 #[.int .i64 0, .int .i64 0]
          have t11 := hw ▸ r11.later (.cells #[.int .i64 0, .int .i64 0] 23)
          have t13 := hw ▸ r13.later (.cells #[.int .i64 0, .int .i64 0] 23)
          clear hw
          refine hK.out _ _ (pts8 (A3.out.below hBn) (B3.out.below hBn) (C3.out.below hBn) (D3.out.below hBn)) (fun _ => ?_)
          refine (HG.out _ _ _ _).2 ?_
          exact recast rfl (by decide) (st2_111213.out wn g11 wl.heap.size g13 hBn n11 t11 hB.size rn n13 t13 (Nat.ne_of_lt r11.inside) e1113 (Nat.ne_of_gt r13.inside))
        have st2_1213 : Hid (∀ (wl : World) (g12 : Nat) (g13 : Nat) (hB : Below wc.heap.size wc wl) (n12 : wc.heap.size ≤ g12) (r12 : IsRow wl g12 23 #[.int .i64 0, .int .i64 0]) (n13 : wc.heap.size ≤ g13) (r13 : IsRow wl g13 23 #[.int .i64 0, .int .i64 0]) (e1213 : g12 ≠ g13), G 5 #[true, true, true, true, true, true, true, true, false, false, true, true, false, false, false] { tmps := #[.agg #[.int .i64 a.x, .int .i64 a.y], .agg #[.int .i64 b.x, .int .i64 b.y], .agg #[.int .i64 c.x, .int .i64 c.y], .agg #[.int .i64 d.x, .int .i64 d.y], .pointer (some ⟨w.heap.size, 0, none⟩), .pointer (some ⟨w.heap.size + 1, 0, none⟩), .pointer (some ⟨w.heap.size + 1 + 1, 0, none⟩), .pointer (some ⟨w.heap.size + 1 + 1 + 1, 0, none⟩), .bool false, .bool true, .int .i64 o, undef, .pointer (some ⟨g12, 0, none⟩), .pointer (some ⟨g13, 0, none⟩), .bool true, .agg #[.int .i64 a.x, .int .i64 a.y], .agg #[.int .i64 b.x, .int .i64 b.y], .agg #[.int .i64 c.x, .int .i64 c.y], .agg #[.int .i64 d.x, .int .i64 d.y], .slice (some ⟨w0.heap.size, 0, none⟩) 4 4, .bool true, .bool false, undef, .agg #[.int .i64 a.x, .int .i64 a.y], .agg #[.int .i64 b.x, .int .i64 b.y], .agg #[.int .i64 c.x, .int .i64 c.y], .int .i64 o, u27, u28, u29, u30, u31, u32, u33, u34, u35, u36, u37, u38, u39, u40, u41, u42, u43, u44, u45, u46, u47, u48, u49, u50, u51, u52, u53, u54, u55, u56, u57, u58, u59, u60, u61, u62, u63, .bool false, .agg #[.int .i64 a.x, .int .i64 a.y], .agg #[.int .i64 d.x, .int .i64 d.y], .agg #[.int .i64 xa.x, .int .i64 xa.y], .agg #[.int .i64 b.x, .int .i64 b.y], .agg #[.int .i64 d.x, .int .i64 d.y], .agg #[.int .i64 xb.x, .int .i64 xb.y], .agg #[.int .i64 c.x, .int .i64 c.y], .agg #[.int .i64 d.x, .int .i64 d.y], undef, undef, undef, undef, undef, undef, undef, undef, undef, undef, undef, undef, undef, undef, undef, undef, undef, undef, undef, undef, undef, undef, undef, undef, undef, undef, undef], defers := [] } wl) := by
          intro wl g12 g13 hB n12 r12 n13 r13 e1213
          refine (HG.out _ _ _ _).1 ?_
          refine wpAnyH_ready (rs := [8, 9]) (by kernel_rfl) (by simp) ?_
          refine AllReadyH.cons (o := _) rfl (fun K hK => ?_) ?_
          · go_simp
            go_at_call 26
            refine (M3.out _).mono ?_
            rintro e wn ⟨rfl, hb⟩
            have hBn := hB.trans (hb.mono hB.size)
            refine hK.out _ _ (pts8 (A3.out.below hBn) (B3.out.below hBn) (C3.out.below hBn) (D3.out.below hBn)) (fun _ => ?_)
            refine (HG.out _ _ _ _).2 ?_
            exact recast rfl (by decide) (st3_1213.out wn g12 g13 hBn n12 (r12.below hb r12.inside) n13 (r13.below hb r13.inside) e1213)
          refine AllReadyH.cons (o := _) rfl (fun K hK => ?_) AllReadyH.nil
          go_simp
          obtain ⟨wn, hw⟩ : ∃ w', wl.alloc (.cells #[.int .i64 0, .int .i64 0] 23) = w' := ⟨_, rfl⟩
          rw [hw]
          have hBn := hw ▸ hB.alloc hB.size (.cells #[.int .i64 0, .int .i64 0] 23)
          have rn := hw ▸ IsRow.made wl 23 #[.int .i64 0, .int .i64 0]
          have t12 := hw ▸ r12.later (.cells #[.int .i64 0, .int .i64 0] 23)
          have t13 := hw ▸ r13.later (.cells #[.int .i64 0, .int .i64 0] 23)
          clear hw
          refine hK.out _ _ (pts8 (A3.out.below hBn) (B3.out.below hBn) (C3.out.below hBn) (D3.out.below hBn)) (fun _ => ?_)
          refine (HG.out _ _ _ _).2 ?_
          exact recast rfl (by decide) (st2_111213.out wn wl.heap.size g12 g13 hBn hB.size rn n12 t12 n13 t13 (Nat.ne_of_gt r12.inside) (Nat.ne_of_gt r13.inside) e1213)
        have st1_111213 : Hid (∀ (wl : World) (g11 : Nat) (g12 : Nat) (g13 : Nat) (hB : Below wc.heap.size wc wl) (n11 : wc.heap.size ≤ g11) (r11 : IsRow wl g11 23 #[.int .i64 0, .int .i64 0]) (n12 : wc.heap.size ≤ g12) (r12 : IsRow wl g12 23 #[.int .i64 0, .int .i64 0]) (n13 : wc.heap.size ≤ g13) (r13 : IsRow wl g13 23 #[.int .i64 0, .int .i64 0]) (e1112 : g11 ≠ g12) (e1113 : g11 ≠ g13) (e1213 : g12 ≠ g13), G 5 #[true, true, true, true, true, false, true, true, false, true, true, true, false, false, false] { tmps := #[.agg #[.int .i64 a.x, .int .i64 a.y], .agg #[.int .i64 b.x, .int .i64 b.y], .agg #[.int .i64 c.x, .int .i64 c.y], .agg #[.int .i64 d.x, .int .i64 d.y], .pointer (some ⟨w.heap.size, 0, none⟩), .pointer (some ⟨w.heap.size + 1, 0, none⟩), .pointer (some ⟨w.heap.size + 1 + 1, 0, none⟩), .pointer (some ⟨w.heap.size + 1 + 1 + 1, 0, none⟩), .bool false, .bool true, .int .i64 o, .pointer (some ⟨g11, 0, none⟩), .pointer (some ⟨g12, 0, none⟩), .pointer (some ⟨g13, 0, none⟩), .bool true, .agg #[.int .i64 a.x, .int .i64 a.y], .agg #[.int .i64 b.x, .int .i64 b.y], .agg #[.int .i64 c.x, .int .i64 c.y], .agg #[.int .i64 d.x, .int .i64 d.y], .slice (some ⟨w0.heap.size, 0, none⟩) 4 4, .bool true, .bool false, undef, .agg #[.int .i64 a.x, .int .i64 a.y], .agg #[.int .i64 b.x, .int .i64 b.y], .agg #[.int .i64 c.x, .int .i64 c.y], .int .i64 o, u27, u28, u29, u30, u31, u32, u33, u34, u35, u36, u37, u38, u39, u40, u41, u42, u43, u44, u45, u46, u47, u48, u49, u50, u51, u52, u53, u54, u55, u56, u57, u58, u59, u60, u61, u62, u63, .bool false, .agg #[.int .i64 a.x, .int .i64 a.y], .agg #[.int .i64 d.x, .int .i64 d.y], .agg #[.int .i64 xa.x, .int .i64 xa.y], .agg #[.int .i64 b.x, .int .i64 b.y], .agg #[.int .i64 d.x, .int .i64 d.y], undef, .agg #[.int .i64 c.x, .int .i64 c.y], .agg #[.int .i64 d.x, .int .i64 d.y], undef, undef, undef, undef, undef, undef, undef, undef, undef, undef, undef, undef, undef, undef, undef, undef, undef, undef, undef, undef, undef, undef, undef, undef, undef, undef, undef], defers := [] } wl) := by
          intro wl g11 g12 g13 hB n11 r11 n12 r12 n13 r13 e1112 e1113 e1213
          refine (HG.out _ _ _ _).1 ?_
          refine wpAnyH_ready (rs := [5]) (by kernel_rfl) (by simp) ?_
          refine AllReadyH.cons (o := _) rfl (fun K hK => ?_) AllReadyH.nil
          go_simp
          go_at_call 26
          refine (M2.out _).mono ?_
          rintro e wn ⟨rfl, hb⟩
          have hBn := hB.trans (hb.mono hB.size)
          refine hK.out _ _ (pts8 (A3.out.below hBn) (B3.out.below hBn) (C3.out.below hBn) (D3.out.below hBn)) (fun _ => ?_)
          refine (HG.out _ _ _ _).2 ?_
          exact recast rfl (by decide) (st2_111213.out wn g11 g12 g13 hBn n11 (r11.below hb r11.inside) n12 (r12.below hb r12.inside) n13 (r13.below hb r13.inside) e1112 e1113 e1213)
        have st3_ : Hid (∀ (wl : World) (hB : Below wc.heap.size wc wl), G 6 #[true, true, true, true, true, true, true, true, true, false, false, false, false, false, false] { tmps := #[.agg #[.int .i64 a.x, .int .i64 a.y], .agg #[.int .i64 b.x, .int .i64 b.y], .agg #[.int .i64 c.x, .int .i64 c.y], .agg #[.int .i64 d.x, .int .i64 d.y], .pointer (some ⟨w.heap.size, 0, none⟩), .pointer (some ⟨w.heap.size + 1, 0, none⟩), .pointer (some ⟨w.heap.size + 1 + 1, 0, none⟩), .pointer (some ⟨w.heap.size + 1 + 1 + 1, 0, none⟩), .bool false, .bool true, .int .i64 o, undef, undef, undef, .bool true, .agg #[.int .i64 a.x, .int .i64 a.y], .agg #[.int .i64 b.x, .int .i64 b.y], .agg #[.int .i64 c.x, .int .i64 c.y], .agg #[.int .i64 d.x, .int .i64 d.y], .slice (some ⟨w0.heap.size, 0, none⟩) 4 4, .bool true, .bool false, undef, .agg #[.int .i64 a.x, .int .i64 a.y], .agg #[.int .i64 b.x, .int .i64 b.y], .agg #[.int .i64 c.x, .int .i64 c.y], .int .i64 o, u27, u28, u29, u30, u31, u32, u33, u34, u35, u36, u37, u38, u39, u40, u41, u42, u43, u44, u45, u46, u47, u48, u49, u50, u51, u52, u53, u54, u55, u56, u57, u58, u59, u60, u61, u62, u63, .bool false, .agg #[.int .i64 a.x, .int .i64 a.y], .agg #[.int .i64 d.x, .int .i64 d.y], .agg #[.int .i64 xa.x, .int .i64 xa.y], .agg #[.int .i64 b.x, .int .i64 b.y], .agg #[.int .i64 d.x, .int .i64 d.y], .agg #[.int .i64 xb.x, .int .i64 xb.y], .agg #[.int .i64 c.x, .int .i64 c.y], .agg #[.int .i64 d.x, .int .i64 d.y], .agg #[.int .i64 xc.x, .int .i64 xc.y], undef, undef, undef, undef, undef, undef, undef, undef, undef, undef, undef, undef, undef, undef, undef, undef, undef, undef, undef, undef, undef, undef, undef, undef, undef, undef], defers := [] } wl) := by
          intro wl hB
          refine (HG.out _ _ _ _).1 ?_
          refine wpAnyH_ready (rs := [9, 10, 11]) (by kernel_rfl) (by simp) ?_
          refine AllReadyH.cons (o := _) rfl (fun K hK => ?_) ?_
          · go_simp
            obtain ⟨wn, hw⟩ : ∃ w', wl.alloc (.cells #[.int .i64 0, .int .i64 0] 23) = w' := ⟨_, rfl⟩
            rw [hw]
            have hBn := hw ▸ hB.alloc hB.size (.cells #[.int .i64 0, .int .i64 0] 23)
            have rn := hw ▸ IsRow.made wl 23 #[.int .i64 0, .int .i64 0]
            clear hw
            refine hK.out _ _ (pts8 (A3.out.below hBn) (B3.out.below hBn) (C3.out.below hBn) (D3.out.below hBn)) (fun _ => ?_)
            refine (HG.out _ _ _ _).2 ?_
            exact recast rfl (by decide) (st3_11.out wn wl.heap.size hBn hB.size rn)
          refine AllReadyH.cons (o := _) rfl (fun K hK => ?_) ?_
          · go_simp
            obtain ⟨wn, hw⟩ : ∃ w', wl.alloc (.cells #[.int .i64 0, .int .i64 0] 23) = w' := ⟨_, rfl⟩
            rw [hw]
            have hBn := hw ▸ hB.alloc hB.size (.cells #[.int .i64 0, .int .i64 0] 23)
            have rn := hw ▸ IsRow.made wl 23 #[.int .i64 0, .int .i64 0]
            clear hw
            refine hK.out _ _ (pts8 (A3.out.below hBn) (B3.out.below hBn) (C3.out.below hBn) (D3.out.below hBn)) (fun _ => ?_)
            refine (HG.out _ _ _ _).2 ?_
            exact recast rfl (by decide) (st3_12.out wn wl.heap.size hBn hB.size rn)
          refine AllReadyH.cons (o := _) rfl (fun K hK => ?_) AllReadyH.nil
          go_simp
          obtain ⟨wn, hw⟩ : ∃ w', wl.alloc (.cells #[.int .i64 0, .int .i64 0] 23) = w' := ⟨_, rfl⟩
          rw [hw]
          have hBn := hw ▸ hB.alloc hB.size (.cells #[.int .i64 0, .int .i64 0] 23)
          have rn := hw ▸ IsRow.made wl 23 #[.int .i64 0, .int .i64 0]
          clear hw
          refine hK.out _ _ (pts8 (A3.out.below hBn) (B3.out.below hBn) (C3.out.below hBn) (D3.out.below hBn)) (fun _ => ?_)
          refine (HG.out _ _ _ _).2 ?_
          exact recast rfl (by decide) (st3_13.out wn wl.heap.size hBn hB.size rn)
        have st2_11 : Hid (∀ (wl : World) (g11 : Nat) (hB : Below wc.heap.size wc wl) (n11 : wc.heap.size ≤ g11) (r11 : IsRow wl g11 23 #[.int .i64 0, .int .i64 0]), G 6 #[true, true, true, true, true, true, true, true, false, true, false, false, false, false, false] { tmps := #[.agg #[.int .i64 a.x, .int .i64 a.y], .agg #[.int .i64 b.x, .int .i64 b.y], .agg #[.int .i64 c.x, .int .i64 c.y], .agg #[.int .i64 d.x, .int .i64 d.y], .pointer (some ⟨w.heap.size, 0, none⟩), .pointer (some ⟨w.heap.size + 1, 0, none⟩), .pointer (some ⟨w.heap.size + 1 + 1, 0, none⟩), .pointer (some ⟨w.heap.size + 1 + 1 + 1, 0, none⟩), .bool false, .bool true, .int .i64 o, .pointer (some ⟨g11, 0, none⟩), undef, undef, .bool true, .agg #[.int .i64 a.x, .int .i64 a.y], .agg #[.int .i64 b.x, .int .i64 b.y], .agg #[.int .i64 c.x, .int .i64 c.y], .agg #[.int .i64 d.x, .int .i64 d.y], .slice (some ⟨w0.heap.size, 0, none⟩) 4 4, .bool true, .bool false, undef, .agg #[.int .i64 a.x, .int .i64 a.y], .agg #[.int .i64 b.x, .int .i64 b.y], .agg #[.int .i64 c.x, .int .i64 c.y], .int .i64 o, u27, u28, u29, u30, u31, u32, u33, u34, u35, u36, u37, u38, u39, u40, u41, u42, u43, u44, u45, u46, u47, u48, u49, u50, u51, u52, u53, u54, u55, u56, u57, u58, u59, u60, u61, u62, u63, .bool false, .agg #[.int .i64 a.x, .int .i64 a.y], .agg #[.int .i64 d.x, .int .i64 d.y], .agg #[.int .i64 xa.x, .int .i64 xa.y], .agg #[.int .i64 b.x, .int .i64 b.y], .agg #[.int .i64 d.x, .int .i64 d.y], .agg #[.int .i64 xb.x, .int .i64 xb.y], .agg #[.int .i64 c.x, .int .i64 c.y], .agg #[.int .i64 d.x, .int .i64 d.y], undef, undef, undef, undef, undef, undef, undef, undef, undef, undef, undef, undef, undef, undef, undef, undef, undef, undef, undef, undef, undef, undef, undef, undef, undef, undef, undef], defers := [] } wl) := by
          intro wl g11 hB n11 r11
          refine (HG.out _ _ _ _).1 ?_
          refine wpAnyH_ready (rs := [8, 10, 11]) (by kernel_rfl) (by simp) ?_
          refine AllReadyH.cons (o := _) rfl (fun K hK => ?_) ?_
          · go_simp
            go_at_call 26
            refine (M3.out _).mono ?_
            rintro e wn ⟨rfl, hb⟩
            have hBn := hB.trans (hb.mono hB.size)
            refine hK.out _ _ (pts8 (A3.out.below hBn) (B3.out.below hBn) (C3.out.below hBn) (D3.out.below hBn)) (fun _ => ?_)
            refine (HG.out _ _ _ _).2 ?_
            exact recast rfl (by decide) (st3_11.out wn g11 hBn n11 (r11.below hb r11.inside))
          refine AllReadyH.cons (o := _) rfl (fun K hK => ?_) ?_
          · go_simp
            obtain ⟨wn, hw⟩ : ∃ w', wl.alloc (.cells #[.int .i64 0, .int .i64 0] 23) = w' := ⟨_, rfl⟩
            rw [hw]
            have hBn := hw ▸ hB.alloc hB.size (.cells #[.int .i64 0, .int .i64 0] 23)
            have rn := hw ▸ IsRow.made wl 23 #[.int .i64 0, .int .i64 0]
            have t11 := hw ▸ r11.later (.cells #[.int .i64 0, .int .i64 0] 23)
            clear hw
            refine hK.out _ _ (pts8 (A3.out.below hBn) (B3.out.below hBn) (C3.out.below hBn) (D3.out.below hBn)) (fun _ => ?_)
            refine (HG.out _ _ _ _).2 ?_
            exact recast rfl (by decide) (st2_1112.out wn g11 wl.heap.size hBn n11 t11 hB.size rn (Nat.ne_of_lt r11.inside))
          refine AllReadyH.cons (o := _) rfl (fun K hK => ?_) AllReadyH.nil
          go_simp
          obtain ⟨wn, hw⟩ : ∃ w', wl.alloc (.cells #[.int .i64 0, .int .i64 0] 23) = w' := ⟨_, rfl⟩
          rw [hw]
          have hBn := hw ▸ hB.alloc hB.size (.cells #[.int .i64 0, .int .i64 0] 23)
          have rn := hw ▸ IsRow.made wl 23 #[.int .i64 0, .int .i64 0]
          have t11 := hw ▸ r11.later (.cells #[.int .i64 0, .int .i64 0] 23)
          clear hw
          refine hK.out _ _ (pts8 (A3.out.below hBn) (B3.out.below hBn) (C3.out.below hBn) (D3.out.below hBn)) (fun _ => ?_)
          refine (HG.out _ _ _ _).2 ?_
          exact recast rfl (by decide) (st2_1113.out wn g11 wl.heap.size hBn n11 t11 hB.size rn (Nat.ne_of_lt r11.inside))
        have st2_12 : Hid (∀ (wl : World) (g12 : Nat) (hB : Below wc.heap.size wc wl) (n12 : wc.heap.size ≤ g12) (r12 : IsRow wl g12 23 #[.int .i64 0, .int .i64 0]), G 6 #[true, true, true, true, true, true, true, true, false, false, true, false, false, false, false] { tmps := #[.agg #[.int .i64 a.x, .int .i64 a.y], .agg #[.int .i64 b.x, .int .i64 b.y], .agg #[.int .i64 c.x, .int .i64 c.y], .agg #[.int .i64 d.x, .int .i64 d.y], .pointer (some ⟨w.heap.size, 0, none⟩), .pointer (some ⟨w.heap.size + 1, 0, none⟩), .pointer (some ⟨w.heap.size + 1 + 1, 0, none⟩), .pointer (some ⟨w.heap.size + 1 + 1 + 1, 0, none⟩), .bool false, .bool true, .int .i64 o, undef, .pointer (some ⟨g12, 0, none⟩), undef, .bool true, .agg #[.int .i64 a.x, .int .i64 a.y], .agg #[.int .i64 b.x, .int .i64 b.y], .agg #[.int .i64 c.x, .int .i64 c.y], .agg #[.int .i64 d.x, .int .i64 d.y], .slice (some ⟨w0.heap.size, 0, none⟩) 4 4, .bool true, .bool false, undef, .agg #[.int .i64 a.x, .int .i64 a.y], .agg #[.int .i64 b.x, .int .i64 b.y], .agg #[.int .i64 c.x, .int .i64 c.y], .int .i64 o, u27, u28, u29, u30, u31, u32, u33, u34, u35, u36, u37, u38, u39, u40, u41, u42, u43, u44, u45, u46, u47, u48, u49, u50, u51, u52, u53, u54, u55, u56, u57, u58, u59, u60, u61, u62, u63, .bool false, .agg #[.int .i64 a.x, .int .i64 a.y], .agg #[.int .i64 d.x, .int .i64 d.y], .agg #[.int .i64 xa.x, .int .i64 xa.y], .agg #[.int .i64 b.x, .int .i64 b.y], .agg #[.int .i64 d.x, .int .i64 d.y], .agg #[.int .i64 xb.x, .int .i64 xb.y], .agg #[.int .i64 c.x, .int .i64 c.y], .agg #[.int .i64 d.x, .int .i64 d.y], undef, undef, undef, undef, undef, undef, undef, undef, undef, undef, undef, undef, undef, undef, undef, undef, undef, undef, undef, undef, undef, undef, undef, undef, undef, undef, undef], defers := [] } wl) := by
          intro wl g12 hB n12 r12
          refine (HG.out _ _ _ _).1 ?_
          refine wpAnyH_ready (rs := [8, 9, 11]) (by kernel_rfl) (by simp) ?_
          refine AllReadyH.cons (o := _) rfl (fun K hK => ?_) ?_
          · go_simp
            go_at_call 26
            refine (M3.out _).mono ?_
            rintro e wn ⟨rfl, hb⟩
            have hBn := hB.trans (hb.mono hB.size)
            refine hK.out _ _ (pts8 (A3.out.below hBn) (B3.out.below hBn) (C3.out.below hBn) (D3.out.below hBn)) (fun _ => ?_)
            refine (HG.out _ _ _ _).2 ?_
            exact recast rfl (by decide) (st3_12.out wn g12 hBn n12 (r12.below hb r12.inside))
          refine AllReadyH.cons (o := _) rfl (fun K hK => ?_) ?_
          · go_simp
            obtain ⟨wn, hw⟩ : ∃ w', wl.alloc (.cells #[.int .i64 0, .int .i64 0] 23) = w' := ⟨_, rfl⟩
            rw [hw]
            have hBn := hw ▸ hB.alloc hB.size (.cells #[.int .i64 0, .int .i64 0] 23)
            have rn := hw ▸ IsRow.made wl 23 #[.int .i64 0, .int .i64 0]
            have t12 := hw ▸ r12.later (.cells #[.int .i64 0, .int .i64 0] 23)
            clear hw
            refine hK.out _ _ (pts8 (A3.out.below hBn) (B3.out.below hBn) (C3.out.below hBn) (D3.out.below hBn)) (fun _ => ?_)
            refine (HG.out _ _ _ _).2 ?_
            exact recast rfl (by decide) (st2_1112.out wn wl.heap.size g12 hBn hB.size rn n12 t12 (Nat.ne_of_gt r12.inside))
          refine AllReadyH.cons (o := _) rfl (fun K hK => ?_) AllReadyH.nil
          go_simp
          obtain ⟨wn, hw⟩ : ∃ w', wl.alloc (.cells #[.int .i64 0, .int .i64 0] 23) = w' := ⟨_, rfl⟩
          rw [hw]
          have hBn := hw ▸ hB.alloc hB.size (.cells #[.int .i64 0, .int .i64 0] 23)
          have rn := hw ▸ IsRow.made wl 23 #[.int .i64 0, .int .i64 0]
          have t12 := hw ▸ r12.later (.cells #[.int .i64 0, .int .i64 0] 23)
          clear hw
          refine hK.out _ _ (pts8 (A3.out.below hBn) (B3.out.below hBn) (C3.out.below hBn) (D3.out.below hBn)) (fun _ => ?_)
          refine (HG.out _ _ _ _).2 ?_
          exact recast rfl (by decide) (st2_1213.out wn g12 wl.heap.size hBn n12 t12 hB.size rn (Nat.ne_of_lt r12.inside))
        have st2_13 : Hid (∀ (wl : World) (g13 : Nat) (hB : Below wc.heap.size wc wl) (n13 : wc.heap.size ≤ g13) (r13 : IsRow wl g13 23 #[.int .i64 0, .int .i64 0]), G 6 #[true, true, true, true, true, true, true, true, false, false, false, true, false, false, false] { tmps := #[.agg #[.int .i64 a.x, .int .i64 a.y], .agg #[.int .i64 b.x, .int .i64 b.y], .agg #[.int .i64 c.x, .int .i64 c.y], .agg #[.int .i64 d.x, .int .i64 d.y], .pointer (some ⟨w.heap.size, 0, none⟩), .pointer (some ⟨w.heap.size + 1, 0, none⟩), .pointer (some ⟨w.heap.size + 1 + 1, 0, none⟩), .pointer (some ⟨w.heap.size + 1 + 1 + 1, 0, none⟩), .bool false, .bool true, .int .i64 o, undef, undef, .pointer (some ⟨g13, 0, none⟩), .bool true, .agg #[.int .i64 a.x, .int .i64 a.y], .agg #[.int .i64 b.x, .int .i64 b.y], .agg #[.int .i64 c.x, .int .i64 c.y], .agg #[.int .i64 d.x, .int .i64 d.y], .slice (some ⟨w0.heap.size, 0, none⟩) 4 4, .bool true, .bool false, undef, .agg #[.int .i64 a.x, .int .i64 a.y], .agg #[.int .i64 b.x, .int .i64 b.y], .agg #[.int .i64 c.x, .int .i64 c.y], .int .i64 o, u27, u28, u29, u30, u31, u32, u33, u34, u35, u36, u37, u38, u39, u40, u41, u42, u43, u44, u45, u46, u47, u48, u49, u50, u51, u52, u53, u54, u55, u56, u57, u58, u59, u60, u61, u62, u63, .bool false, .agg #[.int .i64 a.x, .int .i64 a.y], .agg #[.int .i64 d.x, .int .i64 d.y], .agg #[.int .i64 xa.x, .int .i64 xa.y], .agg #[.int .i64 b.x, .int .i64 b.y], .agg #[.int .i64 d.x, .int .i64 d.y], .agg #[.int .i64 xb.x, .int .i64 xb.y], .agg #[.int .i64 c.x, .int .i64 c.y], .agg #[.int .i64 d.x, .int .i64 d.y], undef, undef, undef, undef, undef, undef, undef, undef, undef, undef, undef, undef, undef, undef, undef, undef, undef, undef, undef, undef, undef, undef, undef, undef, undef, undef, undef], defers := [] } wl) := by
          intro wl g13 hB n13 r13
          refine (HG.out _ _ _ _).1 ?_
          refine wpAnyH_ready (rs := [8, 9, 10]) (by kernel_rfl) (by simp) ?_
          refine AllReadyH.cons (o := _) rfl (fun K hK => ?_) ?_
          · go_simp
            go_at_call 26
            refine (M3.out _).mono ?_
            rintro e wn ⟨rfl, hb⟩
            have hBn := hB.trans (hb.mono hB.size)
            refine hK.out _ _ (pts8 (A3.out.below hBn) (B3.out.below hBn) (C3.out.below hBn) (D3.out.below hBn)) (fun _ => ?_)
            refine (HG.out _ _ _ _).2 ?_
            exact recast rfl (by decide) (st3_13.out wn g13 hBn n13 (r13.below hb r13.inside))
          refine AllReadyH.cons (o := _) rfl (fun K hK => ?_) ?_
          · go_simp
            obtain ⟨wn, hw⟩ : ∃ w', wl.alloc (.cells #[.int .i64 0, .int .i64 0] 23) = w' := ⟨_, rfl⟩
            rw [hw]
            have hBn := hw ▸ hB.alloc hB.size (.cells #[.int .i64 0, .int .i64 0] 23)
            have rn := hw ▸ IsRow.made wl 23 #[.int .i64 0, .int .i64 0]
            have t13 := hw ▸ r13.later (.cells #[.int .i64 0, .int .i64 0] 23)
            clear hw
            refine hK.out _ _ (pts8 (A3.out.below hBn) (B3.out.below hBn) (C3.out.below hBn) (D3.out.below hBn)) (fun _ => ?_)
            refine (HG.out _ _ _ _).2 ?_
            exact recast rfl (by decide) (st2_1113.out wn wl.heap.size g13 hBn hB.size rn n13 t13 (Nat.ne_of_gt r13.inside))
          refine AllReadyH.cons (o := _) rfl (fun K hK => ?_) AllReadyH.nil
          go_simp
          obtain ⟨wn, hw⟩ : ∃ w', wl.alloc (.cells #[.int .i64 0, .int .i64 0] 23) = w' := ⟨_, rfl⟩
          rw [hw]
          have hBn := hw ▸ hB.alloc hB.size (.cells #[.int .i64 0, .int .i64 0] 23)
          have rn := hw ▸ IsRow.made wl 23 #[.int .i64 0, .int .i64 0]
          have t13 := hw ▸ r13.later (.cells #[.int .i64 0, .int .i64 0] 23)
          clear hw
          refine hK.out _ _ (pts8 (A3.out.below hBn) (B3.out.below hBn) (C3.out.below hBn) (D3.out.below hBn)) (fun _ => ?_)
          refine (HG.out _ _ _ _).2 ?_
          exact recast rfl (by decide) (st2_1213.out wn wl.heap.size g13 hBn hB.size rn n13 t13 (Nat.ne_of_gt r13.inside))
        have st1_1112 : Hid (∀ (wl : World) (g11 : Nat) (g12 : Nat) (hB : Below wc.heap.size wc wl) (n11 : wc.heap.size ≤ g11) (r11 : IsRow wl g11 23 #[.int .i64 0, .int .i64 0]) (n12 : wc.heap.size ≤ g12) (r12 : IsRow wl g12 23 #[.int .i64 0, .int .i64 0]) (e1112 : g11 ≠ g12), G 6 #[true, true, true, true, true, false, true, true, false, true, true, false, false, false, false] { tmps := #[.agg #[.int .i64 a.x, .int .i64 a.y], .agg #[.int .i64 b.x, .int .i64 b.y], .agg #[.int .i64 c.x, .int .i64 c.y], .agg #[.int .i64 d.x, .int .i64 d.y], .pointer (some ⟨w.heap.size, 0, none⟩), .pointer (some ⟨w.heap.size + 1, 0, none⟩), .pointer (some ⟨w.heap.size + 1 + 1, 0, none⟩), .pointer (some ⟨w.heap.size + 1 + 1 + 1, 0, none⟩), .bool false, .bool true, .int .i64 o, .pointer (some ⟨g11, 0, none⟩), .pointer (some ⟨g12, 0, none⟩), undef, .bool true, .agg #[.int .i64 a.x, .int .i64 a.y], .agg #[.int .i64 b.x, .int .i64 b.y], .agg #[.int .i64 c.x, .int .i64 c.y], .agg #[.int .i64 d.x, .int .i64 d.y], .slice (some ⟨w0.heap.size, 0, none⟩) 4 4, .bool true, .bool false, undef, .agg #[.int .i64 a.x, .int .i64 a.y], .agg #[.int .i64 b.x, .int .i64 b.y], .agg #[.int .i64 c.x, .int .i64 c.y], .int .i64 o, u27, u28, u29, u30, u31, u32, u33, u34, u35, u36, u37, u38, u39, u40, u41, u42, u43, u44, u45, u46, u47, u48, u49, u50, u51, u52, u53, u54, u55, u56, u57, u58, u59, u60, u61, u62, u63, .bool false, .agg #[.int .i64 a.x, .int .i64 a.y], .agg #[.int .i64 d.x, .int .i64 d.y], .agg #[.int .i64 xa.x, .int .i64 xa.y], .agg #[.int .i64 b.x, .int .i64 b.y], .agg #[.int .i64 d.x, .int .i64 d.y], undef, .agg #[.int .i64 c.x, .int .i64 c.y], .agg #[.int .i64 d.x, .int .i64 d.y], undef, undef, undef, undef, undef, undef, undef, undef, undef, undef, undef, undef, undef, undef, undef, undef, undef, undef, undef, undef, undef, undef, undef, undef, undef, undef, undef], defers := [] } wl) := by
          intro wl g11 g12 hB n11 r11 n12 r12 e1112
          refine (HG.out _ _ _ _).1 ?_
          refine wpAnyH_ready (rs := [5, 11]) (by kernel_rfl) (by simp) ?_
          refine AllReadyH.cons (o := _) rfl (fun K hK => ?_) ?_
          · go_simp
            go_at_call 26
            refine (M2.out _).mono ?_
            rintro e wn ⟨rfl, hb⟩
            have hBn := hB.trans (hb.mono hB.size)
            refine hK.out _ _ (pts8 (A3.out.below hBn) (B3.out.below hBn) (C3.out.below hBn) (D3.out.below hBn)) (fun _ => ?_)
            refine (HG.out _ _ _ _).2 ?_
            exact recast rfl (by decide) (st2_1112.out wn g11 g12 hBn n11 (r11.below hb r11.inside) n12 (r12.below hb r12.inside) e1112)
          refine AllReadyH.cons (o := _) rfl (fun K hK => ?_) AllReadyH.nil
          go_simp
          obtain ⟨wn, hw⟩ : ∃ w', wl.alloc (.cells #[.int .i64 0, .int .i64 0] 23) = w' := ⟨_, rfl⟩
          rw [hw]
          have hBn := hw ▸ hB.alloc hB.size (.cells #[.int .i64 0, .int .i64 0] 23)
          have rn := hw ▸ IsRow.made wl 23 #[.int .i64 0, .int .i64 0]
          have t11 := hw ▸ r11.later (.cells #[.int .i64 0, .int .i64 0] 23)
          have t12 := hw ▸ r12.later (.cells #[.int .i64 0, .int .i64 0] 23)
          clear hw
          refine hK.out _ _ (pts8 (A3.out.below hBn) (B3.out.below hBn) (C3.out.below hBn) (D3.out.below hBn)) (fun _ => ?_)
          refine (HG.out _ _ _ _).2 ?_
          exact recast rfl (by decide) (st1_111213.out wn g11 g12 wl.heap.size hBn n11 t11 n12 t12 hB.size rn e1112 (Nat.ne_of_lt r11.inside) (Nat.ne_of_lt r12.inside))
        have st1_1113 : Hid (∀ (wl : World) (g11 : Nat) (g13 : Nat) (hB : Below wc.heap.size wc wl) (n11 : wc.heap.size ≤ g11) (r11 : IsRow wl g11 23 #[.int .i64 0, .int .i64 0]) (n13 : wc.heap.size ≤ g13) (r13 : IsRow wl g13 23 #[.int .i64 0, .int .i64 0]) (e1113 : g11 ≠ g13), G 6 #[true, true, true, true, true, false, true, true, false, true, false, true, false, false, false] { tmps := #[.agg #[.int .i64 a.x, .int .i64 a.y], .agg #[.int .i64 b.x, .int .i64 b.y], .agg #[.int .i64 c.x, .int .i64 c.y], .agg #[.int .i64 d.x, .int .i64 d.y], .pointer (some ⟨w.heap.size, 0, none⟩), .pointer (some ⟨w.heap.size + 1, 0, none⟩), .pointer (some ⟨w.heap.size + 1 + 1, 0, none⟩), .pointer (some ⟨w.heap.size + 1 + 1 + 1, 0, none⟩), .bool false, .bool true, .int .i64 o, .pointer (some ⟨g11, 0, none⟩), undef, .pointer (some ⟨g13, 0, none⟩), .bool true, .agg #[.int .i64 a.x, .int .i64 a.y], .agg #[.int .i64 b.x, .int .i64 b.y], .agg #[.int .i64 c.x, .int .i64 c.y], .agg #[.int .i64 d.x, .int .i64 d.y], .slice (some ⟨w0.heap.size, 0, none⟩) 4 4, .bool true, .bool false, undef, .agg #[.int .i64 a.x, .int .i64 a.y], .agg #[.int .i64 b.x, .int .i64 b.y], .agg #[.int .i64 c.x, .int .i64 c.y], .int .i64 o, u27, u28, u29, u30, u31, u32, u33, u34, u35, u36, u37, u38, u39, u40, u41, u42, u43, u44, u45, u46, u47, u48, u49, u50, u51, u52, u53, u54, u55, u56, u57, u58, u59, u60, u61, u62, u63, .bool false, .agg #[.int .i64 a.x, .int .i64 a.y], .agg #[.int .i64 d.x, .int .i64 d.y], .agg #[.int .i64 xa.x, .int .i64 xa.y], .agg #[.int .i64 b.x, .int .i64 b.y], .agg #[.int .i64 d.x, .int .i64 d.y], undef, .agg #[.int .i64 c.x, .int .i64 c.y], .agg #[.int .i64 d.x, .int .i64 d.y], undef, undef, undef, undef, undef, undef, undef, undef, undef, undef, undef, undef, undef, undef, undef, undef, undef, undef, undef, undef, undef, undef, undef, undef, undef, undef, undef], defers := [] } wl) := by
          intro wl g11 g13 hB n11 r11 n13 r13 e1113
          refine (HG.out _ _ _ _).1 ?_
          refine wpAnyH_ready (rs := [5, 10]) (by kernel_rfl) (by simp) ?_
          refine AllReadyH.cons (o := _) rfl (fun K hK => ?_) ?_
          · go_simp
            go_at_call 26
            refine (M2.out _).mono ?_
            rintro e wn ⟨rfl, hb⟩
            have hBn := hB.trans (hb.mono hB.size)
            refine hK.out _ _ (pts8 (A3.out.below hBn) (B3.out.below hBn) (C3.out.below hBn) (D3.out.below hBn)) (fun _ => ?_)
            refine (HG.out _ _ _ _).2 ?_
            exact recast rfl (by decide) (st2_1113.out wn g11 g13 hBn n11 (r11.below hb r11.inside) n13 (r13.below hb r13.inside) e1113)
          refine AllReadyH.cons (o := _) rfl (fun K hK => ?_) AllReadyH.nil
          go_simp
          obtain ⟨wn, hw⟩ : ∃ w', wl.alloc (.cells #[.int .i64 0, .int .i64 0] 23) = w' := ⟨_, rfl⟩
          rw [hw]
          have hBn := hw ▸ hB.alloc hB.size (.cells #[.int .i64 0, .int .i64 0] 23)
          have rn := hw ▸ IsRow.made wl 23 #[.int .i64 0, .int .i64 0]
          have t11 := hw ▸ r11.later (.cells #[.int .i64 0, .int .i64 0] 23)
          have t13 := hw ▸ r13.later (.cells #[.int .i64 0, .int .i64 0] 23)
          clear hw
          refine hK.out _ _ (pts8 (A3.out.below hBn) (B3.out.below hBn) (C3.out.below hBn) (D3.out.below hBn)) (fun _ => ?_)
          refine (HG.out _ _ _ _).2 ?_
          exact recast rfl (by decide) (st1_111213.out wn g11 wl.heap.size g13 hBn n11 t11 hB.size rn n13 t13 (Nat.ne_of_lt r11.inside) e1113 (Nat.ne_of_gt r13.inside))
        have st1_1213 : Hid (∀ (wl : World) (g12 : Nat) (g13 : Nat) (hB : Below wc.heap.size wc wl) (n12 : wc.heap.size ≤ g12) (r12 : IsRow wl g12 23 #[.int .i64 0, .int .i64 0]) (n13 : wc.heap.size ≤ g13) (r13 : IsRow wl g13 23 #[.int .i64 0, .int .i64 0]) (e1213 : g12 ≠ g13), G 6 #[true, true, true, true, true, false, true, true, false, false, true, true, false, false, false] { tmps := #[.agg #[.int .i64 a.x, .int .i64 a.y], .agg #[.int .i64 b.x, .int .i64 b.y], .agg #[.int .i64 c.x, .int .i64 c.y], .agg #[.int .i64 d.x, .int .i64 d.y], .pointer (some ⟨w.heap.size, 0, none⟩), .pointer (some ⟨w.heap.size + 1, 0, none⟩), .pointer (some ⟨w.heap.size + 1 + 1, 0, none⟩), .pointer (some ⟨w.heap.size + 1 + 1 + 1, 0, none⟩), .bool false, .bool true, .int .i64 o, undef, .pointer (some ⟨g12, 0, none⟩), .pointer (some ⟨g13, 0, none⟩), .bool true, .agg #[.int .i64 a.x, .int .i64 a.y], .agg #[.int .i64 b.x, .int .i64 b.y], .agg #[.int .i64 c.x, .int .i64 c.y], .agg #[.int .i64 d.x, .int .i64 d.y], .slice (some ⟨w0.heap.size, 0, none⟩) 4 4, .bool true, .bool false, undef, .agg #[.int .i64 a.x, .int .i64 a.y], .agg #[.int .i64 b.x, .int .i64 b.y], .agg #[.int .i64 c.x, .int .i64 c.y], .int .i64 o, u27, u28, u29, u30, u31, u32, u33, u34, u35, u36, u37, u38, u39, u40, u41, u42, u43, u44, u45, u46, u47, u48, u49, u50, u51, u52, u53, u54, u55, u56, u57, u58, u59, u60, u61, u62, u63, .bool false, .agg #[.int .i64 a.x, .int .i64 a.y], .agg #[.int .i64 d.x, .int .i64 d.y], .agg #[.int .i64 xa.x, .int .i64 xa.y], .agg #[.int .i64 b.x, .int .i64 b.y], .agg #[.int .i64 d.x, .int .i64 d.y], undef, .agg #[.int .i64 c.x, .int .i64 c.y], .agg #[.int .i64 d.x, .int .i64 d.y], undef, undef, undef, undef, undef, undef, undef, undef, undef, undef, undef, undef, undef, undef, undef, undef, undef, undef, undef, undef, undef, undef, undef, undef, undef, undef, undef], defers := [] } wl) := by
          intro wl g12 g13 hB n12 r12 n13 r13 e1213
          refine (HG.out _ _ _ _).1 ?_
          refine wpAnyH_ready (rs := [5, 9]) (by kernel_rfl) (by simp) ?_
          refine AllReadyH.cons (o := _) rfl (fun K hK => ?_) ?_
          · go_simp
            go_at_call 26
            refine (M2.out _).mono ?_
            rintro e wn ⟨rfl, hb⟩
            have hBn := hB.trans (hb.mono hB.size)
            refine hK.out _ _ (pts8 (A3.out.below hBn) (B3.out.below hBn) (C3.out.below hBn) (D3.out.below hBn)) (fun _ => ?_)
            refine (HG.out _ _ _ _).2 ?_
            exact recast rfl (by decide) (st2_1213.out wn g12 g13 hBn n12 (r12.below hb r12.inside) n13 (r13.below hb r13.inside) e1213)
          refine AllReadyH.cons (o := _) rfl (fun K hK => ?_) AllReadyH.nil
          go_simp
          obtain ⟨wn, hw⟩ : ∃ w', wl.alloc (.cells #[.int .i64 0, .int .i64 0] 23) = w' := ⟨_, rfl⟩
          rw [hw]
          have hBn := hw ▸ hB.alloc hB.size (.cells #[.int .i64 0, .int .i64 0] 23)
          have rn := hw ▸ IsRow.made wl 23 #[.int .i64 0, .int .i64 0]
          have t12 := hw ▸ r12.later (.cells #[.int .i64 0, .int .i64 0] 23)
          have t13 := hw ▸ r13.later (.cells #[.int .i64 0, .int .i64 0] 23)
          clear hw
          refine hK.out _ _ (pts8 (A3.out.below hBn) (B3.out.below hBn) (C3.out.below hBn) (D3.out.below hBn)) (fun _ => ?_)
          refine (HG.out _ _ _ _).2 ?_
          exact recast rfl (by decide) (st1_111213.out wn wl.heap.size g12 g13 hBn hB.size rn n12 t12 n13 t13 (Nat.ne_of_gt r12.inside) (Nat.ne_of_gt r13.inside) e1213)
        have st0_111213 : Hid (∀ (wl : World) (g11 : Nat) (g12 : Nat) (g13 : Nat) (hB : Below wc.heap.size wc wl) (n11 : wc.heap.size ≤ g11) (r11 : IsRow wl g11 23 #[.int .i64 0, .int .i64 0]) (n12 : wc.heap.size ≤ g12) (r12 : IsRow wl g12 23 #[.int .i64 0, .int .i64 0]) (n13 : wc.heap.size ≤ g13) (r13 : IsRow wl g13 23 #[.int .i64 0, .int .i64 0]) (e1112 : g11 ≠ g12) (e1113 : g11 ≠ g13) (e1213 : g12 ≠ g13), G 6 #[true, true, false, true, true, false, true, true, false, true, true, true, false, false, false] { tmps := #[.agg #[.int .i64 a.x, .int .i64 a.y], .agg #[.int .i64 b.x, .int .i64 b.y], .agg #[.int .i64 c.x, .int .i64 c.y], .agg #[.int .i64 d.x, .int .i64 d.y], .pointer (some ⟨w.heap.size, 0, none⟩), .pointer (some ⟨w.heap.size + 1, 0, none⟩), .pointer (some ⟨w.heap.size + 1 + 1, 0, none⟩), .pointer (some ⟨w.heap.size + 1 + 1 + 1, 0, none⟩), .bool false, .bool true, .int .i64 o, .pointer (some ⟨g11, 0, none⟩), .pointer (some ⟨g12, 0, none⟩), .pointer (some ⟨g13, 0, none⟩), .bool true, .agg #[.int .i64 a.x, .int .i64 a.y], .agg #[.int .i64 b.x, .int .i64 b.y], .agg #[.int .i64 c.x, .int .i64 c.y], .agg #[.int .i64 d.x, .int .i64 d.y], .slice (some ⟨w0.heap.size, 0, none⟩) 4 4, .bool true, .bool false, undef, .agg #[.int .i64 a.x, .int .i64 a.y], .agg #[.int .i64 b.x, .int .i64 b.y], .agg #[.int .i64 c.x, .int .i64 c.y], .int .i64 o, u27, u28, u29, u30, u31, u32, u33, u34, u35, u36, u37, u38, u39, u40, u41, u42, u43, u44, u45, u46, u47, u48, u49, u50, u51, u52, u53, u54, u55, u56, u57, u58, u59, u60, u61, u62, u63, .bool false, .agg #[.int .i64 a.x, .int .i64 a.y], .agg #[.int .i64 d.x, .int .i64 d.y], undef, .agg #[.int .i64 b.x, .int .i64 b.y], .agg #[.int .i64 d.x, .int .i64 d.y], undef, .agg #[.int .i64 c.x, .int .i64 c.y], .agg #[.int .i64 d.x, .int .i64 d.y], undef, undef, undef, undef, undef, undef, undef, undef, undef, undef, undef, undef, undef, undef, undef, undef, undef, undef, undef, undef, undef, undef, undef, undef, undef, undef, undef], defers := [] } wl) := by
          intro wl g11 g12 g13 hB n11 r11 n12 r12 n13 r13 e1112 e1113 e1213
          refine (HG.out _ _ _ _).1 ?_
          refine wpAnyH_ready (rs := [2]) (by kernel_rfl) (by simp) ?_
          refine AllReadyH.cons (o := _) rfl (fun K hK => ?_) AllReadyH.nil
          go_simp
          go_at_call 26
          refine (M1.out _).mono ?_
          rintro e wn ⟨rfl, hb⟩
          have hBn := hB.trans (hb.mono hB.size)
          refine hK.out _ _ (pts8 (A3.out.below hBn) (B3.out.below hBn) (C3.out.below hBn) (D3.out.below hBn)) (fun _ => ?_)
          refine (HG.out _ _ _ _).2 ?_
          exact recast rfl (by decide) (st1_111213.out wn g11 g12 g13 hBn n11 (r11.below hb r11.inside) n12 (r12.below hb r12.inside) n13 (r13.below hb r13.inside) e1112 e1113 e1213)
        have st2_ : Hid (∀ (wl : World) (hB : Below wc.heap.size wc wl), G 7 #[true, true, true, true, true, true, true, true, false, false, false, false, false, false, false] { tmps := #[.agg #[.int .i64 a.x, .int .i64 a.y], .agg #[.int .i64 b.x, .int .i64 b.y], .agg #[.int .i64 c.x, .int .i64 c.y], .agg #[.int .i64 d.x, .int .i64 d.y], .pointer (some ⟨w.heap.size, 0, none⟩), .pointer (some ⟨w.heap.size + 1, 0, none⟩), .pointer (some ⟨w.heap.size + 1 + 1, 0, none⟩), .pointer (some ⟨w.heap.size + 1 + 1 + 1, 0, none⟩), .bool false, .bool true, .int .i64 o, undef, undef, undef, .bool true, .agg #[.int .i64 a.x, .int .i64 a.y], .agg #[.int .i64 b.x, .int .i64 b.y], .agg #[.int .i64 c.x, .int .i64 c.y], .agg #[.int .i64 d.x, .int .i64 d.y], .slice (some ⟨w0.heap.size, 0, none⟩) 4 4, .bool true, .bool false, undef, .agg #[.int .i64 a.x, .int .i64 a.y], .agg #[.int .i64 b.x, .int .i64 b.y], .agg #[.int .i64 c.x, .int .i64 c.y], .int .i64 o, u27, u28, u29, u30, u31, u32, u33, u34, u35, u36, u37, u38, u39, u40, u41, u42, u43, u44, u45, u46, u47, u48, u49, u50, u51, u52, u53, u54, u55, u56, u57, u58, u59, u60, u61, u62, u63, .bool false, .agg #[.int .i64 a.x, .int .i64 a.y], .agg #[.int .i64 d.x, .int .i64 d.y], .agg #[.int .i64 xa.x, .int .i64 xa.y], .agg #[.int .i64 b.x, .int .i64 b.y], .agg #[.int .i64 d.x, .int .i64 d.y], .agg #[.int .i64 xb.x, .int .i64 xb.y], .agg #[.int .i64 c.x, .int .i64 c.y], .agg #[.int .i64 d.x, .int .i64 d.y], undef, undef, undef, undef, undef, undef, undef, undef, undef, undef, undef, undef, undef, undef, undef, undef, undef, undef, undef, undef, undef, undef, undef, undef, undef, undef, undef], defers := [] } wl) := by
          intro wl hB
          refine (HG.out _ _ _ _).1 ?_
          refine wpAnyH_ready (rs := [8, 9, 10, 11]) (by kernel_rfl) (by simp) ?_
          refine AllReadyH.cons (o := _) rfl (fun K hK => ?_) ?_
          · go_simp
            go_at_call 26
            refine (M3.out _).mono ?_
            rintro e wn ⟨rfl, hb⟩
            have hBn := hB.trans (hb.mono hB.size)
            refine hK.out _ _ (pts8 (A3.out.below hBn) (B3.out.below hBn) (C3.out.below hBn) (D3.out.below hBn)) (fun _ => ?_)
            refine (HG.out _ _ _ _).2 ?_
            exact recast rfl (by decide) (st3_.out wn hBn)
          refine AllReadyH.cons (o := _) rfl (fun K hK => ?_) ?_
          · go_simp
            obtain ⟨wn, hw⟩ : ∃ w', wl.alloc (.cells #[.int .i64 0, .int .i64 0] 23) = w' := ⟨_, rfl⟩
            rw [hw]
            have hBn := hw ▸ hB.alloc hB.size (.cells #[.int .i64 0, .int .i64 0] 23)
            have rn := hw ▸ IsRow.made wl 23 #[.int .i64 0, .int .i64 0]
            clear hw
            refine hK.out _ _ (pts8 (A3.out.below hBn) (B3.out.below hBn) (C3.out.below hBn) (D3.out.below hBn)) (fun _ => ?_)
            refine (HG.out _ _ _ _).2 ?_
            exact recast rfl (by decide) (st2_11.out wn wl.heap.size hBn hB.size rn)
          refine AllReadyH.cons (o := _) rfl (fun K hK => ?_) ?_
          · go_simp
            obtain ⟨wn, hw⟩ : ∃ w', wl.alloc (.cells #[.int .i64 0, .int .i64 0] 23) = w' := ⟨_, rfl⟩
            rw [hw]
            have hBn := hw ▸ hB.alloc hB.size (.cells #[.int .i64 0, .int .i64 0] 23)
            have rn := hw ▸ IsRow.made wl 23 #[.int .i64 0, .int .i64 0]
            clear hw
            refine hK.out _ _ (pts8 (A3.out.below hBn) (B3.out.below hBn) (C3.out.below hBn) (D3.out.below hBn)) (fun _ => ?_)
            refine (HG.out _ _ _ _).2 ?_
            exact recast rfl (by decide) (st2_12.out wn wl.heap.size hBn hB.size rn)
          refine AllReadyH.cons (o := _) rfl (fun K hK => ?_) AllReadyH.nil
          go_simp
          obtain ⟨wn, hw⟩ : ∃ w', wl.alloc (.cells #[.int .i64 0, .int .i64 0] 23) = w' := ⟨_, rfl⟩
          rw [hw]
          have hBn := hw ▸ hB.alloc hB.size (.cells #[.int .i64 0, .int .i64 0] 23)
          have rn := hw ▸ IsRow.made wl 23 #[.int .i64 0, .int .i64 0]
          clear hw
          refine hK.out _ _ (pts8 (A3.out.below hBn) (B3.out.below hBn) (C3.out.below hBn) (D3.out.below hBn)) (fun _ => ?_)
          refine (HG.out _ _ _ _).2 ?_
          exact recast rfl (by decide) (st2_13.out wn wl.heap.size hBn hB.size rn)
        have st1_11 : Hid (∀ (wl : World) (g11 : Nat) (hB : Below wc.heap.size wc wl) (n11 : wc.heap.size ≤ g11) (r11 : IsRow wl g11 23 #[.int .i64 0, .int .i64 0]), G 7 #[true, true, true, true, true, false, true, true, false, true, false, false, false, false, false] { tmps := #[.agg #[.int .i64 a.x, .int .i64 a.y], .agg #[.int .i64 b.x, .int .i64 b.y], .agg #[.int .i64 c.x, .int .i64 c.y], .agg #[.int .i64 d.x, .int .i64 d.y], .pointer (some ⟨w.heap.size, 0, none⟩), .pointer (some ⟨w.heap.size + 1, 0, none⟩), .pointer (some ⟨w.heap.size + 1 + 1, 0, none⟩), .pointer (some ⟨w.heap.size + 1 + 1 + 1, 0, none⟩), .bool false, .bool true, .int .i64 o, .pointer (some ⟨g11, 0, none⟩), undef, undef, .bool true, .agg #[.int .i64 a.x, .int .i64 a.y], .agg #[.int .i64 b.x, .int .i64 b.y], .agg #[.int .i64 c.x, .int .i64 c.y], .agg #[.int .i64 d.x, .int .i64 d.y], .slice (some ⟨w0.heap.size, 0, none⟩) 4 4, .bool true, .bool false, undef, .agg #[.int .i64 a.x, .int .i64 a.y], .agg #[.int .i64 b.x, .int .i64 b.y], .agg #[.int .i64 c.x, .int .i64 c.y], .int .i64 o, u27, u28, u29, u30, u31, u32, u33, u34, u35, u36, u37, u38, u39, u40, u41, u42, u43, u44, u45, u46, u47, u48, u49, u50, u51, u52, u53, u54, u55, u56, u57, u58, u59, u60, u61, u62, u63, .bool false, .agg #[.int .i64 a.x, .int .i64 a.y], .agg #[.int .i64 d.x, .int .i64 d.y], .agg #[.int .i64 xa.x, .int .i64 xa.y], .agg #[.int .i64 b.x, .int .i64 b.y], .agg #[.int .i64 d.x, .int .i64 d.y], undef, .agg #[.int .i64 c.x, .int .i64 c.y], .agg #[.int .i64 d.x, .int .i64 d.y], undef, undef, undef, undef, undef, undef, undef, undef, undef, undef, undef, undef, undef, undef, undef, undef, undef, undef, undef, undef, undef, undef, undef, undef, undef, undef, undef], defers := [] } wl) := by
          intro wl g11 hB n11 r11
          refine (HG.out _ _ _ _).1 ?_
          refine wpAnyH_ready (rs := [5, 10, 11]) (by kernel_rfl) (by simp) ?_
          refine AllReadyH.cons (o := _) rfl (fun K hK => ?_) ?_
          · go_simp
            go_at_call 26
            refine (M2.out _).mono ?_
            rintro e wn ⟨rfl, hb⟩
            have hBn := hB.trans (hb.mono hB.size)
            refine hK.out _ _ (pts8 (A3.out.below hBn) (B3.out.below hBn) (C3.out.below hBn) (D3.out.below hBn)) (fun _ => ?_)
            refine (HG.out _ _ _ _).2 ?_
            exact recast rfl (by decide) (st2_11.out wn g11 hBn n11 (r11.below hb r11.inside))
          refine AllReadyH.cons (o := _) rfl (fun K hK => ?_) ?_
          · go_simp
            obtain ⟨wn, hw⟩ : ∃ w', wl.alloc (.cells #[.int .i64 0, .int .i64 0] 23) = w' := ⟨_, rfl⟩
            rw [hw]
            have hBn := hw ▸ hB.alloc hB.size (.cells #[.int .i64 0, .int .i64 0] 23)
            have rn := hw ▸ IsRow.made wl 23 #[.int .i64 0, .int .i64 0]
            have t11 := hw ▸ r11.later (.cells #[.int .i64 0, .int .i64 0] 23)
            clear hw
            refine hK.out _ _ (pts8 (A3.out.below hBn) (B3.out.below hBn) (C3.out.below hBn) (D3.out.below hBn)) (fun _ => ?_)
            refine (HG.out _ _ _ _).2 ?_
            exact recast rfl (by decide) (st1_1112.out wn g11 wl.heap.size hBn n11 t11 hB.size rn (Nat.ne_of_lt r11.inside))
          refine AllReadyH.cons (o := _) rfl (fun K hK => ?_) AllReadyH.nil
          go_simp
          obtain ⟨wn, hw⟩ : ∃ w', wl.alloc (.cells #[.int .i64 0, .int .i64 0] 23) = w' := ⟨_, rfl⟩
          rw [hw]
          have hBn := hw ▸ hB.alloc hB.size (.cells #[.int .i64 0, .int .i64 0] 23)
          have rn := hw ▸ IsRow.made wl 23 #[.int .i64 0, .int .i64 0]
          have t11 := hw ▸ r11.later (.cells #[.int .i64 0, .int .i64 0] 23)
          clear hw
          refine hK.out _ _ (pts8 (A3.out.below hBn) (B3.out.below hBn) (C3.out.below hBn) (D3.out.below hBn)) (fun _ => ?_)
          refine (HG.out _ _ _ _).2 ?_
          exact recast rfl (by decide) (st1_1113.out wn g11 wl.heap.size hBn n11 t11 hB.size rn (Nat.ne_of_lt r11.inside))
        have st1_12 : Hid (∀ (wl : World) (g12 : Nat) (hB : Below wc.heap.size wc wl) (n12 : wc.heap.size ≤ g12) (r12 : IsRow wl g12 23 #[.int .i64 0, .int .i64 0]), G 7 #[true, true, true, true, true, false, true, true, false, false, true, false, false, false, false] { tmps := #[.agg #[.int .i64 a.x, .int .i64 a.y], .agg #[.int .i64 b.x, .int .i64 b.y], .agg #[.int .i64 c.x, .int .i64 c.y], .agg #[.int .i64 d.x, .int .i64 d.y], .pointer (some ⟨w.heap.size, 0, none⟩), .pointer (some ⟨w.heap.size + 1, 0, none⟩), .pointer (some ⟨w.heap.size + 1 + 1, 0, none⟩), .pointer (some ⟨w.heap.size + 1 + 1 + 1, 0, none⟩), .bool false, .bool true, .int .i64 o, undef, .pointer (some ⟨g12, 0, none⟩), undef, .bool true, .agg #[.int .i64 a.x, .int .i64 a.y], .agg #[.int .i64 b.x, .int .i64 b.y], .agg #[.int .i64 c.x, .int .i64 c.y], .agg #[.int .i64 d.x, .int .i64 d.y], .slice (some ⟨w0.heap.size, 0, none⟩) 4 4, .bool true, .bool false, undef, .agg #[.int .i64 a.x, .int .i64 a.y], .agg #[.int .i64 b.x, .int .i64 b.y], .agg #[.int .i64 c.x, .int .i64 c.y], .int .i64 o, u27, u28, u29, u30, u31, u32, u33, u34, u35, u36, u37, u38, u39, u40, u41, u42, u43, u44, u45, u46, u47, u48, u49, u50, u51, u52, u53, u54, u55, u56, u57, u58, u59, u60, u61, u62, u63, .bool false, .agg #[.int .i64 a.x, .int .i64 a.y], .agg #[.int .i64 d.x, .int .i64 d.y], .agg #[.int .i64 xa.x, .int .i64 xa.y], .agg #[.int .i64 b.x, .int .i64 b.y], .agg #[.int .i64 d.x, .int .i64 d.y], undef, .agg #[.int .i64 c.x, .int .i64 c.y], .agg #[.int .i64 d.x, .int .i64 d.y], undef, undef, undef, undef, undef, undef, undef, undef, undef, undef, undef, undef, undef, undef, undef, undef, undef, undef, undef, undef, undef, undef, undef, undef, undef, undef, undef], defers := [] } wl) := by
          intro wl g12 hB n12 r12
          refine (HG.out _ _ _ _).1 ?_
          refine wpAnyH_ready (rs := [5, 9, 11]) (by kernel_rfl) (by simp) ?_
          refine AllReadyH.cons (o := _) rfl (fun K hK => ?_) ?_
          · go_simp
            go_at_call 26
            refine (M2.out _).mono ?_
            rintro e wn ⟨rfl, hb⟩
            have hBn := hB.trans (hb.mono hB.size)
            refine hK.out _ _ (pts8 (A3.out.below hBn) (B3.out.below hBn) (C3.out.below hBn) (D3.out.below hBn)) (fun _ => ?_)
            refine (HG.out _ _ _ _).2 ?_
            exact recast rfl (by decide) (st2_12.out wn g12 hBn n12 (r12.below hb r12.inside))
          refine AllReadyH.cons (o := _) rfl (fun K hK => ?_) ?_
          · go_simp
            obtain ⟨wn, hw⟩ : ∃ w', wl.alloc (.cells #[.int .i64 0, .int .i64 0] 23) = w' := ⟨_, rfl⟩
            rw [hw]
            have hBn := hw ▸ hB.alloc hB.size (.cells #[.int .i64 0, .int .i64 0] 23)
            have rn := hw ▸ IsRow.made wl 23 #[.int .i64 0, .int .i64 0]
            have t12 := hw ▸ r12.later (.cells #[.int .i64 0, .int .i64 0] 23)
            clear hw
            refine hK.out _ _ (pts8 (A3.out.below hBn) (B3.out.below hBn) (C3.out.below hBn) (D3.out.below hBn)) (fun _ => ?_)
            refine (HG.out _ _ _ _).2 ?_
            exact recast rfl (by decide) (st1_1112.out wn wl.heap.size g12 hBn hB.size rn n12 t12 (Nat.ne_of_gt r12.inside))
          refine AllReadyH.cons (o := _) rfl (fun K hK => ?_) AllReadyH.nil
          go_simp
          obtain ⟨wn, hw⟩ : ∃ w', wl.alloc (.cells #[.int .i64 0, .int .i64 0] 23) = w' := ⟨_, rfl⟩
          rw [hw]
          have hBn := hw ▸ hB.alloc hB.size (.cells #[.int .i64 0, .int .i64 0] 23)
          have rn := hw ▸ IsRow.made wl 23 #[.int .i64 0, .int .i64 0]
          have t12 := hw ▸ r12.later (.cells #[.int .i64 0, .int .i64 0] 23)
          clear hw
          refine hK.out _ _ (pts8 (A3.out.below hBn) (B3.out.below hBn) (C3.out.below hBn) (D3.out.below hBn)) (fun _ => ?_)
          refine (HG.out _ _ _ _).2 ?_
          exact recast rfl (by decide) (st1_1213.out wn g12 wl.heap.size hBn n12 t12 hB.size rn (Nat.ne_of_lt r12.inside))
        have st1_13 : Hid (∀ (wl : World) (g13 : Nat) (hB : Below wc.heap.size wc wl) (n13 : wc.heap.size ≤ g13) (r13 : IsRow wl g13 23 #[.int .i64 0, .int .i64 0]), G 7 #[true, true, true, true, true, false, true, true, false, false, false, true, false, false, false] { tmps := #[.agg #[.int .i64 a.x, .int .i64 a.y], .agg #[.int .i64 b.x, .int .i64 b.y], .agg #[.int .i64 c.x, .int .i64 c.y], .agg #[.int .i64 d.x, .int .i64 d.y], .pointer (some ⟨w.heap.size, 0, none⟩), .pointer (some ⟨w.heap.size + 1, 0, none⟩), .pointer (some ⟨w.heap.size + 1 + 1, 0, none⟩), .pointer (some ⟨w.heap.size + 1 + 1 + 1, 0, none⟩), .bool false, .bool true, .int .i64 o, undef, undef, .pointer (some ⟨g13, 0, none⟩), .bool true, .agg #[.int .i64 a.x, .int .i64 a.y], .agg #[.int .i64 b.x, .int .i64 b.y], .agg #[.int .i64 c.x, .int .i64 c.y], .agg #[.int .i64 d.x, .int .i64 d.y], .slice (some ⟨w0.heap.size, 0, none⟩) 4 4, .bool true, .bool false, undef, .agg #[.int .i64 a.x, .int .i64 a.y], .agg #[.int .i64 b.x, .int .i64 b.y], .agg #[.int .i64 c.x, .int .i64 c.y], .int .i64 o, u27, u28, u29, u30, u31, u32, u33, u34, u35, u36, u37, u38, u39, u40, u41, u42, u43, u44, u45, u46, u47, u48, u49, u50, u51, u52, u53, u54, u55, u56, u57, u58, u59, u60, u61, u62, u63, .bool false, .agg #[.int .i64 a.x, .int .i64 a.y], .agg #[.int .i64 d.x, .int .i64 d.y], .agg #[.int .i64 xa.x, .int .i64 xa.y], .agg #[.int .i64 b.x, .int .i64 b.y], .agg #[.int .i64 d.x, .int .i64 d.y], undef, .agg #[.int .i64 c.x, .int .i64 c.y], .agg #[.int .i64 d.x, .int .i64 d.y], undef, undef, undef, undef, undef, undef, undef, undef, undef, undef, undef, undef, undef, undef, undef, undef, undef, undef, undef, undef, undef, undef, undef, undef, undef, undef, undef], defers := [] } wl) := by
          intro wl g13 hB n13 r13
          refine (HG.out _ _ _ _).1 ?_
          refine wpAnyH_ready (rs := [5, 9, 10]) (by kernel_rfl) (by simp) ?_
          refine AllReadyH.cons (o := _) rfl (fun K hK => ?_) ?_
          · go_simp
            go_at_call 26
            refine (M2.out _).mono ?_
            rintro e wn ⟨rfl, hb⟩
            have hBn := hB.trans (hb.mono hB.size)
            refine hK.out _ _ (pts8 (A3.out.below hBn) (B3.out.below hBn) (C3.out.below hBn) (D3.out.below hBn)) (fun _ => ?_)
            refine (HG.out _ _ _ _).2 ?_
            exact recast rfl (by decide) (st2_13.out wn g13 hBn n13 (r13.below hb r13.inside))
          refine AllReadyH.cons (o := _) rfl (fun K hK => ?_) ?_
          · go_simp
            obtain ⟨wn, hw⟩ : ∃ w', wl.alloc (.cells #[.int .i64 0, .int .i64 0] 23) = w' := ⟨_, rfl⟩
            rw [hw]
            have hBn := hw ▸ hB.alloc hB.size (.cells #[.int .i64 0, .int .i64 0] 23)
            have rn := hw ▸ IsRow.made wl 23 #[.int .i64 0, .int .i64 0]
            have t13 := hw ▸ r13.later (.cells #[.int .i64 0, .int .i64 0] 23)
            clear hw
            refine hK.out _ _ (pts8 (A3.out.below hBn) (B3.out.below hBn) (C3.out.below hBn) (D3.out.below hBn)) (fun _ => ?_)
            refine (HG.out _ _ _ _).2 ?_
            exact recast rfl (by decide) (st1_1113.out wn wl.heap.size g13 hBn hB.size rn n13 t13 (Nat.ne_of_gt r13.inside))
          refine AllReadyH.cons (o := _) rfl (fun K hK => ?_) AllReadyH.nil
          go_simp
          obtain ⟨wn, hw⟩ : ∃ w', wl.alloc (.cells #[.int .i64 0, .int .i64 0] 23) = w' := ⟨_, rfl⟩
          rw [hw]
          have hBn := hw ▸ hB.alloc hB.size (.cells #[.int .i64 0, .int .i64 0] 23)
          have rn := hw ▸ IsRow.made wl 23 #[.int .i64 0, .int .i64 0]
          have t13 := hw ▸ r13.later (.cells #[.int .i64 0, .int .i64 0] 23)
          clear hw
          refine hK.out _ _ (pts8 (A3.out.below hBn) (B3.out.below hBn) (C3.out.below hBn) (D3.out.below hBn)) (fun _ => ?_)
          refine (HG.out _ _ _ _).2 ?_
          exact recast rfl (by decide) (st1_1213.out wn wl.heap.size g13 hBn hB.size rn n13 t13 (Nat.ne_of_gt r13.inside))
        have st0_1112 : Hid (∀ (wl : World) (g11 : Nat) (g12 : Nat) (hB : Below wc.heap.size wc wl) (n11 : wc.heap.size ≤ g11) (r11 : IsRow wl g11 23 #[.int .i64 0, .int .i64 0]) (n12 : wc.heap.size ≤ g12) (r12 : IsRow wl g12 23 #[.int .i64 0, .int .i64 0]) (e1112 : g11 ≠ g12), G 7 #[true, true, false, true, true, false, true, true, false, true, true, false, false, false, false] { tmps := #[.agg #[.int .i64 a.x, .int .i64 a.y], .agg #[.int .i64 b.x, .int .i64 b.y], .agg #[.int .i64 c.x, .int .i64 c.y], .agg #[.int .i64 d.x, .int .i64 d.y], .pointer (some ⟨w.heap.size, 0, none⟩), .pointer (some ⟨w.heap.size + 1, 0, none⟩), .pointer (some ⟨w.heap.size + 1 + 1, 0, none⟩), .pointer (some ⟨w.heap.size + 1 + 1 + 1, 0, none⟩), .bool false, .bool true, .int .i64 o, .pointer (some ⟨g11, 0, none⟩), .pointer (some ⟨g12, 0, none⟩), undef, .bool true, .agg #[.int .i64 a.x, .int .i64 a.y], .agg #[.int .i64 b.x, .int .i64 b.y], .agg #[.int .i64 c.x, .int .i64 c.y], .agg #[.int .i64 d.x, .int .i64 d.y], .slice (some ⟨w0.heap.size, 0, none⟩) 4 4, .bool true, .bool false, undef, .agg #[.int .i64 a.x, .int .i64 a.y], .agg #[.int .i64 b.x, .int .i64 b.y], .agg #[.int .i64 c.x, .int .i64 c.y], .int .i64 o, u27, u28, u29, u30, u31, u32, u33, u34, u35, u36, u37, u38, u39, u40, u41, u42, u43, u44, u45, u46, u47, u48, u49, u50, u51, u52, u53, u54, u55, u56, u57, u58, u59, u60, u61, u62, u63, .bool false, .agg #[.int .i64 a.x, .int .i64 a.y], .agg #[.int .i64 d.x, .int .i64 d.y], undef, .agg #[.int .i64 b.x, .int .i64 b.y], .agg #[.int .i64 d.x, .int .i64 d.y], undef, .agg #[.int .i64 c.x, .int .i64 c.y], .agg #[.int .i64 d.x, .int .i64 d.y], undef, undef, undef, undef, undef, undef, undef, undef, undef, undef, undef, undef, undef, undef, undef, undef, undef, undef, undef, undef, undef, undef, undef, undef, undef, undef, undef], defers := [] } wl) := by
          intro wl g11 g12 hB n11 r11 n12 r12 e1112
          refine (HG.out _ _ _ _).1 ?_
          refine wpAnyH_ready (rs := [2, 11]) (by kernel_rfl) (by simp) ?_
          refine AllReadyH.cons (o := _) rfl (fun K hK => ?_) ?_
          · go_simp
            go_at_call 26
            refine (M1.out _).mono ?_
            rintro e wn ⟨rfl, hb⟩
            have hBn := hB.trans (hb.mono hB.size)
            refine hK.out _ _ (pts8 (A3.out.below hBn) (B3.out.below hBn) (C3.out.below hBn) (D3.out.below hBn)) (fun _ => ?_)
            refine (HG.out _ _ _ _).2 ?_
            exact recast rfl (by decide) (st1_1112.out wn g11 g12 hBn n11 (r11.below hb r11.inside) n12 (r12.below hb r12.inside) e1112)
          refine AllReadyH.cons (o := _) rfl (fun K hK => ?_) AllReadyH.nil
          go_simp
          obtain ⟨wn, hw⟩ : ∃ w', wl.alloc (.cells #[.int .i64 0, .int .i64 0] 23) = w' := ⟨_, rfl⟩
          rw [hw]
          have hBn := hw ▸ hB.alloc hB.size (.cells #[.int .i64 0, .int .i64 0] 23)
          have rn := hw ▸ IsRow.made wl 23 #[.int .i64 0, .int .i64 0]
          have t11 := hw ▸ r11.later (.cells #[.int .i64 0, .int .i64 0] 23)
          have t12 := hw ▸ r12.later (.cells #[.int .i64 0, .int .i64 0] 23)
          clear hw
          refine hK.out _ _ (pts8 (A3.out.below hBn) (B3.out.below hBn) (C3.out.below hBn) (D3.out.below hBn)) (fun _ => ?_)
          refine (HG.out _ _ _ _).2 ?_
          exact recast rfl (by decide) (st0_111213.out wn g11 g12 wl.heap.size hBn n11 t11 n12 t12 hB.size rn e1112 (Nat.ne_of_lt r11.inside) (Nat.ne_of_lt r12.inside))
        have st0_1113 : Hid (∀ (wl : World) (g11 : Nat) (g13 : Nat) (hB : Below wc.heap.size wc wl) (n11 : wc.heap.size ≤ g11) (r11 : IsRow wl g11 23 #[.int .i64 0, .int .i64 0]) (n13 : wc.heap.size ≤ g13) (r13 : IsRow wl g13 23 #[.int .i64 0, .int .i64 0]) (e1113 : g11 ≠ g13), G 7 #[true, true, false, true, true, false, true, true, false, true, false, true, false, false, false] { tmps := #[.agg #[.int .i64 a.x, .int .i64 a.y], .agg #[.int .i64 b.x, .int .i64 b.y], .agg #[.int .i64 c.x, .int .i64 c.y], .agg #[.int .i64 d.x, .int .i64 d.y], .pointer (some ⟨w.heap.size, 0, none⟩), .pointer (some ⟨w.heap.size + 1, 0, none⟩), .pointer (some ⟨w.heap.size + 1 + 1, 0, none⟩), .pointer (some ⟨w.heap.size + 1 + 1 + 1, 0, none⟩), .bool false, .bool true, .int .i64 o, .pointer (some ⟨g11, 0, none⟩), undef, .pointer (some ⟨g13, 0, none⟩), .bool true, .agg #[.int .i64 a.x, .int .i64 a.y], .agg #[.int .i64 b.x, .int .i64 b.y], .agg #[.int .i64 c.x, .int .i64 c.y], .agg #[.int .i64 d.x, .int .i64 d.y], .slice (some ⟨w0.heap.size, 0, none⟩) 4 4, .bool true, .bool false, undef, .agg #[.int .i64 a.x, .int .i64 a.y], .agg #[.int .i64 b.x, .int .i64 b.y], .agg #[.int .i64 c.x, .int .i64 c.y], .int .i64 o, u27, u28, u29, u30, u31, u32, u33, u34, u35, u36, u37, u38, u39, u40, u41, u42, u43, u44, u45, u46, u47, u48, u49, u50, u51, u52, u53, u54, u55, u56, u57, u58, u59, u60, u61, u62, u63, .bool false, .agg #[.int .i64 a.x, .int .i64 a.y], .agg #[.int .i64 d.x, .int .i64 d.y], undef, .agg #[.int .i64 b.x, .int .i64 b.y], .agg #[.int .i64 d.x, .int .i64 d.y], undef, .agg #[.int .i64 c.x, .int .i64 c.y], .agg #[.int .i64 d.x, .int .i64 d.y], undef, undef, undef, undef, undef, undef, undef, undef, undef, undef, undef, undef, undef, undef, undef, undef, undef, undef, undef, undef, undef, undef, undef, undef, undef, undef, undef], defers := [] } wl) := by
          intro wl g11 g13 hB n11 r11 n13 r13 e1113
          refine (HG.out _ _ _ _).1 ?_
          refine wpAnyH_ready (rs := [2, 10]) (by kernel_rfl) (by simp) ?_
          refine AllReadyH.cons (o := _) rfl (fun K hK => ?_) ?_
          · go_simp
            go_at_call 26
            refine (M1.out _).mono ?_
            rintro e wn ⟨rfl, hb⟩
            have hBn := hB.trans (hb.mono hB.size)
            refine hK.out _ _ (pts8 (A3.out.below hBn) (B3.out.below hBn) (C3.out.below hBn) (D3.out.below hBn)) (fun _ => ?_)
            refine (HG.out _ _ _ _).2 ?_
            exact recast rfl (by decide) (st1_1113.out wn g11 g13 hBn n11 (r11.below hb r11.inside) n13 (r13.below hb r13.inside) e1113)
          refine AllReadyH.cons (o := _) rfl (fun K hK => ?_) AllReadyH.nil
          go_simp
          obtain ⟨wn, hw⟩ : ∃ w', wl.alloc (.cells #[.int .i64 0, .int .i64 0] 23) = w' := ⟨_, rfl⟩
          rw [hw]
          have hBn := hw ▸ hB.alloc hB.size (.cells #[.int .i64 0, .int .i64 0] 23)
          have rn := hw ▸ IsRow.made wl 23 #[.int .i64 0, .int .i64 0]
          have t11 := hw ▸ r11.later (.cells #[.int .i64 0, .int .i64 0] 23)
          have t13 := hw ▸ r13.later (.cells #[.int .i64 0, .int .i64 0] 23)
          clear hw
          refine hK.out _ _ (pts8 (A3.out.below hBn) (B3.out.below hBn) (C3.out.below hBn) (D3.out.below hBn)) (fun _ => ?_)
          refine (HG.out _ _ _ _).2 ?_
          exact recast rfl (by decide) (st0_111213.out wn g11 wl.heap.size g13 hBn n11 t11 hB.size rn n13 t13 (Nat.ne_of_lt r11.inside) e1113 (Nat.ne_of_gt r13.inside))
        have st0_1213 : Hid (∀ (wl : World) (g12 : Nat) (g13 : Nat) (hB : Below wc.heap.size wc wl) (n12 : wc.heap.size ≤ g12) (r12 : IsRow wl g12 23 #[.int .i64 0, .int .i64 0]) (n13 : wc.heap.size ≤ g13) (r13 : IsRow wl g13 23 #[.int .i64 0, .int .i64 0]) (e1213 : g12 ≠ g13), G 7 #[true, true, false, true, true, false, true, true, false, false, true, true, false, false, false] { tmps := #[.agg #[.int .i64 a.x, .int .i64 a.y], .agg #[.int .i64 b.x, .int .i64 b.y], .agg #[.int .i64 c.x, .int .i64 c.y], .agg #[.int .i64 d.x, .int .i64 d.y], .pointer (some ⟨w.heap.size, 0, none⟩), .pointer (some ⟨w.heap.size + 1, 0, none⟩), .pointer (some ⟨w.heap.size + 1 + 1, 0, none⟩), .pointer (some ⟨w.heap.size + 1 + 1 + 1, 0, none⟩), .bool false, .bool true, .int .i64 o, undef, .pointer (some ⟨g12, 0, none⟩), .pointer (some ⟨g13, 0, none⟩), .bool true, .agg #[.int .i64 a.x, .int .i64 a.y], .agg #[.int .i64 b.x, .int .i64 b.y], .agg #[.int .i64 c.x, .int .i64 c.y], .agg #[.int .i64 d.x, .int .i64 d.y], .slice (some ⟨w0.heap.size, 0, none⟩) 4 4, .bool true, .bool false, undef, .agg #[.int .i64 a.x, .int .i64 a.y], .agg #[.int .i64 b.x, .int .i64 b.y], .agg #[.int .i64 c.x, .int .i64 c.y], .int .i64 o, u27, u28, u29, u30, u31, u32, u33, u34, u35, u36, u37, u38, u39, u40, u41, u42, u43, u44, u45, u46, u47, u48, u49, u50, u51, u52, u53, u54, u55, u56, u57, u58, u59, u60, u61, u62, u63, .bool false, .agg #[.int .i64 a.x, .int .i64 a.y], .agg #[.int .i64 d.x, .int .i64 d.y], undef, .agg #[.int .i64 b.x, .int .i64 b.y], .agg #[.int .i64 d.x, .int .i64 d.y], undef, .agg #[.int .i64 c.x, .int .i64 c.y], .agg #[.int .i64 d.x, .int .i64 d.y], undef, undef, undef, undef, undef, undef, undef, undef, undef, undef, undef, undef, undef, undef, undef, undef, undef, undef, undef, undef, undef, undef, undef, undef, undef, undef, undef], defers := [] } wl) := by
          intro wl g12 g13 hB n12 r12 n13 r13 e1213
          refine (HG.out _ _ _ _).1 ?_
          refine wpAnyH_ready (rs := [2, 9]) (by kernel_rfl) (by simp) ?_
          refine AllReadyH.cons (o := _) rfl (fun K hK => ?_) ?_
          · go_simp
            go_at_call 26
            refine (M1.out _).mono ?_
            rintro e wn ⟨rfl, hb⟩
            have hBn := hB.trans (hb.mono hB.size)
            refine hK.out _ _ (pts8 (A3.out.below hBn) (B3.out.below hBn) (C3.out.below hBn) (D3.out.below hBn)) (fun _ => ?_)
            refine (HG.out _ _ _ _).2 ?_
            exact recast rfl (by decide) (st1_1213.out wn g12 g13 hBn n12 (r12.below hb r12.inside) n13 (r13.below hb r13.inside) e1213)
          refine AllReadyH.cons (o := _) rfl (fun K hK => ?_) AllReadyH.nil
          go_simp
          obtain ⟨wn, hw⟩ : ∃ w', wl.alloc (.cells #[.int .i64 0, .int .i64 0] 23) = w' := ⟨_, rfl⟩
          rw [hw]
          have hBn := hw ▸ hB.alloc hB.size (.cells #[.int .i64 0, .int .i64 0] 23)
          have rn := hw ▸ IsRow.made wl 23 #[.int .i64 0, .int .i64 0]
          have t12 := hw ▸ r12.later (.cells #[.int .i64 0, .int .i64 0] 23)
          have t13 := hw ▸ r13.later (.cells #[.int .i64 0, .int .i64 0] 23)
          clear hw
          refine hK.out _ _ (pts8 (A3.out.below hBn) (B3.out.below hBn) (C3.out.below hBn) (D3.out.below hBn)) (fun _ => ?_)
          refine (HG.out _ _ _ _).2 ?_
          exact recast rfl (by decide) (st0_111213.out wn wl.heap.size g12 g13 hBn hB.size rn n12 t12 n13 t13 (Nat.ne_of_gt r12.inside) (Nat.ne_of_gt r13.inside) e1213)
        have st1_ : Hid (∀ (wl : World) (hB : Below wc.heap.size wc wl), G 8 #[true, true, true, true, true, false, true, true, false, false, false, false, false, false, false] { tmps := #[.agg #[.int .i64 a.x, .int .i64 a.y], .agg #[.int .i64 b.x, .int .i64 b.y], .agg #[.int .i64 c.x, .int .i64 c.y], .agg #[.int .i64 d.x, .int .i64 d.y], .pointer (some ⟨w.heap.size, 0, none⟩), .pointer (some ⟨w.heap.size + 1, 0, none⟩), .pointer (some ⟨w.heap.size + 1 + 1, 0, none⟩), .pointer (some ⟨w.heap.size + 1 + 1 + 1, 0, none⟩), .bool false, .bool true, .int .i64 o, undef, undef, undef, .bool true, .agg #[.int .i64 a.x, .int .i64 a.y], .agg #[.int .i64 b.x, .int .i64 b.y], .agg #[.int .i64 c.x, .int .i64 c.y], .agg #[.int .i64 d.x, .int .i64 d.y], .slice (some ⟨w0.heap.size, 0, none⟩) 4 4, .bool true, .bool false, undef, .agg #[.int .i64 a.x, .int .i64 a.y], .agg #[.int .i64 b.x, .int .i64 b.y], .agg #[.int .i64 c.x, .int .i64 c.y], .int .i64 o, u27, u28, u29, u30, u31, u32, u33, u34, u35, u36, u37, u38, u39, u40, u41, u42, u43, u44, u45, u46, u47, u48, u49, u50, u51, u52, u53, u54, u55, u56, u57, u58, u59, u60, u61, u62, u63, .bool false, .agg #[.int .i64 a.x, .int .i64 a.y], .agg #[.int .i64 d.x, .int .i64 d.y], .agg #[.int .i64 xa.x, .int .i64 xa.y], .agg #[.int .i64 b.x, .int .i64 b.y], .agg #[.int .i64 d.x, .int .i64 d.y], undef, .agg #[.int .i64 c.x, .int .i64 c.y], .agg #[.int .i64 d.x, .int .i64 d.y], undef, undef, undef, undef, undef, undef, undef, undef, undef, undef, undef, undef, undef, undef, undef, undef, undef, undef, undef, undef, undef, undef, undef, undef, undef, undef, undef], defers := [] } wl) := by
          intro wl hB
          refine (HG.out _ _ _ _).1 ?_
          refine wpAnyH_ready (rs := [5, 9, 10, 11]) (by kernel_rfl) (by simp) ?_
          refine AllReadyH.cons (o := _) rfl (fun K hK => ?_) ?_
          · go_simp
            go_at_call 26
            refine (M2.out _).mono ?_
            rintro e wn ⟨rfl, hb⟩
            have hBn := hB.trans (hb.mono hB.size)
            refine hK.out _ _ (pts8 (A3.out.below hBn) (B3.out.below hBn) (C3.out.below hBn) (D3.out.below hBn)) (fun _ => ?_)
            refine (HG.out _ _ _ _).2 ?_
            exact recast rfl (by decide) (st2_.out wn hBn)
          refine AllReadyH.cons (o := _) rfl (fun K hK => ?_) ?_
          · go_simp
            obtain ⟨wn, hw⟩ : ∃ w', wl.alloc (.cells #[.int .i64 0, .int .i64 0] 23) = w' := ⟨_, rfl⟩
            rw [hw]
            have hBn := hw ▸ hB.alloc hB.size (.cells #[.int .i64 0, .int .i64 0] 23)
            have rn := hw ▸ IsRow.made wl 23 #[.int .i64 0, .int .i64 0]
            clear hw
            refine hK.out _ _ (pts8 (A3.out.below hBn) (B3.out.below hBn) (C3.out.below hBn) (D3.out.below hBn)) (fun _ => ?_)
            refine (HG.out _ _ _ _).2 ?_
            exact recast rfl (by decide) (st1_11.out wn wl.heap.size hBn hB.size rn)
          refine AllReadyH.cons (o := _) rfl (fun K hK => ?_) ?_
          · go_simp
            obtain ⟨wn, hw⟩ : ∃ w', wl.alloc (.cells #[.int .i64 0, .int .i64 0] 23) = w' := ⟨_, rfl⟩
            rw [hw]
            have hBn := hw ▸ hB.alloc hB.size (.cells #[.int .i64 0, .int .i64 0] 23)
            have rn := hw ▸ IsRow.made wl 23 #[.int .i64 0, .int .i64 0]
            clear hw
            refine hK.out _ _ (pts8 (A3.out.below hBn) (B3.out.below hBn) (C3.out.below hBn) (D3.out.below hBn)) (fun _ => ?_)
            refine (HG.out _ _ _ _).2 ?_
            exact recast rfl (by decide) (st1_12.out wn wl.heap.size hBn hB.size rn)
          refine AllReadyH.cons (o := _) rfl (fun K hK => ?_) AllReadyH.nil
          go_simp
          obtain ⟨wn, hw⟩ : ∃ w', wl.alloc (.cells #[.int .i64 0, .int .i64 0] 23) = w' := ⟨_, rfl⟩
          rw [hw]
          have hBn := hw ▸ hB.alloc hB.size (.cells #[.int .i64 0, .int .i64 0] 23)
          have rn := hw ▸ IsRow.made wl 23 #[.int .i64 0, .int .i64 0]
          clear hw
          refine hK.out _ _ (pts8 (A3.out.below hBn) (B3.out.below hBn) (C3.out.below hBn) (D3.out.below hBn)) (fun _ => ?_)
          refine (HG.out _ _ _ _).2 ?_
          exact recast rfl (by decide) (st1_13.out wn wl.heap.size hBn hB.size rn)
        have st0_11 : Hid (∀ (wl : World) (g11 : Nat) (hB : Below wc.heap.size wc wl) (n11 : wc.heap.size ≤ g11) (r11 : IsRow wl g11 23 #[.int .i64 0, .int .i64 0]), G 8 #[true, true, false, true, true, false, true, true, false, true, false, false, false, false, false] { tmps := #[.agg #[.int .i64 a.x, .int .i64 a.y], .agg #[.int .i64 b.x, .int .i64 b.y], .agg #[.int .i64 c.x, .int .i64 c.y], .agg #[.int .i64 d.x, .int .i64 d.y], .pointer (some ⟨w.heap.size, 0, none⟩), .pointer (some ⟨w.heap.size + 1, 0, none⟩), .pointer (some ⟨w.heap.size + 1 + 1, 0, none⟩), .pointer (some ⟨w.heap.size + 1 + 1 + 1, 0, none⟩), .bool false, .bool true, .int .i64 o, .pointer (some ⟨g11, 0, none⟩), undef, undef, .bool true, .agg #[.int .i64 a.x, .int .i64 a.y], .agg #[.int .i64 b.x, .int .i64 b.y], .agg #[.int .i64 c.x, .int .i64 c.y], .agg #[.int .i64 d.x, .int .i64 d.y], .slice (some ⟨w0.heap.size, 0, none⟩) 4 4, .bool true, .bool false, undef, .agg #[.int .i64 a.x, .int .i64 a.y], .agg #[.int .i64 b.x, .int .i64 b.y], .agg #[.int .i64 c.x, .int .i64 c.y], .int .i64 o, u27, u28, u29, u30, u31, u32, u33, u34, u35, u36, u37, u38, u39, u40, u41, u42, u43, u44, u45, u46, u47, u48, u49, u50, u51, u52, u53, u54, u55, u56, u57, u58, u59, u60, u61, u62, u63, .bool false, .agg #[.int .i64 a.x, .int .i64 a.y], .agg #[.int .i64 d.x, .int .i64 d.y], undef, .agg #[.int .i64 b.x, .int .i64 b.y], .agg #[.int .i64 d.x, .int .i64 d.y], undef, .agg #[.int .i64 c.x, .int .i64 c.y], .agg #[.int .i64 d.x, .int .i64 d.y], undef, undef, undef, undef, undef, undef, undef, undef, undef, undef, undef, undef, undef, undef, undef, undef, undef, undef, undef, undef, undef, undef, undef, undef, undef, undef, undef], defers := [] } wl) := by
          intro wl g11 hB n11 r11
          refine (HG.out _ _ _ _).1 ?_
          refine wpAnyH_ready (rs := [2, 10, 11]) (by kernel_rfl) (by simp) ?_
          refine AllReadyH.cons (o := _) rfl (fun K hK => ?_) ?_
          · go_simp
            go_at_call 26
            refine (M1.out _).mono ?_
            rintro e wn ⟨rfl, hb⟩
            have hBn := hB.trans (hb.mono hB.size)
            refine hK.out _ _ (pts8 (A3.out.below hBn) (B3.out.below hBn) (C3.out.below hBn) (D3.out.below hBn)) (fun _ => ?_)
            refine (HG.out _ _ _ _).2 ?_
            exact recast rfl (by decide) (st1_11.out wn g11 hBn n11 (r11.below hb r11.inside))
          refine AllReadyH.cons (o := _) rfl (fun K hK => ?_) ?_
          · go_simp
            obtain ⟨wn, hw⟩ : ∃ w', wl.alloc (.cells #[.int .i64 0, .int .i64 0] 23) = w' := ⟨_, rfl⟩
            rw [hw]
            have hBn := hw ▸ hB.alloc hB.size (.cells #[.int .i64 0, .int .i64 0] 23)
            have rn := hw ▸ IsRow.made wl 23 #[.int .i64 0, .int .i64 0]
            have t11 := hw ▸ r11.later (.cells #[.int .i64 0, .int .i64 0] 23)
            clear hw
            refine hK.out _ _ (pts8 (A3.out.below hBn) (B3.out.below hBn) (C3.out.below hBn) (D3.out.below hBn)) (fun _ => ?_)
            refine (HG.out _ _ _ _).2 ?_
            exact recast rfl (by decide) (st0_1112.out wn g11 wl.heap.size hBn n11 t11 hB.size rn (Nat.ne_of_lt r11.inside))
          refine AllReadyH.cons (o := _) rfl (fun K hK => ?_) AllReadyH.nil
          go_simp
          obtain ⟨wn, hw⟩ : ∃ w', wl.alloc (.cells #[.int .i64 0, .int .i64 0] 23) = w' := ⟨_, rfl⟩
          rw [hw]
          have hBn := hw ▸ hB.alloc hB.size (.cells #[.int .i64 0, .int .i64 0] 23)
          have rn := hw ▸ IsRow.made wl 23 #[.int .i64 0, .int .i64 0]
          have t11 := hw ▸ r11.later (.cells #[.int .i64 0, .int .i64 0] 23)
          clear hw
          refine hK.out _ _ (pts8 (A3.out.below hBn) (B3.out.below hBn) (C3.out.below hBn) (D3.out.below hBn)) (fun _ => ?_)
          refine (HG.out _ _ _ _).2 ?_
          exact recast rfl (by decide) (st0_1113.out wn g11 wl.heap.size hBn n11 t11 hB.size rn (Nat.ne_of_lt r11.inside))
        have st0_12 : Hid (∀ (wl : World) (g12 : Nat) (hB : Below wc.heap.size wc wl) (n12 : wc.heap.size ≤ g12) (r12 : IsRow wl g12 23 #[.int .i64 0, .int .i64 0]), G 8 #[true, true, false, true, true, false, true, true, false, false, true, false, false, false, false] { tmps := #[.agg #[.int .i64 a.x, .int .i64 a.y], .agg #[.int .i64 b.x, .int .i64 b.y], .agg #[.int .i64 c.x, .int .i64 c.y], .agg #[.int .i64 d.x, .int .i64 d.y], .pointer (some ⟨w.heap.size, 0, none⟩), .pointer (some ⟨w.heap.size + 1, 0, none⟩), .pointer (some ⟨w.heap.size + 1 + 1, 0, none⟩), .pointer (some ⟨w.heap.size + 1 + 1 + 1, 0, none⟩), .bool false, .bool true, .int .i64 o, undef, .pointer (some ⟨g12, 0, none⟩), undef, .bool true, .agg #[.int .i64 a.x, .int .i64 a.y], .agg #[.int .i64 b.x, .int .i64 b.y], .agg #[.int .i64 c.x, .int .i64 c.y], .agg #[.int .i64 d.x, .int .i64 d.y], .slice (some ⟨w0.heap.size, 0, none⟩) 4 4, .bool true, .bool false, undef, .agg #[.int .i64 a.x, .int .i64 a.y], .agg #[.int .i64 b.x, .int .i64 b.y], .agg #[.int .i64 c.x, .int .i64 c.y], .int .i64 o, u27, u28, u29, u30, u31, u32, u33, u34, u35, u36, u37, u38, u39, u40, u41, u42, u43, u44, u45, u46, u47, u48, u49, u50, u51, u52, u53, u54, u55, u56, u57, u58, u59, u60, u61, u62, u63, .bool false, .agg #[.int .i64 a.x, .int .i64 a.y], .agg #[.int .i64 d.x, .int .i64 d.y], undef, .agg #[.int .i64 b.x, .int .i64 b.y], .agg #[.int .i64 d.x, .int .i64 d.y], undef, .agg #[.int .i64 c.x, .int .i64 c.y], .agg #[.int .i64 d.x, .int .i64 d.y], undef, undef, undef, undef, undef, undef, undef, undef, undef, undef, undef, undef, undef, undef, undef, undef, undef, undef, undef, undef, undef, undef, undef, undef, undef, undef, undef], defers := [] } wl) := by
          intro wl g12 hB n12 r12
          refine (HG.out _ _ _ _).1 ?_
          refine wpAnyH_ready (rs := [2, 9, 11]) (by kernel_rfl) (by simp) ?_
          refine AllReadyH.cons (o := _) rfl (fun K hK => ?_) ?_
          · go_simp
            go_at_call 26
            refine (M1.out _).mono ?_
            rintro e wn ⟨rfl, hb⟩
            have hBn := hB.trans (hb.mono hB.size)
            refine hK.out _ _ (pts8 (A3.out.below hBn) (B3.out.below hBn) (C3.out.below hBn) (D3.out.below hBn)) (fun _ => ?_)
            refine (HG.out _ _ _ _).2 ?_
            exact recast rfl (by decide) (st1_12.out wn g12 hBn n12 (r12.below hb r12.inside))
          refine AllReadyH.cons (o := _) rfl (fun K hK => ?_) ?_
          · go_simp
            obtain ⟨wn, hw⟩ : ∃ w', wl.alloc (.cells #[.int .i64 0, .int .i64 0] 23) = w' := ⟨_, rfl⟩
            rw [hw]
            have hBn := hw ▸ hB.alloc hB.size (.cells #[.int .i64 0, .int .i64 0] 23)
            have rn := hw ▸ IsRow.made wl 23 #[.int .i64 0, .int .i64 0]
            have t12 := hw ▸ r12.later (.cells #[.int .i64 0, .int .i64 0] 23)
            clear hw
            refine hK.out _ _ (pts8 (A3.out.below hBn) (B3.out.below hBn) (C3.out.below hBn) (D3.out.below hBn)) (fun _ => ?_)
            refine (HG.out _ _ _ _).2 ?_
            exact recast rfl (by decide) (st0_1112.out wn wl.heap.size g12 hBn hB.size rn n12 t12 (Nat.ne_of_gt r12.inside))
          refine AllReadyH.cons (o := _) rfl (fun K hK => ?_) AllReadyH.nil
          go_simp
          obtain ⟨wn, hw⟩ : ∃ w', wl.alloc (.cells #[.int .i64 0, .int .i64 0] 23) = w' := ⟨_, rfl⟩
          rw [hw]
          have hBn := hw ▸ hB.alloc hB.size (.cells #[.int .i64 0, .int .i64 0] 23)
          have rn := hw ▸ IsRow.made wl 23 #[.int .i64 0, .int .i64 0]
          have t12 := hw ▸ r12.later (.cells #[.int .i64 0, .int .i64 0] 23)
          clear hw
          refine hK.out _ _ (pts8 (A3.out.below hBn) (B3.out.below hBn) (C3.out.below hBn) (D3.out.below hBn)) (fun _ => ?_)
          refine (HG.out _ _ _ _).2 ?_
          exact recast rfl (by decide) (st0_1213.out wn g12 wl.heap.size hBn n12 t12 hB.size rn (Nat.ne_of_lt r12.inside))
        have st0_13 : Hid (∀ (wl : World) (g13 : Nat) (hB : Below wc.heap.size wc wl) (n13 : wc.heap.size ≤ g13) (r13 : IsRow wl g13 23 #[.int .i64 0, .int .i64 0]), G 8 #[true, true, false, true, true, false, true, true, false, false, false, true, false, false, false] { tmps := #[.agg #[.int .i64 a.x, .int .i64 a.y], .agg #[.int .i64 b.x, .int .i64 b.y], .agg #[.int .i64 c.x, .int .i64 c.y], .agg #[.int .i64 d.x, .int .i64 d.y], .pointer (some ⟨w.heap.size, 0, none⟩), .pointer (some ⟨w.heap.size + 1, 0, none⟩), .pointer (some ⟨w.heap.size + 1 + 1, 0, none⟩), .pointer (some ⟨w.heap.size + 1 + 1 + 1, 0, none⟩), .bool false, .bool true, .int .i64 o, undef, undef, .pointer (some ⟨g13, 0, none⟩), .bool true, .agg #[.int .i64 a.x, .int .i64 a.y], .agg #[.int .i64 b.x, .int .i64 b.y], .agg #[.int .i64 c.x, .int .i64 c.y], .agg #[.int .i64 d.x, .int .i64 d.y], .slice (some ⟨w0.heap.size, 0, none⟩) 4 4, .bool true, .bool false, undef, .agg #[.int .i64 a.x, .int .i64 a.y], .agg #[.int .i64 b.x, .int .i64 b.y], .agg #[.int .i64 c.x, .int .i64 c.y], .int .i64 o, u27, u28, u29, u30, u31, u32, u33, u34, u35, u36, u37, u38, u39, u40, u41, u42, u43, u44, u45, u46, u47, u48, u49, u50, u51, u52, u53, u54, u55, u56, u57, u58, u59, u60, u61, u62, u63, .bool false, .agg #[.int .i64 a.x, .int .i64 a.y], .agg #[.int .i64 d.x, .int .i64 d.y], undef, .agg #[.int .i64 b.x, .int .i64 b.y], .agg #[.int .i64 d.x, .int .i64 d.y], undef, .agg #[.int .i64 c.x, .int .i64 c.y], .agg #[.int .i64 d.x, .int .i64 d.y], undef, undef, undef, undef, undef, undef, undef, undef, undef, undef, undef, undef, undef, undef, undef, undef, undef, undef, undef, undef, undef, undef, undef, undef, undef, undef, undef], defers := [] } wl) := by
          intro wl g13 hB n13 r13
          refine (HG.out _ _ _ _).1 ?_
          refine wpAnyH_ready (rs := [2, 9, 10]) (by kernel_rfl) (by simp) ?_
          refine AllReadyH.cons (o := _) rfl (fun K hK => ?_) ?_
          · go_simp
            go_at_call 26
            refine (M1.out _).mono ?_
            rintro e wn ⟨rfl, hb⟩
            have hBn := hB.trans (hb.mono hB.size)
            refine hK.out _ _ (pts8 (A3.out.below hBn) (B3.out.below hBn) (C3.out.below hBn) (D3.out.below hBn)) (fun _ => ?_)
            refine (HG.out _ _ _ _).2 ?_
            exact recast rfl (by decide) (st1_13.out wn g13 hBn n13 (r13.below hb r13.inside))
          refine AllReadyH.cons (o := _) rfl (fun K hK => ?_) ?_
          · go_simp
            obtain ⟨wn, hw⟩ : ∃ w', wl.alloc (.cells #[.int .i64 0, .int .i64 0] 23) = w' := ⟨_, rfl⟩
            rw [hw]
            have hBn := hw ▸ hB.alloc hB.size (.cells #[.int .i64 0, .int .i64 0] 23)
            have rn := hw ▸ IsRow.made wl 23 #[.int .i64 0, .int .i64 0]
            have t13 := hw ▸ r13.later (.cells #[.int .i64 0, .int .i64 0] 23)
            clear hw
            refine hK.out _ _ (pts8 (A3.out.below hBn) (B3.out.below hBn) (C3.out.below hBn) (D3.out.below hBn)) (fun _ => ?_)
            refine (HG.out _ _ _ _).2 ?_
            exact recast rfl (by decide) (st0_1113.out wn wl.heap.size g13 hBn hB.size rn n13 t13 (Nat.ne_of_gt r13.inside))
          refine AllReadyH.cons (o := _) rfl (fun K hK => ?_) AllReadyH.nil
          go_simp
          obtain ⟨wn, hw⟩ : ∃ w', wl.alloc (.cells #[.int .i64 0, .int .i64 0] 23) = w' := ⟨_, rfl⟩
          rw [hw]
          have hBn := hw ▸ hB.alloc hB.size (.cells #[.int .i64 0, .int .i64 0] 23)
          have rn := hw ▸ IsRow.made wl 23 #[.int .i64 0, .int .i64 0]
          have t13 := hw ▸ r13.later (.cells #[.int .i64 0, .int .i64 0] 23)
          clear hw
          refine hK.out _ _ (pts8 (A3.out.below hBn) (B3.out.below hBn) (C3.out.below hBn) (D3.out.below hBn)) (fun _ => ?_)
          refine (HG.out _ _ _ _).2 ?_
          exact recast rfl (by decide) (st0_1213.out wn wl.heap.size g13 hBn hB.size rn n13 t13 (Nat.ne_of_gt r13.inside))
        have st0_ : Hid (∀ (wl : World) (hB : Below wc.heap.size wc wl), G 9 #[true, true, false, true, true, false, true, true, false, false, false, false, false, false, false] { tmps := #[.agg #[.int .i64 a.x, .int .i64 a.y], .agg #[.int .i64 b.x, .int .i64 b.y], .agg #[.int .i64 c.x, .int .i64 c.y], .agg #[.int .i64 d.x, .int .i64 d.y], .pointer (some ⟨w.heap.size, 0, none⟩), .pointer (some ⟨w.heap.size + 1, 0, none⟩), .pointer (some ⟨w.heap.size + 1 + 1, 0, none⟩), .pointer (some ⟨w.heap.size + 1 + 1 + 1, 0, none⟩), .bool false, .bool true, .int .i64 o, undef, undef, undef, .bool true, .agg #[.int .i64 a.x, .int .i64 a.y], .agg #[.int .i64 b.x, .int .i64 b.y], .agg #[.int .i64 c.x, .int .i64 c.y], .agg #[.int .i64 d.x, .int .i64 d.y], .slice (some ⟨w0.heap.size, 0, none⟩) 4 4, .bool true, .bool false, undef, .agg #[.int .i64 a.x, .int .i64 a.y], .agg #[.int .i64 b.x, .int .i64 b.y], .agg #[.int .i64 c.x, .int .i64 c.y], .int .i64 o, u27, u28, u29, u30, u31, u32, u33, u34, u35, u36, u37, u38, u39, u40, u41, u42, u43, u44, u45, u46, u47, u48, u49, u50, u51, u52, u53, u54, u55, u56, u57, u58, u59, u60, u61, u62, u63, .bool false, .agg #[.int .i64 a.x, .int .i64 a.y], .agg #[.int .i64 d.x, .int .i64 d.y], undef, .agg #[.int .i64 b.x, .int .i64 b.y], .agg #[.int .i64 d.x, .int .i64 d.y], undef, .agg #[.int .i64 c.x, .int .i64 c.y], .agg #[.int .i64 d.x, .int .i64 d.y], undef, undef, undef, undef, undef, undef, undef, undef, undef, undef, undef, undef, undef, undef, undef, undef, undef, undef, undef, undef, undef, undef, undef, undef, undef, undef, undef], defers := [] } wl) := by
          intro wl hB
          refine (HG.out _ _ _ _).1 ?_
          refine wpAnyH_ready (rs := [2, 9, 10, 11]) (by kernel_rfl) (by simp) ?_
          refine AllReadyH.cons (o := _) rfl (fun K hK => ?_) ?_
          · go_simp
            go_at_call 26
            refine (M1.out _).mono ?_
            rintro e wn ⟨rfl, hb⟩
            have hBn := hB.trans (hb.mono hB.size)
            refine hK.out _ _ (pts8 (A3.out.below hBn) (B3.out.below hBn) (C3.out.below hBn) (D3.out.below hBn)) (fun _ => ?_)
            refine (HG.out _ _ _ _).2 ?_
            exact recast rfl (by decide) (st1_.out wn hBn)
          refine AllReadyH.cons (o := _) rfl (fun K hK => ?_) ?_
          · go_simp
            obtain ⟨wn, hw⟩ : ∃ w', wl.alloc (.cells #[.int .i64 0, .int .i64 0] 23) = w' := ⟨_, rfl⟩
            rw [hw]
            have hBn := hw ▸ hB.alloc hB.size (.cells #[.int .i64 0, .int .i64 0] 23)
            have rn := hw ▸ IsRow.made wl 23 #[.int .i64 0, .int .i64 0]
            clear hw
            refine hK.out _ _ (pts8 (A3.out.below hBn) (B3.out.below hBn) (C3.out.below hBn) (D3.out.below hBn)) (fun _ => ?_)
            refine (HG.out _ _ _ _).2 ?_
            exact recast rfl (by decide) (st0_11.out wn wl.heap.size hBn hB.size rn)
          refine AllReadyH.cons (o := _) rfl (fun K hK => ?_) ?_
          · go_simp
            obtain ⟨wn, hw⟩ : ∃ w', wl.alloc (.cells #[.int .i64 0, .int .i64 0] 23) = w' := ⟨_, rfl⟩
            rw [hw]
            have hBn := hw ▸ hB.alloc hB.size (.cells #[.int .i64 0, .int .i64 0] 23)
            have rn := hw ▸ IsRow.made wl 23 #[.int .i64 0, .int .i64 0]
            clear hw
            refine hK.out _ _ (pts8 (A3.out.below hBn) (B3.out.below hBn) (C3.out.below hBn) (D3.out.below hBn)) (fun _ => ?_)
            refine (HG.out _ _ _ _).2 ?_
            exact recast rfl (by decide) (st0_12.out wn wl.heap.size hBn hB.size rn)
          refine AllReadyH.cons (o := _) rfl (fun K hK => ?_) AllReadyH.nil
          go_simp
          obtain ⟨wn, hw⟩ : ∃ w', wl.alloc (.cells #[.int .i64 0, .int .i64 0] 23) = w' := ⟨_, rfl⟩
          rw [hw]
          have hBn := hw ▸ hB.alloc hB.size (.cells #[.int .i64 0, .int .i64 0] 23)
          have rn := hw ▸ IsRow.made wl 23 #[.int .i64 0, .int .i64 0]
          clear hw
          refine hK.out _ _ (pts8 (A3.out.below hBn) (B3.out.below hBn) (C3.out.below hBn) (D3.out.below hBn)) (fun _ => ?_)
          refine (HG.out _ _ _ _).2 ?_
          exact recast rfl (by decide) (st0_13.out wn wl.heap.size hBn hB.size rn)
        exact recast rfl (by decide) (st0_.out v0 B_0)
      case rest =>
        obtain ⟨g11, g12, g13, rfl, rfl, rfl, hx, hy, hz, hb4⟩ := hcut
        have HB4 := Lib.hid (HB3.out.trans (hb4.out.mono HB3.out.size))
        have A4 := Lib.hid (A3.out.below hb4.out)
        have B4 := Lib.hid (B3.out.below hb4.out)
        clear hb4 A3 B3 C3 D3 M1 M2 M3
        obtain ⟨bb, hbb⟩ : ∃ bb, (nearB xa && nearB xb && nearB xc) = bb := ⟨_, rfl⟩
        have NL := fun (wl : World) => near_three (w := wl) hbb
        have HNL := Lib.hid NL
        have NL2 := fun (wl : World) => near_drew (w := wl) hbb
        have HNL2 := Lib.hid NL2
        clear NL NL2
        obtain ⟨a0, a1⟩ := has_facts A4.out
        obtain ⟨b0, b1⟩ := has_facts B4.out
        obtain ⟨x0, x1⟩ := has_facts hx.out
        obtain ⟨y0, y1⟩ := has_facts hy.out
        obtain ⟨z0, z1⟩ := has_facts hz.out
        cases bb with
        | false =>
          clear hbb
          go_upto_region 8 with fail
          refine wp_region_held_drew (S := (fun w' : World => w'.cell? ⟨g11, 0, none⟩ = some (.int .i64 xa.x) ∧ w'.cell? ⟨g11, 1, none⟩ = some (.int .i64 xa.y) ∧ w'.cell? ⟨g12, 0, none⟩ = some (.int .i64 xb.x) ∧ w'.cell? ⟨g12, 1, none⟩ = some (.int .i64 xb.y) ∧
            w'.cell? ⟨g13, 0, none⟩ = some (.int .i64 xc.x) ∧ w'.cell? ⟨g13, 1, none⟩ = some (.int .i64 xc.y) ∧ w'.cell? ⟨w.heap.size, 0, none⟩ = some (.int .i64 a.x) ∧ w'.cell? ⟨w.heap.size, 1, none⟩ = some (.int .i64 a.y) ∧
            w'.cell? ⟨w.heap.size + 1, 0, none⟩ = some (.int .i64 b.x) ∧ w'.cell? ⟨w.heap.size + 1, 1, none⟩ = some (.int .i64 b.y))) (by kernel_rfl) (pts10 (hx.out.below (drew_below wc)) (hy.out.below (drew_below wc)) (hz.out.below (drew_below wc)) (A4.out.below (drew_below wc)) (B4.out.below (drew_below wc))) (fun hHeld => ?_)
          have B_0 := drew_below wc
          generalize wc.drew = v0 at *
          refine wpAnyH_take (i := 0) (oi := _) (v := .bool true) rfl (by kernel_rfl) (by kernel_rfl) (by kernel_rfl) (fun _ _ _ h => h) (Or.inl ⟨by rfl, ?_⟩) hHeld ?_
          · intro w hSw
            go_simp
          refine wpAnyH_take (i := 1) (oi := _) (v := .bool true) rfl (by kernel_rfl) (by kernel_rfl) (by kernel_rfl) (fun _ _ _ h => h) (Or.inl ⟨by rfl, ?_⟩) hHeld ?_
          · intro w hSw
            go_simp
          refine wpAnyH_take (i := 2) (oi := _) (v := .agg #[.int .i64 xa.x, .int .i64 xa.y]) rfl (by kernel_rfl) (by kernel_rfl) (by kernel_rfl) (fun _ _ _ h => h) (Or.inl ⟨by rfl, ?_⟩) hHeld ?_
          · intro w hSw
            go_simp
          refine wpAnyH_take (i := 3) (oi := _) (v := .agg #[.int .i64 xb.x, .int .i64 xb.y]) rfl (by kernel_rfl) (by kernel_rfl) (by kernel_rfl) (fun _ _ _ h => h) (Or.inl ⟨by rfl, ?_⟩) hHeld ?_
          · intro w hSw
            go_simp
          refine wpAnyH_take (i := 4) (oi := _) (v := .agg #[.int .i64 xc.x, .int .i64 xc.y]) rfl (by kernel_rfl) (by kernel_rfl) (by kernel_rfl) (fun _ _ _ h => h) (Or.inl ⟨by rfl, ?_⟩) hHeld ?_
          · intro w hSw
            go_simp
          simp only [Act.put, List.setIfInBounds_toArray]
          refine wpAnyH_ready (rs := [5]) (by kernel_rfl) (by simp) ?_
          refine AllReadyH.cons (o := _) rfl (fun K hK => ?_) AllReadyH.nil
          go_simp
          have B_1 := B_0.alloc B_0.size (.cells #[.int .i64 xa.x, .int .i64 xa.y, .int .i64 xb.x, .int .i64 xb.y, .int .i64 xc.x, .int .i64 xc.y] 23)
          refine hK.out _ _ (pts10 (hx.out.below B_1) (hy.out.below B_1) (hz.out.below B_1) (A4.out.below B_1) (B4.out.below B_1)) (fun _ => ?_)
          clear hK
          refine wpAnyH_ready (rs := [6]) (by kernel_rfl) (by simp) ?_
          refine AllReadyH.cons (o := _) rfl (fun K hK => ?_) AllReadyH.nil
          go_simp
          go_at_call 25
          refine (HNL.out v0).mono ?_
          rintro e v2 ⟨rfl, hb⟩
          have B_2 := B_0.trans (hb.mono B_0.size)
          refine hK.out _ _ (pts10 (hx.out.below B_2) (hy.out.below B_2) (hz.out.below B_2) (A4.out.below B_2) (B4.out.below B_2)) (fun hHeld => ?_)
          clear hK hb B_1
          refine wpAnyH_take (i := 7) (oi := _) (v := .bool true) rfl (by kernel_rfl) (by kernel_rfl) (by kernel_rfl) (fun _ _ _ h => h) (Or.inl ⟨by rfl, ?_⟩) hHeld ?_
          · intro w hSw
            go_simp
          refine wpAnyH_take (i := 8) (oi := _) (v := .bool true) rfl (by kernel_rfl) (by kernel_rfl) (by kernel_rfl) (fun _ _ _ h => h) (Or.inl ⟨by rfl, ?_⟩) hHeld ?_
          · intro w hSw
            go_simp
          simp only [Act.put, List.setIfInBounds_toArray]
          refine wpAnyH_take (i := 9) (oi := _) (v := undef) rfl (by kernel_rfl) (by kernel_rfl) (by kernel_rfl) (fun _ _ _ h => h) (Or.inr ⟨by kernel_rfl, rfl⟩) hHeld ?_
          refine wpAnyH_take (i := 10) (oi := _) (v := undef) rfl (by kernel_rfl) (by kernel_rfl) (by kernel_rfl) (fun _ _ _ h => h) (Or.inr ⟨by kernel_rfl, rfl⟩) hHeld ?_
          refine wpAnyH_take (i := 11) (oi := _) (v := undef) rfl (by kernel_rfl) (by kernel_rfl) (by kernel_rfl) (fun _ _ _ h => h) (Or.inr ⟨by kernel_rfl, rfl⟩) hHeld ?_
          refine wpAnyH_take (i := 12) (oi := _) (v := undef) rfl (by kernel_rfl) (by kernel_rfl) (by kernel_rfl) (fun _ _ _ h => h) (Or.inr ⟨by kernel_rfl, rfl⟩) hHeld ?_
          refine wpAnyH_take (i := 13) (oi := _) (v := undef) rfl (by kernel_rfl) (by kernel_rfl) (by kernel_rfl) (fun _ _ _ h => h) (Or.inr ⟨by kernel_rfl, rfl⟩) hHeld ?_
          refine wpAnyH_take (i := 14) (oi := _) (v := undef) rfl (by kernel_rfl) (by kernel_rfl) (by kernel_rfl) (fun _ _ _ h => h) (Or.inr ⟨by kernel_rfl, rfl⟩) hHeld ?_
          refine wpAnyH_take (i := 15) (oi := _) (v := undef) rfl (by kernel_rfl) (by kernel_rfl) (by kernel_rfl) (fun _ _ _ h => h) (Or.inr ⟨by kernel_rfl, rfl⟩) hHeld ?_
          refine wpAnyH_take (i := 16) (oi := _) (v := undef) rfl (by kernel_rfl) (by kernel_rfl) (by kernel_rfl) (fun _ _ _ h => h) (Or.inr ⟨by kernel_rfl, rfl⟩) hHeld ?_
          refine wpAnyH_take (i := 17) (oi := _) (v := undef) rfl (by kernel_rfl) (by kernel_rfl) (by kernel_rfl) (fun _ _ _ h => h) (Or.inr ⟨by kernel_rfl, rfl⟩) hHeld ?_
          refine wpAnyH_take (i := 18) (oi := _) (v := undef) rfl (by kernel_rfl) (by kernel_rfl) (by kernel_rfl) (fun _ _ _ h => h) (Or.inr ⟨by kernel_rfl, rfl⟩) hHeld ?_
          refine wpAnyH_take (i := 19) (oi := _) (v := undef) rfl (by kernel_rfl) (by kernel_rfl) (by kernel_rfl) (fun _ _ _ h => h) (Or.inr ⟨by kernel_rfl, rfl⟩) hHeld ?_
          refine wpAnyH_take (i := 20) (oi := _) (v := undef) rfl (by kernel_rfl) (by kernel_rfl) (by kernel_rfl) (fun _ _ _ h => h) (Or.inr ⟨by kernel_rfl, rfl⟩) hHeld ?_
          refine wpAnyH_take (i := 21) (oi := _) (v := undef) rfl (by kernel_rfl) (by kernel_rfl) (by kernel_rfl) (fun _ _ _ h => h) (Or.inr ⟨by kernel_rfl, rfl⟩) hHeld ?_
          refine wpAnyH_take (i := 22) (oi := _) (v := undef) rfl (by kernel_rfl) (by kernel_rfl) (by kernel_rfl) (fun _ _ _ h => h) (Or.inr ⟨by kernel_rfl, rfl⟩) hHeld ?_
          refine wpAnyH_take (i := 23) (oi := _) (v := undef) rfl (by kernel_rfl) (by kernel_rfl) (by kernel_rfl) (fun _ _ _ h => h) (Or.inr ⟨by kernel_rfl, rfl⟩) hHeld ?_
          simp only [Act.put]
          refine wpAnyH_take (i := 24) (oi := _) (v := .bool true) rfl (by kernel_rfl) (by kernel_rfl) (by kernel_rfl) (fun _ _ _ h => h) (Or.inl ⟨by kernel_rfl, ?_⟩) hHeld ?_
          · intro w hSw
            go_simp
          refine wpAnyH_take (i := 25) (oi := _) (v := .bool true) rfl (by kernel_rfl) (by kernel_rfl) (by kernel_rfl) (fun _ _ _ h => h) (Or.inl ⟨by kernel_rfl, ?_⟩) hHeld ?_
          · intro w hSw
            go_simp
          refine wpAnyH_take (i := 26) (oi := _) (v := .bool true) rfl (by kernel_rfl) (by kernel_rfl) (by kernel_rfl) (fun _ _ _ h => h) (Or.inl ⟨by kernel_rfl, ?_⟩) hHeld ?_
          · intro w hSw
            go_simp
          refine wpAnyH_done (by kernel_rfl) ?_ _
          go_wp2
          go_ret
          exact ⟨by simp, HB4.out.trans (B_2.mono HB4.out.size)⟩
        | true =>
          obtain ⟨⟨ma, mb⟩, mc⟩ : (nearB xa = true ∧ nearB xb = true) ∧ nearB xc = true := by simpa using hbb
          clear hbb
          have Q1 := Lib.hid (orient_near ma mb mc (show sideN xa xb xc = o by rw [← HXA.out, ← HXB.out, ← HXC.out, ← HO.out]; unfold sideN; rw [crs_moved]))
          obtain ⟨k, hk⟩ : ∃ k, sqN a b = k := ⟨_, rfl⟩
          have Q2 := Lib.hid (dist_near ma mb (show sqN xa xb = k by rw [← HXA.out, ← HXB.out, sq_moved]; exact hk))
          have Q3 := Lib.hid (dist_near na nb hk)
          clear hk
          go_upto_region 8 with fail
          go_region_held3 (fun w' => w'.cell? ⟨g11, 0, none⟩ = some (.int .i64 xa.x) ∧ w'.cell? ⟨g11, 1, none⟩ = some (.int .i64 xa.y) ∧ w'.cell? ⟨g12, 0, none⟩ = some (.int .i64 xb.x) ∧ w'.cell? ⟨g12, 1, none⟩ = some (.int .i64 xb.y) ∧
            w'.cell? ⟨g13, 0, none⟩ = some (.int .i64 xc.x) ∧ w'.cell? ⟨g13, 1, none⟩ = some (.int .i64 xc.y) ∧ w'.cell? ⟨w.heap.size, 0, none⟩ = some (.int .i64 a.x) ∧ w'.cell? ⟨w.heap.size, 1, none⟩ = some (.int .i64 a.y) ∧
            w'.cell? ⟨w.heap.size + 1, 0, none⟩ = some (.int .i64 b.x) ∧ w'.cell? ⟨w.heap.size + 1, 1, none⟩ = some (.int .i64 b.y)) (first | go_keep | exact KS)
            (first
              | (go_at_call 25; refine (HNL2.out wc).mono ?_; rintro e v2 ⟨rfl, hbw⟩; have KS := (pts10 (hx.out.below hbw) (hy.out.below hbw) (hz.out.below hbw) (A4.out.below hbw) (B4.out.below hbw)))
              | (go_at_call 11; refine (Q1.out _).mono ?_; rintro e v3 ⟨rfl, hb⟩; have hbw3 := Below.trans hbw (hb.mono hbw.size); have KS := (pts10 (hx.out.below hbw3) (hy.out.below hbw3) (hz.out.below hbw3) (A4.out.below hbw3) (B4.out.below hbw3)))
              | (go_at_call 19; refine (Q2.out _).mono ?_; clear Q2; rintro e v4 ⟨rfl, hb⟩; have hbw4 := Below.trans hbw3 (hb.mono hbw3.size); have KS := (pts10 (hx.out.below hbw4) (hy.out.below hbw4) (hz.out.below hbw4) (A4.out.below hbw4) (B4.out.below hbw4)))
              | (go_at_call 19; refine (Q3.out _).mono ?_; rintro e v5 ⟨rfl, hb⟩; have hbw5 := Below.trans hbw4 (hb.mono hbw4.size); have KS := (pts10 (hx.out.below hbw5) (hy.out.below hbw5) (hz.out.below hbw5) (A4.out.below hbw5) (B4.out.below hbw5))))
          go_wp2
          go_ret
          exact ⟨rfl, HB4.out.trans (hbw5.mono HB4.out.size)⟩
end Go.Proofs.Ytcckdckikjbfdaa.Geo
