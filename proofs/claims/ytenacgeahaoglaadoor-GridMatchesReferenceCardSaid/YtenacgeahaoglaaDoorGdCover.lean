/- grid: Cover. -/
import Derived.Test.YtenacgeahaoglaaDoorGdKids
namespace Go.Proofs.YtenacgeahaoglaaDoor.Gd
open Go.RowKit Go.Sort
theorem quot_mono {u v s : Int} (h : 0 < s) (huv : u ≤ v) : u / s ≤ v / s := Int.ediv_le_ediv h huv
/-- the two corners' tiles. -/
theorem corners {b : Bb} {z : Int} (h : fitB b z) : 0 ≤ (ofN b.a z).x ∧ (ofN b.a z).x ≤ (ofN b.b z).x ∧ (ofN b.b z).x < 131072 ∧ 0 ≤ (ofN b.a z).y ∧ (ofN b.a z).y ≤ (ofN b.b z).y ∧ (ofN b.b z).y < 131072 := by
  obtain ⟨hz, ha, hb, hx, hy⟩ := h
  obtain ⟨⟨_, a1, a2, a3, a4⟩, _⟩ := of_ok ha hz
  obtain ⟨⟨_, b1, b2, b3, b4⟩, _⟩ := of_ok hb hz
  have hc := cnt_bounds hz
  have e : (ofN b.b z).z = z := rfl
  rw [e] at b2 b4
  exact ⟨a1, quot_mono sd_pos hx, by omega, a3, quot_mono sd_pos hy, by omega⟩
theorem many_len {b : Bb} {z : Int} (h : fitB b z) : ((rect (ofN b.a z) (ofN b.b z)).length : Int) = many b z := by
  obtain ⟨a1, a2, a3, a4, a5, a6⟩ := corners h
  rw [rect_len]
  unfold many
  generalize (ofN b.a z).x = fx at *
  generalize (ofN b.a z).y = fy at *
  generalize (ofN b.b z).x = lx at *
  generalize (ofN b.b z).y = ly at *
  rw [Int.natCast_mul, Int.toNat_of_nonneg (by omega), Int.toNat_of_nonneg (by omega), Int.mul_comm]
theorem held_box {w w' : World} {g : Nat} {b : Bb} (R : IsRow w g 27 #[.int .i64 b.a.x, .int .i64 b.a.y, .int .i64 b.b.x, .int .i64 b.b.y]) (hb : Below w.heap.size w w') :
    w'.cell? ⟨g, 0, none⟩ = some (.int .i64 b.a.x) ∧ w'.cell? ⟨g, 1, none⟩ = some (.int .i64 b.a.y) ∧ w'.cell? ⟨g, 2, none⟩ = some (.int .i64 b.b.x) ∧ w'.cell? ⟨g, 3, none⟩ = some (.int .i64 b.b.y) := by
  have R' := R.below hb R.inside
  exact ⟨R'.get 0, R'.get 1, R'.get 2, R'.get 3⟩
theorem tile_at {p : Pn} {z : Int} (hp : okP p) (hz : isZ z) {w1 : World} (hS : Sides w1) (W : World) (hb : Below w1.heap.size w1 W) {F : Tl} (hF : ofN p z = F) :
    Calls Tryd.prog 31 #[.agg #[.int .i64 p.x, .int .i64 p.y], .int .i64 z] W fun e w' => e = .returned (.agg #[.int .i64 F.z, .int .i64 F.x, .int .i64 F.y]) ∧ Below W.heap.size W w' ∧ Below w1.heap.size w1 w' := by
  have k := tileOf_any p z hp hz W (hS.below hb (Nat.le_refl _))
  rw [hF] at k
  refine k.mono ?_
  rintro e w' ⟨rfl, h⟩
  exact ⟨rfl, h, hb.trans (h.mono hb.size)⟩
theorem rowz2 (w : World) {w' : World} (h : Below ((w.alloc (.cells #[.int .i64 0, .int .i64 0, .int .i64 0] 25)).alloc (.cells #[.int .i64 0, .int .i64 0, .int .i64 0] 25)).heap.size ((w.alloc (.cells #[.int .i64 0, .int .i64 0, .int .i64 0] 25)).alloc (.cells #[.int .i64 0, .int .i64 0, .int .i64 0] 25)) w') : IsRow w' w.heap.size 25 #[.int .i64 0, .int .i64 0, .int .i64 0] ∧ IsRow w' (w.heap.size + 1) 25 #[.int .i64 0, .int .i64 0, .int .i64 0] := by
  obtain ⟨W, hW, _, h1, h2⟩ := two_made w 25 25 #[.int .i64 0, .int .i64 0, .int .i64 0] #[.int .i64 0, .int .i64 0, .int .i64 0]
  rw [hW] at h
  exact ⟨h1.below h h1.inside, h2.below h h2.inside⟩
theorem alloc_size (w : World) (o : Obj) : (w.alloc o).heap.size = w.heap.size + 1 := by simp
/-- the zero tile. -/
def zr : Array Value := #[.int .i64 0, .int .i64 0, .int .i64 0]
theorem rowz (w : World) {w' : World} (h : Below (w.alloc (.cells #[.int .i64 0, .int .i64 0, .int .i64 0] 25)).heap.size (w.alloc (.cells #[.int .i64 0, .int .i64 0, .int .i64 0] 25)) w') : IsRow w' w.heap.size 25 #[.int .i64 0, .int .i64 0, .int .i64 0] :=
  (IsRow.made w 25 _).below h (IsRow.made w 25 _).inside
section
variable {w3 w5 : World} {t : TypeId}
theorem fin1 (H : Below w3.heap.size w3 w5) (A B : Array Value) : Hid (Below w3.heap.size w3 ((w5.alloc (.cells A t)).alloc (.cells B t))) ∧ Hid (IsRow ((w5.alloc (.cells A t)).alloc (.cells B t)) w5.heap.size t A) ∧ Hid (IsRow ((w5.alloc (.cells A t)).alloc (.cells B t)) (w5.heap.size + 1) t B) := by
  obtain ⟨W, hW, hB, h1, h2⟩ := two_made w5 t t A B
  rw [hW]
  exact ⟨H.trans (hB.mono H.size), h1, h2⟩
theorem fin1' (H : Below w3.heap.size w3 w5) (A B : Array Value) : Hid (Below w3.heap.size w3 ((w5.alloc (.cells A t)).alloc (.cells B t))) ∧ Hid (IsRow ((w5.alloc (.cells A t)).alloc (.cells B t)) (w5.heap.size + 1) t B) ∧ Hid (IsRow ((w5.alloc (.cells A t)).alloc (.cells B t)) w5.heap.size t A) :=
  ⟨(fin1 H A B).1, (fin1 H A B).2.2, (fin1 H A B).2.1⟩
theorem sets_size (g : Nat) (a b c : Value) : (((w5.setCell ⟨g, 0, none⟩ a).setCell ⟨g, 1, none⟩ b).setCell ⟨g, 2, none⟩ c).heap.size = w5.heap.size := by simp
theorem fin2 (H : Below w3.heap.size w3 w5) {g : Nat} {x y z : Value} (Y : IsRow w5 g t #[x, y, z]) (hg : w3.heap.size ≤ g) (a b c : Value) (B : Array Value) :
    Hid (Below w3.heap.size w3 ((((w5.setCell ⟨g, 0, none⟩ a).setCell ⟨g, 1, none⟩ b).setCell ⟨g, 2, none⟩ c).alloc (.cells B t))) ∧ Hid (IsRow ((((w5.setCell ⟨g, 0, none⟩ a).setCell ⟨g, 1, none⟩ b).setCell ⟨g, 2, none⟩ c).alloc (.cells B t)) g t #[a, b, c]) ∧ Hid (IsRow ((((w5.setCell ⟨g, 0, none⟩ a).setCell ⟨g, 1, none⟩ b).setCell ⟨g, 2, none⟩ c).alloc (.cells B t)) w5.heap.size t B) := by
  have b3 := below3 H hg a b c
  have r3 := set3 Y a b c
  have hs := sets_size (w5 := w5) g a b c
  refine ⟨b3.alloc b3.size _, r3.later _, ?_⟩
  have := IsRow.made (((w5.setCell ⟨g, 0, none⟩ a).setCell ⟨g, 1, none⟩ b).setCell ⟨g, 2, none⟩ c) t B
  rw [hs] at this
  exact this
theorem fin2' (H : Below w3.heap.size w3 w5) {g : Nat} {x y z : Value} (Y : IsRow w5 g t #[x, y, z]) (hg : w3.heap.size ≤ g) (a b c : Value) (B : Array Value) :
    Hid (Below w3.heap.size w3 ((((w5.setCell ⟨g, 0, none⟩ a).setCell ⟨g, 1, none⟩ b).setCell ⟨g, 2, none⟩ c).alloc (.cells B t))) ∧ Hid (IsRow ((((w5.setCell ⟨g, 0, none⟩ a).setCell ⟨g, 1, none⟩ b).setCell ⟨g, 2, none⟩ c).alloc (.cells B t)) w5.heap.size t B) ∧ Hid (IsRow ((((w5.setCell ⟨g, 0, none⟩ a).setCell ⟨g, 1, none⟩ b).setCell ⟨g, 2, none⟩ c).alloc (.cells B t)) g t #[a, b, c]) :=
  ⟨(fin2 H Y hg a b c B).1, (fin2 H Y hg a b c B).2.2, (fin2 H Y hg a b c B).2.1⟩
theorem fin3 (H : Below w3.heap.size w3 w5) {g k : Nat} {x y z x' y' z' : Value} (Y : IsRow w5 g t #[x, y, z]) (Z : IsRow w5 k t #[x', y', z']) (hg : w3.heap.size ≤ g) (hk : w3.heap.size ≤ k) (hne : g ≠ k) (a b c d e f : Value) :
    Hid (Below w3.heap.size w3 ((((((w5.setCell ⟨g, 0, none⟩ a).setCell ⟨g, 1, none⟩ b).setCell ⟨g, 2, none⟩ c).setCell ⟨k, 0, none⟩ d).setCell ⟨k, 1, none⟩ e).setCell ⟨k, 2, none⟩ f)) ∧
    Hid (IsRow ((((((w5.setCell ⟨g, 0, none⟩ a).setCell ⟨g, 1, none⟩ b).setCell ⟨g, 2, none⟩ c).setCell ⟨k, 0, none⟩ d).setCell ⟨k, 1, none⟩ e).setCell ⟨k, 2, none⟩ f) g t #[a, b, c]) ∧
    Hid (IsRow ((((((w5.setCell ⟨g, 0, none⟩ a).setCell ⟨g, 1, none⟩ b).setCell ⟨g, 2, none⟩ c).setCell ⟨k, 0, none⟩ d).setCell ⟨k, 1, none⟩ e).setCell ⟨k, 2, none⟩ f) k t #[d, e, f]) := by
  have r1 := set3 Y a b c
  have z1 := ((Z.putOther (p := ⟨g, 0, none⟩) hne.symm a).putOther (p := ⟨g, 1, none⟩) hne.symm b).putOther (p := ⟨g, 2, none⟩) hne.symm c
  exact ⟨below3 (below3 H hg a b c) hk d e f, ((r1.putOther (p := ⟨k, 0, none⟩) hne d).putOther (p := ⟨k, 1, none⟩) hne e).putOther (p := ⟨k, 2, none⟩) hne f, set3 z1 d e f⟩
end
set_option maxRecDepth 100000 in
set_option maxHeartbeats 4000000 in
theorem cover_any (b : Bb) (z : Int) : AnsL Tryd.prog 19 #[vB b, .int .i64 z] (coverR b z) := by
  intro w hS
  obtain ⟨V1, hV1⟩ : ∃ V, decide (isZ z) = V := ⟨_, rfl⟩
  obtain ⟨V2, hV2⟩ : ∃ V, decide (okP b.a) = V := ⟨_, rfl⟩
  obtain ⟨V3, hV3⟩ : ∃ V, decide (okP b.b) = V := ⟨_, rfl⟩
  have K1 := (isZoom_any z).to (congrArg Value.bool hV1)
  have K2 := (isOfGrid_any b.a).to (congrArg Value.bool hV2)
  have K3 := (isOfGrid_any b.b).to (congrArg Value.bool hV3)
  obtain ⟨R, hR⟩ : ∃ R, coverR b z = R := ⟨_, rfl⟩
  have HR := Lib.hid hR
  rw [hR]
  obtain ⟨W, hW⟩ : ∃ W, w.alloc (.cells #[.int .i64 b.a.x, .int .i64 b.a.y, .int .i64 b.b.x, .int .i64 b.b.y] 27) = W := ⟨_, rfl⟩
  obtain ⟨HB, HP⟩ := rowB w _ _ hW
  have HW := Lib.hid hW
  have HS := Lib.hid (hS.below HB.out (Nat.le_refl _))
  have HV1 := Lib.hid hV1
  have HV2 := Lib.hid hV2
  have HV3 := Lib.hid hV3
  have ERR : Hid (¬ fitB b z → R = ([], 1)) := fun h => by rw [← HR.out]; unfold coverR; rw [if_neg h]
  clear hW hR hS hV1 hV2 hV3
  unfold vB vP at *
  go_enter Tryd.func19, Tryd.ntmps19
  go_wp2_with fail
  rw [HW.out]
  refine (K1 _).mono ?_
  rintro e w1 ⟨rfl, b1⟩
  have B1 := Lib.hid (HB.out.trans (b1.mono HB.out.size))
  have P1 := Lib.hid (HP.out.below b1 HP.out.inside)
  have S1 := Lib.hid (HS.out.below b1 (Nat.le_refl _))
  clear b1 K1 HB HP HW HS
  obtain ⟨c0, c1, c2, c3, _, _, _, _⟩ := facts4 P1.out
  cases V1 with
  | false =>
    obtain rfl : R = ([], 1) := ERR.out fun h => of_decide_eq_false HV1.out h.1
    go_wp2
    go_ret2
    exact ⟨⟨_, rfl, ownT_nil _ _⟩, B1.out⟩
  | true =>
    go_wp2_with fail
    refine (K2 _).mono ?_
    rintro e w2 ⟨rfl, b2⟩
    have B2 := Lib.hid (B1.out.trans (b2.mono B1.out.size))
    have P2 := Lib.hid (P1.out.below b2 P1.out.inside)
    have S2 := Lib.hid (S1.out.below b2 (Nat.le_refl _))
    clear b2 K2 B1 P1 S1 c0 c1 c2 c3
    obtain ⟨c0, c1, c2, c3, _, _, _, _⟩ := facts4 P2.out
    cases V2 with
    | false =>
      obtain rfl : R = ([], 1) := ERR.out fun h => of_decide_eq_false HV2.out h.2.1
      go_wp2
      go_ret2
      exact ⟨⟨_, rfl, ownT_nil _ _⟩, B2.out⟩
    | true =>
      go_wp2_with fail
      refine (K3 _).mono ?_
      rintro e w3 ⟨rfl, b3⟩
      have B3 := Lib.hid (B2.out.trans (b3.mono B2.out.size))
      have P3 := Lib.hid (P2.out.below b3 P2.out.inside)
      have S3 := Lib.hid (S2.out.below b3 (Nat.le_refl _))
      clear b3 K3 B2 P2 S2 c0 c1 c2 c3
      obtain ⟨c0, c1, c2, c3, _, _, _, _⟩ := facts4 P3.out
      cases V3 with
      | false =>
        obtain rfl : R = ([], 1) := ERR.out fun h => of_decide_eq_false HV3.out h.2.2.1
        go_wp2
        go_ret2
        exact ⟨⟨_, rfl, ownT_nil _ _⟩, B3.out⟩
      | true =>
        by_cases hx : b.b.x < b.a.x
        · obtain rfl : R = ([], 1) := ERR.out fun h => by have := h.2.2.2.1; omega
          go_wp2
          go_ret2
          exact ⟨⟨_, rfl, ownT_nil _ _⟩, B3.out⟩
        · by_cases hy : b.b.y < b.a.y
          · obtain rfl : R = ([], 1) := ERR.out fun h => by have := h.2.2.2.2; omega
            go_wp2
            go_ret2
            exact ⟨⟨_, rfl, ownT_nil _ _⟩, B3.out⟩
          · have hz := of_decide_eq_true HV1.out
            have h1 := of_decide_eq_true HV2.out
            have h2 := of_decide_eq_true HV3.out
            have hfit : fitB b z := ⟨hz, h1, h2, by omega, by omega⟩
            have HC := Lib.hid (corners hfit)
            have HM := Lib.hid (many_len hfit)
            have HE := Lib.hid (show R = if many b z > 4096 then ([], 2) else (rect (ofN b.a z) (ofN b.b z), 0) by rw [← HR.out]; unfold coverR; rw [if_pos hfit])
            have HMM := Lib.hid (show many b z = ((ofN b.b z).x - (ofN b.a z).x + 1) * ((ofN b.b z).y - (ofN b.a z).y + 1) from rfl)
            obtain ⟨F, hF⟩ : ∃ F, ofN b.a z = F := ⟨_, rfl⟩
            obtain ⟨L, hL⟩ : ∃ L, ofN b.b z = L := ⟨_, rfl⟩
            have TA := fun W hb => tile_at h1 hz S3.out W hb hF
            have TB := fun W hb => tile_at h2 hz S3.out W hb hL
            have KG := Lib.hid (fun w' hb => held_box (w' := w') P3.out hb)
            rw [hF, hL] at HC HM HE HMM
            clear hF hL HR ERR HV1 HV2 HV3
            go_upto_region 3 with fail
            go_cut [6, 7] from 41 to 48 (fun s6 s7 wx => ∃ g6 g7, s6 = .pointer (some ⟨g6, 0, none⟩) ∧ s7 = .pointer (some ⟨g7, 0, none⟩) ∧ Hid (Below w3.heap.size w3 wx) ∧ Hid (IsRow wx g6 25 #[.int .i64 F.z, .int .i64 F.x, .int .i64 F.y]) ∧ Hid (IsRow wx g7 25 #[.int .i64 L.z, .int .i64 L.x, .int .i64 L.y]))
            case first =>
              have D0 := drew_below w3
              have D1 : Below w3.heap.size w3 (w3.alloc (.cells #[.int .i64 0, .int .i64 0, .int .i64 0] 25)).drew := (alloc1 w3 (.cells #[.int .i64 0, .int .i64 0, .int .i64 0] 25)).trans ((drew_below _).mono (by simp))
              have D2 : Below w3.heap.size w3 ((w3.alloc (.cells #[.int .i64 0, .int .i64 0, .int .i64 0] 25)).alloc (.cells #[.int .i64 0, .int .i64 0, .int .i64 0] 25)).drew := (alloc2 w3 (.cells #[.int .i64 0, .int .i64 0, .int .i64 0] 25) (.cells #[.int .i64 0, .int .i64 0, .int .i64 0] 25)).trans ((drew_below _).mono (by simp; omega))
              clear HC HM HE HMM
              go_region_held3 (fun w' => w'.cell? ⟨w.heap.size, 0, none⟩ = some (.int .i64 b.a.x) ∧ w'.cell? ⟨w.heap.size, 1, none⟩ = some (.int .i64 b.a.y) ∧ w'.cell? ⟨w.heap.size, 2, none⟩ = some (.int .i64 b.b.x) ∧ w'.cell? ⟨w.heap.size, 3, none⟩ = some (.int .i64 b.b.y))
                (first | with_reducible exact KS | (with_reducible refine KG.out _ ?_; (repeat' (first | with_reducible exact HB5.out | with_reducible refine Below.setCell ?_ ?_ _ | with_reducible refine Below.alloc ?_ ?_ _)) <;> (first | omega | (simp; done) | (simp; omega))) | go_keep)
                (first
                  | (go_at_call 31; (with_reducible refine (TA _ D0).mono ?_); rintro e wa0 ⟨rfl, ha, hA0⟩; have KS := KG.out wa0 hA0; have z1 := hA0.size)
                  | (go_at_call 31; (with_reducible refine (TA _ D1).mono ?_); rintro e wa1 ⟨rfl, ha, hA1⟩; have KS := KG.out wa1 hA1; have z1 := hA1.size; have X1 := Lib.hid (row_later w3 ha))
                  | (go_at_call 31; (with_reducible refine (TA _ D2).mono ?_); rintro e wa2 ⟨rfl, ha, hA2⟩; have KS := KG.out wa2 hA2; have z1 := hA2.size; have X2 := Lib.hid (rowz2 w3 ((drew_below _).trans ha)))
                  | (go_at_call 31; (with_reducible refine (TB _ hA0).mono ?_); rintro e w5 ⟨rfl, hb, hB⟩; have HB5 := Lib.hid hB; have KS := KG.out w5 hB; have z2 := hB.size)
                  | (go_at_call 31; (with_reducible refine (TB _ (hA0.alloc hA0.size _)).mono ?_); rintro e w5 ⟨rfl, hb, hB⟩; have HB5 := Lib.hid hB; have KS := KG.out w5 hB; have z2 := hB.size; have Y1 := Lib.hid (rowz wa0 hb); have y1 := Y1.out.inside; obtain ⟨e0, e1, e2, f0, f1, f2⟩ := facts3 Y1.out)
                  | (go_at_call 31; (with_reducible refine (TB _ ((hA0.alloc hA0.size _).alloc (by simp; omega) _)).mono ?_); rintro e w5 ⟨rfl, hb, hB⟩; have HB5 := Lib.hid hB; have KS := KG.out w5 hB; have z2 := hB.size; have Y := rowz2 wa0 hb; have Y1 := Lib.hid Y.1; have Y2 := Lib.hid Y.2; have y1 := Y1.out.inside; have y2 := Y2.out.inside; obtain ⟨e0, e1, e2, f0, f1, f2⟩ := facts3 Y1.out; obtain ⟨d0, d1, d2, h0, h1, h2⟩ := facts3 Y2.out)
                  | (go_at_call 31; (with_reducible refine (TB _ hA1).mono ?_); rintro e w5 ⟨rfl, hb, hB⟩; have HB5 := Lib.hid hB; have KS := KG.out w5 hB; have z2 := hB.size; have Y1 := Lib.hid (X1.out.below hb X1.out.inside); have y1 := Y1.out.inside; obtain ⟨e0, e1, e2, f0, f1, f2⟩ := facts3 Y1.out)
                  | (go_at_call 31; (with_reducible refine (TB _ (hA1.alloc hA1.size _)).mono ?_); rintro e w5 ⟨rfl, hb, hB⟩; have HB5 := Lib.hid hB; have KS := KG.out w5 hB; have z2 := hB.size; have Y1 := Lib.hid ((X1.out.later _).below hb (X1.out.later _).inside); have Y2 := Lib.hid (rowz wa1 hb); have x1 := X1.out.inside; have y1 := Y1.out.inside; have y2 := Y2.out.inside; obtain ⟨e0, e1, e2, f0, f1, f2⟩ := facts3 Y1.out; obtain ⟨d0, d1, d2, h0, h1, h2⟩ := facts3 Y2.out)
                  | (go_at_call 31; (with_reducible refine (TB _ hA2).mono ?_); rintro e w5 ⟨rfl, hb, hB⟩; have HB5 := Lib.hid hB; have KS := KG.out w5 hB; have z2 := hB.size; have Y1 := Lib.hid (X2.out.1.below hb X2.out.1.inside); have Y2 := Lib.hid (X2.out.2.below hb X2.out.2.inside); have y1 := Y1.out.inside; have y2 := Y2.out.inside; obtain ⟨e0, e1, e2, f0, f1, f2⟩ := facts3 Y1.out; obtain ⟨d0, d1, d2, h0, h1, h2⟩ := facts3 Y2.out))
              all_goals
                go_wp2_with fail
                go_meet
                refine ⟨_, _, rfl, rfl, ?_⟩
                first
                  | with_reducible exact fin1 HB5.out _ _
                  | with_reducible exact fin1' HB5.out _ _
                  | with_reducible exact fin2 HB5.out Y1.out (by omega) _ _ _ _
                  | with_reducible exact fin2' HB5.out Y1.out (by omega) _ _ _ _
                  | with_reducible exact fin3 HB5.out Y1.out Y2.out (by omega) (by omega) (by omega) _ _ _ _ _ _
                  | with_reducible exact fin3 HB5.out Y2.out Y1.out (by omega) (by omega) (by omega) _ _ _ _ _ _
            case rest =>
              obtain ⟨g6, g7, rfl, rfl, hb, r6, r7⟩ := hcut
              have B4 := Lib.hid (B3.out.trans (hb.out.mono B3.out.size))
              clear hb TA TB KG P3 B3 S3 c0 c1 c2 c3 hx hy hz h1 h2 hfit
              obtain ⟨x0, x1, x2, _, _, _⟩ := facts3 r6.out
              obtain ⟨y0, y1, y2, _, _, _⟩ := facts3 r7.out
              obtain ⟨a1, a2, a3, a4, a5, a6⟩ := HC.out
              have q1 : IntKind.i64.wrap (L.x - F.x) = L.x - F.x := IntWalk.i64_in _ (by omega)
              have q2 : IntKind.i64.wrap (L.x - F.x + 1) = L.x - F.x + 1 := IntWalk.i64_in _ (by omega)
              have q3 : IntKind.i64.wrap (L.y - F.y) = L.y - F.y := IntWalk.i64_in _ (by omega)
              have q4 : IntKind.i64.wrap (L.y - F.y + 1) = L.y - F.y + 1 := IntWalk.i64_in _ (by omega)
              have hm1 : (L.x - F.x + 1) * (L.y - F.y + 1) ≤ 131072 * 131072 := Int.mul_le_mul (by omega) (by omega) (by omega) (by omega)
              have hm0 : 0 ≤ (L.x - F.x + 1) * (L.y - F.y + 1) := Int.mul_nonneg (by omega) (by omega)
              have q5 : IntKind.i64.wrap ((L.x - F.x + 1) * (L.y - F.y + 1)) = many b z := by rw [HMM.out]; exact IntWalk.i64_in _ (by omega)
              have q6 : wrap64 ((L.x - F.x + 1) * (L.y - F.y + 1)) = many b z := by rw [HMM.out]; unfold wrap64; omega
              clear hm0 hm1 HMM
              generalize many b z = M at *
              by_cases hM : M > 4096
              · obtain rfl : R = ([], 2) := by rw [HE.out, if_pos hM]
                have hM' : 4096 < M := hM
                go_wp2
                go_ret2
                exact ⟨⟨_, rfl, ownT_nil _ _⟩, B4.out⟩
              · obtain rfl : R = (rect F L, 0) := by rw [HE.out, if_neg hM]
                have hM' : M ≤ 4096 := by omega
                have hN : (rect F L).length ≤ 5000 := by have := HM.out; omega
                have KB := fun W => between_rows F L W
                clear HM HE
                go_wp2_with fail
                refine (KB _).mono ?_
                rintro e w5 ⟨b1, b2, rfl, r1, r2, hb5⟩
                have B5 := Lib.hid (B4.out.trans (hb5.mono B4.out.size))
                have K3 := collect_any b1 b2 _ _ w5 r1 r2 (by omega) (by omega) hN
                clear hb5 r1 r2 KB
                go_wp2_with fail
                refine K3.mono ?_
                rintro e w6 ⟨⟨v, rfl, hv⟩, hb6⟩
                have hv := OwnT.base hv B5.out.size
                have B6 := Lib.hid (B5.out.trans (hb6.mono B5.out.size))
                clear hb6 B5 K3
                go_wp2
                go_ret2
                exact ⟨⟨_, rfl, hv⟩, B6.out⟩
end Go.Proofs.YtenacgeahaoglaaDoor.Gd
