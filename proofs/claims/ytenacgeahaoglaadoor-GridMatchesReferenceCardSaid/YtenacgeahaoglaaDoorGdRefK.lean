/- grid: the reference's Kids. -/
import Derived.Test.YtenacgeahaoglaaDoorGdRefP
namespace Go.Proofs.YtenacgeahaoglaaDoor.Gd
open Go.RowKit Go.Sort
/-- a list of tiles and its error, in whatever world. -/
def AnsW (P : Program) (f : FuncId) (args : Array Value) (r : List Tl × Int) : Prop := ∀ w, Calls P f args w fun e w' => (∃ v, e = .returned (.tuple #[v, .int .i64 r.2]) ∧ OwnT w' w.heap.size v r.1) ∧ Below w.heap.size w w'
theorem below_own {w w' w1 : World} {v : Value} {L : List Tl} {cs : Array Value} {t : TypeId} {base : Nat} (h0 : w.heap.size ≤ base) (hb : Below w.heap.size w w') (h : OwnT (w'.alloc (.cells cs t)) base v L) (hg : (w'.alloc (.cells cs t)).grownBy w1 v.ownBlock) : Below w.heap.size w w1 :=
  (hb.alloc hb.size _).grown hg (hb.alloc hb.size _).size (fun k e => Nat.le_trans h0 (h.row k e).1)
set_option maxRecDepth 100000 in
set_option maxHeartbeats 4000000 in
theorem refKids_any (t : Tl) : AnsW Tryd.prog 17 #[vT t] (kidsR t) := by
  intro w
  obtain ⟨V, hV⟩ : ∃ V, decide (okT t) = V := ⟨_, rfl⟩
  have K1 := (refValid_any t).to (congrArg Value.bool hV)
  obtain ⟨R, hR⟩ : ∃ R, kidsR t = R := ⟨_, rfl⟩
  have HR := Lib.hid hR
  rw [hR]
  obtain ⟨W, hW⟩ : ∃ W, w.alloc (.cells #[.int .i64 t.z, .int .i64 t.x, .int .i64 t.y] 25) = W := ⟨_, rfl⟩
  obtain ⟨HB, HP⟩ := rowB w _ _ hW
  have HW := Lib.hid hW
  have HV := Lib.hid hV
  have K1 := K1 W
  obtain ⟨c0, c1, c2, _, _, _⟩ := facts3 HP.out
  clear hW hV hR
  unfold vT at *
  go_enter Tryd.func17, Tryd.ntmps17
  go_wp2_with fail
  rw [HW.out]
  refine K1.mono ?_
  rintro e w1 ⟨rfl, b1⟩
  have B1 := Lib.hid (HB.out.trans (b1.mono HB.out.size))
  have P1 := Lib.hid (HP.out.below b1 HP.out.inside)
  clear b1 K1 HB HP HW c0 c1 c2
  obtain ⟨c0, c1, c2, _, _, _⟩ := facts3 P1.out
  cases V with
  | false =>
    obtain rfl : R = ([], 1) := by rw [← HR.out]; unfold kidsR; rw [if_neg (of_decide_eq_false HV.out)]
    go_wp2
    go_ret2
    exact ⟨⟨_, rfl, ownT_nil _ _⟩, B1.out⟩
  | true =>
    have ht := of_decide_eq_true HV.out
    by_cases hz : t.z = 17
    · obtain rfl : R = ([], 11) := by rw [← HR.out]; unfold kidsR; rw [if_pos ht, if_pos hz]
      rw [hz] at c0
      clear hz
      go_wp2
      go_ret2
      exact ⟨⟨_, rfl, ownT_nil _ _⟩, B1.out⟩
    · obtain rfl : R = (kidsN t, 0) := by rw [← HR.out]; unfold kidsR; rw [if_pos ht, if_neg hz]
      obtain ⟨z, x, y⟩ := t
      obtain ⟨⟨hz1, hz2⟩, h1, h2, h3, h4⟩ := ht
      have hn := cnt_bounds ⟨hz1, hz2⟩
      dsimp only at *
      have HK := Lib.hid (show kidsN ⟨z, x, y⟩ = [⟨z + 1, 2 * x, 2 * y⟩, ⟨z + 1, 2 * x + 1, 2 * y⟩, ⟨z + 1, 2 * x, 2 * y + 1⟩, ⟨z + 1, 2 * x + 1, 2 * y + 1⟩] by unfold kidsN kid; simp)
      have q1 : IntKind.i64.wrap (z + 1) = z + 1 := IntWalk.i64_in _ (by omega)
      have q2 : IntKind.i64.wrap (2 * x) = 2 * x := IntWalk.i64_in _ (by omega)
      have q3 : IntKind.i64.wrap (2 * y) = 2 * y := IntWalk.i64_in _ (by omega)
      have q4 : IntKind.i64.wrap (2 * x + 1) = 2 * x + 1 := IntWalk.i64_in _ (by omega)
      have q5 : IntKind.i64.wrap (2 * y + 1) = 2 * y + 1 := IntWalk.i64_in _ (by omega)
      obtain ⟨i0, hi0, hs0', hb0', hz0'⟩ := info_of tile_info
      have HI := Lib.hid (And.intro hi0 (And.intro hs0' (And.intro hb0' hz0')))
      clear HR HV h1 h2 h3 h4 hn hi0 hs0' hb0' hz0'
      obtain ⟨L, hL⟩ : ∃ L, kidsN ⟨z, x, y⟩ = L := ⟨_, rfl⟩
      have HLL := Lib.hid hL
      rw [hL] at HK
      clear hL
      have hz' : (z == 17) = false := by rw [beq_eq_false_iff_ne]; exact hz
      go_wp2_with fail
      clear c0 c1 c2 hz hz'
      go_loopw [4, 5] (fun v i wr => ∃ k : Nat, k ≤ 4 ∧ i = .int .i64 k ∧ Hid (OwnT wr (w.heap.size + 1) v (L.take k)) ∧ Hid (Below w.heap.size w wr) ∧ Hid (IsRow wr w.heap.size 25 #[.int .i64 z, .int .i64 x, .int .i64 y])) (fun _ i _ => 4 - (intOf i).toNat)
      case atStart => exact ⟨0, by omega, rfl, by rw [List.take_zero]; exact ownT_nil _ _, B1, P1⟩
      case round =>
        obtain ⟨k, hk, rfl, HO, BK, RT⟩ := hrel
        match k, hk with
        | 0, _ =>
          obtain ⟨c0, c1, c2, _, _, _⟩ := facts3 RT.out
          have O9 := Lib.hid (HO.out.below (alloc1 wr (.cells #[.int .i64 (z + 1), .int .i64 (2 * x), .int .i64 (2 * y)] 25)))
          have RA := Lib.hid (RT.out.later (.cells #[.int .i64 (z + 1), .int .i64 (2 * x), .int .i64 (2 * y)] 25))
          have HL := Lib.hid (show (L.take 0).length = 0 by rw [HK.out]; rfl)
          have hown := O9.out
          unfold OwnT at hown
          rw [HL.out] at hown
          have iw := RT.out.inside
          go_wp2_with (at_builtin; go_loud (refine wpList_append_own _ rfl _ _ 35 rfl (w.heap.size + 1) 25 i0 _ 3 24 Tryd.underlying35 HI.out.1 HI.out.2.2.2 HI.out.2.1 HI.out.2.2.1 (by decide) (by decide) u4 0 (flatT (L.take 0)) rfl hown ⟨wr.heap.size, 0, none⟩ 1 1 [.int .i64 (z + 1), .int .i64 (2 * x), .int .i64 (2 * y)] rfl rfl (World.news_of_block (heap_alloc_new wr _)) (enc3_one ⟨z + 1, 2 * x, 2 * y⟩) (by unfold maxLen; omega) (by omega) (by simp; omega) ?_; intro v' w9 hown' hgrow _; obtain ⟨g', cap', hv'⟩ := ownsRow_succ hown'; subst hv'))
          have O5 := ownT_snoc (s := ⟨z + 1, 2 * x, 2 * y⟩) (L := L.take 0) (by rw [HL.out]; exact hown')
          rw [show L.take 0 ++ [⟨z + 1, 2 * x, 2 * y⟩] = L.take 1 by rw [HK.out]; rfl] at O5
          have B5 := Lib.hid (below_own (by omega) BK.out O9.out hgrow)
          have P5 := Lib.hid (IsRow.grown RA.out hgrow (fun e => by have := (O9.out.row _ e).1; omega))
          have O5 := Lib.hid O5
          clear hown hown' hgrow O9 RA HO BK RT c0 c1 c2
          go_wp2
          go_roundw
          case rel => exact ⟨1, by omega, by go_num, O5, B5, P5⟩
          case measure => simp [intOf]
        | 1, _ =>
          obtain ⟨c0, c1, c2, _, _, _⟩ := facts3 RT.out
          have O9 := Lib.hid (HO.out.below (alloc1 wr (.cells #[.int .i64 (z + 1), .int .i64 (2 * x + 1), .int .i64 (2 * y)] 25)))
          have RA := Lib.hid (RT.out.later (.cells #[.int .i64 (z + 1), .int .i64 (2 * x + 1), .int .i64 (2 * y)] 25))
          have HL := Lib.hid (show (L.take 1).length = 1 by rw [HK.out]; rfl)
          have hown := O9.out
          unfold OwnT at hown
          rw [HL.out] at hown
          have iw := RT.out.inside
          go_wp2_with (at_builtin; go_loud (refine wpList_append_own _ rfl _ _ 35 rfl (w.heap.size + 1) 25 i0 _ 3 24 Tryd.underlying35 HI.out.1 HI.out.2.2.2 HI.out.2.1 HI.out.2.2.1 (by decide) (by decide) u4 1 (flatT (L.take 1)) rfl hown ⟨wr.heap.size, 0, none⟩ 1 1 [.int .i64 (z + 1), .int .i64 (2 * x + 1), .int .i64 (2 * y)] rfl rfl (World.news_of_block (heap_alloc_new wr _)) (enc3_one ⟨z + 1, 2 * x + 1, 2 * y⟩) (by unfold maxLen; omega) (by omega) (by simp; omega) ?_; intro v' w9 hown' hgrow _; obtain ⟨g', cap', hv'⟩ := ownsRow_succ hown'; subst hv'))
          have O5 := ownT_snoc (s := ⟨z + 1, 2 * x + 1, 2 * y⟩) (L := L.take 1) (by rw [HL.out]; exact hown')
          rw [show L.take 1 ++ [⟨z + 1, 2 * x + 1, 2 * y⟩] = L.take 2 by rw [HK.out]; rfl] at O5
          have B5 := Lib.hid (below_own (by omega) BK.out O9.out hgrow)
          have P5 := Lib.hid (IsRow.grown RA.out hgrow (fun e => by have := (O9.out.row _ e).1; omega))
          have O5 := Lib.hid O5
          clear hown hown' hgrow O9 RA HO BK RT c0 c1 c2
          go_wp2
          go_roundw
          case rel => exact ⟨2, by omega, by go_num, O5, B5, P5⟩
          case measure => simp [intOf]
        | 2, _ =>
          obtain ⟨c0, c1, c2, _, _, _⟩ := facts3 RT.out
          have O9 := Lib.hid (HO.out.below (alloc1 wr (.cells #[.int .i64 (z + 1), .int .i64 (2 * x), .int .i64 (2 * y + 1)] 25)))
          have RA := Lib.hid (RT.out.later (.cells #[.int .i64 (z + 1), .int .i64 (2 * x), .int .i64 (2 * y + 1)] 25))
          have HL := Lib.hid (show (L.take 2).length = 2 by rw [HK.out]; rfl)
          have hown := O9.out
          unfold OwnT at hown
          rw [HL.out] at hown
          have iw := RT.out.inside
          go_wp2_with (at_builtin; go_loud (refine wpList_append_own _ rfl _ _ 35 rfl (w.heap.size + 1) 25 i0 _ 3 24 Tryd.underlying35 HI.out.1 HI.out.2.2.2 HI.out.2.1 HI.out.2.2.1 (by decide) (by decide) u4 2 (flatT (L.take 2)) rfl hown ⟨wr.heap.size, 0, none⟩ 1 1 [.int .i64 (z + 1), .int .i64 (2 * x), .int .i64 (2 * y + 1)] rfl rfl (World.news_of_block (heap_alloc_new wr _)) (enc3_one ⟨z + 1, 2 * x, 2 * y + 1⟩) (by unfold maxLen; omega) (by omega) (by simp; omega) ?_; intro v' w9 hown' hgrow _; obtain ⟨g', cap', hv'⟩ := ownsRow_succ hown'; subst hv'))
          have O5 := ownT_snoc (s := ⟨z + 1, 2 * x, 2 * y + 1⟩) (L := L.take 2) (by rw [HL.out]; exact hown')
          rw [show L.take 2 ++ [⟨z + 1, 2 * x, 2 * y + 1⟩] = L.take 3 by rw [HK.out]; rfl] at O5
          have B5 := Lib.hid (below_own (by omega) BK.out O9.out hgrow)
          have P5 := Lib.hid (IsRow.grown RA.out hgrow (fun e => by have := (O9.out.row _ e).1; omega))
          have O5 := Lib.hid O5
          clear hown hown' hgrow O9 RA HO BK RT c0 c1 c2
          go_wp2
          go_roundw
          case rel => exact ⟨3, by omega, by go_num, O5, B5, P5⟩
          case measure => simp [intOf]
        | 3, _ =>
          obtain ⟨c0, c1, c2, _, _, _⟩ := facts3 RT.out
          have O9 := Lib.hid (HO.out.below (alloc1 wr (.cells #[.int .i64 (z + 1), .int .i64 (2 * x + 1), .int .i64 (2 * y + 1)] 25)))
          have RA := Lib.hid (RT.out.later (.cells #[.int .i64 (z + 1), .int .i64 (2 * x + 1), .int .i64 (2 * y + 1)] 25))
          have HL := Lib.hid (show (L.take 3).length = 3 by rw [HK.out]; rfl)
          have hown := O9.out
          unfold OwnT at hown
          rw [HL.out] at hown
          have iw := RT.out.inside
          go_wp2_with (at_builtin; go_loud (refine wpList_append_own _ rfl _ _ 35 rfl (w.heap.size + 1) 25 i0 _ 3 24 Tryd.underlying35 HI.out.1 HI.out.2.2.2 HI.out.2.1 HI.out.2.2.1 (by decide) (by decide) u4 3 (flatT (L.take 3)) rfl hown ⟨wr.heap.size, 0, none⟩ 1 1 [.int .i64 (z + 1), .int .i64 (2 * x + 1), .int .i64 (2 * y + 1)] rfl rfl (World.news_of_block (heap_alloc_new wr _)) (enc3_one ⟨z + 1, 2 * x + 1, 2 * y + 1⟩) (by unfold maxLen; omega) (by omega) (by simp; omega) ?_; intro v' w9 hown' hgrow _; obtain ⟨g', cap', hv'⟩ := ownsRow_succ hown'; subst hv'))
          have O5 := ownT_snoc (s := ⟨z + 1, 2 * x + 1, 2 * y + 1⟩) (L := L.take 3) (by rw [HL.out]; exact hown')
          rw [show L.take 3 ++ [⟨z + 1, 2 * x + 1, 2 * y + 1⟩] = L.take 4 by rw [HK.out]; rfl] at O5
          have B5 := Lib.hid (below_own (by omega) BK.out O9.out hgrow)
          have P5 := Lib.hid (IsRow.grown RA.out hgrow (fun e => by have := (O9.out.row _ e).1; omega))
          have O5 := Lib.hid O5
          clear hown hown' hgrow O9 RA HO BK RT c0 c1 c2
          go_wp2
          go_roundw
          case rel => exact ⟨4, by omega, by go_num, O5, B5, P5⟩
          case measure => simp [intOf]
        | 4, _ =>
          have e4 : L.take 4 = L := by rw [HK.out]; rfl
          rw [e4] at HO
          go_wp2
          go_ret2
          exact ⟨⟨u4, rfl, by rw [HLL.out]; exact OwnT.base HO.out (Nat.le_succ _)⟩, BK.out⟩
end Go.Proofs.YtenacgeahaoglaaDoor.Gd
