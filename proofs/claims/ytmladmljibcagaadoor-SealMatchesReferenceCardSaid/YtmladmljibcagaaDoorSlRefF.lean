/- The reference's Path, Public. -/
import Derived.Test.YtmladmljibcagaaDoorSlRefE
namespace Go.Proofs.YtmladmljibcagaaDoor.Sl
open Go.RowKit
open Go.Proofs.YtmladmljibcagaaDoor.Dg hiding intOf
set_option maxRecDepth 100000 in
set_option maxHeartbeats 4000000 in
theorem refpath_any (a : Option Addr) (n cap h i : Nat) (L : List B) (w : World) (hl : Txt w w.heap.size a L) (hn : n = 2 ^ h) (hL : L.length = 2 ^ h) (hh : h ≤ 8) (hi : i < 2 ^ h) (hx : ∀ x ∈ L, x.length ≤ 1000) :
    Calls Tryd.prog 40 #[.slice a n cap, .int .i64 i] w fun e w' => ∃ a' c', e = .returned (.slice a' h c') ∧ Own w' w.heap.size (.slice a' h c') h (pathN h L i) ∧ Below w.heap.size w w' := by
  have HL := Lib.hid hL
  have HX := Lib.hid hx
  clear hL hx
  subst hn
  go_enter Tryd.func40, Tryd.ntmps40
  go_wp2
  go_loopw [0, 1, 5] (fun v j u wr => ∃ (d m q : Nat) (a' : Option Addr) (c' : Nat), d ≤ h ∧ v = .slice a' m c' ∧ Hid (m = 2 ^ (h - d)) ∧ j = .int .i64 q ∧ q < m ∧ Hid (q = i / 2 ^ d) ∧ Hid (Txt wr wr.heap.size a' (lev L d)) ∧
    Hid (Own wr w.heap.size u d ((List.range d).map (fun e => (lev L e).getD (sib (i / 2 ^ e)) []))) ∧ Hid (∀ k, u.ownBlock = some k → ∀ ad, a' = some ad → ad.block ≠ k) ∧ Hid (Below w.heap.size w wr)) (fun v _ _ _ => match v with | .slice _ m _ => m | _ => 0)
  case atStart => exact ⟨0, _, i, _, _, by omega, rfl, rfl, rfl, hi, by simp [Hid], hl, Own.nil _ _, fun k hk => by simp [Value.ownBlock] at hk, Below.refl _ _⟩
  case round =>
    obtain ⟨d, m, q, a', c', hd, rfl, hm, rfl, hqm, hq, htx, hown, hap, hb⟩ := hrel
    by_cases hlt : d < h
    · have h1 : 1 < m := by have := pow_two h d hlt; rw [hm.out]; omega
      have hsp := pow_split h d hlt
      have hm256 : m ≤ 256 := by have := pow_le h d hh; rw [hm.out]; omega
      have hsl : sib q < m := by rw [hm.out]; exact sib_lt h d q hlt (by rw [← hm.out]; exact hqm)
      have PS : Hid ((List.range (d + 1)).map (fun e => (lev L e).getD (sib (i / 2 ^ e)) []) = (List.range d).map (fun e => (lev L e).getD (sib (i / 2 ^ e)) []) ++ [(lev L d).getD (sib q) []]) := by
        show _ = _
        rw [pathN_succ, hq.out]
      have HQ : Hid (q / 2 = i / 2 ^ (d + 1)) := by show _ = _; rw [hq.out, div_two_pow]
      have hq2 : q / 2 < 2 ^ (h - (d + 1)) := by rw [hm.out, hsp] at hqm; omega
      have HQ2 := Lib.hid hq2
      obtain ⟨s, hs⟩ : ∃ s, sib q = s := ⟨_, rfl⟩
      rw [hs] at hsl PS
      obtain ⟨b, off, rfl, hbN, c0⟩ := htx.out.at_ (k := s) (by rw [lev_len L h HL.out d hd, ← hm.out]; exact hsl)
      have hsz := hb.out.size
      have hd8 : d ≤ 8 := by omega
      have HSP := Lib.hid hsp
      clear hq hsp hq2
      generalize hyy : (lev L d).getD s [] = y at *
      clear hyy
      by_cases hpar : q % 2 = 0
      · obtain rfl : q + 1 = s := by rw [← hs]; unfold sib; rw [if_pos hpar]
        have hi2 : (q : Int) % 2 = 0 := by omega
        have i2 : (q : Int) + 1 < (m : Int) := by omega
        have i3 : (0 : Int) ≤ (q : Int) + 1 := by omega
        have i4 : ((q : Int) + 1).toNat = q + 1 := by omega
        have i5 : IntKind.i64.wrap ((q : Int) + 1) = (q : Int) + 1 := IntWalk.i64_in _ (by omega)
        clear hs hpar
        go_wp2_with (at_builtin; refine wpList_app1 rfl _ _ (by rfl) w.heap.size _ d _ y wr.heap.size (by rfl) (Own.later hown.out (below_new wr _)) (by rfl) (heap_alloc_new wr _) (by omega) (Nat.le_trans hsz (below_new wr _).size) ?_; intro g cap w2 ho2 hg2 hlt2 hsz2)
        have O2 : Hid (Own w2 w.heap.size (.slice (some ⟨g, 0, none⟩) (d + 1) cap) (d + 1) ((List.range (d + 1)).map (fun e => (lev L e).getD (sib (i / 2 ^ e)) []))) := by
          show Own _ _ _ _ _
          rw [PS.out]
          exact ho2
        have hbn := hb.out.alloc hsz (.cells #[.string ⟨y.toArray⟩] 9)
        have B2 : Hid (Below w.heap.size w w2) := hbn.grown hg2 (by simp; omega) (fun k hk => (hlt2 k hk).1)
        have T2 : Txt w2 w2.heap.size (some ⟨b, off, none⟩) (lev L d) := ((htx.out.later (below_new wr _)).grown hg2 (Nat.le_refl _) (fun ad e k => by injection e with e; subst e; exact hap.out _ k.symm _ rfl rfl)).more hg2.size
        have HS2 := B2.out.size
        have HLT := Lib.hid hlt2
        clear ho2 hg2 hbn hown htx hap hlt2 c0 hb
        go_wp2_with fail
        refine (refup_any _ m c' (2 ^ (h - (d + 1))) (lev L d) _ T2 ?g1 ?g2 (by omega) (lev_small HX.out d)).mono ?_
        case g1 => rw [hm.out, lev_len L h HL.out d hd]
        case g2 => rw [hm.out, HSP.out, Nat.mul_comm]
        rintro e w3 ⟨a1, c1, rfl, ho, hb3⟩
        have T3 : Hid (Txt w3 w3.heap.size a1 (lev L (d + 1))) := ho.txt.2
        have B3 : Hid (Below w.heap.size w w3) := B2.out.trans (hb3.mono HS2)
        have O3 := Lib.hid (O2.out.later hb3)
        have HM : Hid (2 ^ (h - (d + 1)) < m) := by
          show _ < _
          have := Nat.two_pow_pos (h - (d + 1))
          rw [hm.out, HSP.out]; omega
        have AP : Hid (∀ k, Value.ownBlock (.slice (some ⟨g, 0, none⟩) (d + 1) cap) = some k → ∀ ad, a1 = some ad → ad.block ≠ k) := by
          intro k hk ad hd
          subst hd
          have h1 := ho.fresh.1
          injection hk with hk
          have : g < w2.heap.size := hsz2
          simp only at hk
          omega
        clear ho hb3 T2 O2 B2
        go_wp2
        go_roundw
        case rel => exact ⟨d + 1, _, q / 2, a1, c1, by omega, rfl, rfl, (by first | go_num | rfl | (congr 1; omega)), HQ2.out, HQ.out, T3, O3, AP, B3⟩
        case measure => exact HM.out
      · obtain ⟨s', rfl⟩ : ∃ s', q = s' + 1 := ⟨q - 1, by omega⟩
        obtain rfl : s' = s := by rw [← hs]; unfold sib; rw [if_neg hpar]; rfl
        have hi2 : ((s' : Int) + 1) % 2 = 1 := by omega
        have i2 : (s' : Int) < (m : Int) := by omega
        clear hs hpar
        go_wp2_with (at_builtin; refine wpList_app1 rfl _ _ (by rfl) w.heap.size _ d _ y wr.heap.size (by rfl) (Own.later hown.out (below_new wr _)) (by rfl) (heap_alloc_new wr _) (by omega) (Nat.le_trans hsz (below_new wr _).size) ?_; intro g cap w2 ho2 hg2 hlt2 hsz2)
        have O2 : Hid (Own w2 w.heap.size (.slice (some ⟨g, 0, none⟩) (d + 1) cap) (d + 1) ((List.range (d + 1)).map (fun e => (lev L e).getD (sib (i / 2 ^ e)) []))) := by
          show Own _ _ _ _ _
          rw [PS.out]
          exact ho2
        have hbn := hb.out.alloc hsz (.cells #[.string ⟨y.toArray⟩] 9)
        have B2 : Hid (Below w.heap.size w w2) := hbn.grown hg2 (by simp; omega) (fun k hk => (hlt2 k hk).1)
        have T2 : Txt w2 w2.heap.size (some ⟨b, off, none⟩) (lev L d) := ((htx.out.later (below_new wr _)).grown hg2 (Nat.le_refl _) (fun ad e k => by injection e with e; subst e; exact hap.out _ k.symm _ rfl rfl)).more hg2.size
        have HS2 := B2.out.size
        have HLT := Lib.hid hlt2
        clear ho2 hg2 hbn hown htx hap hlt2 c0 hb
        go_wp2_with fail
        refine (refup_any _ m c' (2 ^ (h - (d + 1))) (lev L d) _ T2 ?g1 ?g2 (by omega) (lev_small HX.out d)).mono ?_
        case g1 => rw [hm.out, lev_len L h HL.out d hd]
        case g2 => rw [hm.out, HSP.out, Nat.mul_comm]
        rintro e w3 ⟨a1, c1, rfl, ho, hb3⟩
        have T3 : Hid (Txt w3 w3.heap.size a1 (lev L (d + 1))) := ho.txt.2
        have B3 : Hid (Below w.heap.size w w3) := B2.out.trans (hb3.mono HS2)
        have O3 := Lib.hid (O2.out.later hb3)
        have HM : Hid (2 ^ (h - (d + 1)) < m) := by
          show _ < _
          have := Nat.two_pow_pos (h - (d + 1))
          rw [hm.out, HSP.out]; omega
        have AP : Hid (∀ k, Value.ownBlock (.slice (some ⟨g, 0, none⟩) (d + 1) cap) = some k → ∀ ad, a1 = some ad → ad.block ≠ k) := by
          intro k hk ad hd
          subst hd
          have h1 := ho.fresh.1
          injection hk with hk
          have : g < w2.heap.size := hsz2
          simp only at hk
          omega
        clear ho hb3 T2 O2 B2
        go_wp2
        go_roundw
        case rel => exact ⟨d + 1, _, (s' + 1) / 2, a1, c1, by omega, rfl, rfl, (by first | go_num | rfl | (congr 1; omega)), HQ2.out, HQ.out, T3, O3, AP, B3⟩
        case measure => exact HM.out
    · obtain rfl : d = h := by omega
      have h1 : ¬ 1 < m := by rw [hm.out, Nat.sub_self]; decide
      obtain ⟨a2, c2, hv⟩ := hown.out.form
      rw [hv] at hown ⊢
      clear hap
      go_wp2
      go_ret
      exact ⟨_, _, rfl, hown.out, hb.out⟩
set_option maxRecDepth 100000 in
set_option maxHeartbeats 2000000 in
theorem refpublic_any (sec : B) (h : Nat) (w : World) (hs : sec.length ≤ 1000) (hh : h ≤ 8) :
    Calls Tryd.prog 14 #[.string ⟨sec.toArray⟩, .int .i64 h] w fun e w' => e = .returned (.tuple #[.string ⟨(pubOf sec h).toArray⟩, .int .i64 0]) ∧ Below w.heap.size w w' := by
  have i1 : ¬ (h : Int) < 0 := by omega
  have i2 : ¬ (8 : Int) < (h : Int) := by omega
  go_enter Tryd.func14, Tryd.ntmps14
  go_wp2_with fail
  refine (refkeys_any sec h _ hs hh).mono ?_
  rintro e w1 ⟨g, n, c, rfl, hn, ho, hb⟩
  have HO := Lib.hid ho
  have HB := Lib.hid hb
  have HN := Lib.hid hn
  clear hn ho hb
  go_wp2_with fail
  refine (refroot_any (some ⟨g, 0, none⟩) n c h (keysOf sec (2 ^ h)) _ HO.out.txt.2 HN.out (keysOf_len _ _) hh (keysOf_small _ _)).mono ?_
  rintro e w2 ⟨rfl, hb2⟩
  have B2 := Lib.hid (HB.out.trans (hb2.mono HB.out.size))
  clear hb2
  go_wp2
  go_ret2
  exact ⟨rfl, B2.out⟩
theorem refpublic_no (sec : B) (h : Int) (w : World) (hh : h < 0 ∨ 8 < h) :
    Calls Tryd.prog 14 #[.string ⟨sec.toArray⟩, .int .i64 h] w fun e w' => e = .returned (.tuple #[.string ⟨#[]⟩, .int .i64 1]) ∧ w = w' := by
  go_enter Tryd.func14, Tryd.ntmps14
  rcases hh with hh | hh
  · go_wp2
    go_ret2
    exact ⟨rfl, rfl⟩
  · have h0 : ¬ h < 0 := by omega
    go_wp2
    go_ret2
    exact ⟨rfl, rfl⟩
end Go.Proofs.YtmladmljibcagaaDoor.Sl
