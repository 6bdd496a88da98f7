/- The reference's up, Root, Path, Public. -/
import Derived.Test.YtmladmljibcagaaDoorSlRefD
import Derived.RegionTactic
namespace Go.Proofs.YtmladmljibcagaaDoor.Sl
open Go.RowKit
open Go.Proofs.YtmladmljibcagaaDoor.Dg hiding intOf
set_option maxRecDepth 100000 in
set_option maxHeartbeats 4000000 in
theorem refup_any (a : Option Addr) (n cap c : Nat) (L : List B) (w : World) (hl : Txt w w.heap.size a L) (hn : n = L.length) (hc : n = 2 * c) (hbig : n ≤ 1000) (hx : ∀ x ∈ L, x.length ≤ 1000) :
    Calls Tryd.prog 55 #[.slice a n cap] w fun e w' => ∃ a' c', e = .returned (.slice a' c c') ∧ Own w' w.heap.size (.slice a' c c') c (aboveOf L) ∧ Below w.heap.size w w' := by
  have hlen : L.length ≤ n := by omega
  have hlen' : n ≤ L.length := by omega
  have hc1 : n ≤ 2 * c := by omega
  have hc2 : 2 * c ≤ n := by omega
  clear hn hc
  go_enter Tryd.func55, Tryd.ntmps55
  go_wp2
  go_loopw [3, 4] (fun v i wr => ∃ k m : Nat, k ≤ c ∧ m ≤ 2 * k ∧ 2 * k ≤ m ∧ i = .int .i64 m ∧ Hid (Own wr w.heap.size v k ((List.range k).map (pairAt L))) ∧ Hid (Below w.heap.size w wr)) (fun _ i _ => n - (intOf i).toNat)
  case atStart => exact ⟨0, 0, by omega, by omega, by omega, rfl, Own.nil _ _, Below.refl _ _⟩
  case round =>
    obtain ⟨k, m, hk, hm1, hm2, rfl, hown, hb⟩ := hrel
    by_cases hlt : m < n
    · obtain ⟨b, off, rfl, hbN, c0⟩ := hl.at_ (k := m) (by omega)
      obtain ⟨b', off', e1, _, c1⟩ := hl.at_ (k := m + 1) (by omega)
      obtain ⟨rfl, rfl⟩ : b = b' ∧ off = off' := by injection e1 with e1; injection e1 with e1 e2; exact ⟨e1, e2⟩
      clear e1
      have d0 : wr.cell? ⟨b, off + m, none⟩ = some (.string ⟨(L.getD m []).toArray⟩) := (hb.out.cell (p := ⟨b, off + m, none⟩) hbN).trans c0
      have d1 : wr.cell? ⟨b, off + (m + 1), none⟩ = some (.string ⟨(L.getD (m + 1) []).toArray⟩) := (hb.out.cell (p := ⟨b, off + (m + 1), none⟩) hbN).trans c1
      have x0 : (L.getD m []).length ≤ 1000 := hx _ (getD_mem (by omega))
      have x1 : (L.getD (m + 1) []).length ≤ 1000 := hx _ (getD_mem (by omega))
      have PA : Hid (pairAt L k = nodeOf (L.getD m []) (L.getD (m + 1) [])) := by
        obtain rfl : m = 2 * k := by omega
        rfl
      have HX := Lib.hid hx
      have hsz := hb.out.size
      clear c0 c1 hx
      generalize L.getD m [] = x at *
      generalize L.getD (m + 1) [] = y at *
      have i1 : (m : Int) < (n : Int) := by omega
      have i2 : (m : Int) + 1 < (n : Int) := by omega
      have i3 : (0 : Int) ≤ (m : Int) + 1 := by omega
      have i4 : ((m : Int) + 1).toNat = m + 1 := by omega
      have i5 : IntKind.i64.wrap ((m : Int) + 1) = (m : Int) + 1 := IntWalk.i64_in _ (by omega)
      go_wp2_with fail
      have KA0 := fun o => two_alloc (w := wr.drew) (p := ⟨b, off + m, none⟩) (q := ⟨b, off + (m + 1), none⟩) ⟨d0, d1⟩ o
      have K00 : Below wr.heap.size wr (wr.drew.alloc (.cells (strv [nodeB, x, y]).toArray 9)) := Below.trans (below_drew' wr) (below_new wr.drew _)
      go_region_held3 (fun w' => w'.cell? ⟨b, off + m, none⟩ = some (.string ⟨x.toArray⟩) ∧ w'.cell? ⟨b, off + (m + 1), none⟩ = some (.string ⟨y.toArray⟩)) (first | go_keep | exact KS | exact KA0 _)
        (first
          | (go_at_call 45; refine (reflistB (some ⟨wr.drew.heap.size, 0, none⟩) 3 3 [nodeB, x, y] _ (row_list wr.drew _ _ _ rfl) rfl (few_node x0 x1)).mono ?_; rintro e w1 ⟨rfl, hb1⟩; have hbw : Below wr.heap.size wr w1 := Below.trans K00 (hb1.mono K00.size); have KS := two_kept (p := ⟨b, off + m, none⟩) (q := ⟨b, off + (m + 1), none⟩) hbw (Nat.lt_of_lt_of_le hbN hsz) d0 d1; have KA := fun o => two_alloc KS o)
          | ((refine step_app1 (by rfl) _ _ (by rfl) w.heap.size _ k ((List.range k).map (pairAt L)) (nodeOf x y) w1.heap.size (by rfl) (Own.later (Own.later hown.out hbw) (below_new w1 _)) (by rfl) (heap_alloc_new w1 _) (by omega) (Nat.le_trans hsz (Nat.le_trans hbw.size (below_new w1 _).size)) ?_; intro g cap w2 ho2 hg2 hlt2 hsz2; have KS := two_grown (KA _) hg2 hlt2 hbN hbN)))
      have O2 : Hid (Own w2 w.heap.size (.slice (some ⟨g, 0, none⟩) (k + 1) cap) (k + 1) ((List.range (k + 1)).map (pairAt L))) := by
        show Own _ _ _ _ _
        rw [range_map_succ, PA.out]
        exact ho2
      have B1 : Below w.heap.size w w1 := hb.out.trans (hbw.mono hsz)
      have B2 : Hid (Below w.heap.size w w2) := (B1.alloc B1.size _).grown hg2 (Nat.le_trans B1.size (below_new w1 _).size) (fun k hk => (hlt2 k hk).1)
      clear ho2 hg2 hlt2 KS KA KA0 K00 hbw B1 hb1
      go_wp2
      go_roundw
      case rel => exact ⟨k + 1, m + 2, by omega, by omega, by omega, by go_num, O2, B2⟩
      case measure => simp [intOf]; omega
    · have hcl : L.length / 2 = c := by omega
      obtain rfl : k = c := by omega
      obtain ⟨a', c', hv⟩ := hown.out.form
      rw [hv] at hown ⊢
      go_wp2
      go_ret
      refine ⟨_, _, rfl, ?_, hb.out⟩
      have h := hown.out
      rw [← hcl] at h ⊢
      exact h
set_option maxRecDepth 100000 in
set_option maxHeartbeats 2000000 in
theorem refroot_any (a : Option Addr) (n cap h : Nat) (L : List B) (w : World) (hl : Txt w w.heap.size a L) (hn : n = 2 ^ h) (hL : L.length = 2 ^ h) (hh : h ≤ 8) (hx : ∀ x ∈ L, x.length ≤ 1000) :
    Calls Tryd.prog 29 #[.slice a n cap] w fun e w' => e = .returned (.string ⟨(rootN h L).toArray⟩) ∧ Below w.heap.size w w' := by
  have HL := Lib.hid hL
  have HX := Lib.hid hx
  clear hL hx
  subst hn
  go_enter Tryd.func29, Tryd.ntmps29
  go_wp2
  go_loopw [0] (fun v wr => ∃ (d m : Nat) (a' : Option Addr) (c' : Nat), d ≤ h ∧ v = .slice a' m c' ∧ Hid (m = 2 ^ (h - d)) ∧ Hid (Txt wr wr.heap.size a' (lev L d)) ∧ Hid (Below w.heap.size w wr)) (fun v _ => match v with | .slice _ m _ => m | _ => 0)
  case atStart => exact ⟨0, _, _, _, by omega, rfl, rfl, hl, Below.refl _ _⟩
  case round =>
    obtain ⟨d, m, a', c', hd, rfl, hm, htx, hb⟩ := hrel
    by_cases hlt : d < h
    · have h1 : 1 < m := by have := pow_two h d hlt; rw [hm.out]; omega
      have hsp := pow_split h d hlt
      go_wp2_with fail
      refine (refup_any a' m c' (2 ^ (h - (d + 1))) (lev L d) _ htx.out ?g1 ?g2 ?g3 (lev_small HX.out d)).mono ?_
      case g1 => rw [hm.out, lev_len L h HL.out d hd]
      case g2 => rw [hm.out, hsp, Nat.mul_comm]
      case g3 => have := pow_le h d hh; rw [hm.out]; omega
      rintro e w1 ⟨a1, c1, rfl, ho, hb1⟩
      have T1 : Hid (Txt w1 w1.heap.size a1 (lev L (d + 1))) := ho.txt.2
      have B1 : Hid (Below w.heap.size w w1) := hb.out.trans (hb1.mono hb.out.size)
      have HM : Hid (2 ^ (h - (d + 1)) < m) := by
        show _ < _
        have := Nat.two_pow_pos (h - (d + 1))
        rw [hm.out, hsp]; omega
      clear ho hb hb1 hsp htx
      go_wp2
      go_roundw
      case rel => exact ⟨d + 1, _, a1, c1, by omega, rfl, rfl, T1, B1⟩
      case measure => exact HM.out
    · obtain rfl : d = h := by omega
      have h1 : ¬ 1 < m := by rw [hm.out, Nat.sub_self]; decide
      have h2 : 0 < m := by rw [hm.out, Nat.sub_self]; decide
      have hlen : (lev L d).length = 1 := by rw [lev_len L d HL.out d (Nat.le_refl _), Nat.sub_self]
      obtain ⟨b, off, rfl, hbN, c0⟩ := htx.out.at_ (k := 0) (by rw [hlen]; decide)
      rw [Nat.add_zero] at c0
      clear hlen
      go_wp2
      go_ret
      exact ⟨rfl, hb.out⟩
end Go.Proofs.YtmladmljibcagaaDoor.Sl
