/- Trees of digests by contract: above, root, path. -/
import Derived.Test.YtanlpcdljclnmaaDoorSlLeaf
namespace Go.Proofs.YtanlpcdljclnmaaDoor.Sl
open Go.RowKit
open Go.Proofs.YtanlpcdljclnmaaDoor.Dg hiding intOf

def pairAt (L : List B) (j : Nat) : B := nodeOf (L.getD (2 * j) []) (L.getD (2 * j + 1) [])
theorem range_map_succ {β : Type} (f : Nat → β) (k : Nat) : (List.range (k + 1)).map f = (List.range k).map f ++ [f k] := by rw [List.range_succ, List.map_append]; rfl
theorem Tab.at_ {w w' : World} (h : Tab w) (hb : Below w.heap.size w w') : Tab w' := h.below hb (Nat.le_refl _)
theorem below_drew' (w : World) : Below w.heap.size w w.drew := ⟨rfl, rfl, rfl, Nat.le_refl _, fun _ _ => rfl⟩
theorem below_new (w : World) (o : Obj) : Below w.heap.size w (w.alloc o) := (Below.refl _ _).alloc (Nat.le_refl _) o
theorem two_kept {w w' : World} {p q : Addr} {x y : Value} (hb : Below w.heap.size w w') (hp : p.block < w.heap.size) (hx : w.cell? p = some x) (hy : w.cell? ⟨p.block, q.off, none⟩ = some y) : w'.cell? p = some x ∧ w'.cell? ⟨p.block, q.off, none⟩ = some y :=
  ⟨(hb.cell hp).trans hx, (hb.cell (p := ⟨p.block, q.off, none⟩) hp).trans hy⟩
theorem two_alloc {w : World} {p q : Addr} {x y : Value} (h : w.cell? p = some x ∧ w.cell? q = some y) (o : Obj) : (w.alloc o).cell? p = some x ∧ (w.alloc o).cell? q = some y :=
  ⟨((below_new w o).cell (World.block_lt_of_cell? _ _ h.1)).trans h.1, ((below_new w o).cell (World.block_lt_of_cell? _ _ h.2)).trans h.2⟩
theorem two_grown {w w' : World} {p q : Addr} {x y : Value} {row : Option Nat} {N : Nat} (h : w.cell? p = some x ∧ w.cell? q = some y) (hg : w.grownBy w' row) (hr : ∀ k, row = some k → N ≤ k ∧ k < w.heap.size) (hp : p.block < N) (hq : q.block < N) : w'.cell? p = some x ∧ w'.cell? q = some y :=
  ⟨hg.cell h.1 (fun e => by have := (hr _ e.symm).1; omega), hg.cell h.2 (fun e => by have := (hr _ e.symm).1; omega)⟩
set_option maxRecDepth 100000 in
set_option maxHeartbeats 2000000 in
theorem above_any (a : Option Addr) (n cap c : Nat) (L : List B) (w : World) (ht : Tab w) (hl : Txt w w.heap.size a L) (hn : n = L.length) (hc : n = 2 * c) (hbig : n ≤ 1000) (hx : ∀ x ∈ L, x.length ≤ 1000) :
    Calls Tryd.prog 32 #[.slice a n cap] w fun e w' => ∃ a' c', e = .returned (.slice a' c c') ∧ Own w' w.heap.size (.slice a' c c') c (aboveOf L) ∧ Below w.heap.size w w' := by
  have hlen : L.length ≤ n := by omega
  have hlen' : n ≤ L.length := by omega
  have hc1 : n ≤ 2 * c := by omega
  have hc2 : 2 * c ≤ n := by omega
  clear hn hc
  go_enter Tryd.func32, Tryd.ntmps32
  go_wp2
  go_loopw [3, 4] (fun v i wr => ∃ k m : Nat, k ≤ c ∧ m ≤ 2 * k ∧ 2 * k ≤ m ∧ i = .int .i64 m ∧ Hid (Own wr w.heap.size v k ((List.range k).map (pairAt L))) ∧ Hid (Below w.heap.size w wr)) (fun _ i _ => n - (intOf i).toNat)
  case atStart => exact ⟨0, 0, by omega, by omega, by omega, rfl, Own.nil _ _, Below.refl _ _⟩
  case round =>
    obtain ⟨k, m, hk, hm1, hm2, rfl, hown, hb⟩ := hrel
    by_cases hlt : m < n
    · obtain ⟨b, off, rfl, hbN, c0⟩ := hl.at_ (k := m) (by omega)
      obtain ⟨b', off', e1, _, c1⟩ := hl.at_ (k := m + 1) (by omega)
      obtain ⟨rfl, rfl⟩ : b = b' ∧ off = off' := by injection e1 with e1; injection e1 with e1 e2; exact ⟨e1, e2⟩
      clear e1
      have d0 : wr.cell? ⟨b, off + m, none⟩ = some (.string ⟨(L.getD m []).toArray⟩) := (hb.out.cell (p := ⟨b, off + m, none⟩) hbN).trans c0
      have d1 : wr.cell? ⟨b, off + (m + 1), none⟩ = some (.string ⟨(L.getD (m + 1) []).toArray⟩) := (hb.out.cell (p := ⟨b, off + (m + 1), none⟩) hbN).trans c1
      have x0 : (L.getD m []).length ≤ 1000 := hx _ (getD_mem (by omega))
      have x1 : (L.getD (m + 1) []).length ≤ 1000 := hx _ (getD_mem (by omega))
      have PA : Hid (pairAt L k = nodeOf (L.getD m []) (L.getD (m + 1) [])) := by
        obtain rfl : m = 2 * k := by omega
        rfl
      have HTR : Hid (Tab wr) := ht.below hb.out (Nat.le_refl _)
      have HX := Lib.hid hx
      have hsz := hb.out.size
      clear c0 c1 hx
      generalize L.getD m [] = x at *
      generalize L.getD (m + 1) [] = y at *
      have i1 : (m : Int) < (n : Int) := by omega
      have i2 : (m : Int) + 1 < (n : Int) := by omega
      have i3 : (0 : Int) ≤ (m : Int) + 1 := by omega
      have i4 : ((m : Int) + 1).toNat = m + 1 := by omega
      have i5 : IntKind.i64.wrap ((m : Int) + 1) = (m : Int) + 1 := IntWalk.i64_in _ (by omega)
      go_wp2_with fail
      go_region_held3 (fun w' => w'.cell? ⟨b, off + m, none⟩ = some (.string ⟨x.toArray⟩) ∧ w'.cell? ⟨b, off + (m + 1), none⟩ = some (.string ⟨y.toArray⟩)) (first | go_keep | exact KS)
        (first
          | (go_at_call 40; refine (node_any x y _ (Tab.at_ HTR.out (below_drew' wr)) x0 x1).mono ?_; rintro e w1 ⟨rfl, hb1⟩; have hbw : Below wr.heap.size wr w1 := Below.trans (below_drew' wr) hb1; have KS := two_kept (p := ⟨b, off + m, none⟩) (q := ⟨b, off + (m + 1), none⟩) hbw (Nat.lt_of_lt_of_le hbN hsz) d0 d1; have KA := fun o => two_alloc KS o)
          | ((refine step_app1 (by rfl) _ _ (by rfl) w.heap.size _ k ((List.range k).map (pairAt L)) (nodeOf x y) w1.heap.size (by rfl) (Own.later (Own.later hown.out hbw) (below_new w1 _)) (by rfl) (heap_alloc_new w1 _) (by omega) (Nat.le_trans hsz (Nat.le_trans hbw.size (below_new w1 _).size)) ?_; intro g cap w2 ho2 hg2 hlt2 hsz2; have KS := two_grown (KA _) hg2 hlt2 hbN hbN)))
      have O2 : Hid (Own w2 w.heap.size (.slice (some ⟨g, 0, none⟩) (k + 1) cap) (k + 1) ((List.range (k + 1)).map (pairAt L))) := by
        show Own _ _ _ _ _
        rw [range_map_succ, PA.out]
        exact ho2
      have B1 : Below w.heap.size w w1 := hb.out.trans (hbw.mono hsz)
      have B2 : Hid (Below w.heap.size w w2) := (B1.alloc B1.size _).grown hg2 (Nat.le_trans B1.size (below_new w1 _).size) (fun k hk => (hlt2 k hk).1)
      clear ho2 hg2 hlt2 KS KA hbw B1 hb1
      go_wp2
      go_roundw
      case rel => exact ⟨k + 1, m + 2, by omega, by omega, by omega, by go_num, O2, B2⟩
      case measure => simp [intOf]; omega
    · have hcl : L.length / 2 = c := by omega
      obtain rfl : k = c := by omega
      obtain ⟨a', c', hv⟩ := hown.out.form
      rw [hv] at hown ⊢
      go_wp2
      go_ret
      refine ⟨_, _, rfl, ?_, hb.out⟩
      have h := hown.out
      rw [← hcl] at h ⊢
      exact h
theorem lev_small {L : List B} (hx : ∀ x ∈ L, x.length ≤ 1000) : ∀ d, ∀ x ∈ lev L d, x.length ≤ 1000 := by
  intro d
  cases d with
  | zero => exact hx
  | succ d =>
    intro x h
    simp only [lev, aboveOf, List.mem_map] at h
    obtain ⟨_, _, rfl⟩ := h
    rw [nodeOf, dsum_length]
    decide
theorem pow_le (h d : Nat) (hh : h ≤ 8) : 2 ^ (h - d) ≤ 256 := by
  have : 2 ^ (h - d) ≤ 2 ^ 8 := Nat.pow_le_pow_right (by decide) (by omega)
  omega
theorem pow_two (h d : Nat) (hd : d < h) : 2 ≤ 2 ^ (h - d) := by
  rw [pow_split h d hd]
  have := Nat.two_pow_pos (h - (d + 1))
  omega
set_option maxRecDepth 100000 in
set_option maxHeartbeats 1000000 in
theorem root_any (a : Option Addr) (n cap h : Nat) (L : List B) (w : World) (ht : Tab w) (hl : Txt w w.heap.size a L) (hn : n = 2 ^ h) (hL : L.length = 2 ^ h) (hh : h ≤ 8) (hx : ∀ x ∈ L, x.length ≤ 1000) :
    Calls Tryd.prog 14 #[.slice a n cap] w fun e w' => e = .returned (.string ⟨(rootN h L).toArray⟩) ∧ Below w.heap.size w w' := by
  have HL := Lib.hid hL
  have HT := Lib.hid ht
  have HX := Lib.hid hx
  clear ht hL hx
  subst hn
  go_enter Tryd.func14, Tryd.ntmps14
  go_wp2
  go_loopw [0] (fun v wr => ∃ (d m : Nat) (a' : Option Addr) (c' : Nat), d ≤ h ∧ v = .slice a' m c' ∧ Hid (m = 2 ^ (h - d)) ∧ Hid (Txt wr wr.heap.size a' (lev L d)) ∧ Hid (Below w.heap.size w wr)) (fun v _ => match v with | .slice _ m _ => m | _ => 0)
  case atStart => exact ⟨0, _, _, _, by omega, rfl, rfl, hl, Below.refl _ _⟩
  case round =>
    obtain ⟨d, m, a', c', hd, rfl, hm, htx, hb⟩ := hrel
    by_cases hlt : d < h
    · have h1 : 1 < m := by have := pow_two h d hlt; rw [hm.out]; omega
      have hsp := pow_split h d hlt
      go_wp2_with fail
      refine (above_any a' m c' (2 ^ (h - (d + 1))) (lev L d) _ (Tab.below HT.out hb.out (Nat.le_refl _)) htx.out ?g1 ?g2 ?g3 (lev_small HX.out d)).mono ?_
      case g1 => rw [hm.out, lev_len L h HL.out d hd]
      case g2 => rw [hm.out, hsp, Nat.mul_comm]
      case g3 => have := pow_le h d hh; rw [hm.out]; omega
      rintro e w1 ⟨a1, c1, rfl, ho, hb1⟩
      have T1 : Hid (Txt w1 w1.heap.size a1 (lev L (d + 1))) := ho.txt.2
      have B1 : Hid (Below w.heap.size w w1) := hb.out.trans (hb1.mono hb.out.size)
      have HM : Hid (2 ^ (h - (d + 1)) < m) := by
        show _ < _
        have := Nat.two_pow_pos (h - (d + 1))
        rw [hm.out, hsp]; omega
      clear ho hb hb1 hsp htx
      go_wp2
      go_roundw
      case rel => exact ⟨d + 1, _, a1, c1, by omega, rfl, rfl, T1, B1⟩
      case measure => exact HM.out
    · obtain rfl : d = h := by omega
      have h1 : ¬ 1 < m := by rw [hm.out, Nat.sub_self]; decide
      have h2 : 0 < m := by rw [hm.out, Nat.sub_self]; decide
      have hlen : (lev L d).length = 1 := by rw [lev_len L d HL.out d (Nat.le_refl _), Nat.sub_self]
      obtain ⟨b, off, rfl, hbN, c0⟩ := htx.out.at_ (k := 0) (by rw [hlen]; decide)
      rw [Nat.add_zero] at c0
      clear hlen
      go_wp2
      go_ret
      exact ⟨rfl, hb.out⟩
theorem xor_one (q : Nat) (h : q < 256) : bits .xor .i64 (q : Int) 1 = ((sib q : Nat) : Int) := by
  have e : bits .xor .i64 (q : Int) ((1 : Nat) : Int) = ((q ^^^ 1 : Nat) : Int) := by
    have hx : q ^^^ 1 < 2 ^ 63 := Nat.xor_lt_two_pow (by omega) (by omega)
    have o : ∀ a : Nat, a < 9223372036854775808 → (BitVec.ofInt 64 (a : Int)).toNat = a := fun a ha => by
      rw [BitVec.ofInt_natCast, BitVec.toNat_ofNat]; exact Nat.mod_eq_of_lt (by omega)
    show IntKind.i64.wrap ((BitVec.ofInt 64 (q : Int) ^^^ BitVec.ofInt 64 ((1 : Nat) : Int)).toNat : Int) = _
    rw [BitVec.toNat_xor, o q (by omega), o 1 (by decide), IntKind.wrap_i64]
    omega
  have e2 : q ^^^ 1 = sib q := by
    have : ∀ q : Fin 256, q.val ^^^ 1 = sib q.val := by decide +kernel
    exact this ⟨q, h⟩
  rw [← e2]
  exact e
theorem pathN_succ (L : List B) (i d : Nat) : (List.range (d + 1)).map (fun e => (lev L e).getD (sib (i / 2 ^ e)) []) = (List.range d).map (fun e => (lev L e).getD (sib (i / 2 ^ e)) []) ++ [(lev L d).getD (sib (i / 2 ^ d)) []] := range_map_succ _ _
set_option maxRecDepth 100000 in
set_option maxHeartbeats 2000000 in
theorem path_any (a : Option Addr) (n cap h i : Nat) (L : List B) (w : World) (ht : Tab w) (hl : Txt w w.heap.size a L) (hn : n = 2 ^ h) (hL : L.length = 2 ^ h) (hh : h ≤ 8) (hi : i < 2 ^ h) (hx : ∀ x ∈ L, x.length ≤ 1000) :
    Calls Tryd.prog 17 #[.slice a n cap, .int .i64 i] w fun e w' => ∃ a' c', e = .returned (.slice a' h c') ∧ Own w' w.heap.size (.slice a' h c') h (pathN h L i) ∧ Below w.heap.size w w' := by
  have HL := Lib.hid hL
  have HT := Lib.hid ht
  have HX := Lib.hid hx
  clear ht hL hx
  subst hn
  go_enter Tryd.func17, Tryd.ntmps17
  go_wp2
  go_loopw [0, 1, 5] (fun v j u wr => ∃ (d m q : Nat) (a' : Option Addr) (c' : Nat), d ≤ h ∧ v = .slice a' m c' ∧ Hid (m = 2 ^ (h - d)) ∧ j = .int .i64 q ∧ q < m ∧ Hid (q = i / 2 ^ d) ∧ Hid (Txt wr wr.heap.size a' (lev L d)) ∧
    Hid (Own wr w.heap.size u d ((List.range d).map (fun e => (lev L e).getD (sib (i / 2 ^ e)) []))) ∧ Hid (∀ k, u.ownBlock = some k → ∀ ad, a' = some ad → ad.block ≠ k) ∧ Hid (Below w.heap.size w wr)) (fun v _ _ _ => match v with | .slice _ m _ => m | _ => 0)
  case atStart => exact ⟨0, _, i, _, _, by omega, rfl, rfl, rfl, hi, by simp [Hid], hl, Own.nil _ _, fun k hk => by simp [Value.ownBlock] at hk, Below.refl _ _⟩
  case round =>
    obtain ⟨d, m, q, a', c', hd, rfl, hm, rfl, hqm, hq, htx, hown, hap, hb⟩ := hrel
    by_cases hlt : d < h
    · have h1 : 1 < m := by have := pow_two h d hlt; rw [hm.out]; omega
      have hsp := pow_split h d hlt
      have hm256 : m ≤ 256 := by have := pow_le h d hh; rw [hm.out]; omega
      have hxo := xor_one q (by omega)
      have hsl : sib q < m := by rw [hm.out]; exact sib_lt h d q hlt (by rw [← hm.out]; exact hqm)
      have PS : Hid ((List.range (d + 1)).map (fun e => (lev L e).getD (sib (i / 2 ^ e)) []) = (List.range d).map (fun e => (lev L e).getD (sib (i / 2 ^ e)) []) ++ [(lev L d).getD (sib q) []]) := by
        show _ = _
        rw [pathN_succ, hq.out]
      have HQ : Hid (q / 2 = i / 2 ^ (d + 1)) := by show _ = _; rw [hq.out, div_two_pow]
      have hq2 : q / 2 < 2 ^ (h - (d + 1)) := by rw [hm.out, hsp] at hqm; omega
      have HQ2 := Lib.hid hq2
      generalize sib q = s at *
      obtain ⟨b, off, rfl, hbN, c0⟩ := htx.out.at_ (k := s) (by rw [lev_len L h HL.out d hd, ← hm.out]; exact hsl)
      have htb : Hid (Tab wr) := Tab.below HT.out hb.out (Nat.le_refl _)
      have hsz := hb.out.size
      have hd8 : d ≤ 8 := by omega
      have HSP := Lib.hid hsp
      clear hq hsp hq2
      generalize hyy : (lev L d).getD s [] = y at *
      clear hyy
      go_wp2_with (at_builtin; refine wpList_app1 rfl _ _ (by rfl) w.heap.size _ d _ y wr.heap.size (by rfl) (Own.later hown.out (below_new wr _)) (by rfl) (heap_alloc_new wr _) (by omega) (Nat.le_trans hsz (below_new wr _).size) ?_; intro g cap w2 ho2 hg2 hlt2 hsz2)
      have O2 : Hid (Own w2 w.heap.size (.slice (some ⟨g, 0, none⟩) (d + 1) cap) (d + 1) ((List.range (d + 1)).map (fun e => (lev L e).getD (sib (i / 2 ^ e)) []))) := by
        show Own _ _ _ _ _
        rw [PS.out]
        exact ho2
      have hbn := hb.out.alloc hsz (.cells #[.string ⟨y.toArray⟩] 9)
      have B2 : Hid (Below w.heap.size w w2) := hbn.grown hg2 (by simp; omega) (fun k hk => (hlt2 k hk).1)
      have T2 : Txt w2 w2.heap.size (some ⟨b, off, none⟩) (lev L d) := ((htx.out.later (below_new wr _)).grown hg2 (Nat.le_refl _) (fun ad e k => by injection e with e; subst e; exact hap.out _ k.symm _ rfl rfl)).more hg2.size
      have HT2 : Hid (Tab w2) := Tab.below HT.out B2.out (Nat.le_refl _)
      have HS2 := B2.out.size
      have HLT := Lib.hid hlt2
      clear ho2 hg2 hbn hown htx hap hlt2 c0 hb
      go_wp2_with fail
      refine (above_any _ m c' (2 ^ (h - (d + 1))) (lev L d) _ HT2.out T2 ?g1 ?g2 (by omega) (lev_small HX.out d)).mono ?_
      case g1 => rw [hm.out, lev_len L h HL.out d hd]
      case g2 => rw [hm.out, HSP.out, Nat.mul_comm]
      rintro e w3 ⟨a1, c1, rfl, ho, hb3⟩
      have T3 : Hid (Txt w3 w3.heap.size a1 (lev L (d + 1))) := ho.txt.2
      have B3 : Hid (Below w.heap.size w w3) := B2.out.trans (hb3.mono HS2)
      have O3 := Lib.hid (O2.out.later hb3)
      have HM : Hid (2 ^ (h - (d + 1)) < m) := by
        show _ < _
        have := Nat.two_pow_pos (h - (d + 1))
        rw [hm.out, HSP.out]; omega
      have AP : Hid (∀ k, Value.ownBlock (.slice (some ⟨g, 0, none⟩) (d + 1) cap) = some k → ∀ ad, a1 = some ad → ad.block ≠ k) := by
        intro k hk ad hd
        subst hd
        have h1 := ho.fresh.1
        injection hk with hk
        have : g < w2.heap.size := hsz2
        simp only at hk
        omega
      clear ho hb3 T2 O2 B2
      go_wp2
      go_roundw
      case rel => exact ⟨d + 1, _, q / 2, a1, c1, by omega, rfl, rfl, by go_num, HQ2.out, HQ.out, T3, O3, AP, B3⟩
      case measure => exact HM.out
    · obtain rfl : d = h := by omega
      have h1 : ¬ 1 < m := by rw [hm.out, Nat.sub_self]; decide
      obtain ⟨a2, c2, hv⟩ := hown.out.form
      rw [hv] at hown ⊢
      clear hap
      go_wp2
      go_ret
      exact ⟨_, _, rfl, hown.out, hb.out⟩
end Go.Proofs.YtanlpcdljclnmaaDoor.Sl
