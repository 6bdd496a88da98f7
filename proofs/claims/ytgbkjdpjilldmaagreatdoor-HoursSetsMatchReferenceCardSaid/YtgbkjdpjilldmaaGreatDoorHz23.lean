/- Merged: HrRfB, HrRfC. -/
import Derived.Test.YtgbkjdpjilldmaaGreatDoorHz22
/- hours: the reference's Not, Both, Either. -/
namespace Go.Proofs.YtgbkjdpjilldmaaGreatDoor.Hr
open Go.RowKit Go.Sort Go.Shelf
open Lx (IsRow alloc1 drew_below B)
open St (Sp encS encS_len encS_one)
/-- spans of a set that is one's list. -/
theorem spansS {w : World} {g : Nat} {f : Nat → Bool} (R : List Sp) (hR : spF f 10080 = R) (h : Wk w g f) : Calls Tryz.prog 38 #[.pointer (some ⟨g, 0, none⟩)] w (SlP w R) := by
  refine (spans_any g f w h).mono fun x w' hx => ?_
  rw [hR] at hx
  exact SlP.of hx
theorem SlP.back {Z : Nat} {w w0 : World} {R : List Sp} {x : Ending} {w' : World} (hZ : w0.heap.size = Z) (hb : Below Z w0 w) (h : SlP w R x w') : SlP w0 R x w' := ⟨h.1, by
  rw [hZ]
  exact hb.trans (h.2.mono (by rw [← hZ] at hb ⊢; exact hb.size))⟩
set_option maxRecDepth 100000 in
set_option maxHeartbeats 8000000 in
theorem rfNot_any (p : Option Addr) (c : Nat) (a : List Sp) (R : List Sp) (hR : notR a = R) (w : World) (ha : SpT w w.heap.size p a) (hc : a.length ≤ c) (hm : a.length ≤ 900) :
    Calls Tryz.prog 21 #[.slice p a.length c] w (SlP w R) := by
  obtain ⟨Z, hZ⟩ : ∃ Z, w.heap.size = Z := ⟨_, rfl⟩
  have VL := Lib.hid (rfValid_any p a.length c a w rfl ha hc (by omega))
  have TA := Lib.hid ha
  have CA := Lib.hid hc
  have HM := Lib.hid hm
  have HZ := Lib.hid hZ
  unfold notR at hR
  clear ha hc hm hZ
  go_enter Tryz.func21, Tryz.ntmps21
  go_wp2_with fail
  refine VL.out.mono ?_
  rintro e w1 ⟨rfl, h⟩
  have B1 := Lib.hid (HZ.out ▸ h)
  have TA := Lib.hid (TA.out.later h)
  clear h VL
  cases hv : vldS a with
  | false =>
    rw [hv, if_neg (by decide)] at hR
    subst hR
    clear hv
    go_wp2
    go_ret
    exact ⟨⟨none, 0, rfl, by simp, SpT.nil⟩, by rw [HZ.out]; exact B1.out⟩
  | true =>
  rw [hv, if_pos rfl] at hR
  have HV := Lib.hid (vld_val.1 hv)
  have HR := Lib.hid hR
  have KS := Lib.hid (set_any p c a w1 TA.out CA.out HV.out (by have := HM.out; omega))
  clear hv hR
  go_wp2_with fail
  refine KS.out.mono ?_
  rintro e w2 ⟨⟨rfl, hk⟩, h⟩
  obtain ⟨g, hg⟩ : ∃ g, w1.heap.size = g := ⟨_, rfl⟩
  have GZ := Lib.hid (show Z ≤ g from by rw [← hg]; have := B1.out.size; rw [HZ.out] at this; exact this)
  have B2 := Lib.hid (stp HZ.out B1.out h)
  rw [hg] at hk ⊢
  have K0 := Lib.hid (show Wk w2 g (fun i => if i < 0 then !onB a i else onB a i) from by simpa using hk)
  clear h hk KS TA B1 hg
  go_wp2
  go_loopw [4] (fun i wr => ∃ k : Nat, k ≤ 10080 ∧ i = .int .i64 k ∧ Hid (Below Z w wr) ∧ Hid (Wk wr g (fun i => if i < k then !onB a i else onB a i))) (fun i _ => 10080 - (Lx.intOf i).toNat)
  case atStart => exact ⟨0, by omega, rfl, B2, K0⟩
  case round =>
    clear B2 K0
    obtain ⟨k, hk, rfl, HB, HK⟩ := hrel
    by_cases hlt : k < 10080
    · have hlt2 : (k : Int) < 10080 := by omega
      obtain ⟨y0, y1⟩ := wk_get HK.out k hlt
      rw [if_neg (Nat.lt_irrefl k)] at y0
      have K2 := Lib.hid (fun (w9 : World) (h9 : w9 = (wr.setCell ⟨g, k, none⟩ (.bool !onB a k)).drew) => (show Wk w9 g (fun i => if i < k + 1 then !onB a i else onB a i) ∧ Below Z w w9 from by
        subst h9
        have h1 := wk_put (f' := fun i => if i < k + 1 then !onB a i else onB a i) HK.out k (!onB a k) (fun i _ => by
          by_cases e : i = k
          · subst e
            rw [if_pos rfl, if_pos (Nat.lt_succ_self i)]
          · rw [if_neg e]
            by_cases h2 : i < k
            · rw [if_pos h2, if_pos (by omega)]
            · rw [if_neg h2, if_neg (by omega)])
        exact ⟨h1.drew, (HB.out.setCell (p := ⟨g, k, none⟩) GZ.out _).trans ((drew_below _).mono (by have := HB.out.size; rw [HZ.out] at this; simpa using this))⟩))
      obtain ⟨ob, hob⟩ : ∃ ob, onB a k = ob := ⟨_, rfl⟩
      rw [hob] at y0 K2
      clear HK hob
      go_wp2_with fail
      go_region
      all_goals
        have K3 := Lib.hid (K2.out _ rfl)
        clear y0 y1
        go_wp2
        go_roundw
        case rel => exact ⟨k + 1, by omega, by go_num, Lib.hid K3.out.2, Lib.hid K3.out.1⟩
        case measure => simp [Lx.intOf]; omega
    · obtain rfl : k = 10080 := by omega
      have K9 := Lib.hid (show Wk wr g (fun m => !onB a m) from by
        have h := HK.out
        unfold Wk at h ⊢
        rw [bits_congr (g := fun m => !onB a m) (fun i hi => if_pos hi)] at h
        exact h)
      have KS := Lib.hid (spansS R ((sp_not HV.out).trans HR.out) K9.out)
      clear HK K9
      go_wp2_with fail
      refine KS.out.mono ?_
      intro x w9 hx
      obtain ⟨⟨pp, cc, rfl, h1, h2⟩, h3⟩ := SlP.back HZ.out HB.out hx
      clear hx KS
      go_wp2
      go_ret
      exact ⟨⟨pp, cc, rfl, h1, h2⟩, h3⟩
end Go.Proofs.YtgbkjdpjilldmaaGreatDoor.Hr
/- hours: the reference's Both, Either. -/
namespace Go.Proofs.YtgbkjdpjilldmaaGreatDoor.Hr
open Go.RowKit Go.Sort Go.Shelf
open Lx (IsRow alloc1 drew_below B)
open St (Sp encS encS_len encS_one)
set_option maxRecDepth 100000 in
set_option maxHeartbeats 8000000 in
theorem rfBoth_any (p q : Option Addr) (c d : Nat) (a b : List Sp) (R : List Sp) (hR : bothR a b = R) (w : World) (ha : SpT w w.heap.size p a) (hb : SpT w w.heap.size q b) (hc : a.length ≤ c) (hd : b.length ≤ d) (hm : a.length ≤ 900) (hn : b.length ≤ 900) :
    Calls Tryz.prog 23 #[.slice p a.length c, .slice q b.length d] w (SlP w R) := by
  obtain ⟨Z, hZ⟩ : ∃ Z, w.heap.size = Z := ⟨_, rfl⟩
  have VL := Lib.hid (rfValid_any p a.length c a w rfl ha hc (by omega))
  have TA := Lib.hid ha
  have TB := Lib.hid hb
  have CA := Lib.hid hc
  have CB := Lib.hid hd
  have HM := Lib.hid hm
  have HN := Lib.hid hn
  have HZ := Lib.hid hZ
  unfold bothR at hR
  clear ha hb hc hd hm hn hZ
  go_enter Tryz.func23, Tryz.ntmps23
  go_wp2_with fail
  refine VL.out.mono ?_
  rintro e w1 ⟨rfl, h⟩
  have B1 := Lib.hid (HZ.out ▸ h)
  have TA := Lib.hid (TA.out.later h)
  have TB := Lib.hid (TB.out.later h)
  clear h VL
  cases hv : vldS a with
  | false =>
    rw [hv, if_neg (by simp)] at hR
    subst hR
    clear hv
    go_wp2
    go_ret
    exact ⟨⟨none, 0, rfl, by simp, SpT.nil⟩, by rw [HZ.out]; exact B1.out⟩
  | true =>
  have VL := Lib.hid (rfValid_any q b.length d b w1 rfl TB.out CB.out (by have := HN.out; omega))
  have HV := Lib.hid (vld_val.1 hv)
  rw [hv] at hR
  clear hv
  go_wp2_with fail
  refine VL.out.mono ?_
  rintro e w2 ⟨rfl, h⟩
  have B2 := Lib.hid (stp HZ.out B1.out h)
  have TA := Lib.hid (TA.out.later h)
  have TB := Lib.hid (TB.out.later h)
  clear h VL B1
  cases hv : vldS b with
  | false =>
    rw [hv, if_neg (by simp)] at hR
    subst hR
    clear hv
    go_wp2
    go_ret
    exact ⟨⟨none, 0, rfl, by simp, SpT.nil⟩, by rw [HZ.out]; exact B2.out⟩
  | true =>
  have HU := Lib.hid (vld_val.1 hv)
  rw [hv, if_pos (by simp)] at hR
  have HR := Lib.hid hR
  have KS := Lib.hid (set_any p c a w2 TA.out CA.out HV.out (by have := HM.out; omega))
  clear hv hR
  go_wp2_with fail
  refine KS.out.mono ?_
  rintro e w3 ⟨⟨rfl, hk⟩, h⟩
  obtain ⟨g, hg⟩ : ∃ g, w2.heap.size = g := ⟨_, rfl⟩
  have GZ := Lib.hid (show Z ≤ g from by rw [← hg]; have := B2.out.size; rw [HZ.out] at this; exact this)
  have B3 := Lib.hid (stp HZ.out B2.out h)
  have TB := Lib.hid (TB.out.later h)
  rw [hg] at hk ⊢
  have KX := Lib.hid hk
  have KS := Lib.hid (set_any q d b w3 TB.out CB.out HU.out (by have := HN.out; omega))
  clear h hk TA B2 hg
  go_wp2_with fail
  refine KS.out.mono ?_
  rintro e w4 ⟨⟨rfl, hk⟩, h⟩
  obtain ⟨g2, hg2⟩ : ∃ g, w3.heap.size = g := ⟨_, rfl⟩
  have GG := Lib.hid (show g < g2 from by rw [← hg2]; exact IsRow.inside KX.out)
  have B4 := Lib.hid (stp HZ.out B3.out h)
  have K0 := Lib.hid (show Wk w4 g (fun i => if i < 0 then (onB a i && onB b i) else onB a i) from by simpa using IsRow.below KX.out h (IsRow.inside KX.out))
  rw [hg2] at hk ⊢
  have KY := Lib.hid hk
  clear h hk KS TB B3 hg2 KX
  go_wp2
  go_loopw [7] (fun i wr => ∃ k : Nat, k ≤ 10080 ∧ i = .int .i64 k ∧ Hid (Below Z w wr) ∧ Hid (Wk wr g (fun i => if i < k then (onB a i && onB b i) else onB a i)) ∧ Hid (Wk wr g2 (onB b))) (fun i _ => 10080 - (Lx.intOf i).toNat)
  case atStart => exact ⟨0, by omega, rfl, B4, K0, KY⟩
  case round =>
    clear B4 K0 KY
    obtain ⟨k, hk, rfl, HB, HK, HY⟩ := hrel
    by_cases hlt : k < 10080
    · have hlt2 : (k : Int) < 10080 := by omega
      obtain ⟨y0, y1⟩ := wk_get HK.out k hlt
      obtain ⟨z0, _⟩ := wk_get HY.out k hlt
      rw [if_neg (Nat.lt_irrefl k)] at y0
      have K2 := Lib.hid (fun (w9 : World) (h9 : w9 = (wr.setCell ⟨g, k, none⟩ (.bool (onB a k && onB b k))).drew) => (show Wk w9 g (fun i => if i < k + 1 then (onB a i && onB b i) else onB a i) ∧ Below Z w w9 ∧ Wk w9 g2 (onB b) from by
        subst h9
        have h1 := wk_put (f' := fun i => if i < k + 1 then (onB a i && onB b i) else onB a i) HK.out k (onB a k && onB b k) (fun i _ => by
          by_cases e : i = k
          · subst e
            rw [if_pos rfl, if_pos (Nat.lt_succ_self i)]
          · rw [if_neg e]
            by_cases h2 : i < k
            · rw [if_pos h2, if_pos (by omega)]
            · rw [if_neg h2, if_neg (by omega)])
        refine ⟨h1.drew, (HB.out.setCell (p := ⟨g, k, none⟩) GZ.out _).trans ((drew_below _).mono (by have := HB.out.size; rw [HZ.out] at this; simpa using this)), ?_⟩
        exact (IsRow.putOther (p := ⟨g, k, none⟩) HY.out (by have := GG.out; simp; omega) _).drew))
      obtain ⟨oa, hoa⟩ : ∃ ob, onB a k = ob := ⟨_, rfl⟩
      obtain ⟨ob, hob⟩ : ∃ ob, onB b k = ob := ⟨_, rfl⟩
      rw [hoa] at y0
      rw [hob] at z0
      rw [hoa, hob] at K2
      clear HK HY hoa hob
      cases oa <;> cases ob <;> simp only [Bool.and_true, Bool.and_false] at K2
      all_goals
        go_wp2_with fail
        go_region
        all_goals
          have K3 := Lib.hid (K2.out _ rfl)
          clear y0 y1 z0
          go_wp2
          go_roundw
          case rel => exact ⟨k + 1, by omega, by go_num, Lib.hid K3.out.2.1, Lib.hid K3.out.1, Lib.hid K3.out.2.2⟩
          case measure => simp [Lx.intOf]; omega
    · obtain rfl : k = 10080 := by omega
      have K9 := Lib.hid (show Wk wr g (fun m => onB a m && onB b m) from by
        have h := HK.out
        unfold Wk at h ⊢
        rw [bits_congr (g := fun m => onB a m && onB b m) (fun i hi => if_pos hi)] at h
        exact h)
      have KS := Lib.hid (spansS R ((sp_both HV.out HU.out).trans HR.out) K9.out)
      clear HK K9
      go_wp2_with fail
      refine KS.out.mono ?_
      intro x w9 hx
      obtain ⟨⟨pp, cc, rfl, h1, h2⟩, h3⟩ := SlP.back HZ.out HB.out hx
      clear hx KS
      go_wp2
      go_ret
      exact ⟨⟨pp, cc, rfl, h1, h2⟩, h3⟩
set_option maxRecDepth 100000 in
set_option maxHeartbeats 8000000 in
theorem rfEither_any (p q : Option Addr) (c d : Nat) (a b : List Sp) (R : List Sp) (hR : eitherR a b = R) (w : World) (ha : SpT w w.heap.size p a) (hb : SpT w w.heap.size q b) (hc : a.length ≤ c) (hd : b.length ≤ d) (hm : a.length ≤ 900) (hn : b.length ≤ 900) :
    Calls Tryz.prog 25 #[.slice p a.length c, .slice q b.length d] w (SlP w R) := by
  obtain ⟨Z, hZ⟩ : ∃ Z, w.heap.size = Z := ⟨_, rfl⟩
  have VL := Lib.hid (rfValid_any p a.length c a w rfl ha hc (by omega))
  have TA := Lib.hid ha
  have TB := Lib.hid hb
  have CA := Lib.hid hc
  have CB := Lib.hid hd
  have HM := Lib.hid hm
  have HN := Lib.hid hn
  have HZ := Lib.hid hZ
  unfold eitherR at hR
  clear ha hb hc hd hm hn hZ
  go_enter Tryz.func25, Tryz.ntmps25
  go_wp2_with fail
  refine VL.out.mono ?_
  rintro e w1 ⟨rfl, h⟩
  have B1 := Lib.hid (HZ.out ▸ h)
  have TA := Lib.hid (TA.out.later h)
  have TB := Lib.hid (TB.out.later h)
  clear h VL
  cases hv : vldS a with
  | false =>
    rw [hv, if_neg (by simp)] at hR
    subst hR
    clear hv
    go_wp2
    go_ret
    exact ⟨⟨none, 0, rfl, by simp, SpT.nil⟩, by rw [HZ.out]; exact B1.out⟩
  | true =>
  have VL := Lib.hid (rfValid_any q b.length d b w1 rfl TB.out CB.out (by have := HN.out; omega))
  have HV := Lib.hid (vld_val.1 hv)
  rw [hv] at hR
  clear hv
  go_wp2_with fail
  refine VL.out.mono ?_
  rintro e w2 ⟨rfl, h⟩
  have B2 := Lib.hid (stp HZ.out B1.out h)
  have TA := Lib.hid (TA.out.later h)
  have TB := Lib.hid (TB.out.later h)
  clear h VL B1
  cases hv : vldS b with
  | false =>
    rw [hv, if_neg (by simp)] at hR
    subst hR
    clear hv
    go_wp2
    go_ret
    exact ⟨⟨none, 0, rfl, by simp, SpT.nil⟩, by rw [HZ.out]; exact B2.out⟩
  | true =>
  have HU := Lib.hid (vld_val.1 hv)
  rw [hv, if_pos (by simp)] at hR
  have HR := Lib.hid hR
  have KS := Lib.hid (set_any p c a w2 TA.out CA.out HV.out (by have := HM.out; omega))
  clear hv hR
  go_wp2_with fail
  refine KS.out.mono ?_
  rintro e w3 ⟨⟨rfl, hk⟩, h⟩
  obtain ⟨g, hg⟩ : ∃ g, w2.heap.size = g := ⟨_, rfl⟩
  have GZ := Lib.hid (show Z ≤ g from by rw [← hg]; have := B2.out.size; rw [HZ.out] at this; exact this)
  have B3 := Lib.hid (stp HZ.out B2.out h)
  have TB := Lib.hid (TB.out.later h)
  rw [hg] at hk ⊢
  have KX := Lib.hid hk
  have KS := Lib.hid (set_any q d b w3 TB.out CB.out HU.out (by have := HN.out; omega))
  clear h hk TA B2 hg
  go_wp2_with fail
  refine KS.out.mono ?_
  rintro e w4 ⟨⟨rfl, hk⟩, h⟩
  obtain ⟨g2, hg2⟩ : ∃ g, w3.heap.size = g := ⟨_, rfl⟩
  have GG := Lib.hid (show g < g2 from by rw [← hg2]; exact IsRow.inside KX.out)
  have B4 := Lib.hid (stp HZ.out B3.out h)
  have K0 := Lib.hid (show Wk w4 g (fun i => if i < 0 then (onB a i || onB b i) else onB a i) from by simpa using IsRow.below KX.out h (IsRow.inside KX.out))
  rw [hg2] at hk ⊢
  have KY := Lib.hid hk
  clear h hk KS TB B3 hg2 KX
  go_wp2
  go_loopw [7] (fun i wr => ∃ k : Nat, k ≤ 10080 ∧ i = .int .i64 k ∧ Hid (Below Z w wr) ∧ Hid (Wk wr g (fun i => if i < k then (onB a i || onB b i) else onB a i)) ∧ Hid (Wk wr g2 (onB b))) (fun i _ => 10080 - (Lx.intOf i).toNat)
  case atStart => exact ⟨0, by omega, rfl, B4, K0, KY⟩
  case round =>
    clear B4 K0 KY
    obtain ⟨k, hk, rfl, HB, HK, HY⟩ := hrel
    by_cases hlt : k < 10080
    · have hlt2 : (k : Int) < 10080 := by omega
      obtain ⟨y0, y1⟩ := wk_get HK.out k hlt
      obtain ⟨z0, _⟩ := wk_get HY.out k hlt
      rw [if_neg (Nat.lt_irrefl k)] at y0
      have K2 := Lib.hid (fun (w9 : World) (h9 : w9 = (wr.setCell ⟨g, k, none⟩ (.bool (onB a k || onB b k))).drew) => (show Wk w9 g (fun i => if i < k + 1 then (onB a i || onB b i) else onB a i) ∧ Below Z w w9 ∧ Wk w9 g2 (onB b) from by
        subst h9
        have h1 := wk_put (f' := fun i => if i < k + 1 then (onB a i || onB b i) else onB a i) HK.out k (onB a k || onB b k) (fun i _ => by
          by_cases e : i = k
          · subst e
            rw [if_pos rfl, if_pos (Nat.lt_succ_self i)]
          · rw [if_neg e]
            by_cases h2 : i < k
            · rw [if_pos h2, if_pos (by omega)]
            · rw [if_neg h2, if_neg (by omega)])
        refine ⟨h1.drew, (HB.out.setCell (p := ⟨g, k, none⟩) GZ.out _).trans ((drew_below _).mono (by have := HB.out.size; rw [HZ.out] at this; simpa using this)), ?_⟩
        exact (IsRow.putOther (p := ⟨g, k, none⟩) HY.out (by have := GG.out; simp; omega) _).drew))
      obtain ⟨oa, hoa⟩ : ∃ ob, onB a k = ob := ⟨_, rfl⟩
      obtain ⟨ob, hob⟩ : ∃ ob, onB b k = ob := ⟨_, rfl⟩
      rw [hoa] at y0
      rw [hob] at z0
      rw [hoa, hob] at K2
      clear HK HY hoa hob
      cases oa <;> cases ob <;> simp only [Bool.or_true, Bool.or_false] at K2
      all_goals
        go_wp2_with fail
        go_region
        all_goals
          have K3 := Lib.hid (K2.out _ rfl)
          clear y0 y1 z0
          go_wp2
          go_roundw
          case rel => exact ⟨k + 1, by omega, by go_num, Lib.hid K3.out.2.1, Lib.hid K3.out.1, Lib.hid K3.out.2.2⟩
          case measure => simp [Lx.intOf]; omega
    · obtain rfl : k = 10080 := by omega
      have K9 := Lib.hid (show Wk wr g (fun m => onB a m || onB b m) from by
        have h := HK.out
        unfold Wk at h ⊢
        rw [bits_congr (g := fun m => onB a m || onB b m) (fun i hi => if_pos hi)] at h
        exact h)
      have KS := Lib.hid (spansS R ((sp_either HV.out HU.out).trans HR.out) K9.out)
      clear HK K9
      go_wp2_with fail
      refine KS.out.mono ?_
      intro x w9 hx
      obtain ⟨⟨pp, cc, rfl, h1, h2⟩, h3⟩ := SlP.back HZ.out HB.out hx
      clear hx KS
      go_wp2
      go_ret
      exact ⟨⟨pp, cc, rfl, h1, h2⟩, h3⟩
end Go.Proofs.YtgbkjdpjilldmaaGreatDoor.Hr
