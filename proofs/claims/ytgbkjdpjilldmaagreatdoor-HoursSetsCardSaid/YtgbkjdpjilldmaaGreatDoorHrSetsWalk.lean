/- hours: the law HoursSets. -/
import Derived.Test.YtgbkjdpjilldmaaGreatDoorHz21
namespace Go.Proofs.YtgbkjdpjilldmaaGreatDoor.Hr
open Go.RowKit Go.Sort Go.Shelf
open Lx (IsRow alloc1 drew_below B)
open St (Sp encS encS_len encS_one)
theorem validS {w : World} {a : List Sp} {p : Option Addr} {c : Nat} (hv : Val a) (ha : SpT w w.heap.size p a) (hc : a.length ≤ c) (h : a.length ≤ 900) : Calls Tryz.prog 14 #[.slice p a.length c] w fun e w' => e = .returned (.bool true) ∧ Below w.heap.size w w' := by
  have := valid_any p a.length c a w rfl ha hc (by omega)
  rw [vld_val.2 hv] at this
  exact this
theorem openS {w : World} {a : List Sp} {p : Option Addr} {c : Nat} {m : Int} (r : Bool) (hr : openR a m = r) (ha : SpT w w.heap.size p a) (hc : a.length ≤ c) (h : a.length ≤ 900) : Calls Tryz.prog 18 #[.slice p a.length c, .int .i64 m] w fun e w' => e = .returned (.bool r) ∧ Below w.heap.size w w' := by
  have := open_any p a.length c a m w rfl ha hc (by omega)
  rw [hr] at this
  exact this
set_option maxRecDepth 100000 in
set_option maxHeartbeats 8000000 in
theorem setsLaw_any (pa pb : Option Addr) (n m ca cb : Nat) (a b : List Sp) (w : World) (hn : a.length = n) (hm : b.length = m) (ha : SpT w w.heap.size pa a) (hb : SpT w w.heap.size pb b) (hca : n ≤ ca) (hcb : m ≤ cb) (hd : Dn w.heap.size w) (z : Int) (z0 : 0 ≤ z) (z1 : z < 4294967296) :
    Calls Tryz.prog 5 #[.slice pa n ca, .slice pb m cb, .int .u32 z] w fun e w' => e = .returned (.bool true) ∧ Below w.heap.size w w' := by
  subst hn hm
  obtain ⟨M, hM⟩ : ∃ M, z % 1000000001 = M := ⟨_, rfl⟩
  have hM2 : z.tmod 1000000001 = M := by rw [Int.tmod_eq_emod_of_nonneg z0]; exact hM
  have M0 : 0 ≤ M := by omega
  have M1 : M ≤ 1000000000 := by omega
  have HM := Lib.hid (And.intro M0 M1)
  obtain ⟨Z, hZ⟩ : ∃ Z, w.heap.size = Z := ⟨_, rfl⟩
  have KH := Lib.hid (head_any w hd)
  have Ta := Lib.hid ha
  have Tb := Lib.hid hb
  have Ca := Lib.hid hca
  have Cb := Lib.hid hcb
  rw [hZ]
  clear hd ha hb
  go_enter Tryz.func5, Tryz.ntmps5
  go_wp2_with fail
  refine KH.out.mono ?_
  rintro e w1 ⟨rfl, h⟩
  have B1 := Lib.hid (hZ ▸ h)
  have Ta := Lib.hid (Ta.out.later h)
  have Tb := Lib.hid (Tb.out.later h)
  obtain ⟨w2, hw2, h2, s2⟩ := sls_two w1 pa pb a.length ca b.length cb a b
  have HW := Lib.hid hw2
  have B2 := Lib.hid (stp hZ B1.out h2)
  have Ta := Lib.hid (Ta.out.later h2)
  have Tb := Lib.hid (Tb.out.later h2)
  have KF := Lib.hid (few_any w1.heap.size 2 _ w2 s2 rfl (by decide))
  rw [few_two] at KF
  clear h h2 s2 hw2 KH B1
  go_wp2_with fail
  generalize hg : World.alloc w1 _ = u
  obtain rfl : u = w2 := hg.symm.trans HW.out
  clear hg HW
  refine KF.out.mono ?_
  rintro e w3 ⟨rfl, rfl⟩
  clear KF
  by_cases h150 : a.length ≤ 150 ∧ b.length ≤ 150
  rotate_left
  · have hf : (decide (a.length ≤ 150) && decide (b.length ≤ 150)) = false := by
      rw [Bool.and_eq_false_iff, decide_eq_false_iff_not, decide_eq_false_iff_not]
      omega
    rw [hf]
    go_wp2
    go_ret
    exact ⟨rfl, B2.out⟩
  obtain ⟨l1, l2⟩ := h150
  rw [decide_eq_true l1, decide_eq_true l2, Bool.true_and]
  have LA := Lib.hid l1
  have LB := Lib.hid l2
  have KV := Lib.hid (valid_any pa a.length ca a u rfl Ta.out Ca.out (by omega))
  go_wp2_with fail
  refine KV.out.mono ?_
  rintro e w4 ⟨rfl, h⟩
  have B4 := Lib.hid (stp hZ B2.out h)
  have Ta := Lib.hid (Ta.out.later h)
  have Tb := Lib.hid (Tb.out.later h)
  clear h KV B2
  cases hva : vldS a with
  | false =>
    go_wp2
    go_ret
    exact ⟨rfl, B4.out⟩
  | true =>
  have VA := Lib.hid (vld_val.1 hva)
  have KV := Lib.hid (valid_any pb b.length cb b w4 rfl Tb.out Cb.out (by omega))
  clear hva
  go_wp2_with fail
  refine KV.out.mono ?_
  rintro e w5 ⟨rfl, h⟩
  have B5 := Lib.hid (stp hZ B4.out h)
  have Ta := Lib.hid (Ta.out.later h)
  have Tb := Lib.hid (Tb.out.later h)
  clear h KV B4
  cases hvb : vldS b with
  | false =>
    go_wp2
    go_ret
    exact ⟨rfl, B5.out⟩
  | true =>
  have VB := Lib.hid (vld_val.1 hvb)
  clear hvb l1 l2 hca hcb

  obtain ⟨x, hx⟩ : ∃ X, andL a b = X := ⟨_, rfl⟩
  have Vx := Lib.hid (show Val x from by rw [← hx]; exact (and_val VA.out VB.out).1)
  have LLx := Lib.hid (show x.length ≤ 900 from by
    have h1 := LA.out
    have h2 := LB.out
    rw [← hx]
    have := andL_len a b
    omega)
  have Hx := Lib.hid hx
  clear hx
  obtain ⟨y, hy⟩ : ∃ X, orL a b = X := ⟨_, rfl⟩
  have Vy := Lib.hid (show Val y from by rw [← hy]; exact (or_val VA.out VB.out).1)
  have Ly := Lib.hid (show y.length ≤ 900 from by
    have h1 := LA.out
    have h2 := LB.out
    rw [← hy]
    have := or_len a b
    omega)
  have Hy := Lib.hid hy
  clear hy
  obtain ⟨zz, hzz⟩ : ∃ X, notL a = X := ⟨_, rfl⟩
  have Vzz := Lib.hid (show Val zz from by rw [← hzz]; exact (not_val VA.out).1)
  have Lzz := Lib.hid (show zz.length ≤ 900 from by
    have h1 := LA.out
    have h2 := LB.out
    rw [← hzz]
    have := notL_len a
    omega)
  have Hzz := Lib.hid hzz
  clear hzz
  have K := Lib.hid (bothS x Hx.out VA.out VB.out Ta.out Tb.out Ca.out Cb.out (Nat.le_trans LA.out (by decide)) (Nat.le_trans LB.out (by decide)))
  go_wp2_with fail
  refine K.out.mono ?_
  rintro e w6 ⟨⟨px, cx, rfl, hc, ht⟩, h⟩
  have B6 := Lib.hid (stp hZ B5.out h)
  have Ta := Lib.hid (Ta.out.later h)
  have Tb := Lib.hid (Tb.out.later h)
  have Tx := Lib.hid ht
  have Cx := Lib.hid hc
  clear h K B5 ht hc
  have K := Lib.hid (eitherS y Hy.out VA.out VB.out Ta.out Tb.out Ca.out Cb.out (Nat.le_trans LA.out (by decide)) (Nat.le_trans LB.out (by decide)))
  go_wp2_with fail
  refine K.out.mono ?_
  rintro e w7 ⟨⟨py, cy, rfl, hc, ht⟩, h⟩
  have B7 := Lib.hid (stp hZ B6.out h)
  have Ta := Lib.hid (Ta.out.later h)
  have Tb := Lib.hid (Tb.out.later h)
  have Tx := Lib.hid (Tx.out.later h)
  have Ty := Lib.hid ht
  have Cy := Lib.hid hc
  clear h K B6 ht hc
  have K := Lib.hid (notS zz Hzz.out VA.out Ta.out Ca.out (Nat.le_trans LA.out (by decide)))
  go_wp2_with fail
  refine K.out.mono ?_
  rintro e w8 ⟨⟨pzz, czz, rfl, hc, ht⟩, h⟩
  have B8 := Lib.hid (stp hZ B7.out h)
  have Ta := Lib.hid (Ta.out.later h)
  have Tb := Lib.hid (Tb.out.later h)
  have Tx := Lib.hid (Tx.out.later h)
  have Ty := Lib.hid (Ty.out.later h)
  have Tzz := Lib.hid ht
  have Czz := Lib.hid hc
  clear h K B7 ht hc
  have K := Lib.hid (validS Vx.out Tx.out Cx.out LLx.out)
  go_wp2_with fail
  refine K.out.mono ?_
  rintro e w9 ⟨rfl, h⟩
  have B9 := Lib.hid (stp hZ B8.out h)
  have Ta := Lib.hid (Ta.out.later h)
  have Tb := Lib.hid (Tb.out.later h)
  have Tx := Lib.hid (Tx.out.later h)
  have Ty := Lib.hid (Ty.out.later h)
  have Tzz := Lib.hid (Tzz.out.later h)
  clear h K B8
  have K := Lib.hid (validS Vy.out Ty.out Cy.out Ly.out)
  go_wp2_with fail
  refine K.out.mono ?_
  rintro e w10 ⟨rfl, h⟩
  have B10 := Lib.hid (stp hZ B9.out h)
  have Ta := Lib.hid (Ta.out.later h)
  have Tb := Lib.hid (Tb.out.later h)
  have Tx := Lib.hid (Tx.out.later h)
  have Ty := Lib.hid (Ty.out.later h)
  have Tzz := Lib.hid (Tzz.out.later h)
  clear h K B9
  have K := Lib.hid (validS Vzz.out Tzz.out Czz.out Lzz.out)
  go_wp2_with fail
  refine K.out.mono ?_
  rintro e w11 ⟨rfl, h⟩
  have B11 := Lib.hid (stp hZ B10.out h)
  have Ta := Lib.hid (Ta.out.later h)
  have Tb := Lib.hid (Tb.out.later h)
  have Tx := Lib.hid (Tx.out.later h)
  have Ty := Lib.hid (Ty.out.later h)
  have Tzz := Lib.hid (Tzz.out.later h)
  clear h K B10
  obtain ⟨P, hP⟩ : ∃ P, openR a M = P := ⟨_, rfl⟩
  obtain ⟨Q, hQ⟩ : ∃ Q, openR b M = Q := ⟨_, rfl⟩
  have EX := Lib.hid (show openR x M = (P && Q) from by rw [← Hx.out, open_both VA.out VB.out HM.out.1 HM.out.2, hP, hQ])
  have EY := Lib.hid (show openR y M = (P || Q) from by rw [← Hy.out, open_either VA.out VB.out HM.out.1 HM.out.2, hP, hQ])
  have EZ := Lib.hid (show openR zz M = !P from by rw [← Hzz.out, open_not VA.out HM.out.1 HM.out.2, hP])
  have EP := Lib.hid hP
  have EQ := Lib.hid hQ
  clear hP hQ
  have K := Lib.hid (openS P EP.out Ta.out Ca.out (Nat.le_trans LA.out (by decide)))
  go_wp2_with fail
  refine K.out.mono ?_
  rintro e w12 ⟨rfl, h⟩
  have B12 := Lib.hid (stp hZ B11.out h)
  have Ta := Lib.hid (Ta.out.later h)
  have Tb := Lib.hid (Tb.out.later h)
  have Tx := Lib.hid (Tx.out.later h)
  have Ty := Lib.hid (Ty.out.later h)
  have Tzz := Lib.hid (Tzz.out.later h)
  clear h K B11
  have K := Lib.hid (openS Q EQ.out Tb.out Cb.out (Nat.le_trans LB.out (by decide)))
  go_wp2_with fail
  refine K.out.mono ?_
  rintro e w13 ⟨rfl, h⟩
  have B13 := Lib.hid (stp hZ B12.out h)
  have Ta := Lib.hid (Ta.out.later h)
  have Tb := Lib.hid (Tb.out.later h)
  have Tx := Lib.hid (Tx.out.later h)
  have Ty := Lib.hid (Ty.out.later h)
  have Tzz := Lib.hid (Tzz.out.later h)
  clear h K B12
  clear EP EQ Ta Tb
  cases P
  · cases Q
    · have K := Lib.hid (openS false EX.out Tx.out Cx.out (show x.length ≤ 900 from LLx.out))
      go_wp2_with fail
      refine K.out.mono ?_
      rintro e w14 ⟨rfl, h⟩
      have B14 := Lib.hid (stp hZ B13.out h)
      have Tx := Lib.hid (Tx.out.later h)
      have Ty := Lib.hid (Ty.out.later h)
      have Tzz := Lib.hid (Tzz.out.later h)
      clear h K B13
      have K := Lib.hid (openS false EY.out Ty.out Cy.out Ly.out)
      go_wp2_with fail
      refine K.out.mono ?_
      rintro e w15 ⟨rfl, h⟩
      have B15 := Lib.hid (stp hZ B14.out h)
      have Tx := Lib.hid (Tx.out.later h)
      have Ty := Lib.hid (Ty.out.later h)
      have Tzz := Lib.hid (Tzz.out.later h)
      clear h K B14
      have K := Lib.hid (openS true EZ.out Tzz.out Czz.out Lzz.out)
      go_wp2_with fail
      refine K.out.mono ?_
      rintro e w16 ⟨rfl, h⟩
      have B16 := Lib.hid (stp hZ B15.out h)
      have Tx := Lib.hid (Tx.out.later h)
      have Ty := Lib.hid (Ty.out.later h)
      have Tzz := Lib.hid (Tzz.out.later h)
      clear h K B15
      go_wp2
      go_ret
      exact ⟨rfl, B16.out⟩
    · have K := Lib.hid (openS false EX.out Tx.out Cx.out (show x.length ≤ 900 from LLx.out))
      go_wp2_with fail
      refine K.out.mono ?_
      rintro e w14 ⟨rfl, h⟩
      have B14 := Lib.hid (stp hZ B13.out h)
      have Tx := Lib.hid (Tx.out.later h)
      have Ty := Lib.hid (Ty.out.later h)
      have Tzz := Lib.hid (Tzz.out.later h)
      clear h K B13
      have K := Lib.hid (openS true EY.out Ty.out Cy.out Ly.out)
      go_wp2_with fail
      refine K.out.mono ?_
      rintro e w15 ⟨rfl, h⟩
      have B15 := Lib.hid (stp hZ B14.out h)
      have Tx := Lib.hid (Tx.out.later h)
      have Ty := Lib.hid (Ty.out.later h)
      have Tzz := Lib.hid (Tzz.out.later h)
      clear h K B14
      have K := Lib.hid (openS true EZ.out Tzz.out Czz.out Lzz.out)
      go_wp2_with fail
      refine K.out.mono ?_
      rintro e w16 ⟨rfl, h⟩
      have B16 := Lib.hid (stp hZ B15.out h)
      have Tx := Lib.hid (Tx.out.later h)
      have Ty := Lib.hid (Ty.out.later h)
      have Tzz := Lib.hid (Tzz.out.later h)
      clear h K B15
      go_wp2
      go_ret
      exact ⟨rfl, B16.out⟩
  · cases Q
    · have K := Lib.hid (openS false EX.out Tx.out Cx.out (show x.length ≤ 900 from LLx.out))
      go_wp2_with fail
      refine K.out.mono ?_
      rintro e w14 ⟨rfl, h⟩
      have B14 := Lib.hid (stp hZ B13.out h)
      have Tx := Lib.hid (Tx.out.later h)
      have Ty := Lib.hid (Ty.out.later h)
      have Tzz := Lib.hid (Tzz.out.later h)
      clear h K B13
      have K := Lib.hid (openS true EY.out Ty.out Cy.out Ly.out)
      go_wp2_with fail
      refine K.out.mono ?_
      rintro e w15 ⟨rfl, h⟩
      have B15 := Lib.hid (stp hZ B14.out h)
      have Tx := Lib.hid (Tx.out.later h)
      have Ty := Lib.hid (Ty.out.later h)
      have Tzz := Lib.hid (Tzz.out.later h)
      clear h K B14
      have K := Lib.hid (openS false EZ.out Tzz.out Czz.out Lzz.out)
      go_wp2_with fail
      refine K.out.mono ?_
      rintro e w16 ⟨rfl, h⟩
      have B16 := Lib.hid (stp hZ B15.out h)
      have Tx := Lib.hid (Tx.out.later h)
      have Ty := Lib.hid (Ty.out.later h)
      have Tzz := Lib.hid (Tzz.out.later h)
      clear h K B15
      go_wp2
      go_ret
      exact ⟨rfl, B16.out⟩
    · have K := Lib.hid (openS true EX.out Tx.out Cx.out (show x.length ≤ 900 from LLx.out))
      go_wp2_with fail
      refine K.out.mono ?_
      rintro e w14 ⟨rfl, h⟩
      have B14 := Lib.hid (stp hZ B13.out h)
      have Tx := Lib.hid (Tx.out.later h)
      have Ty := Lib.hid (Ty.out.later h)
      have Tzz := Lib.hid (Tzz.out.later h)
      clear h K B13
      have K := Lib.hid (openS true EY.out Ty.out Cy.out Ly.out)
      go_wp2_with fail
      refine K.out.mono ?_
      rintro e w15 ⟨rfl, h⟩
      have B15 := Lib.hid (stp hZ B14.out h)
      have Tx := Lib.hid (Tx.out.later h)
      have Ty := Lib.hid (Ty.out.later h)
      have Tzz := Lib.hid (Tzz.out.later h)
      clear h K B14
      have K := Lib.hid (openS false EZ.out Tzz.out Czz.out Lzz.out)
      go_wp2_with fail
      refine K.out.mono ?_
      rintro e w16 ⟨rfl, h⟩
      have B16 := Lib.hid (stp hZ B15.out h)
      have Tx := Lib.hid (Tx.out.later h)
      have Ty := Lib.hid (Ty.out.later h)
      have Tzz := Lib.hid (Tzz.out.later h)
      clear h K B15
      go_wp2
      go_ret
      exact ⟨rfl, B16.out⟩
end Go.Proofs.YtgbkjdpjilldmaaGreatDoor.Hr
