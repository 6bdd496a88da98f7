/- hours: the law HoursSetsMatchReference. -/
import Derived.Test.YtgbkjdpjilldmaaGreatDoorHz23
namespace Go.Proofs.YtgbkjdpjilldmaaGreatDoor.Hr
open Go.RowKit Go.Sort Go.Shelf
open Lx (IsRow alloc1 drew_below B)
open St (Sp encS encS_len encS_one)
theorem notRS {w : World} {a : List Sp} {p : Option Addr} {c : Nat} (R : List Sp) (hR : notR a = R) (ha : SpT w w.heap.size p a) (hc : a.length ≤ c) (h : a.length ≤ 900) : Calls Tryz.prog 20 #[.slice p a.length c] w (SlP w R) := by
  refine (not_any p a.length c a w rfl ha hc (by omega)).mono fun x w' hx => ?_
  rw [hR] at hx
  exact SlP.of hx
theorem eitherRS {w : World} {a b : List Sp} {p q : Option Addr} {c d : Nat} (R : List Sp) (hR : eitherR a b = R) (ha : SpT w w.heap.size p a) (hb : SpT w w.heap.size q b) (hc : a.length ≤ c) (hd : b.length ≤ d) (h : a.length ≤ 900) (k : b.length ≤ 900) : Calls Tryz.prog 24 #[.slice p a.length c, .slice q b.length d] w (SlP w R) := by
  refine (either_any p q a.length b.length c d a b w rfl rfl ha hb hc hd (by omega) (by omega)).mono fun x w' hx => ?_
  rw [hR] at hx
  exact SlP.of hx
theorem bothRS {w : World} {a b : List Sp} {p q : Option Addr} {c d : Nat} (R : List Sp) (hR : bothR a b = R) (ha : SpT w w.heap.size p a) (hb : SpT w w.heap.size q b) (hc : a.length ≤ c) (hd : b.length ≤ d) (h : a.length ≤ 900) (k : b.length ≤ 900) : Calls Tryz.prog 22 #[.slice p a.length c, .slice q b.length d] w (SlP w R) := by
  refine (both_any p q a.length b.length c d a b w rfl rfl ha hb hc hd (by omega) (by omega)).mono fun x w' hx => ?_
  rw [hR] at hx
  exact SlP.of hx
theorem notR_len (a : List Sp) : (notR a).length ≤ a.length + 1 := by unfold notR; split; exact notL_len a; simp
theorem bothR_len (a b : List Sp) : (bothR a b).length ≤ a.length + b.length + 3 := by unfold bothR; split; exact andL_len a b; simp
theorem eitherR_len (a b : List Sp) : (eitherR a b).length ≤ a.length + b.length := by unfold eitherR; split; exact or_len a b; simp
set_option maxRecDepth 100000 in
set_option maxHeartbeats 8000000 in
theorem setsMatch_any (pa pb : Option Addr) (n m ca cb : Nat) (a b : List Sp) (w : World) (hn : a.length = n) (hm : b.length = m) (ha : SpT w w.heap.size pa a) (hb : SpT w w.heap.size pb b) (hca : n ≤ ca) (hcb : m ≤ cb) (hd : Dn w.heap.size w) (z : Int) :
    Calls Tryz.prog 4 #[.slice pa n ca, .slice pb m cb, .int .i64 z] w fun e w' => e = .returned (.bool true) ∧ Below w.heap.size w w' := by
  subst hn hm
  obtain ⟨Z, hZ⟩ : ∃ Z, w.heap.size = Z := ⟨_, rfl⟩
  have KH := Lib.hid (head_any w hd)
  have Ta := Lib.hid ha
  have Tb := Lib.hid hb
  have Ca := Lib.hid hca
  have Cb := Lib.hid hcb
  rw [hZ]
  clear hd ha hb
  go_enter Tryz.func4, Tryz.ntmps4
  go_wp2_with fail
  refine KH.out.mono ?_
  rintro e w1 ⟨rfl, h⟩
  have B1 := Lib.hid (hZ ▸ h)
  have Ta := Lib.hid (Ta.out.later h)
  have Tb := Lib.hid (Tb.out.later h)
  obtain ⟨w2, hw2, h2, s2⟩ := sls_two w1 pa pb a.length ca b.length cb a b
  have HW := Lib.hid hw2
  have B2 := Lib.hid (stp hZ B1.out h2)
  have Ta := Lib.hid (Ta.out.later h2)
  have Tb := Lib.hid (Tb.out.later h2)
  have KF := Lib.hid (few_any w1.heap.size 2 _ w2 s2 rfl (by decide))
  rw [few_two] at KF
  clear h h2 s2 hw2 KH B1
  go_wp2_with fail
  generalize hg : World.alloc w1 _ = u
  obtain rfl : u = w2 := hg.symm.trans HW.out
  clear hg HW
  refine KF.out.mono ?_
  rintro e w3 ⟨rfl, rfl⟩
  clear KF
  by_cases h150 : a.length ≤ 150 ∧ b.length ≤ 150
  rotate_left
  · have hf : (decide (a.length ≤ 150) && decide (b.length ≤ 150)) = false := by
      rw [Bool.and_eq_false_iff, decide_eq_false_iff_not, decide_eq_false_iff_not]
      omega
    rw [hf]
    go_wp2
    go_ret
    exact ⟨rfl, B2.out⟩
  obtain ⟨l1, l2⟩ := h150
  rw [decide_eq_true l1, decide_eq_true l2, Bool.true_and]
  have LA := Lib.hid l1
  have LB := Lib.hid l2
  clear l1 l2 hca hcb
  obtain ⟨nx, hnx⟩ : ∃ x, nextR a z = x := ⟨_, rfl⟩
  obtain ⟨op, hop⟩ : ∃ x, openR a z = x := ⟨_, rfl⟩
  have KN := Lib.hid (fun (W : World) (h : SpT W W.heap.size pa a) => next_any pa a.length ca a z W rfl h Ca.out (by have := LA.out; omega))
  have KM := Lib.hid (fun (W : World) (h : SpT W W.heap.size pa a) => rfNext_any pa a.length ca a z W rfl h Ca.out (by have := LA.out; omega))
  have KO := Lib.hid (fun (W : World) (h : SpT W W.heap.size pa a) => open_any pa a.length ca a z W rfl h Ca.out (by have := LA.out; omega))
  have KP := Lib.hid (fun (W : World) (h : SpT W W.heap.size pa a) => rfOpen_any pa a.length ca a z W rfl h Ca.out (by have := LA.out; omega))
  rw [hnx] at KN KM
  rw [hop] at KO KP
  obtain ⟨nx1, nx2⟩ := nx
  dsimp only at KN KM
  clear hnx hop
  have K := Lib.hid (KN.out _ Ta.out)
  go_wp2_with fail
  refine K.out.mono ?_
  rintro e w23 ⟨rfl, h⟩
  have B23 := Lib.hid (stp hZ B2.out h)
  have Ta := Lib.hid (Ta.out.later h)
  have Tb := Lib.hid (Tb.out.later h)
  clear h K B2
  have K := Lib.hid (KM.out _ Ta.out)
  go_wp2_with fail
  refine K.out.mono ?_
  rintro e w24 ⟨rfl, h⟩
  have B24 := Lib.hid (stp hZ B23.out h)
  have Ta := Lib.hid (Ta.out.later h)
  have Tb := Lib.hid (Tb.out.later h)
  clear h K B23
  have K := Lib.hid (KO.out _ Ta.out)
  go_wp2_with fail
  refine K.out.mono ?_
  rintro e w25 ⟨rfl, h⟩
  have B25 := Lib.hid (stp hZ B24.out h)
  have Ta := Lib.hid (Ta.out.later h)
  have Tb := Lib.hid (Tb.out.later h)
  clear h K B24
  have K := Lib.hid (KP.out _ Ta.out)
  go_wp2_with fail
  refine K.out.mono ?_
  rintro e w26 ⟨rfl, h⟩
  have B26 := Lib.hid (stp hZ B25.out h)
  have Ta := Lib.hid (Ta.out.later h)
  have Tb := Lib.hid (Tb.out.later h)
  clear h K B25
  obtain ⟨x, hx⟩ : ∃ X, notR a = X := ⟨_, rfl⟩
  have Lx9 := Lib.hid (show x.length ≤ 900 from by
    have h1 := LA.out
    have h2 := LB.out
    rw [← hx]
    have := notR_len a
    omega)
  have Hx := Lib.hid hx
  clear hx
  have K := Lib.hid (notRS x Hx.out Ta.out Ca.out (Nat.le_trans LA.out (by decide)))
  go_wp2_with fail
  refine K.out.mono ?_
  rintro e w27 ⟨⟨px, cx, rfl, hc, ht⟩, h⟩
  have B27 := Lib.hid (stp hZ B26.out h)
  have Ta := Lib.hid (Ta.out.later h)
  have Tb := Lib.hid (Tb.out.later h)
  have Tx := Lib.hid ht
  have Cx := Lib.hid hc
  clear h K B26 ht hc
  have K := Lib.hid (rfNot_any pa ca a x Hx.out _ Ta.out Ca.out (Nat.le_trans LA.out (by decide)))
  go_wp2_with fail
  refine K.out.mono ?_
  rintro e w28 ⟨⟨px2, cx2, rfl, hc, ht⟩, h⟩
  have B28 := Lib.hid (stp hZ B27.out h)
  have Ta := Lib.hid (Ta.out.later h)
  have Tb := Lib.hid (Tb.out.later h)
  have Tx := Lib.hid (Tx.out.later h)
  have Tx2 := Lib.hid ht
  have Cx2 := Lib.hid hc
  clear h K B27 ht hc
  have K := Lib.hid (sameS (show x = x from rfl) Tx.out Tx2.out Cx.out Cx2.out Lx9.out)
  go_wp2_with fail
  refine K.out.mono ?_
  rintro e w29 ⟨rfl, h⟩
  have B29 := Lib.hid (stp hZ B28.out h)
  have Ta := Lib.hid (Ta.out.later h)
  have Tb := Lib.hid (Tb.out.later h)
  have Tx := Lib.hid (Tx.out.later h)
  have Tx2 := Lib.hid (Tx2.out.later h)
  clear h K B28
  clear Tx Tx2 Cx Cx2
  obtain ⟨y, hy⟩ : ∃ X, bothR a b = X := ⟨_, rfl⟩
  have Ly := Lib.hid (show y.length ≤ 900 from by
    have h1 := LA.out
    have h2 := LB.out
    rw [← hy]
    have := bothR_len a b
    omega)
  have Hy := Lib.hid hy
  clear hy
  have K := Lib.hid (bothRS y Hy.out Ta.out Tb.out Ca.out Cb.out (Nat.le_trans LA.out (by decide)) (Nat.le_trans LB.out (by decide)))
  go_wp2_with fail
  refine K.out.mono ?_
  rintro e w30 ⟨⟨py, cy, rfl, hc, ht⟩, h⟩
  have B30 := Lib.hid (stp hZ B29.out h)
  have Ta := Lib.hid (Ta.out.later h)
  have Tb := Lib.hid (Tb.out.later h)
  have Ty := Lib.hid ht
  have Cy := Lib.hid hc
  clear h K B29 ht hc
  have K := Lib.hid (rfBoth_any pa pb ca cb a b y Hy.out _ Ta.out Tb.out Ca.out Cb.out (Nat.le_trans LA.out (by decide)) (Nat.le_trans LB.out (by decide)))
  go_wp2_with fail
  refine K.out.mono ?_
  rintro e w31 ⟨⟨py2, cy2, rfl, hc, ht⟩, h⟩
  have B31 := Lib.hid (stp hZ B30.out h)
  have Ta := Lib.hid (Ta.out.later h)
  have Tb := Lib.hid (Tb.out.later h)
  have Ty := Lib.hid (Ty.out.later h)
  have Ty2 := Lib.hid ht
  have Cy2 := Lib.hid hc
  clear h K B30 ht hc
  have K := Lib.hid (sameS (show y = y from rfl) Ty.out Ty2.out Cy.out Cy2.out Ly.out)
  go_wp2_with fail
  refine K.out.mono ?_
  rintro e w32 ⟨rfl, h⟩
  have B32 := Lib.hid (stp hZ B31.out h)
  have Ta := Lib.hid (Ta.out.later h)
  have Tb := Lib.hid (Tb.out.later h)
  have Ty := Lib.hid (Ty.out.later h)
  have Ty2 := Lib.hid (Ty2.out.later h)
  clear h K B31
  clear Ty Ty2 Cy Cy2
  obtain ⟨v, hv⟩ : ∃ X, eitherR a b = X := ⟨_, rfl⟩
  have Lv := Lib.hid (show v.length ≤ 900 from by
    have h1 := LA.out
    have h2 := LB.out
    rw [← hv]
    have := eitherR_len a b
    omega)
  have Hv := Lib.hid hv
  clear hv
  have K := Lib.hid (eitherRS v Hv.out Ta.out Tb.out Ca.out Cb.out (Nat.le_trans LA.out (by decide)) (Nat.le_trans LB.out (by decide)))
  go_wp2_with fail
  refine K.out.mono ?_
  rintro e w33 ⟨⟨pv, cv, rfl, hc, ht⟩, h⟩
  have B33 := Lib.hid (stp hZ B32.out h)
  have Ta := Lib.hid (Ta.out.later h)
  have Tb := Lib.hid (Tb.out.later h)
  have Tv := Lib.hid ht
  have Cv := Lib.hid hc
  clear h K B32 ht hc
  have K := Lib.hid (rfEither_any pa pb ca cb a b v Hv.out _ Ta.out Tb.out Ca.out Cb.out (Nat.le_trans LA.out (by decide)) (Nat.le_trans LB.out (by decide)))
  go_wp2_with fail
  refine K.out.mono ?_
  rintro e w34 ⟨⟨pv2, cv2, rfl, hc, ht⟩, h⟩
  have B34 := Lib.hid (stp hZ B33.out h)
  have Ta := Lib.hid (Ta.out.later h)
  have Tb := Lib.hid (Tb.out.later h)
  have Tv := Lib.hid (Tv.out.later h)
  have Tv2 := Lib.hid ht
  have Cv2 := Lib.hid hc
  clear h K B33 ht hc
  have K := Lib.hid (sameS (show v = v from rfl) Tv.out Tv2.out Cv.out Cv2.out Lv.out)
  go_wp2_with fail
  refine K.out.mono ?_
  rintro e w35 ⟨rfl, h⟩
  have B35 := Lib.hid (stp hZ B34.out h)
  have Ta := Lib.hid (Ta.out.later h)
  have Tb := Lib.hid (Tb.out.later h)
  have Tv := Lib.hid (Tv.out.later h)
  have Tv2 := Lib.hid (Tv2.out.later h)
  clear h K B34
  go_wp2
  go_ret
  exact ⟨rfl, B35.out⟩
end Go.Proofs.YtgbkjdpjilldmaaGreatDoor.Hr
