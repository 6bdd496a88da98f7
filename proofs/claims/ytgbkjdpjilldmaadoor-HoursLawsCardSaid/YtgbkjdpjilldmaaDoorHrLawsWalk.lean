/- hours: the law HoursLaws. -/
import Derived.Test.YtgbkjdpjilldmaaDoorHm23
namespace Go.Proofs.YtgbkjdpjilldmaaDoor.Hr
open Go.RowKit Go.Sort Go.Shelf
open Lx (IsRow alloc1 drew_below B)
open St (Sp encS encS_len encS_one)
set_option maxRecDepth 100000 in
set_option maxHeartbeats 8000000 in
theorem lawsLaw_any (pa pb : Option Addr) (n m ca cb : Nat) (a b : List Sp) (w : World) (hn : a.length = n) (hm : b.length = m) (ha : SpT w w.heap.size pa a) (hb : SpT w w.heap.size pb b) (hca : n ≤ ca) (hcb : m ≤ cb) (hd : Dn w.heap.size w) :
    Calls Tryd.prog 5 #[.slice pa n ca, .slice pb m cb] w fun e w' => e = .returned (.bool true) ∧ Below w.heap.size w w' := by
  subst hn hm
  obtain ⟨Z, hZ⟩ : ∃ Z, w.heap.size = Z := ⟨_, rfl⟩
  have KH := Lib.hid (head_any w hd)
  have Ta := Lib.hid ha
  have Tb := Lib.hid hb
  have Ca := Lib.hid hca
  have Cb := Lib.hid hcb
  rw [hZ]
  clear hd ha hb
  go_enter Tryd.func5, Tryd.ntmps5
  go_wp2_with fail
  refine KH.out.mono ?_
  rintro e w1 ⟨rfl, h⟩
  have B1 := Lib.hid (hZ ▸ h)
  have Ta := Lib.hid (Ta.out.later h)
  have Tb := Lib.hid (Tb.out.later h)
  obtain ⟨w2, hw2, h2, s2⟩ := sls_two w1 pa pb a.length ca b.length cb a b
  have HW := Lib.hid hw2
  have B2 := Lib.hid (stp hZ B1.out h2)
  have Ta := Lib.hid (Ta.out.later h2)
  have Tb := Lib.hid (Tb.out.later h2)
  have KF := Lib.hid (few_any w1.heap.size 2 _ w2 s2 rfl (by decide))
  rw [few_two] at KF
  clear h h2 s2 hw2 KH B1
  go_wp2_with fail
  generalize hg : World.alloc w1 _ = u
  obtain rfl : u = w2 := hg.symm.trans HW.out
  clear hg HW
  refine KF.out.mono ?_
  rintro e w3 ⟨rfl, rfl⟩
  clear KF
  by_cases h150 : a.length ≤ 150 ∧ b.length ≤ 150
  rotate_left
  · have hf : (decide (a.length ≤ 150) && decide (b.length ≤ 150)) = false := by
      rw [Bool.and_eq_false_iff, decide_eq_false_iff_not, decide_eq_false_iff_not]
      omega
    rw [hf]
    go_wp2
    go_ret
    exact ⟨rfl, B2.out⟩
  obtain ⟨l1, l2⟩ := h150
  rw [decide_eq_true l1, decide_eq_true l2, Bool.true_and]
  have LA := Lib.hid l1
  have LB := Lib.hid l2
  have KV := Lib.hid (valid_any pa a.length ca a u rfl Ta.out Ca.out (by omega))
  go_wp2_with fail
  refine KV.out.mono ?_
  rintro e w4 ⟨rfl, h⟩
  have B4 := Lib.hid (stp hZ B2.out h)
  have Ta := Lib.hid (Ta.out.later h)
  have Tb := Lib.hid (Tb.out.later h)
  clear h KV B2
  cases hva : vldS a with
  | false =>
    go_wp2
    go_ret
    exact ⟨rfl, B4.out⟩
  | true =>
  have VA := Lib.hid (vld_val.1 hva)
  have KV := Lib.hid (valid_any pb b.length cb b w4 rfl Tb.out Cb.out (by omega))
  clear hva
  go_wp2_with fail
  refine KV.out.mono ?_
  rintro e w5 ⟨rfl, h⟩
  have B5 := Lib.hid (stp hZ B4.out h)
  have Ta := Lib.hid (Ta.out.later h)
  have Tb := Lib.hid (Tb.out.later h)
  clear h KV B4
  cases hvb : vldS b with
  | false =>
    go_wp2
    go_ret
    exact ⟨rfl, B5.out⟩
  | true =>
  have VB := Lib.hid (vld_val.1 hvb)
  clear hvb l1 l2 hca hcb

  obtain ⟨x, hx⟩ : ∃ X, notL a = X := ⟨_, rfl⟩
  have Vx := Lib.hid (show Val x from by rw [← hx]; exact (not_val VA.out).1)
  have Lx := Lib.hid (show x.length ≤ 900 from by
    have h1 := LA.out
    have h2 := LB.out
    rw [← hx]
    have := notL_len a
    omega)
  have Hx := Lib.hid hx
  clear hx
  obtain ⟨y, hy⟩ : ∃ X, notL b = X := ⟨_, rfl⟩
  have Vy := Lib.hid (show Val y from by rw [← hy]; exact (not_val VB.out).1)
  have Ly := Lib.hid (show y.length ≤ 900 from by
    have h1 := LA.out
    have h2 := LB.out
    rw [← hy]
    have := notL_len b
    omega)
  have Hy := Lib.hid hy
  clear hy
  obtain ⟨z, hz⟩ : ∃ X, orL a x = X := ⟨_, rfl⟩
  have Vz := Lib.hid (show Val z from by rw [← hz]; exact (or_val VA.out Vx.out).1)
  have Lz := Lib.hid (show z.length ≤ 900 from by
    have h1 := LA.out
    have h2 := LB.out
    rw [← hz]
    have h3 := or_len a x
    rw [← Hx.out] at h3 ⊢
    have := notL_len a
    omega)
  have Hz := Lib.hid hz
  clear hz
  have K := Lib.hid (notS x Hx.out VA.out Ta.out Ca.out (Nat.le_trans LA.out (by decide)))
  go_wp2_with fail
  refine K.out.mono ?_
  rintro e w6 ⟨⟨px, cx, rfl, hc, ht⟩, h⟩
  have B6 := Lib.hid (stp hZ B5.out h)
  have Ta := Lib.hid (Ta.out.later h)
  have Tb := Lib.hid (Tb.out.later h)
  have Tx := Lib.hid ht
  have Cx := Lib.hid hc
  clear h K B5 ht hc
  have K := Lib.hid (notS y Hy.out VB.out Tb.out Cb.out (Nat.le_trans LB.out (by decide)))
  go_wp2_with fail
  refine K.out.mono ?_
  rintro e w7 ⟨⟨py, cy, rfl, hc, ht⟩, h⟩
  have B7 := Lib.hid (stp hZ B6.out h)
  have Ta := Lib.hid (Ta.out.later h)
  have Tb := Lib.hid (Tb.out.later h)
  have Tx := Lib.hid (Tx.out.later h)
  have Ty := Lib.hid ht
  have Cy := Lib.hid hc
  clear h K B6 ht hc
  have K := Lib.hid (eitherS z Hz.out VA.out Vx.out Ta.out Tx.out Ca.out Cx.out (Nat.le_trans LA.out (by decide)) Lx.out)
  go_wp2_with fail
  refine K.out.mono ?_
  rintro e w8 ⟨⟨pz, cz, rfl, hc, ht⟩, h⟩
  have B8 := Lib.hid (stp hZ B7.out h)
  have Ta := Lib.hid (Ta.out.later h)
  have Tb := Lib.hid (Tb.out.later h)
  have Tx := Lib.hid (Tx.out.later h)
  have Ty := Lib.hid (Ty.out.later h)
  have Tz := Lib.hid ht
  have Cz := Lib.hid hc
  clear h K B7 ht hc
  obtain ⟨nx, hnx⟩ : ∃ X, notL x = X := ⟨_, rfl⟩
  have Vnx := Lib.hid (show Val nx from by rw [← hnx]; exact (not_val Vx.out).1)
  have Lnx := Lib.hid (show nx.length ≤ 900 from by
    have h1 := LA.out
    have h2 := LB.out
    rw [← hnx]
    have h3 := notL_len x
    rw [← Hx.out] at h3 ⊢
    have := notL_len a
    omega)
  have Hnx := Lib.hid hnx
  clear hnx
  have K := Lib.hid (notS nx Hnx.out Vx.out Tx.out Cx.out Lx.out)
  go_wp2_with fail
  refine K.out.mono ?_
  rintro e w9 ⟨⟨pnx, cnx, rfl, hc, ht⟩, h⟩
  have B9 := Lib.hid (stp hZ B8.out h)
  have Ta := Lib.hid (Ta.out.later h)
  have Tb := Lib.hid (Tb.out.later h)
  have Tx := Lib.hid (Tx.out.later h)
  have Ty := Lib.hid (Ty.out.later h)
  have Tz := Lib.hid (Tz.out.later h)
  have Tnx := Lib.hid ht
  have Cnx := Lib.hid hc
  clear h K B8 ht hc
  have K := Lib.hid (sameS (show nx = a from by rw [← Hnx.out, ← Hx.out]; exact not_not VA.out) Tnx.out Ta.out Cnx.out Ca.out Lnx.out)
  go_wp2_with fail
  refine K.out.mono ?_
  rintro e w10 ⟨rfl, h⟩
  have B10 := Lib.hid (stp hZ B9.out h)
  have Ta := Lib.hid (Ta.out.later h)
  have Tb := Lib.hid (Tb.out.later h)
  have Tx := Lib.hid (Tx.out.later h)
  have Ty := Lib.hid (Ty.out.later h)
  have Tz := Lib.hid (Tz.out.later h)
  have Tnx := Lib.hid (Tnx.out.later h)
  clear h K B9
  clear Tnx Cnx
  obtain ⟨f, hf⟩ : ∃ X, andL a b = X := ⟨_, rfl⟩
  have Vf := Lib.hid (show Val f from by rw [← hf]; exact (and_val VA.out VB.out).1)
  have Lf := Lib.hid (show f.length ≤ 900 from by
    have h1 := LA.out
    have h2 := LB.out
    rw [← hf]
    have := andL_len a b
    omega)
  have Hf := Lib.hid hf
  clear hf
  have K := Lib.hid (bothS f Hf.out VA.out VB.out Ta.out Tb.out Ca.out Cb.out (Nat.le_trans LA.out (by decide)) (Nat.le_trans LB.out (by decide)))
  go_wp2_with fail
  refine K.out.mono ?_
  rintro e w11 ⟨⟨pf, cf, rfl, hc, ht⟩, h⟩
  have B11 := Lib.hid (stp hZ B10.out h)
  have Ta := Lib.hid (Ta.out.later h)
  have Tb := Lib.hid (Tb.out.later h)
  have Tx := Lib.hid (Tx.out.later h)
  have Ty := Lib.hid (Ty.out.later h)
  have Tz := Lib.hid (Tz.out.later h)
  have Tf := Lib.hid ht
  have Cf := Lib.hid hc
  clear h K B10 ht hc
  obtain ⟨nf, hnf⟩ : ∃ X, notL f = X := ⟨_, rfl⟩
  have Vnf := Lib.hid (show Val nf from by rw [← hnf]; exact (not_val Vf.out).1)
  have Lnf := Lib.hid (show nf.length ≤ 900 from by
    have h1 := LA.out
    have h2 := LB.out
    rw [← hnf]
    have h3 := notL_len f
    rw [← Hf.out] at h3 ⊢
    have := andL_len a b
    omega)
  have Hnf := Lib.hid hnf
  clear hnf
  have K := Lib.hid (notS nf Hnf.out Vf.out Tf.out Cf.out Lf.out)
  go_wp2_with fail
  refine K.out.mono ?_
  rintro e w12 ⟨⟨pnf, cnf, rfl, hc, ht⟩, h⟩
  have B12 := Lib.hid (stp hZ B11.out h)
  have Ta := Lib.hid (Ta.out.later h)
  have Tb := Lib.hid (Tb.out.later h)
  have Tx := Lib.hid (Tx.out.later h)
  have Ty := Lib.hid (Ty.out.later h)
  have Tz := Lib.hid (Tz.out.later h)
  have Tf := Lib.hid (Tf.out.later h)
  have Tnf := Lib.hid ht
  have Cnf := Lib.hid hc
  clear h K B11 ht hc
  obtain ⟨g, hg⟩ : ∃ X, orL x y = X := ⟨_, rfl⟩
  have Vg := Lib.hid (show Val g from by rw [← hg]; exact (or_val Vx.out Vy.out).1)
  have Lg := Lib.hid (show g.length ≤ 900 from by
    have h1 := LA.out
    have h2 := LB.out
    rw [← hg]
    have h3 := or_len x y
    rw [← Hx.out, ← Hy.out] at h3 ⊢
    have := notL_len a
    have := notL_len b
    omega)
  have Hg := Lib.hid hg
  clear hg
  have K := Lib.hid (eitherS g Hg.out Vx.out Vy.out Tx.out Ty.out Cx.out Cy.out Lx.out Ly.out)
  go_wp2_with fail
  refine K.out.mono ?_
  rintro e w13 ⟨⟨pg, cg, rfl, hc, ht⟩, h⟩
  have B13 := Lib.hid (stp hZ B12.out h)
  have Ta := Lib.hid (Ta.out.later h)
  have Tb := Lib.hid (Tb.out.later h)
  have Tx := Lib.hid (Tx.out.later h)
  have Ty := Lib.hid (Ty.out.later h)
  have Tz := Lib.hid (Tz.out.later h)
  have Tf := Lib.hid (Tf.out.later h)
  have Tnf := Lib.hid (Tnf.out.later h)
  have Tg := Lib.hid ht
  have Cg := Lib.hid hc
  clear h K B12 ht hc
  have K := Lib.hid (sameS (show nf = g from by rw [← Hnf.out, ← Hf.out, ← Hg.out, ← Hx.out, ← Hy.out]; exact not_and VA.out VB.out) Tnf.out Tg.out Cnf.out Cg.out Lnf.out)
  go_wp2_with fail
  refine K.out.mono ?_
  rintro e w14 ⟨rfl, h⟩
  have B14 := Lib.hid (stp hZ B13.out h)
  have Ta := Lib.hid (Ta.out.later h)
  have Tb := Lib.hid (Tb.out.later h)
  have Tx := Lib.hid (Tx.out.later h)
  have Ty := Lib.hid (Ty.out.later h)
  have Tz := Lib.hid (Tz.out.later h)
  have Tf := Lib.hid (Tf.out.later h)
  have Tnf := Lib.hid (Tnf.out.later h)
  have Tg := Lib.hid (Tg.out.later h)
  clear h K B13
  clear Tf Cf Tnf Cnf Tg Cg
  obtain ⟨j, hj⟩ : ∃ X, orL a b = X := ⟨_, rfl⟩
  have Vj := Lib.hid (show Val j from by rw [← hj]; exact (or_val VA.out VB.out).1)
  have Lj := Lib.hid (show j.length ≤ 900 from by
    have h1 := LA.out
    have h2 := LB.out
    rw [← hj]
    have := or_len a b
    omega)
  have Hj := Lib.hid hj
  clear hj
  have K := Lib.hid (eitherS j Hj.out VA.out VB.out Ta.out Tb.out Ca.out Cb.out (Nat.le_trans LA.out (by decide)) (Nat.le_trans LB.out (by decide)))
  go_wp2_with fail
  refine K.out.mono ?_
  rintro e w15 ⟨⟨pj, cj, rfl, hc, ht⟩, h⟩
  have B15 := Lib.hid (stp hZ B14.out h)
  have Ta := Lib.hid (Ta.out.later h)
  have Tb := Lib.hid (Tb.out.later h)
  have Tx := Lib.hid (Tx.out.later h)
  have Ty := Lib.hid (Ty.out.later h)
  have Tz := Lib.hid (Tz.out.later h)
  have Tj := Lib.hid ht
  have Cj := Lib.hid hc
  clear h K B14 ht hc
  obtain ⟨nj, hnj⟩ : ∃ X, notL j = X := ⟨_, rfl⟩
  have Vnj := Lib.hid (show Val nj from by rw [← hnj]; exact (not_val Vj.out).1)
  have Lnj := Lib.hid (show nj.length ≤ 900 from by
    have h1 := LA.out
    have h2 := LB.out
    rw [← hnj]
    have h3 := notL_len j
    rw [← Hj.out] at h3 ⊢
    have := or_len a b
    omega)
  have Hnj := Lib.hid hnj
  clear hnj
  have K := Lib.hid (notS nj Hnj.out Vj.out Tj.out Cj.out Lj.out)
  go_wp2_with fail
  refine K.out.mono ?_
  rintro e w16 ⟨⟨pnj, cnj, rfl, hc, ht⟩, h⟩
  have B16 := Lib.hid (stp hZ B15.out h)
  have Ta := Lib.hid (Ta.out.later h)
  have Tb := Lib.hid (Tb.out.later h)
  have Tx := Lib.hid (Tx.out.later h)
  have Ty := Lib.hid (Ty.out.later h)
  have Tz := Lib.hid (Tz.out.later h)
  have Tj := Lib.hid (Tj.out.later h)
  have Tnj := Lib.hid ht
  have Cnj := Lib.hid hc
  clear h K B15 ht hc
  obtain ⟨i, hi⟩ : ∃ X, andL x y = X := ⟨_, rfl⟩
  have Vi := Lib.hid (show Val i from by rw [← hi]; exact (and_val Vx.out Vy.out).1)
  have Li := Lib.hid (show i.length ≤ 900 from by
    have h1 := LA.out
    have h2 := LB.out
    rw [← hi]
    have h3 := andL_len x y
    rw [← Hx.out, ← Hy.out] at h3 ⊢
    have := notL_len a
    have := notL_len b
    omega)
  have Hi := Lib.hid hi
  clear hi
  have K := Lib.hid (bothS i Hi.out Vx.out Vy.out Tx.out Ty.out Cx.out Cy.out Lx.out Ly.out)
  go_wp2_with fail
  refine K.out.mono ?_
  rintro e w17 ⟨⟨pi, ci, rfl, hc, ht⟩, h⟩
  have B17 := Lib.hid (stp hZ B16.out h)
  have Ta := Lib.hid (Ta.out.later h)
  have Tb := Lib.hid (Tb.out.later h)
  have Tx := Lib.hid (Tx.out.later h)
  have Ty := Lib.hid (Ty.out.later h)
  have Tz := Lib.hid (Tz.out.later h)
  have Tj := Lib.hid (Tj.out.later h)
  have Tnj := Lib.hid (Tnj.out.later h)
  have Ti := Lib.hid ht
  have Ci := Lib.hid hc
  clear h K B16 ht hc
  have K := Lib.hid (sameS (show nj = i from by rw [← Hnj.out, ← Hj.out, ← Hi.out, ← Hx.out, ← Hy.out]; exact not_or VA.out VB.out) Tnj.out Ti.out Cnj.out Ci.out Lnj.out)
  go_wp2_with fail
  refine K.out.mono ?_
  rintro e w18 ⟨rfl, h⟩
  have B18 := Lib.hid (stp hZ B17.out h)
  have Ta := Lib.hid (Ta.out.later h)
  have Tb := Lib.hid (Tb.out.later h)
  have Tx := Lib.hid (Tx.out.later h)
  have Ty := Lib.hid (Ty.out.later h)
  have Tz := Lib.hid (Tz.out.later h)
  have Tj := Lib.hid (Tj.out.later h)
  have Tnj := Lib.hid (Tnj.out.later h)
  have Ti := Lib.hid (Ti.out.later h)
  clear h K B17
  clear Tj Cj Tnj Cnj Ti Ci
  have E0 := Lib.hid (show andL a x = [] from by rw [← Hx.out]; exact and_not VA.out)
  have K := Lib.hid (bothS [] E0.out VA.out Vx.out Ta.out Tx.out Ca.out Cx.out (Nat.le_trans LA.out (by decide)) Lx.out)
  go_wp2_with fail
  refine K.out.mono ?_
  rintro e w19 ⟨⟨p0, c0, rfl, hc, ht⟩, h⟩
  have B19 := Lib.hid (stp hZ B18.out h)
  have Ta := Lib.hid (Ta.out.later h)
  have Tb := Lib.hid (Tb.out.later h)
  have Tx := Lib.hid (Tx.out.later h)
  have Ty := Lib.hid (Ty.out.later h)
  have Tz := Lib.hid (Tz.out.later h)
  clear h K hc ht B18
  simp only [List.length_nil]
  obtain ⟨v, hv, h, ts⟩ := span_one w19 0 10080
  have HV := Lib.hid hv
  have BV := Lib.hid (stp hZ B19.out h)
  have Ta := Lib.hid (Ta.out.later h)
  have Tb := Lib.hid (Tb.out.later h)
  have Tx := Lib.hid (Tx.out.later h)
  have Ty := Lib.hid (Ty.out.later h)
  have Tz := Lib.hid (Tz.out.later h)
  have K := Lib.hid (sameS (b := [(0, 10080)]) (d := 1) (show z = [(0, 10080)] from by rw [← Hz.out, ← Hx.out]; exact or_not VA.out) Tz.out ts Cz.out (by decide) Lz.out)
  clear hv h ts B19
  go_wp2_with fail
  generalize hg : World.alloc w19 _ = u1
  obtain rfl : u1 = v := hg.symm.trans HV.out
  clear hg HV
  refine K.out.mono ?_
  rintro e w40 ⟨rfl, h⟩
  have B40 := Lib.hid (stp hZ BV.out h)
  have Ta := Lib.hid (Ta.out.later h)
  have Tb := Lib.hid (Tb.out.later h)
  have Tx := Lib.hid (Tx.out.later h)
  have Ty := Lib.hid (Ty.out.later h)
  have Tz := Lib.hid (Tz.out.later h)
  clear h K BV
  obtain ⟨f2, hf2⟩ : ∃ X, andL a b = X := ⟨_, rfl⟩
  have Vf2 := Lib.hid (show Val f2 from by rw [← hf2]; exact (and_val VA.out VB.out).1)
  have Lf2 := Lib.hid (show f2.length ≤ 900 from by
    have h1 := LA.out
    have h2 := LB.out
    rw [← hf2]
    have := andL_len a b
    omega)
  have Hf2 := Lib.hid hf2
  clear hf2
  have K := Lib.hid (bothS f2 Hf2.out VA.out VB.out Ta.out Tb.out Ca.out Cb.out (Nat.le_trans LA.out (by decide)) (Nat.le_trans LB.out (by decide)))
  go_wp2_with fail
  refine K.out.mono ?_
  rintro e w41 ⟨⟨pf2, cf2, rfl, hc, ht⟩, h⟩
  have B41 := Lib.hid (stp hZ B40.out h)
  have Ta := Lib.hid (Ta.out.later h)
  have Tb := Lib.hid (Tb.out.later h)
  have Tx := Lib.hid (Tx.out.later h)
  have Ty := Lib.hid (Ty.out.later h)
  have Tz := Lib.hid (Tz.out.later h)
  have Tf2 := Lib.hid ht
  have Cf2 := Lib.hid hc
  clear h K B40 ht hc
  obtain ⟨f3, hf3⟩ : ∃ X, andL b a = X := ⟨_, rfl⟩
  have Vf3 := Lib.hid (show Val f3 from by rw [← hf3]; exact (and_val VB.out VA.out).1)
  have Lf3 := Lib.hid (show f3.length ≤ 900 from by
    have h1 := LA.out
    have h2 := LB.out
    rw [← hf3]
    have := andL_len b a
    omega)
  have Hf3 := Lib.hid hf3
  clear hf3
  have K := Lib.hid (bothS f3 Hf3.out VB.out VA.out Tb.out Ta.out Cb.out Ca.out (Nat.le_trans LB.out (by decide)) (Nat.le_trans LA.out (by decide)))
  go_wp2_with fail
  refine K.out.mono ?_
  rintro e w42 ⟨⟨pf3, cf3, rfl, hc, ht⟩, h⟩
  have B42 := Lib.hid (stp hZ B41.out h)
  have Ta := Lib.hid (Ta.out.later h)
  have Tb := Lib.hid (Tb.out.later h)
  have Tx := Lib.hid (Tx.out.later h)
  have Ty := Lib.hid (Ty.out.later h)
  have Tz := Lib.hid (Tz.out.later h)
  have Tf2 := Lib.hid (Tf2.out.later h)
  have Tf3 := Lib.hid ht
  have Cf3 := Lib.hid hc
  clear h K B41 ht hc
  have K := Lib.hid (sameS (show f2 = f3 from by rw [← Hf2.out, ← Hf3.out]; exact and_comm_l VA.out VB.out) Tf2.out Tf3.out Cf2.out Cf3.out Lf2.out)
  go_wp2_with fail
  refine K.out.mono ?_
  rintro e w43 ⟨rfl, h⟩
  have B43 := Lib.hid (stp hZ B42.out h)
  have Ta := Lib.hid (Ta.out.later h)
  have Tb := Lib.hid (Tb.out.later h)
  have Tx := Lib.hid (Tx.out.later h)
  have Ty := Lib.hid (Ty.out.later h)
  have Tz := Lib.hid (Tz.out.later h)
  have Tf2 := Lib.hid (Tf2.out.later h)
  have Tf3 := Lib.hid (Tf3.out.later h)
  clear h K B42
  clear Tf2 Cf2 Tf3 Cf3
  obtain ⟨j2, hj2⟩ : ∃ X, orL a b = X := ⟨_, rfl⟩
  have Vj2 := Lib.hid (show Val j2 from by rw [← hj2]; exact (or_val VA.out VB.out).1)
  have Lj2 := Lib.hid (show j2.length ≤ 900 from by
    have h1 := LA.out
    have h2 := LB.out
    rw [← hj2]
    have := or_len a b
    omega)
  have Hj2 := Lib.hid hj2
  clear hj2
  have K := Lib.hid (eitherS j2 Hj2.out VA.out VB.out Ta.out Tb.out Ca.out Cb.out (Nat.le_trans LA.out (by decide)) (Nat.le_trans LB.out (by decide)))
  go_wp2_with fail
  refine K.out.mono ?_
  rintro e w44 ⟨⟨pj2, cj2, rfl, hc, ht⟩, h⟩
  have B44 := Lib.hid (stp hZ B43.out h)
  have Ta := Lib.hid (Ta.out.later h)
  have Tb := Lib.hid (Tb.out.later h)
  have Tx := Lib.hid (Tx.out.later h)
  have Ty := Lib.hid (Ty.out.later h)
  have Tz := Lib.hid (Tz.out.later h)
  have Tj2 := Lib.hid ht
  have Cj2 := Lib.hid hc
  clear h K B43 ht hc
  obtain ⟨j3, hj3⟩ : ∃ X, orL b a = X := ⟨_, rfl⟩
  have Vj3 := Lib.hid (show Val j3 from by rw [← hj3]; exact (or_val VB.out VA.out).1)
  have Lj3 := Lib.hid (show j3.length ≤ 900 from by
    have h1 := LA.out
    have h2 := LB.out
    rw [← hj3]
    have := or_len b a
    omega)
  have Hj3 := Lib.hid hj3
  clear hj3
  have K := Lib.hid (eitherS j3 Hj3.out VB.out VA.out Tb.out Ta.out Cb.out Ca.out (Nat.le_trans LB.out (by decide)) (Nat.le_trans LA.out (by decide)))
  go_wp2_with fail
  refine K.out.mono ?_
  rintro e w45 ⟨⟨pj3, cj3, rfl, hc, ht⟩, h⟩
  have B45 := Lib.hid (stp hZ B44.out h)
  have Ta := Lib.hid (Ta.out.later h)
  have Tb := Lib.hid (Tb.out.later h)
  have Tx := Lib.hid (Tx.out.later h)
  have Ty := Lib.hid (Ty.out.later h)
  have Tz := Lib.hid (Tz.out.later h)
  have Tj2 := Lib.hid (Tj2.out.later h)
  have Tj3 := Lib.hid ht
  have Cj3 := Lib.hid hc
  clear h K B44 ht hc
  have K := Lib.hid (sameS (show j2 = j3 from by rw [← Hj2.out, ← Hj3.out]; exact or_comm_l VA.out VB.out) Tj2.out Tj3.out Cj2.out Cj3.out Lj2.out)
  go_wp2_with fail
  refine K.out.mono ?_
  rintro e w46 ⟨rfl, h⟩
  have B46 := Lib.hid (stp hZ B45.out h)
  have Ta := Lib.hid (Ta.out.later h)
  have Tb := Lib.hid (Tb.out.later h)
  have Tx := Lib.hid (Tx.out.later h)
  have Ty := Lib.hid (Ty.out.later h)
  have Tz := Lib.hid (Tz.out.later h)
  have Tj2 := Lib.hid (Tj2.out.later h)
  have Tj3 := Lib.hid (Tj3.out.later h)
  clear h K B45
  clear Tj2 Cj2 Tj3 Cj3
  go_wp2
  go_ret
  exact ⟨rfl, B46.out⟩
end Go.Proofs.YtgbkjdpjilldmaaDoor.Hr
