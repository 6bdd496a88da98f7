/- hours: the law HoursTexts. -/
import Derived.Test.YtgbkjdpjilldmaaDoorHm23
import Derived.Test.YtgbkjdpjilldmaaDoorHrErrM
namespace Go.Proofs.YtgbkjdpjilldmaaDoor.Hr
open Go.RowKit Go.Sort Go.Shelf
open Lx (IsRow alloc1 drew_below B str_size)
open St (Sp encS encS_len encS_one)
/-- Parse's answer as a slice. -/
def PaP (w : World) (r : List Sp × Int × Int) (x : Ending) (w' : World) : Prop := (∃ p cap, x = .returned (.tuple #[.slice p r.1.length cap, .int .i64 r.2.1, .int .i64 r.2.2]) ∧ r.1.length ≤ cap ∧ SpT w' w'.heap.size p r.1) ∧ Below w.heap.size w w'
theorem parseS (s : B) (bm : ByteArray) (hbm : ByteArray.mk s.toArray = bm) (r : List Sp × Int × Int) (hr : parseR s = r) (w : World) (hs : s.length ≤ 5000) (hd : Dn w.heap.size w) : Calls Tryd.prog 12 #[.string bm] w (PaP w r) := by
  subst hbm hr
  refine (parse_any' s w hs hd).mono ?_
  rintro x w' ⟨⟨v, rfl, ov⟩, b⟩
  obtain ⟨p, c, hv, hc, _, _, t⟩ := spt_of ov
  exact ⟨⟨p, c, by rw [hv], hc, t⟩, b⟩
theorem textS (l : List Sp) (bm : ByteArray) (e : Int) (hbm : ByteArray.mk (textW l).1.toArray = bm) (he : (textW l).2 = e) (p : Option Addr) (c : Nat) (w : World) (ha : SpT w w.heap.size p l) (hc : l.length ≤ c) (hm : l.length ≤ 1000) (hd : Dn w.heap.size w) :
    Calls Tryd.prog 10 #[.slice p l.length c] w fun e' w' => e' = .returned (.tuple #[.string bm, .int .i64 e]) ∧ Below w.heap.size w w' := by
  subst hbm he
  exact htext_any p l.length c l w rfl ha hc hd (by omega)
theorem dn_later {Z : Nat} {w W : World} (hZ : w.heap.size = Z) (hd : Dn Z w) (hb : Below Z w W) : Dn W.heap.size W :=
  ⟨Nat.lt_of_lt_of_le hd.1 (by rw [← hZ]; exact hb.size), (hd.below hb).2⟩
set_option maxRecDepth 100000 in
set_option maxHeartbeats 8000000 in
theorem textsLaw_any (pa : Option Addr) (n ca : Nat) (a : List Sp) (s : B) (w : World) (hn : a.length = n) (ha : SpT w w.heap.size pa a) (hca : n ≤ ca) (hd : Dn w.heap.size w) :
    Calls Tryd.prog 3 #[.slice pa n ca, .string ⟨s.toArray⟩] w fun e w' => e = .returned (.bool true) ∧ Below w.heap.size w w' := by
  subst hn
  obtain ⟨Z, hZ⟩ : ∃ Z, w.heap.size = Z := ⟨_, rfl⟩
  have KH := Lib.hid (head_any w hd)
  have Ta := Lib.hid ha
  have Ca := Lib.hid hca
  have HD := Lib.hid (hZ ▸ hd)
  have HZ := Lib.hid hZ
  obtain ⟨bm, hbm⟩ : ∃ x, ByteArray.mk s.toArray = x := ⟨_, rfl⟩
  have hsz : (bm.size : Int) = (s.length : Int) := by rw [← hbm, str_size]
  have HB := Lib.hid hbm
  have HS := Lib.hid hsz
  rw [hbm, hZ]
  clear hd ha hca hbm hsz hZ
  go_enter Tryd.func3, Tryd.ntmps3
  go_wp2_with fail
  refine KH.out.mono ?_
  rintro e w1 ⟨rfl, h⟩
  have B1 := Lib.hid (HZ.out ▸ h)
  have Ta := Lib.hid (Ta.out.later h)
  clear h KH
  by_cases hs : s.length ≤ 3000
  rotate_left
  · have h1 : (3000 : Int) < (bm.size : Int) := by have := HS.out; omega
    go_wp2
    go_ret
    exact ⟨rfl, B1.out⟩
  have hs' : ¬ (3000 : Int) < (bm.size : Int) := by have := HS.out; omega
  obtain ⟨w2, hw2, h2, s2⟩ := sls_one w1 pa a.length ca a
  have HW := Lib.hid hw2
  have B2 := Lib.hid (stp HZ.out B1.out h2)
  have Ta := Lib.hid (Ta.out.later h2)
  have KF := Lib.hid (few_any w1.heap.size 1 _ w2 s2 rfl (by decide))
  rw [few_one] at KF
  have HSL := Lib.hid hs
  clear h2 s2 hw2 B1 hs
  go_wp2_with fail
  generalize hg : World.alloc w1 _ = u
  obtain rfl : u = w2 := hg.symm.trans HW.out
  clear hg HW
  refine KF.out.mono ?_
  rintro e w3 ⟨rfl, rfl⟩
  clear KF
  by_cases h150 : a.length ≤ 150
  rotate_left
  · rw [decide_eq_false h150]
    go_wp2
    go_ret
    exact ⟨rfl, B2.out⟩
  rw [decide_eq_true h150]
  have LA := Lib.hid h150
  obtain ⟨tx, htx⟩ : ∃ x, ByteArray.mk (textW a).1.toArray = x := ⟨_, rfl⟩
  obtain ⟨te, hte⟩ : ∃ x, (textW a).2 = x := ⟨_, rfl⟩
  have KT := Lib.hid (textS a tx te htx hte pa ca u Ta.out Ca.out (by omega) (dn_later HZ.out HD.out B2.out))
  have HTX := Lib.hid htx
  have HTE := Lib.hid hte
  clear htx hte
  go_wp2_with fail
  refine KT.out.mono ?_
  rintro e w4 ⟨rfl, h⟩
  have B4 := Lib.hid (stp HZ.out B2.out h)
  have Ta := Lib.hid (Ta.out.later h)
  have KV := Lib.hid (valid_any pa a.length ca a w4 rfl Ta.out Ca.out (by omega))
  clear h KT B2
  by_cases hg : vldS a = true ∧ a.length ≤ 60
  · obtain ⟨g1, g2⟩ := hg
    have va := vld_val.1 g1
    obtain ⟨q1, q2, q3⟩ := textW_parse va g2
    rw [HTE.out] at q1
    subst q1
    rw [g1] at KV
    have l60 : (a.length : Int) ≤ 60 := by omega
    have KQ := Lib.hid (fun W hd => parseS (textW a).1 tx HTX.out _ q3 W (by omega) hd)
    clear q2 q3 va g1 g2
    go_wp2_with fail
    refine KV.out.mono ?_
    rintro e w5 ⟨rfl, h⟩
    have B5 := Lib.hid (stp HZ.out B4.out h)
    have Ta := Lib.hid (Ta.out.later h)
    clear h KV B4
    have KQ := Lib.hid (KQ.out w5 (dn_later HZ.out HD.out B5.out))
    go_wp2_with fail
    refine KQ.out.mono ?_
    rintro e w6 ⟨⟨pB, cB, rfl, hc, ht⟩, h⟩
    dsimp only at hc ht ⊢
    have B6 := Lib.hid (stp HZ.out B5.out h)
    have Ta := Lib.hid (Ta.out.later h)
    have KS := Lib.hid (sameS (show a = a from rfl) ht Ta.out hc Ca.out (by omega))
    clear h hc ht KQ B5
    go_wp2_with fail
    refine KS.out.mono ?_
    rintro e w7 ⟨rfl, h⟩
    have B7 := Lib.hid (stp HZ.out B6.out h)
    clear h KS B6
    obtain ⟨A, hA⟩ : ∃ A, parseR s = A := ⟨_, rfl⟩
    have KP := Lib.hid (parseS s bm HB.out A hA w7 (by have := HSL.out; omega) (dn_later HZ.out HD.out B7.out))
    have hok := parse_ok (s := s)
    have her := parse_err (s := s) (by have := HSL.out; omega)
    rw [hA] at hok her
    obtain ⟨al, ae, at_⟩ := A
    dsimp only at hok her
    have HOK := Lib.hid hok
    have HER := Lib.hid her
    clear hok her hA
    go_wp2_with fail
    refine KP.out.mono ?_
    rintro e w8 ⟨⟨pA, cA, rfl, hc, ht⟩, h⟩
    dsimp only at hc ht ⊢
    have B8 := Lib.hid (stp HZ.out B7.out h)
    have CA := Lib.hid hc
    have TA := Lib.hid ht
    clear h hc ht KP B7 Ta
    by_cases e0 : ae = 0
    rotate_left
    · obtain ⟨r1, r2, r3⟩ := HER.out e0
      subst r1
      have e1 : (ae == 0) = false := by rw [beq_eq_false_iff_ne]; exact e0
      have r4 : ¬ at_ < -1 := by omega
      have r5 : -1 ≤ at_ := by omega
      have r6 : at_ ≤ (bm.size : Int) := by have := HS.out; omega
      clear TA HOK HER
      simp only [List.length_nil]
      go_wp2
      go_ret
      exact ⟨rfl, B8.out⟩
    subst e0
    obtain ⟨vA, lA, rfl⟩ := HOK.out rfl
    obtain ⟨q1, q2, q3⟩ := textW_parse vA lA
    obtain ⟨ty, hty⟩ : ∃ x, ByteArray.mk (textW al).1.toArray = x := ⟨_, rfl⟩
    have KT := Lib.hid (textS al ty 0 hty q1 pA cA w8 TA.out CA.out (by omega) (dn_later HZ.out HD.out B8.out))
    have KQ := Lib.hid (fun W hd => parseS (textW al).1 ty hty _ q3 W (by omega) hd)
    have VA := Lib.hid vA
    have LAl := Lib.hid lA
    clear q1 q2 q3 hty vA lA HOK HER
    go_wp2_with fail
    refine KT.out.mono ?_
    rintro e w9 ⟨rfl, h⟩
    have B9 := Lib.hid (stp HZ.out B8.out h)
    have TA := Lib.hid (TA.out.later h)
    clear h KT B8
    have KQ := Lib.hid (KQ.out w9 (dn_later HZ.out HD.out B9.out))
    go_wp2_with fail
    refine KQ.out.mono ?_
    rintro e w10 ⟨⟨pB, cB, rfl, hc, ht⟩, h⟩
    dsimp only at hc ht ⊢
    have B10 := Lib.hid (stp HZ.out B9.out h)
    have TA := Lib.hid (TA.out.later h)
    have CB := Lib.hid hc
    have TB := Lib.hid ht
    have KV := Lib.hid (valid_any pA al.length cA al w10 rfl TA.out CA.out (by have := LAl.out; omega))
    rw [vld_val.2 VA.out] at KV
    clear h hc ht KQ B9
    go_wp2_with fail
    refine KV.out.mono ?_
    rintro e w11 ⟨rfl, h⟩
    have B11 := Lib.hid (stp HZ.out B10.out h)
    have TA := Lib.hid (TA.out.later h)
    have TB := Lib.hid (TB.out.later h)
    have KS := Lib.hid (sameS (show al = al from rfl) TA.out TB.out CA.out CB.out (by have := LAl.out; omega))
    have l60 : (al.length : Int) ≤ 60 := by have := LAl.out; omega
    clear h KV B10
    go_wp2_with fail
    refine KS.out.mono ?_
    rintro e w12 ⟨rfl, h⟩
    have B12 := Lib.hid (stp HZ.out B11.out h)
    clear h KS B11
    go_wp2
    go_ret
    exact ⟨rfl, B12.out⟩
  · have hne := textW_bad hg
    rw [HTE.out] at hne
    have e1 : (te == 0) = false := by rw [beq_eq_false_iff_ne]; exact hne
    by_cases hv : vldS a = true
    · rw [hv] at KV
      have l60 : ¬ (a.length : Int) ≤ 60 := fun q => hg ⟨hv, by omega⟩
      clear hv hg
      go_wp2_with fail
      refine KV.out.mono ?_
      rintro e w5 ⟨rfl, h⟩
      have B5 := Lib.hid (stp HZ.out B4.out h)
      clear h KV B4
      obtain ⟨A, hA⟩ : ∃ A, parseR s = A := ⟨_, rfl⟩
      have KP := Lib.hid (parseS s bm HB.out A hA w5 (by have := HSL.out; omega) (dn_later HZ.out HD.out B5.out))
      have hok := parse_ok (s := s)
      have her := parse_err (s := s) (by have := HSL.out; omega)
      rw [hA] at hok her
      obtain ⟨al, ae, at_⟩ := A
      dsimp only at hok her
      have HOK := Lib.hid hok
      have HER := Lib.hid her
      clear hok her hA
      go_wp2_with fail
      refine KP.out.mono ?_
      rintro e w8 ⟨⟨pA, cA, rfl, hc, ht⟩, h⟩
      dsimp only at hc ht ⊢
      have B8 := Lib.hid (stp HZ.out B5.out h)
      have CA := Lib.hid hc
      have TA := Lib.hid ht
      clear h hc ht KP B5 Ta
      by_cases e0 : ae = 0
      rotate_left
      · obtain ⟨r1, r2, r3⟩ := HER.out e0
        subst r1
        have e1 : (ae == 0) = false := by rw [beq_eq_false_iff_ne]; exact e0
        have r4 : ¬ at_ < -1 := by omega
        have r5 : -1 ≤ at_ := by omega
        have r6 : at_ ≤ (bm.size : Int) := by have := HS.out; omega
        clear TA HOK HER
        simp only [List.length_nil]
        go_wp2
        go_ret
        exact ⟨rfl, B8.out⟩
      subst e0
      obtain ⟨vA, lA, rfl⟩ := HOK.out rfl
      obtain ⟨q1, q2, q3⟩ := textW_parse vA lA
      obtain ⟨ty, hty⟩ : ∃ x, ByteArray.mk (textW al).1.toArray = x := ⟨_, rfl⟩
      have KT := Lib.hid (textS al ty 0 hty q1 pA cA w8 TA.out CA.out (by omega) (dn_later HZ.out HD.out B8.out))
      have KQ := Lib.hid (fun W hd => parseS (textW al).1 ty hty _ q3 W (by omega) hd)
      have VA := Lib.hid vA
      have LAl := Lib.hid lA
      clear q1 q2 q3 hty vA lA HOK HER
      go_wp2_with fail
      refine KT.out.mono ?_
      rintro e w9 ⟨rfl, h⟩
      have B9 := Lib.hid (stp HZ.out B8.out h)
      have TA := Lib.hid (TA.out.later h)
      clear h KT B8
      have KQ := Lib.hid (KQ.out w9 (dn_later HZ.out HD.out B9.out))
      go_wp2_with fail
      refine KQ.out.mono ?_
      rintro e w10 ⟨⟨pB, cB, rfl, hc, ht⟩, h⟩
      dsimp only at hc ht ⊢
      have B10 := Lib.hid (stp HZ.out B9.out h)
      have TA := Lib.hid (TA.out.later h)
      have CB := Lib.hid hc
      have TB := Lib.hid ht
      have KV := Lib.hid (valid_any pA al.length cA al w10 rfl TA.out CA.out (by have := LAl.out; omega))
      rw [vld_val.2 VA.out] at KV
      clear h hc ht KQ B9
      go_wp2_with fail
      refine KV.out.mono ?_
      rintro e w11 ⟨rfl, h⟩
      have B11 := Lib.hid (stp HZ.out B10.out h)
      have TA := Lib.hid (TA.out.later h)
      have TB := Lib.hid (TB.out.later h)
      have KS := Lib.hid (sameS (show al = al from rfl) TA.out TB.out CA.out CB.out (by have := LAl.out; omega))
      have l60 : (al.length : Int) ≤ 60 := by have := LAl.out; omega
      clear h KV B10
      go_wp2_with fail
      refine KS.out.mono ?_
      rintro e w12 ⟨rfl, h⟩
      have B12 := Lib.hid (stp HZ.out B11.out h)
      clear h KS B11
      go_wp2
      go_ret
      exact ⟨rfl, B12.out⟩
    · rw [Bool.eq_false_iff.2 hv] at KV
      clear hv hg
      go_wp2_with fail
      refine KV.out.mono ?_
      rintro e w5 ⟨rfl, h⟩
      have B5 := Lib.hid (stp HZ.out B4.out h)
      clear h KV B4
      obtain ⟨A, hA⟩ : ∃ A, parseR s = A := ⟨_, rfl⟩
      have KP := Lib.hid (parseS s bm HB.out A hA w5 (by have := HSL.out; omega) (dn_later HZ.out HD.out B5.out))
      have hok := parse_ok (s := s)
      have her := parse_err (s := s) (by have := HSL.out; omega)
      rw [hA] at hok her
      obtain ⟨al, ae, at_⟩ := A
      dsimp only at hok her
      have HOK := Lib.hid hok
      have HER := Lib.hid her
      clear hok her hA
      go_wp2_with fail
      refine KP.out.mono ?_
      rintro e w8 ⟨⟨pA, cA, rfl, hc, ht⟩, h⟩
      dsimp only at hc ht ⊢
      have B8 := Lib.hid (stp HZ.out B5.out h)
      have CA := Lib.hid hc
      have TA := Lib.hid ht
      clear h hc ht KP B5 Ta
      by_cases e0 : ae = 0
      rotate_left
      · obtain ⟨r1, r2, r3⟩ := HER.out e0
        subst r1
        have e1 : (ae == 0) = false := by rw [beq_eq_false_iff_ne]; exact e0
        have r4 : ¬ at_ < -1 := by omega
        have r5 : -1 ≤ at_ := by omega
        have r6 : at_ ≤ (bm.size : Int) := by have := HS.out; omega
        clear TA HOK HER
        simp only [List.length_nil]
        go_wp2
        go_ret
        exact ⟨rfl, B8.out⟩
      subst e0
      obtain ⟨vA, lA, rfl⟩ := HOK.out rfl
      obtain ⟨q1, q2, q3⟩ := textW_parse vA lA
      obtain ⟨ty, hty⟩ : ∃ x, ByteArray.mk (textW al).1.toArray = x := ⟨_, rfl⟩
      have KT := Lib.hid (textS al ty 0 hty q1 pA cA w8 TA.out CA.out (by omega) (dn_later HZ.out HD.out B8.out))
      have KQ := Lib.hid (fun W hd => parseS (textW al).1 ty hty _ q3 W (by omega) hd)
      have VA := Lib.hid vA
      have LAl := Lib.hid lA
      clear q1 q2 q3 hty vA lA HOK HER
      go_wp2_with fail
      refine KT.out.mono ?_
      rintro e w9 ⟨rfl, h⟩
      have B9 := Lib.hid (stp HZ.out B8.out h)
      have TA := Lib.hid (TA.out.later h)
      clear h KT B8
      have KQ := Lib.hid (KQ.out w9 (dn_later HZ.out HD.out B9.out))
      go_wp2_with fail
      refine KQ.out.mono ?_
      rintro e w10 ⟨⟨pB, cB, rfl, hc, ht⟩, h⟩
      dsimp only at hc ht ⊢
      have B10 := Lib.hid (stp HZ.out B9.out h)
      have TA := Lib.hid (TA.out.later h)
      have CB := Lib.hid hc
      have TB := Lib.hid ht
      have KV := Lib.hid (valid_any pA al.length cA al w10 rfl TA.out CA.out (by have := LAl.out; omega))
      rw [vld_val.2 VA.out] at KV
      clear h hc ht KQ B9
      go_wp2_with fail
      refine KV.out.mono ?_
      rintro e w11 ⟨rfl, h⟩
      have B11 := Lib.hid (stp HZ.out B10.out h)
      have TA := Lib.hid (TA.out.later h)
      have TB := Lib.hid (TB.out.later h)
      have KS := Lib.hid (sameS (show al = al from rfl) TA.out TB.out CA.out CB.out (by have := LAl.out; omega))
      have l60 : (al.length : Int) ≤ 60 := by have := LAl.out; omega
      clear h KV B10
      go_wp2_with fail
      refine KS.out.mono ?_
      rintro e w12 ⟨rfl, h⟩
      have B12 := Lib.hid (stp HZ.out B11.out h)
      clear h KS B11
      go_wp2
      go_ret
      exact ⟨rfl, B12.out⟩
end Go.Proofs.YtgbkjdpjilldmaaDoor.Hr
