/- hours: the law HoursParts. -/
import Derived.Test.YtgbkjdpjilldmaaDoorHrTextsWalk
import Derived.Test.YtgbkjdpjilldmaaDoorHrPartsM
import Derived.Test.YtgbkjdpjilldmaaDoorHm14
namespace Go.Proofs.YtgbkjdpjilldmaaDoor.Hr
open Go.RowKit Go.Sort Go.Shelf
open Lx (IsRow alloc1 drew_below B str_size Tk lexR)
open St (Sp encS encS_len encS_one)
set_option maxRecDepth 100000 in
set_option maxHeartbeats 4000000 in
theorem partsB_any (s : B) (bm : ByteArray) (hbm : ByteArray.mk s.toArray = bm) (w : World) (hs : s.length ≤ 5000) (hd : Dn w.heap.size w) :
    Calls Tryd.prog 19 #[.string bm] w fun e w' => e = .returned (.bool (partB s)) ∧ Below w.heap.size w w' := by
  obtain ⟨Z, hZ⟩ : ∃ Z, w.heap.size = Z := ⟨_, rfl⟩
  have hdat : bm.data.toList = s := by rw [← hbm]
  rcases hl : lexR s with ⟨ts, le, la⟩
  have KL := Lib.hid (Lx.lex_of bm w ts le la (by rw [hdat]; exact hl))
  obtain ⟨A, hA⟩ : ∃ A, parseR s = A := ⟨_, rfl⟩
  have KP := Lib.hid (fun W hd => parseS s bm hbm A hA W hs hd)
  have HD := Lib.hid (hZ ▸ hd)
  have HZ := Lib.hid hZ
  obtain ⟨R, hR⟩ : ∃ R, partB s = R := ⟨_, rfl⟩
  rw [hR, hZ]
  unfold partB at hR
  rw [hl, hA] at hR
  obtain ⟨al, ae, at_⟩ := A
  dsimp only at hR
  have HR := Lib.hid hR
  clear hR hA hl hdat hd hZ hbm
  go_enter Tryd.func19, Tryd.ntmps19
  go_wp2_with fail
  refine KL.out.mono ?_
  rintro e w1 ⟨⟨ao, c, rfl, hc, ht⟩, h⟩
  have B1 := Lib.hid (HZ.out ▸ h)
  have T1 := Lib.hid ht
  have hc' : (ts.length : Int) ≤ (c : Int) := by omega
  have KP := Lib.hid (KP.out w1 (dn_later HZ.out HD.out B1.out))
  clear h ht KL hc
  go_wp2_with fail
  refine KP.out.mono ?_
  rintro e w2 ⟨⟨pA, cA, rfl, _, _⟩, h⟩
  have B2 := Lib.hid (stp HZ.out B1.out h)
  have T2 := Lib.hid ((T1.out.below h (Nat.le_refl _)).more h.size)
  clear h KP B1 T1
  by_cases e1 : le = 0
  rotate_left
  · have e2 : (le == 0) = false := by rw [beq_eq_false_iff_ne]; exact e1
    obtain rfl : false = R := by rw [← HR.out, decide_eq_false e1]; rfl
    go_wp2
    go_ret
    exact ⟨rfl, B2.out⟩
  subst e1
  by_cases e1 : ae = 0
  rotate_left
  · have e2 : (ae == 0) = false := by rw [beq_eq_false_iff_ne]; exact e1
    obtain rfl : false = R := by rw [← HR.out, decide_eq_false e1]; simp
    go_wp2
    go_ret
    exact ⟨rfl, B2.out⟩
  subst e1
  have HR2 := Lib.hid (show firstB ts = R from by rw [← HR.out]; simp)
  clear HR
  cases ts with
  | nil =>
    obtain rfl : false = R := HR2.out
    go_wp2
    go_ret
    exact ⟨rfl, B2.out⟩
  | cons t q =>
    obtain ⟨g, off, rfl, hg, hcell⟩ := T2.out (by simp)
    obtain ⟨_, c1, _⟩ := hcell 0 t rfl
    rw [Nat.zero_mul, Nat.add_zero] at c1
    obtain ⟨n, hn⟩ : ∃ n, (t :: q).length = n := ⟨_, rfl⟩
    have hn0 : (0 : Int) < (n : Int) := by rw [← hn, List.length_cons]; omega
    rw [hn] at hc' ⊢
    have HF : Hid ((!decide (t.t = alwaysB) && !decide (t.t = neverB)) = R) := HR2
    clear hcell T2 HR2 hn
    by_cases f1 : t.t = alwaysB
    · rw [f1] at c1 HF
      obtain rfl : false = R := HF.out
      unfold alwaysB at c1
      clear f1 HF
      go_wp2
      go_ret
      exact ⟨rfl, B2.out⟩
    · by_cases f2 : t.t = neverB
      · rw [f2] at c1 HF
        obtain rfl : false = R := by rw [← HF.out]; simp
        unfold neverB at c1
        clear f1 f2 HF
        go_wp2
        go_ret
        exact ⟨rfl, B2.out⟩
      · obtain rfl : true = R := by rw [← HF.out, decide_eq_false f1, decide_eq_false f2]; rfl
        have g1 : (t.t == alwaysB) = false := by rw [beq_eq_false_iff_ne]; exact f1
        have g2 : (t.t == neverB) = false := by rw [beq_eq_false_iff_ne]; exact f2
        unfold alwaysB at g1
        unfold neverB at g2
        clear f1 f2 HF
        go_wp2
        go_ret
        exact ⟨rfl, B2.out⟩
set_option maxRecDepth 100000 in
set_option maxHeartbeats 8000000 in
theorem partsLaw_any (s t : B) (w : World) (hd : Dn w.heap.size w) :
    Calls Tryd.prog 6 #[.string ⟨s.toArray⟩, .string ⟨t.toArray⟩] w fun e w' => e = .returned (.bool true) ∧ Below w.heap.size w w' := by
  obtain ⟨Z, hZ⟩ : ∃ Z, w.heap.size = Z := ⟨_, rfl⟩
  have KH := Lib.hid (head_any w hd)
  have HD := Lib.hid (hZ ▸ hd)
  have HZ := Lib.hid hZ
  obtain ⟨bs, hbs⟩ : ∃ x, ByteArray.mk s.toArray = x := ⟨_, rfl⟩
  obtain ⟨bt, hbt⟩ : ∃ x, ByteArray.mk t.toArray = x := ⟨_, rfl⟩
  have hs : (bs.size : Int) = (s.length : Int) := by rw [← hbs, str_size]
  have ht : (bt.size : Int) = (t.length : Int) := by rw [← hbt, str_size]
  have z1 : (bs ++ ⟨#[10, 44, 32]⟩).size = bs.size + 3 := by rw [ByteArray.size_append]; rfl
  have z2 : (bs ++ ⟨#[10, 44, 32]⟩ ++ bt).size = bs.size + 3 + bt.size := by rw [ByteArray.size_append, z1]
  have EQ := Lib.hid (show bs ++ ⟨#[10, 44, 32]⟩ ++ bt = ⟨(s ++ 10 :: 44 :: 32 :: t).toArray⟩ from by
    apply ByteArray.ext
    rw [← hbs, ← hbt]
    simp [ByteArray.data_append])
  have HBS := Lib.hid hbs
  have HBT := Lib.hid hbt
  have HS := Lib.hid hs
  have HT := Lib.hid ht
  rw [hbs, hbt, hZ]
  clear hd hbs hbt hs ht hZ
  go_enter Tryd.func6, Tryd.ntmps6
  go_wp2_with fail
  refine KH.out.mono ?_
  rintro e w1 ⟨rfl, h⟩
  have B1 := Lib.hid (HZ.out ▸ h)
  clear h KH
  by_cases l1 : s.length ≤ 1500
  rotate_left
  · have h1 : (1500 : Int) < (bs.size : Int) := by have := HS.out; omega
    clear z1 z2
    go_wp2
    go_ret
    exact ⟨rfl, B1.out⟩
  have h1 : ¬ (1500 : Int) < (bs.size : Int) := by have := HS.out; omega
  by_cases l2 : t.length ≤ 1500
  rotate_left
  · have h2 : (1500 : Int) < (bt.size : Int) := by have := HT.out; omega
    clear z1 z2
    go_wp2
    go_ret
    exact ⟨rfl, B1.out⟩
  have h2 : ¬ (1500 : Int) < (bt.size : Int) := by have := HT.out; omega
  have L1 := Lib.hid l1
  have L2 := Lib.hid l2
  have KA := Lib.hid (partsB_any s bs HBS.out w1 (by omega) (dn_later HZ.out HD.out B1.out))
  clear l1 l2
  go_wp2_with fail
  refine KA.out.mono ?_
  rintro e w2 ⟨rfl, h⟩
  have B2 := Lib.hid (stp HZ.out B1.out h)
  clear h KA B1
  cases p1 : partB s with
  | false =>
    clear z1 z2
    go_wp2
    go_ret
    exact ⟨rfl, B2.out⟩
  | true =>
  have P1 := Lib.hid p1
  have KA := Lib.hid (partsB_any t bt HBT.out w2 (by have := L2.out; omega) (dn_later HZ.out HD.out B2.out))
  clear p1
  go_wp2_with fail
  refine KA.out.mono ?_
  rintro e w3 ⟨rfl, h⟩
  have B3 := Lib.hid (stp HZ.out B2.out h)
  clear h KA B2
  cases p2 : partB t with
  | false =>
    clear z1 z2
    go_wp2
    go_ret
    exact ⟨rfl, B3.out⟩
  | true =>
  obtain ⟨a, b, q1, q2, va, vb, la, lb, q3⟩ := parts_both L1.out L2.out P1.out p2
  have hlen : (s ++ 10 :: 44 :: 32 :: t).length = s.length + 3 + t.length := by simp; omega
  obtain ⟨R, hR⟩ : ∃ R, (if 60 < (orL a b).length then (([], 2, ((s ++ 10 :: 44 :: 32 :: t).length : Int)) : List Sp × Int × Int) else (orL a b, 0, 0)) = R := ⟨_, rfl⟩
  rw [hR] at q3
  have K1 := Lib.hid (parseS s bs HBS.out _ q1 w3 (by have := L1.out; omega) (dn_later HZ.out HD.out B3.out))
  have K2 := Lib.hid (fun W hd => parseS t bt HBT.out _ q2 W (by have := L2.out; omega) hd)
  have K3 := Lib.hid (fun W hd => parseS (s ++ 10 :: 44 :: 32 :: t) _ EQ.out.symm R q3 W (by have := L1.out; have := L2.out; omega) hd)
  have VA := Lib.hid va
  have VB := Lib.hid vb
  have LA := Lib.hid la
  have LB := Lib.hid lb
  have HLEN := Lib.hid hlen
  have HR := Lib.hid hR
  clear q1 q2 q3 va vb la lb hlen hR p2
  go_wp2_with fail
  refine K1.out.mono ?_
  rintro e w4 ⟨⟨pa, ca, rfl, hc, htt⟩, h⟩
  dsimp only at hc htt ⊢
  have B4 := Lib.hid (stp HZ.out B3.out h)
  have Ta := Lib.hid htt
  have Ca := Lib.hid hc
  clear h hc htt K1 B3
  have K2 := Lib.hid (K2.out w4 (dn_later HZ.out HD.out B4.out))
  go_wp2_with fail
  refine K2.out.mono ?_
  rintro e w5 ⟨⟨pb, cb, rfl, hc, htt⟩, h⟩
  dsimp only at hc htt ⊢
  have B5 := Lib.hid (stp HZ.out B4.out h)
  have Ta := Lib.hid (Ta.out.later h)
  have Tb := Lib.hid htt
  have Cb := Lib.hid hc
  clear h hc htt K2 B4
  have K3 := Lib.hid (K3.out w5 (dn_later HZ.out HD.out B5.out))
  go_wp2_with fail
  refine K3.out.mono ?_
  rintro e w6 ⟨⟨pc, cc, rfl, hc, htt⟩, h⟩
  obtain ⟨cl, ce, cat_⟩ := R
  dsimp only at hc htt ⊢
  have B6 := Lib.hid (stp HZ.out B5.out h)
  have Ta := Lib.hid (Ta.out.later h)
  have Tb := Lib.hid (Tb.out.later h)
  have Tc := Lib.hid htt
  have Cc := Lib.hid hc
  obtain ⟨X, hX⟩ : ∃ X, orL a b = X := ⟨_, rfl⟩
  have KE := Lib.hid (eitherS X hX VA.out VB.out Ta.out Tb.out Ca.out Cb.out (by have := LA.out; omega) (by have := LB.out; omega))
  rw [hX] at HR
  have LX := Lib.hid (show X.length ≤ 120 from by have := or_len a b; rw [hX] at this; have := LA.out; have := LB.out; omega)
  clear h hc htt K3 B5 hX
  go_wp2_with fail
  refine KE.out.mono ?_
  rintro e w7 ⟨⟨px, cx, rfl, hc, htt⟩, h⟩
  have B7 := Lib.hid (stp HZ.out B6.out h)
  have Tc := Lib.hid (Tc.out.later h)
  have Tx := Lib.hid htt
  have Cx := Lib.hid hc
  clear h hc htt KE B6 Ta Tb
  by_cases h60 : 60 < X.length
  · have e := HR.out
    rw [if_pos h60] at e
    injection e with e1 e2
    injection e2 with e2 e3
    subst e1 e2
    have h61 : (60 : Int) < (X.length : Int) := by omega
    obtain ⟨Y, hY⟩ : ∃ Y, bs ++ ⟨#[10, 44, 32]⟩ ++ bt = Y := ⟨_, rfl⟩
    have e4 : cat_ = (Y.size : Int) := by rw [← hY, z2, ← e3, HLEN.out]; have := HS.out; have := HT.out; omega
    subst e4
    rw [hY]
    clear z1 z2 hY e3 HR EQ HLEN Tc Cc
    simp only [List.length_nil]
    go_wp2
    go_ret
    exact ⟨rfl, B7.out⟩
  · have e := HR.out
    rw [if_neg h60] at e
    injection e with e1 e2
    injection e2 with e2 e3
    subst e1 e2 e3
    have h61 : ¬ (60 : Int) < (X.length : Int) := by omega
    have KS := Lib.hid (sameS (show X = X from rfl) Tc.out Tx.out Cc.out Cx.out (by have := LX.out; omega))
    clear z1 z2 HR EQ HLEN
    go_wp2_with fail
    refine KS.out.mono ?_
    rintro e w8 ⟨rfl, h⟩
    have B8 := Lib.hid (stp HZ.out B7.out h)
    clear h KS B7
    go_wp2
    go_ret
    exact ⟨rfl, B8.out⟩
end Go.Proofs.YtgbkjdpjilldmaaDoor.Hr
