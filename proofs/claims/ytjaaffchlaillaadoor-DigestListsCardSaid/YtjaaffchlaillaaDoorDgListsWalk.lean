/- P1.5, DigestLists: its walk. -/
import Derived.Test.YtjaaffchlaillaaDoorDgRefJoin
import Derived.Test.YtjaaffchlaillaaDoorDgHead
import Derived.Test.YtjaaffchlaillaaDoorDgMin
namespace Go.Proofs.YtjaaffchlaillaaDoor.Dg
open Go.RowKit
theorem list_of (a : Option Addr) (cap : Nat) (l : List ByteArray) (w : World) (ht : Tab w) (hl : Strs w w.heap.size a l) (hf : few l 200 = true) :
    Calls Tryd.prog 12 #[.slice a l.length cap] w fun e w' => e = .returned (.string ⟨(dsum (joined (lists l))).toArray⟩) ∧ Below w.heap.size w w' := by
  have h := few_len hf
  rw [few, Bool.and_eq_true] at hf
  have h2 : l.length ≤ 30 := of_decide_eq_true hf.2
  exact list_any a cap l w ht hl (by unfold maxLen; omega) (by omega)
theorem single_any (x : ByteArray) (w : World) (ht : Tab w) (hx : x.size ≤ 200) :
    Calls Tryd.prog 12 #[.slice (some ⟨w.heap.size, 0, none⟩) 1 1] (w.alloc (.cells #[.string x] 9)) fun e w' => e = .returned (.string ⟨(dsum (joined [x.data.toList])).toArray⟩) ∧ Below w.heap.size w w' := by
  have hb0 : Below w.heap.size w (w.alloc (.cells #[.string x] 9)) := (Below.refl w.heap.size w).alloc (Nat.le_refl _) _
  have hs1 : Strs (w.alloc (.cells #[.string x] 9)) (w.alloc (.cells #[.string x] 9)).heap.size (some ⟨w.heap.size, 0, none⟩) [x] := by
    intro _
    refine ⟨_, 0, rfl, by simp, fun i s hi => ?_⟩
    rw [Nat.zero_add]
    have hc := (IsRow.made w 9 #[.string x]).get i
    match i, hi with
    | 0, hi => simp at hi; subst hi; exact hc
  refine (list_of (some ⟨w.heap.size, 0, none⟩) 1 [x] _ (ht.below hb0 (Nat.le_refl _)) hs1 (by simp [few, hx])).mono ?_
  rintro e w' ⟨rfl, hb⟩
  exact ⟨rfl, hb0.trans (hb.mono (by simp))⟩
theorem same_of (a b : Option Addr) (ca cb : Nat) (l m : List ByteArray) (sb : Bool) (w : World) (hl : Strs w w.heap.size a l) (hm : Strs w w.heap.size b m) (hn : l.length ≤ maxLen) (hsb : decide (l = m) = sb) :
    Calls Tryd.prog 17 #[.slice a l.length ca, .slice b m.length cb] w fun e w' => e = .returned (.bool sb) ∧ Below w.heap.size w w' :=
  hsb ▸ same_any a b ca cb l m w hl hm hn
theorem lists_inj {l m : List ByteArray} (h : lists l = lists m) : l = m := by
  unfold lists at h
  exact List.map_inj_right (fun x y e => ByteArray.ext (Array.ext' e)) |>.1 h
theorem joined_same (l m : List ByteArray) : ((ByteArray.mk (joined (lists l)).toArray).toList == (ByteArray.mk (joined (lists m)).toArray).toList) = decide (l = m) := by
  rw [Lib.toList_data, Lib.toList_data, Bool.eq_iff_iff, beq_iff_eq, decide_eq_true_iff]
  exact ⟨fun h => lists_inj (joined_inj h), fun h => by rw [h]⟩
theorem dsum_same {l m : List ByteArray} (h1 : (joined (lists l)).length ≤ 7) (h2 : (joined (lists m)).length ≤ 7) : (dsum (joined (lists l)) == dsum (joined (lists m))) = decide (l = m) := by
  rw [Bool.eq_iff_iff, beq_iff_eq, decide_eq_true_iff]
  exact ⟨fun h => lists_inj (joined_inj (dsum_short h1 h2 h)), fun h => by rw [h]⟩
theorem str_eq (p q : ByteArray) : (p.toList == q.toList) = decide (p = q) := by
  rw [Lib.toList_data, Lib.toList_data, Bool.eq_iff_iff, beq_iff_eq, decide_eq_true_iff]
  exact ⟨fun h => ByteArray.ext (Array.ext' h), fun h => by rw [h]⟩
theorem nine_eq {p q : ByteArray} (hp : p.size ≤ 9) (hpq : p.size = q.size) (h6 : ∀ i, i < 6 → p.data.toList.getD i 0 = q.data.toList.getD i 0) : (dsum (joined [p.data.toList]) == dsum (joined [q.data.toList])) = decide (p = q) := by
  rw [Bool.eq_iff_iff, beq_iff_eq, decide_eq_true_iff]
  exact ⟨fun h => ByteArray.ext (Array.ext' (dsum_nine (by rw [len_data]; exact hp) (by rw [len_data, len_data]; exact hpq) h6 h)), fun h => by rw [h]⟩
theorem second_size (p two : ByteArray) (n : Nat) (h1 : p.size ≤ n) (h2 : n ≤ p.size) (h3 : n ≤ two.size) : (p.extract 0 (min (n : Int) 6).toNat ++ two.extract (min (n : Int) 6).toNat n).size = n := by
  rw [ByteArray.size_append, ByteArray.size_extract, ByteArray.size_extract]
  omega
theorem second_first (p two : ByteArray) (n : Nat) (h1 : p.size ≤ n) (h2 : n ≤ p.size) : ∀ i, i < 6 → p.data.toList.getD i 0 = (p.extract 0 (min (n : Int) 6).toNat ++ two.extract (min (n : Int) 6).toNat n).data.toList.getD i 0 := by
  intro i hi
  obtain ⟨k, hk, hk'⟩ : ∃ k, (min (n : Int) 6).toNat = k ∧ (k = 6 ∨ k = n ∧ n ≤ 6) := ⟨_, rfl, by omega⟩
  rw [hk]
  have hl : (p.extract 0 k).data.toList = p.data.toList.take k := by simp
  have ht : (two.extract k n).data.toList = (two.data.toList.drop k).take (n - k) := by simp
  have e : (p.extract 0 k ++ two.extract k n).data.toList = p.data.toList.take k ++ (two.data.toList.drop k).take (n - k) := by
    rw [show (p.extract 0 k ++ two.extract k n).data.toList = (p.extract 0 k).data.toList ++ (two.extract k n).data.toList by simp, hl, ht]
  have hp : p.data.toList.length = p.size := len_data p
  rw [e, List.getD_eq_getElem?_getD, List.getD_eq_getElem?_getD]
  by_cases hik : i < k
  · by_cases hil : i < p.size
    · rw [List.getElem?_append_left (by rw [List.length_take]; omega), List.getElem?_take, if_pos hik]
    · omega
  · have : n ≤ i := by omega
    rw [List.getElem?_eq_none (by omega), List.getElem?_eq_none (by
      rw [List.length_append, List.length_take, List.length_take, List.length_drop]
      omega)]
set_option maxHeartbeats 4000000 in
theorem lists_any (a b : Option Addr) (ca cb : Nat) (l m : List ByteArray) (one two : ByteArray) (w : World) (hl : Strs w w.heap.size a l) (hn : l.length ≤ maxLen) (hm : Strs w w.heap.size b m) (hn' : m.length ≤ maxLen) (ht : Tab w) :
    Calls Tryd.prog 7 #[.slice a l.length ca, .slice b m.length cb, .string one, .string two] w fun e w' => e = .returned (.bool true) ∧ Below w.heap.size w w' := by
  obtain ⟨n, hn9, hm9, hm1, hm2⟩ := min3 one.size two.size 9
  have hmin : ∀ (ts : Array TypeId) (t : TypeId) (w : World), (Builtin.min_ ts t #[.int .i64 one.size, .int .i64 two.size, .int .i64 9]).run Tryd.prog w = .ok (.int .i64 n) w := run_min3 Tryd.prog one.size two.size 9 n hn9
  clear hn9
  go_enter Tryd.func7, Tryd.ntmps7
  go_wp2_with fail
  refine (head_any w ht).mono ?_
  rintro e w1 ⟨rfl, hb1⟩
  have H1 := Lib.hid hb1
  have hl1 : Strs w1 w1.heap.size a l := (hl.below hb1).more hb1.size
  have hm1 : Strs w1 w1.heap.size b m := (hm.below hb1).more hb1.size
  have ht1 : Tab w1 := ht.below hb1 (Nat.le_refl _)
  clear hb1 ht hl hm
  go_wp2_with fail
  refine (few_any a ca 200 l _ hl1 hn).mono ?_
  rintro e w' ⟨rfl, rfl⟩
  cases hf : few l 200 with
  | false =>
    clear hl1 ht1 hm1
    go_wp2
    go_ret
    exact ⟨rfl, H1.out⟩
  | true =>
    have F1 := Lib.hid hf
    clear hf
    go_wp2_with fail
    refine (few_any b cb 200 m _ hm1 hn').mono ?_
    rintro e w' ⟨rfl, rfl⟩
    cases hf' : few m 200 with
    | false =>
      clear hl1 ht1 hm1
      go_wp2
      go_ret
      exact ⟨rfl, H1.out⟩
    | true =>
      have F2 := Lib.hid hf'
      clear hf'
      have jA := few_len F1.out
      have jB := few_len F2.out
      have hsame := joined_same l m
      have hd7 : Hid ((joined (lists l)).length ≤ 7 → (joined (lists m)).length ≤ 7 → (dsum (joined (lists l)) == dsum (joined (lists m))) = decide (l = m)) := dsum_same
      obtain ⟨sb, hsb⟩ : ∃ sb, decide (l = m) = sb := ⟨_, rfl⟩
      rw [hsb] at hsame hd7
      have SB := Lib.hid hsb
      have SM := Lib.hid hsame
      clear hsb hsame
      go_wp2_with fail
      refine (refjoined_any a ca l _ hl1 F1.out).mono ?_
      rintro e w2 ⟨rfl, hb2⟩
      have H2 : Hid (Below w.heap.size w w2) := H1.out.trans (hb2.mono H1.out.size)
      have hl2 : Strs w2 w2.heap.size a l := (hl1.below hb2).more hb2.size
      have hm2 : Strs w2 w2.heap.size b m := (hm1.below hb2).more hb2.size
      have ht2 : Tab w2 := ht1.below hb2 (Nat.le_refl _)
      clear hb2 H1 hl1 hm1 ht1
      go_wp2_with fail
      refine (refjoined_any b cb m _ hm2 F2.out).mono ?_
      rintro e w3 ⟨rfl, hb3⟩
      have H3 : Hid (Below w.heap.size w w3) := H2.out.trans (hb3.mono H2.out.size)
      have hl3 : Strs w3 w3.heap.size a l := (hl2.below hb3).more hb3.size
      have hm3 : Strs w3 w3.heap.size b m := (hm2.below hb3).more hb3.size
      have ht3 : Tab w3 := ht2.below hb3 (Nat.le_refl _)
      clear hb3 H2 hl2 hm2 ht2
      go_wp2_with fail
      refine (list_of a ca l _ ht3 hl3 F1.out).mono ?_
      rintro e w4 ⟨rfl, hb4⟩
      have H4 : Hid (Below w.heap.size w w4) := H3.out.trans (hb4.mono H3.out.size)
      have hl4 : Strs w4 w4.heap.size a l := (hl3.below hb4).more hb4.size
      have hm4 : Strs w4 w4.heap.size b m := (hm3.below hb4).more hb4.size
      have ht4 : Tab w4 := ht3.below hb4 (Nat.le_refl _)
      clear hb4 H3 hl3 hm3 ht3
      have zA : (ByteArray.mk (joined (lists l)).toArray).size = (joined (lists l)).length := str_len _
      have zB : (ByteArray.mk (joined (lists m)).toArray).size = (joined (lists m)).length := str_len _
      have cA := fun W => sum_of (ByteArray.mk (joined (lists l)).toArray) (joined (lists l)) W (by rw [zA]; unfold maxLen; omega) rfl
      have CA := Lib.hid cA
      have LA : Hid (∀ W, Tab W → Strs W W.heap.size a l → Calls Tryd.prog 12 #[.slice a l.length ca] W fun e w' => e = .returned (.string ⟨(dsum (joined (lists l))).toArray⟩) ∧ Below W.heap.size W w') := fun W h1 h2 => list_of a ca l W h1 h2 F1.out
      have LB : Hid (∀ W, Tab W → Strs W W.heap.size b m → Calls Tryd.prog 12 #[.slice b m.length cb] W fun e w' => e = .returned (.string ⟨(dsum (joined (lists m))).toArray⟩) ∧ Below W.heap.size W w') := fun W h1 h2 => list_of b cb m W h1 h2 F2.out
      have ZA := Lib.hid zA
      have ZB := Lib.hid zB
      clear cA zA zB
      generalize (ByteArray.mk (joined (lists l)).toArray) = A at *
      generalize (ByteArray.mk (joined (lists m)).toArray) = B at *
      generalize dsum (joined (lists l)) = D1 at *
      generalize dsum (joined (lists m)) = D2 at *
      go_wp2_with fail
      refine (CA.out _).mono ?_
      rintro e w5 ⟨rfl, hb5⟩
      have H5 : Hid (Below w.heap.size w w5) := H4.out.trans (hb5.mono H4.out.size)
      have hl5 : Strs w5 w5.heap.size a l := (hl4.below hb5).more hb5.size
      have hm5 : Strs w5 w5.heap.size b m := (hm4.below hb5).more hb5.size
      have ht5 : Tab w5 := ht4.below hb5 (Nat.le_refl _)
      clear hb5 H4 hl4 hm4 ht4 CA
      go_wp2_with fail
      refine (same_of a b ca cb l m sb _ hl5 hm5 hn SB.out).mono ?_
      rintro e w6 ⟨rfl, hb6⟩
      have H6 : Hid (Below w.heap.size w w6) := H5.out.trans (hb6.mono H5.out.size)
      have hl6 : Strs w6 w6.heap.size a l := (hl5.below hb6).more hb6.size
      have hm6 : Strs w6 w6.heap.size b m := (hm5.below hb6).more hb6.size
      have ht6 : Tab w6 := ht5.below hb6 (Nat.le_refl _)
      clear hb6 H5 hl5 hm5 ht5
      have sm := SM.out
      by_cases a7 : A.size ≤ 7
      · by_cases b7 : B.size ≤ 7
        · have dd : (D1 == D2) = sb := hd7.out (by rw [← ZA.out]; exact a7) (by rw [← ZB.out]; exact b7)
          have DD := Lib.hid dd
          clear dd
          go_wp2_with fail
          refine (LA.out _ ht6 hl6).mono ?_
          rintro e w7 ⟨rfl, hb7⟩
          have H7 : Hid (Below w.heap.size w w7) := H6.out.trans (hb7.mono H6.out.size)
          have hl7 : Strs w7 w7.heap.size a l := (hl6.below hb7).more hb7.size
          have hm7 : Strs w7 w7.heap.size b m := (hm6.below hb7).more hb7.size
          have ht7 : Tab w7 := ht6.below hb7 (Nat.le_refl _)
          clear hb7 H6 hl6 hm6 ht6
          go_wp2_with fail
          refine (LB.out _ ht7 hm7).mono ?_
          rintro e w8 ⟨rfl, hb8⟩
          have H8 : Hid (Below w.heap.size w w8) := H7.out.trans (hb8.mono H7.out.size)
          have hl8 : Strs w8 w8.heap.size a l := (hl7.below hb8).more hb8.size
          have hm8 : Strs w8 w8.heap.size b m := (hm7.below hb8).more hb8.size
          have ht8 : Tab w8 := ht7.below hb8 (Nat.le_refl _)
          clear hb8 H7 hl7 hm7 ht7
          go_wp2_with fail
          refine (same_of a b ca cb l m sb _ hl8 hm8 hn SB.out).mono ?_
          rintro e wt ⟨rfl, hb9⟩
          have HT : Hid (Below w.heap.size w wt) := H8.out.trans (hb9.mono H8.out.size)
          have htt : Hid (Tab wt) := ht8.below hb9 (Nat.le_refl _)
          clear hb9 H8 hl8 hm8 ht8
          have dd := DD.out
          have g1 : (one.extract 0 n).size = n := by rw [ByteArray.size_extract]; omega
          go_wp2_with fail
          have G1 := Lib.hid g1
          generalize one.extract 0 n = p at *
          have g2 : p.size ≤ n := by have := G1.out; omega
          have g3 : n ≤ p.size := by have := G1.out; omega
          clear g1 hmin
          have i1 : (0 : Int) ≤ min (n : Int) 6 := by omega
          have i2 : min (n : Int) 6 ≤ (p.size : Int) := by omega
          have i3 : min (n : Int) 6 ≤ (n : Int) := by omega
          have i4 : (n : Int) ≤ (two.size : Int) := by omega
          have i5 : ¬ 9223372036854775807 < n := by omega
          go_quiet (fail)
          have q1 := second_size p two n g2 g3 (by omega)
          have q2 := second_first p two n g2 g3
          go_wp2_with fail
          generalize p.extract 0 (min (n : Int) 6).toNat ++ two.extract (min (n : Int) 6).toNat n = q at *
          have Q1 := Lib.hid q1
          have Q2 := Lib.hid q2
          clear q1 q2
          refine (single_any p _ (htt.out.below (below_drewN (Below.refl _ _) _) (Nat.le_refl _)) (by omega)).mono ?_
          rintro e x1 ⟨rfl, hbx⟩
          have X1 : Hid (Below w.heap.size w x1) := (below_drewN HT.out _).trans (hbx.mono HT.out.size)
          have tx : Hid (Tab x1) := (htt.out.below (below_drewN (Below.refl _ _) _) (Nat.le_refl _)).below hbx (Nat.le_refl _)
          clear hbx HT htt
          go_wp2_with fail
          refine (single_any q _ tx.out (by have := Q1.out; omega)).mono ?_
          rintro e x2 ⟨rfl, hbx⟩
          have X2 : Hid (Below w.heap.size w x2) := X1.out.trans (hbx.mono X1.out.size)
          clear hbx X1 tx
          have hf1 : (p.toList == q.toList) = decide (p = q) := str_eq p q
          have hf2 : (dsum (joined [p.data.toList]) == dsum (joined [q.data.toList])) = decide (p = q) := nine_eq (by omega) (by have := Q1.out; omega) Q2.out
          generalize decide (p = q) = sc at *
          go_wp2
          go_ret
          exact ⟨rfl, X2.out⟩
        · have HT := H6
          have htt := Lib.hid ht6
          clear H6 ht6 hl6 hm6
          generalize w6 = wt at *
          have g1 : (one.extract 0 n).size = n := by rw [ByteArray.size_extract]; omega
          go_wp2_with fail
          have G1 := Lib.hid g1
          generalize one.extract 0 n = p at *
          have g2 : p.size ≤ n := by have := G1.out; omega
          have g3 : n ≤ p.size := by have := G1.out; omega
          clear g1 hmin
          have i1 : (0 : Int) ≤ min (n : Int) 6 := by omega
          have i2 : min (n : Int) 6 ≤ (p.size : Int) := by omega
          have i3 : min (n : Int) 6 ≤ (n : Int) := by omega
          have i4 : (n : Int) ≤ (two.size : Int) := by omega
          have i5 : ¬ 9223372036854775807 < n := by omega
          go_quiet (fail)
          have q1 := second_size p two n g2 g3 (by omega)
          have q2 := second_first p two n g2 g3
          go_wp2_with fail
          generalize p.extract 0 (min (n : Int) 6).toNat ++ two.extract (min (n : Int) 6).toNat n = q at *
          have Q1 := Lib.hid q1
          have Q2 := Lib.hid q2
          clear q1 q2
          refine (single_any p _ (htt.out.below (below_drewN (Below.refl _ _) _) (Nat.le_refl _)) (by omega)).mono ?_
          rintro e x1 ⟨rfl, hbx⟩
          have X1 : Hid (Below w.heap.size w x1) := (below_drewN HT.out _).trans (hbx.mono HT.out.size)
          have tx : Hid (Tab x1) := (htt.out.below (below_drewN (Below.refl _ _) _) (Nat.le_refl _)).below hbx (Nat.le_refl _)
          clear hbx HT htt
          go_wp2_with fail
          refine (single_any q _ tx.out (by have := Q1.out; omega)).mono ?_
          rintro e x2 ⟨rfl, hbx⟩
          have X2 : Hid (Below w.heap.size w x2) := X1.out.trans (hbx.mono X1.out.size)
          clear hbx X1 tx
          have hf1 : (p.toList == q.toList) = decide (p = q) := str_eq p q
          have hf2 : (dsum (joined [p.data.toList]) == dsum (joined [q.data.toList])) = decide (p = q) := nine_eq (by omega) (by have := Q1.out; omega) Q2.out
          generalize decide (p = q) = sc at *
          go_wp2
          go_ret
          exact ⟨rfl, X2.out⟩
      · have HT := H6
        have htt := Lib.hid ht6
        clear H6 ht6 hl6 hm6
        generalize w6 = wt at *
        have g1 : (one.extract 0 n).size = n := by rw [ByteArray.size_extract]; omega
        go_wp2_with fail
        have G1 := Lib.hid g1
        generalize one.extract 0 n = p at *
        have g2 : p.size ≤ n := by have := G1.out; omega
        have g3 : n ≤ p.size := by have := G1.out; omega
        clear g1 hmin
        have i1 : (0 : Int) ≤ min (n : Int) 6 := by omega
        have i2 : min (n : Int) 6 ≤ (p.size : Int) := by omega
        have i3 : min (n : Int) 6 ≤ (n : Int) := by omega
        have i4 : (n : Int) ≤ (two.size : Int) := by omega
        have i5 : ¬ 9223372036854775807 < n := by omega
        go_quiet (fail)
        have q1 := second_size p two n g2 g3 (by omega)
        have q2 := second_first p two n g2 g3
        go_wp2_with fail
        generalize p.extract 0 (min (n : Int) 6).toNat ++ two.extract (min (n : Int) 6).toNat n = q at *
        have Q1 := Lib.hid q1
        have Q2 := Lib.hid q2
        clear q1 q2
        refine (single_any p _ (htt.out.below (below_drewN (Below.refl _ _) _) (Nat.le_refl _)) (by omega)).mono ?_
        rintro e x1 ⟨rfl, hbx⟩
        have X1 : Hid (Below w.heap.size w x1) := (below_drewN HT.out _).trans (hbx.mono HT.out.size)
        have tx : Hid (Tab x1) := (htt.out.below (below_drewN (Below.refl _ _) _) (Nat.le_refl _)).below hbx (Nat.le_refl _)
        clear hbx HT htt
        go_wp2_with fail
        refine (single_any q _ tx.out (by have := Q1.out; omega)).mono ?_
        rintro e x2 ⟨rfl, hbx⟩
        have X2 : Hid (Below w.heap.size w x2) := X1.out.trans (hbx.mono X1.out.size)
        clear hbx X1 tx
        have hf1 : (p.toList == q.toList) = decide (p = q) := str_eq p q
        have hf2 : (dsum (joined [p.data.toList]) == dsum (joined [q.data.toList])) = decide (p = q) := nine_eq (by omega) (by have := Q1.out; omega) Q2.out
        generalize decide (p = q) = sc at *
        go_wp2
        go_ret
        exact ⟨rfl, X2.out⟩
end Go.Proofs.YtjaaffchlaillaaDoor.Dg
