/- Merged: HrTextA, HrHead, HrLawM, HrNextWalk. -/
import Derived.Test.YtgbkjdpjilldmaaDoorHm21
import Derived.Test.YtgbkjdpjilldmaaDoorHm12
import Derived.Test.YtgbkjdpjilldmaaDoorHm13
/- hours: Text of any list. -/
namespace Go.Proofs.YtgbkjdpjilldmaaDoor.Hr
open Go.RowKit Go.Sort Go.Shelf
open Lx (IsRow alloc1 drew_below B)
open St (Sp encS encS_len encS_one)
set_option maxRecDepth 100000 in
set_option maxHeartbeats 4000000 in
/-- what Text answers. -/
theorem text_no (ao : Option Addr) (n cap : Nat) (l : List Sp) (w : World) (hn : l.length = n) (ha : SpT w w.heap.size ao l) (hc : n ≤ cap) (hm : n ≤ 1000000) (h : ¬ (Val l ∧ 0 < n ∧ n ≤ 60)) :
    Calls Tryd.prog 10 #[.slice ao n cap] w fun e w' => e = .returned (.tuple #[.string ⟨(textW l).1.toArray⟩, .int .i64 (textW l).2]) ∧ Below w.heap.size w w' := by
  have KV := Lib.hid (valid_any ao n cap l w hn ha hc hm)
  obtain ⟨R, hR⟩ : ∃ R, textW l = R := ⟨_, rfl⟩
  rw [hR]
  unfold textW at hR
  cases hv : vldS l with
  | false =>
    rw [hv] at KV hR
    rw [if_neg (by simp)] at hR
    subst hR
    clear h hv ha
    go_enter Tryd.func10, Tryd.ntmps10
    go_wp2_with fail
    refine KV.out.mono ?_
    rintro e w1 ⟨rfl, b1⟩
    go_wp2
    go_ret2
    exact ⟨rfl, b1⟩
  | true =>
    rw [hv] at KV hR
    rw [if_pos rfl] at hR
    by_cases h60 : 60 < n
    · rw [if_pos (by rw [hn]; exact h60)] at hR
      subst hR
      have h1 : (60 : Int) < (n : Int) := by omega
      clear h hv ha
      go_enter Tryd.func10, Tryd.ntmps10
      go_wp2_with fail
      refine KV.out.mono ?_
      rintro e w1 ⟨rfl, b1⟩
      go_wp2
      go_ret2
      exact ⟨rfl, b1⟩
    · obtain rfl : n = 0 := Decidable.byContradiction fun q => h ⟨vld_val.1 hv, by omega, by omega⟩
      obtain rfl : l = [] := List.eq_nil_of_length_eq_zero hn
      rw [if_neg (by simp), if_pos rfl] at hR
      subst hR
      clear h hv ha
      go_enter Tryd.func10, Tryd.ntmps10
      go_wp2_with fail
      refine KV.out.mono ?_
      rintro e w1 ⟨rfl, b1⟩
      go_wp2
      go_ret2
      exact ⟨rfl, b1⟩
set_option maxRecDepth 100000 in
set_option maxHeartbeats 4000000 in
theorem text_all (ao : Option Addr) (n cap : Nat) (l : List Sp) (w : World) (hn : l.length = n) (ha : SpT w w.heap.size ao l) (hc : n ≤ cap) (hv : Val l) (h0 : 0 < n) (h60 : n ≤ 60) (ho : ∀ h : 0 < l.length, l[0].2 - l[0].1 = 10080) :
    Calls Tryd.prog 10 #[.slice ao n cap] w fun e w' => e = .returned (.tuple #[.string ⟨alwaysB.toArray⟩, .int .i64 0]) ∧ Below w.heap.size w w' := by
  have KV := Lib.hid (valid_any ao n cap l w hn ha hc (by omega))
  rw [vld_val.2 hv] at KV
  have hc' : (n : Int) ≤ (cap : Int) := by omega
  have n0 : (0 : Int) < (n : Int) := by omega
  have q1 : ¬ (60 : Int) < (n : Int) := by omega
  have q2 : ((n : Int) == 0) = false := by rw [beq_eq_false_iff_ne]; omega
  obtain ⟨g, off, rfl, hg, x0, x1⟩ := ha.at_ (k := 0) (by omega)
  have q3 : (l[0].2 - l[0].1 == 10080) = true := by rw [beq_iff_eq]; exact ho (by omega)
  have os := hv.1 l[0] (List.getElem_mem _)
  generalize l[0] = s0 at *
  obtain ⟨s1, s2⟩ := s0
  simp only [Nat.zero_mul, Nat.add_zero] at x0 x1
  dsimp only [okS] at x0 x1 q3 os
  obtain ⟨o1, o2, o3⟩ := os
  have X0 := Lib.hid x0
  have X1 := Lib.hid x1
  clear ha hv ho x0 x1 hn
  go_enter Tryd.func10, Tryd.ntmps10
  go_wp2_with fail
  refine KV.out.mono ?_
  rintro e w1 ⟨rfl, b1⟩
  have B1 := Lib.hid b1
  have c0 := (b1.cell (p := ⟨g, off, none⟩) hg).trans X0.out
  have c1 := (b1.cell (p := ⟨g, off + 1, none⟩) hg).trans X1.out
  clear b1 KV X0 X1
  go_wp2_with fail
  go_region
  clear c0 c1
  go_wp2
  go_ret2
  exact ⟨rfl, B1.out.trans ((drew_below _).mono B1.out.size)⟩
theorem htext_any (ao : Option Addr) (n cap : Nat) (l : List Sp) (w : World) (hn : l.length = n) (ha : SpT w w.heap.size ao l) (hc : n ≤ cap) (hd : Dn w.heap.size w) (hm : n ≤ 1000000) :
    Calls Tryd.prog 10 #[.slice ao n cap] w fun e w' => e = .returned (.tuple #[.string ⟨(textW l).1.toArray⟩, .int .i64 (textW l).2]) ∧ Below w.heap.size w w' := by
  by_cases h : Val l ∧ 0 < n ∧ n ≤ 60
  · obtain ⟨h1, h2, h3⟩ := h
    have e0 : l ≠ [] := fun q => by subst q; simp at hn; omega
    have hh : l.headD (0, 0) = l[0]'(by omega) := by
      cases l with
      | nil => exact absurd rfl e0
      | cons a r => rfl
    have e : textW l = if (l[0]'(by omega)).2 - (l[0]'(by omega)).1 = 10080 then (alwaysB, 0) else (textL l, 0) := by
      unfold textW
      rw [if_pos (vld_val.2 h1), if_neg (by omega), if_neg e0, hh]
    by_cases hw : (l[0]'(by omega)).2 - (l[0]'(by omega)).1 = 10080
    · rw [e, if_pos hw]
      exact text_all ao n cap l w hn ha hc h1 h2 h3 (fun _ => hw)
    · rw [e, if_neg hw]
      exact text_any_long ao n cap l w hn ha hc hd h1 h2 h3 (fun _ => hw)
  · exact text_no ao n cap l w hn ha hc hm h
end Go.Proofs.YtgbkjdpjilldmaaDoor.Hr
/- hours: the laws' head. -/
namespace Go.Proofs.YtgbkjdpjilldmaaDoor.Hr
open Go.RowKit Go.Sort Go.Shelf
open Lx (IsRow alloc1 drew_below B)
open St (Sp encS encS_len encS_one)
theorem spans_two (w : World) (a b c d : Int) : ∃ w', w.alloc (.cells #[.int .i64 a, .int .i64 b, .int .i64 c, .int .i64 d] 40) = w' ∧ Below w.heap.size w w' ∧ SpT w' w'.heap.size (some ⟨w.heap.size, 0, none⟩) [(a, b), (c, d)] := by
  refine ⟨_, rfl, alloc1 _ _, fun _ => ?_⟩
  have r := IsRow.made w 40 #[.int .i64 a, .int .i64 b, .int .i64 c, .int .i64 d]
  refine ⟨w.heap.size, 0, rfl, r.inside, fun k t hk => ?_⟩
  rcases k with _ | _ | k
  · injection hk with hk
    subst hk
    exact ⟨r.get 0, r.get 1⟩
  · injection hk with hk
    subst hk
    exact ⟨r.get 2, r.get 3⟩
  · cases hk
theorem stp {Z : Nat} {w a b : World} (hZ : w.heap.size = Z) (h : Below Z w a) (k : Below a.heap.size a b) : Below Z w b := h.trans (k.mono (hZ ▸ h.size))
def p1B : B := [109, 111, 45, 116, 117, 32, 57, 58, 48, 48, 45, 49, 55, 58, 51, 48]
theorem p1_is : parseR p1B = ([(540, 1050), (1980, 2490)], 0, 0) := by decide +kernel
def p2B : B := [115, 117, 32, 50, 50, 58, 48, 48, 45, 50, 58, 48, 48]
theorem p2_is : parseR p2B = ([(0, 120), (9960, 10080)], 0, 0) := by decide +kernel
def p3B : B := [115, 97, 45, 109, 111, 32, 48, 58, 48, 48, 45, 50, 52, 58, 48, 48, 44, 32, 49, 50, 58, 48, 48, 45, 49, 51, 58, 48, 48]
theorem p3_is : parseR p3B = ([(0, 1440), (7200, 10080)], 0, 0) := by decide +kernel
def p4B : B := [109, 111, 32, 57, 58, 48, 48, 45, 57, 58, 48, 48]
theorem p4_is : parseR p4B = ([], 10, 8) := by decide +kernel
def p5B : B := [109, 111, 32, 57, 58, 53, 45, 49, 48, 58, 48, 48]
theorem p5_is : parseR p5B = ([], 10, 5) := by decide +kernel
def p6B : B := [109, 111, 32, 50, 52, 58, 48, 48, 45, 49, 58, 48, 48]
theorem p6_is : parseR p6B = ([], 10, 3) := by decide +kernel
def txB : B := [109, 111, 32, 48, 58, 48, 48, 45, 50, 58, 48, 48, 44, 32, 115, 117, 32, 50, 50, 58, 48, 48, 45, 50, 52, 58, 48, 48]
theorem tx_is : textW [(0, 120), (9960, 10080)] = (txB, 0) := by decide +kernel
theorem p1_any (w : World) (hd : Dn w.heap.size w) : Calls Tryd.prog 12 #[.string ⟨#[109, 111, 45, 116, 117, 32, 57, 58, 48, 48, 45, 49, 55, 58, 51, 48]⟩] w fun x w' => (∃ a c, x = .returned (.tuple #[.slice a 2 c, .int .i64 0, .int .i64 0]) ∧ 2 ≤ c ∧ SpT w' w'.heap.size a [(540, 1050), (1980, 2490)]) ∧ Below w.heap.size w w' := by
  refine (parse_any' p1B w (by decide) hd).mono ?_
  rintro x w' ⟨⟨v, rfl, ov⟩, b⟩
  rw [p1_is] at ov ⊢
  obtain ⟨a, c, hv, hc, _, _, t⟩ := spt_of ov
  exact ⟨⟨a, c, by rw [hv]; rfl, hc, t⟩, b⟩
theorem p2_any (w : World) (hd : Dn w.heap.size w) : Calls Tryd.prog 12 #[.string ⟨#[115, 117, 32, 50, 50, 58, 48, 48, 45, 50, 58, 48, 48]⟩] w fun x w' => (∃ a c, x = .returned (.tuple #[.slice a 2 c, .int .i64 0, .int .i64 0]) ∧ 2 ≤ c ∧ SpT w' w'.heap.size a [(0, 120), (9960, 10080)]) ∧ Below w.heap.size w w' := by
  refine (parse_any' p2B w (by decide) hd).mono ?_
  rintro x w' ⟨⟨v, rfl, ov⟩, b⟩
  rw [p2_is] at ov ⊢
  obtain ⟨a, c, hv, hc, _, _, t⟩ := spt_of ov
  exact ⟨⟨a, c, by rw [hv]; rfl, hc, t⟩, b⟩
theorem p3_any (w : World) (hd : Dn w.heap.size w) : Calls Tryd.prog 12 #[.string ⟨#[115, 97, 45, 109, 111, 32, 48, 58, 48, 48, 45, 50, 52, 58, 48, 48, 44, 32, 49, 50, 58, 48, 48, 45, 49, 51, 58, 48, 48]⟩] w fun x w' => (∃ a c, x = .returned (.tuple #[.slice a 2 c, .int .i64 0, .int .i64 0]) ∧ 2 ≤ c ∧ SpT w' w'.heap.size a [(0, 1440), (7200, 10080)]) ∧ Below w.heap.size w w' := by
  refine (parse_any' p3B w (by decide) hd).mono ?_
  rintro x w' ⟨⟨v, rfl, ov⟩, b⟩
  rw [p3_is] at ov ⊢
  obtain ⟨a, c, hv, hc, _, _, t⟩ := spt_of ov
  exact ⟨⟨a, c, by rw [hv]; rfl, hc, t⟩, b⟩
theorem p4_any (w : World) (hd : Dn w.heap.size w) : Calls Tryd.prog 12 #[.string ⟨#[109, 111, 32, 57, 58, 48, 48, 45, 57, 58, 48, 48]⟩] w fun x w' => (∃ a c, x = .returned (.tuple #[.slice a 0 c, .int .i64 10, .int .i64 8]) ∧ 0 ≤ c ∧ SpT w' w'.heap.size a []) ∧ Below w.heap.size w w' := by
  refine (parse_any' p4B w (by decide) hd).mono ?_
  rintro x w' ⟨⟨v, rfl, ov⟩, b⟩
  rw [p4_is] at ov ⊢
  obtain ⟨a, c, hv, hc, _, _, t⟩ := spt_of ov
  exact ⟨⟨a, c, by rw [hv]; rfl, hc, t⟩, b⟩
theorem p5_any (w : World) (hd : Dn w.heap.size w) : Calls Tryd.prog 12 #[.string ⟨#[109, 111, 32, 57, 58, 53, 45, 49, 48, 58, 48, 48]⟩] w fun x w' => (∃ a c, x = .returned (.tuple #[.slice a 0 c, .int .i64 10, .int .i64 5]) ∧ 0 ≤ c ∧ SpT w' w'.heap.size a []) ∧ Below w.heap.size w w' := by
  refine (parse_any' p5B w (by decide) hd).mono ?_
  rintro x w' ⟨⟨v, rfl, ov⟩, b⟩
  rw [p5_is] at ov ⊢
  obtain ⟨a, c, hv, hc, _, _, t⟩ := spt_of ov
  exact ⟨⟨a, c, by rw [hv]; rfl, hc, t⟩, b⟩
theorem p6_any (w : World) (hd : Dn w.heap.size w) : Calls Tryd.prog 12 #[.string ⟨#[109, 111, 32, 50, 52, 58, 48, 48, 45, 49, 58, 48, 48]⟩] w fun x w' => (∃ a c, x = .returned (.tuple #[.slice a 0 c, .int .i64 10, .int .i64 3]) ∧ 0 ≤ c ∧ SpT w' w'.heap.size a []) ∧ Below w.heap.size w w' := by
  refine (parse_any' p6B w (by decide) hd).mono ?_
  rintro x w' ⟨⟨v, rfl, ov⟩, b⟩
  rw [p6_is] at ov ⊢
  obtain ⟨a, c, hv, hc, _, _, t⟩ := spt_of ov
  exact ⟨⟨a, c, by rw [hv]; rfl, hc, t⟩, b⟩
set_option maxRecDepth 100000 in
set_option maxHeartbeats 8000000 in
theorem head_any (w : World) (hd : Dn w.heap.size w) : Calls Tryd.prog 8 #[] w fun e w' => e = .returned (.bool true) ∧ Below w.heap.size w w' := by
  obtain ⟨Z, hZ⟩ : ∃ Z, w.heap.size = Z := ⟨_, rfl⟩
  have HD := Lib.hid (hZ ▸ hd)
  have B0 := Lib.hid (Below.refl Z w)
  have dn : ∀ W, Below Z w W → Dn W.heap.size W := fun W hb => by
    have h := HD.out.below hb
    exact ⟨Nat.lt_of_lt_of_le h.1 (Nat.le_trans (by rw [← hZ]; exact Nat.le_refl _) hb.size), h.2⟩
  have DN := Lib.hid dn
  rw [hZ]
  clear dn hd
  go_enter Tryd.func8, Tryd.ntmps8
  have K1 := Lib.hid (p1_any w (DN.out _ B0.out))
  go_wp2_with fail
  refine K1.out.mono ?_
  rintro x w1 ⟨⟨a1, c1, rfl, hc, t⟩, b⟩
  have B1 := Lib.hid (stp hZ B0.out b)
  have C1 := Lib.hid hc
  have T1 := Lib.hid t
  clear t b hc K1 B0
  have K2 := Lib.hid (p2_any w1 (DN.out _ B1.out))
  go_wp2_with fail
  refine K2.out.mono ?_
  rintro x w2 ⟨⟨a2, c2, rfl, hc, t⟩, b⟩
  have B2 := Lib.hid (stp hZ B1.out b)
  have T1 := Lib.hid (T1.out.later b)
  have C2 := Lib.hid hc
  have T2 := Lib.hid t
  clear t b hc K2 B1
  have K3 := Lib.hid (p3_any w2 (DN.out _ B2.out))
  go_wp2_with fail
  refine K3.out.mono ?_
  rintro x w3 ⟨⟨a3, c3, rfl, hc, t⟩, b⟩
  have B3 := Lib.hid (stp hZ B2.out b)
  have T1 := Lib.hid (T1.out.later b)
  have T2 := Lib.hid (T2.out.later b)
  have C3 := Lib.hid hc
  have T3 := Lib.hid t
  clear t b hc K3 B2
  have K4 := Lib.hid (p4_any w3 (DN.out _ B3.out))
  go_wp2_with fail
  refine K4.out.mono ?_
  rintro x w4 ⟨⟨a4, c4, rfl, hc, t⟩, b⟩
  have B4 := Lib.hid (stp hZ B3.out b)
  have T1 := Lib.hid (T1.out.later b)
  have T2 := Lib.hid (T2.out.later b)
  have T3 := Lib.hid (T3.out.later b)
  clear t b hc K4 B3
  have K5 := Lib.hid (p5_any w4 (DN.out _ B4.out))
  go_wp2_with fail
  refine K5.out.mono ?_
  rintro x w5 ⟨⟨a5, c5, rfl, hc, t⟩, b⟩
  have B5 := Lib.hid (stp hZ B4.out b)
  have T1 := Lib.hid (T1.out.later b)
  have T2 := Lib.hid (T2.out.later b)
  have T3 := Lib.hid (T3.out.later b)
  clear t b hc K5 B4
  have K6 := Lib.hid (p6_any w5 (DN.out _ B5.out))
  go_wp2_with fail
  refine K6.out.mono ?_
  rintro x w6 ⟨⟨a6, c6, rfl, hc, t⟩, b⟩
  have B6 := Lib.hid (stp hZ B5.out b)
  have T1 := Lib.hid (T1.out.later b)
  have T2 := Lib.hid (T2.out.later b)
  have T3 := Lib.hid (T3.out.later b)
  clear t b hc K6 B5
  have K7 := Lib.hid (htext_any a2 2 c2 _ w6 rfl T2.out C2.out (DN.out _ B6.out) (by decide))
  rw [tx_is] at K7
  dsimp only [txB] at K7
  go_wp2_with fail
  refine K7.out.mono ?_
  rintro x w7 ⟨rfl, b⟩
  have B7 := Lib.hid (stp hZ B6.out b)
  have T1 := Lib.hid (T1.out.later b)
  have T2 := Lib.hid (T2.out.later b)
  have T3 := Lib.hid (T3.out.later b)
  clear b K7 B6
  obtain ⟨v1, hv, b, ts⟩ := spans_two w7 540 1050 1980 2490
  have HV := Lib.hid hv
  have BV := Lib.hid (stp hZ B7.out b)
  have T1 := Lib.hid (T1.out.later b)
  have T2 := Lib.hid (T2.out.later b)
  have T3 := Lib.hid (T3.out.later b)
  have KS := Lib.hid (same_any a1 _ 2 2 c1 2 _ _ v1 rfl rfl T1.out ts C1.out (by decide) (by decide))
  rw [decide_eq_true rfl] at KS
  clear hv b ts B7
  go_wp2_with fail
  generalize hg : World.alloc w7 _ = u1
  obtain rfl : u1 = v1 := hg.symm.trans HV.out
  clear hg HV
  refine KS.out.mono ?_
  rintro x w8 ⟨rfl, b⟩
  have B8 := Lib.hid (stp hZ BV.out b)
  have T2 := Lib.hid (T2.out.later b)
  have T3 := Lib.hid (T3.out.later b)
  clear b KS BV
  obtain ⟨v2, hv, b, ts⟩ := spans_two w8 0 120 9960 10080
  have HV := Lib.hid hv
  have BV := Lib.hid (stp hZ B8.out b)
  have T2 := Lib.hid (T2.out.later b)
  have T3 := Lib.hid (T3.out.later b)
  have KS := Lib.hid (same_any a2 _ 2 2 c2 2 _ _ v2 rfl rfl T2.out ts C2.out (by decide) (by decide))
  rw [decide_eq_true rfl] at KS
  clear hv b ts B8
  go_wp2_with fail
  generalize hg : World.alloc w8 _ = u2
  obtain rfl : u2 = v2 := hg.symm.trans HV.out
  clear hg HV
  refine KS.out.mono ?_
  rintro x w9 ⟨rfl, b⟩
  have B9 := Lib.hid (stp hZ BV.out b)
  have T3 := Lib.hid (T3.out.later b)
  clear b KS BV
  obtain ⟨v3, hv, b, ts⟩ := spans_two w9 0 1440 7200 10080
  have HV := Lib.hid hv
  have BV := Lib.hid (stp hZ B9.out b)
  have T3 := Lib.hid (T3.out.later b)
  have KS := Lib.hid (same_any a3 _ 2 2 c3 2 _ _ v3 rfl rfl T3.out ts C3.out (by decide) (by decide))
  rw [decide_eq_true rfl] at KS
  clear hv b ts B9
  go_wp2_with fail
  generalize hg : World.alloc w9 _ = u3
  obtain rfl : u3 = v3 := hg.symm.trans HV.out
  clear hg HV
  refine KS.out.mono ?_
  rintro x w10 ⟨rfl, b⟩
  have B10 := Lib.hid (stp hZ BV.out b)
  clear b KS BV
  go_wp2
  go_ret
  exact ⟨rfl, B10.out⟩
end Go.Proofs.YtgbkjdpjilldmaaDoor.Hr
/- Plain: what Next and Open answer; the laws of sets of minutes. -/
namespace Go.Proofs.YtgbkjdpjilldmaaDoor.Hr
theorem nxt_some (x : Int) : ∀ {l : List Sq} {s : Sq}, Val l → nxt x l = some s → s ∈ l ∧ x < s.2 ∧ ∀ y, x ≤ y → y < s.1 → ¬ On y l
  | [], s, _, h => by cases h
  | u :: l, s, hv, h => by
    rw [nxt] at h
    split at h
    · rename_i hu
      injection h with h
      subst h
      refine ⟨by simp, hu, fun y h1 h2 ho => ?_⟩
      rcases on_cons.1 ho with g | g
      · omega
      · have := on_after hv g
        have := hv.head.1.2.1
        omega
    · rename_i hu
      obtain ⟨h1, h2, h3⟩ := nxt_some x hv.tail h
      refine ⟨List.mem_cons_of_mem _ h1, h2, fun y g1 g2 ho => ?_⟩
      rcases on_cons.1 ho with g | g
      · omega
      · exact h3 y g1 g2 g
theorem nxt_none (x : Int) : ∀ {l : List Sq}, nxt x l = none → ∀ u ∈ l, u.2 ≤ x
  | [], _, u, hu => by cases hu
  | v :: l, h, u, hu => by
    rw [nxt] at h
    split at h
    · cases h
    · rename_i hv
      rcases List.mem_cons.1 hu with rfl | hu
      · omega
      · exact nxt_none x h u hu
theorem head_on {l : List Sq} (hv : Val l) (h0 : l ≠ []) : okS (l.headD (0, 0)) ∧ On (l.headD (0, 0)).1 l ∧ (∀ y, y < (l.headD (0, 0)).1 → ¬ On y l) ∧ l.headD (0, 0) ∈ l := by
  cases l with
  | nil => exact absurd rfl h0
  | cons u l =>
    have o := hv.head.1
    refine ⟨o, on_cons.2 (.inl ⟨Int.le_refl _, o.2.1⟩), fun y hy ho => ?_, by simp⟩
    have hy : y < u.1 := hy
    rcases on_cons.1 ho with g | g
    · omega
    · have := on_after hv g
      have := o.2.1
      omega
theorem next_is {l : List Sq} {m : Int} (h1 : vldS l = true) (h2 : l ≠ []) (h3 : 0 ≤ m) (h4 : m ≤ 1000000000) :
    (∃ s, nxt (m % 10080) l = some s ∧ nextR l m = (m - m % 10080 + max (m % 10080) s.1, true)) ∨ (nxt (m % 10080) l = none ∧ nextR l m = (m - m % 10080 + 10080 + (l.headD (0, 0)).1, true)) := by
  unfold nextR
  rw [if_pos ⟨h1, h2, h3, h4⟩]
  cases hn : nxt (m % 10080) l with
  | none => exact .inr ⟨rfl, rfl⟩
  | some s => exact .inl ⟨s, rfl, rfl⟩
theorem next_no {l : List Sq} {m : Int} (h : ¬ (vldS l = true ∧ l ≠ [] ∧ 0 ≤ m ∧ m ≤ 1000000000)) : nextR l m = (0, false) := by
  unfold nextR
  rw [if_neg h]
theorem next_cond {l : List Sq} {m : Int} (h : (nextR l m).2 = true) : vldS l = true ∧ l ≠ [] ∧ 0 ≤ m ∧ m ≤ 1000000000 := by
  refine Decidable.byContradiction fun q => ?_
  rw [next_no q] at h
  cases h
/-- Open is: the minute of the week is among the list's. -/
theorem open_on {l : List Sq} {m : Int} (hv : Val l) (h3 : 0 ≤ m) (h4 : m ≤ 1000000000) : openR l m = true ↔ On (m % 10080) l := by
  by_cases h2 : l = []
  · subst h2
    have e : openR [] m = false := by
      unfold openR
      rw [next_no (by simp)]
      rfl
    rw [e]
    exact ⟨fun h => (by cases h), fun h => absurd h (on_nil _)⟩
  · unfold openR
    rcases next_is (vld_val.2 hv) h2 h3 h4 with ⟨s, hs, e⟩ | ⟨hs, e⟩
    · obtain ⟨p1, p2, p3⟩ := nxt_some _ hv hs
      rw [e, Bool.true_and, decide_eq_true_iff]
      constructor
      · intro h
        exact ⟨s, p1, by omega, p2⟩
      · intro h
        have : ¬ (m % 10080 < s.1) := fun q => p3 _ (Int.le_refl _) q h
        omega
    · have hn := nxt_none _ hs
      rw [e, Bool.true_and, decide_eq_true_iff]
      have o := (head_on hv h2).1.1
      constructor
      · intro h; omega
      · rintro ⟨s, hs, q1, q2⟩
        have := hn s hs
        omega
theorem open_far {l : List Sq} {m : Int} (h : ¬ (0 ≤ m ∧ m ≤ 1000000000)) : openR l m = false := by
  unfold openR
  rw [next_no (fun q => h ⟨q.2.2.1, q.2.2.2⟩)]
  rfl
/-- all that HoursNext says of Next's answer. -/
theorem next_yes {l : List Sq} {m n : Int} (h : nextR l m = (n, true)) : vldS l = true ∧ l ≠ [] ∧ 0 ≤ m ∧ m ≤ 1000000000 ∧ m ≤ n ∧ n < m + 10080 ∧ (n ≤ 1000000000 → openR l n = true) ∧
    (∀ o, m ≤ o → o < n → openR l o = false) ∧ (m + 10080 ≤ 1000000000 → nextR l (m + 10080) = (n + 10080, true)) ∧ (1000000000 < m + 10080 → nextR l (m + 10080) = (0, false)) := by
  obtain ⟨c1, c2, c3, c4⟩ := next_cond (show (nextR l m).2 = true by rw [h])
  have hv := vld_val.1 c1
  obtain ⟨oh, h_on, h_bef, h_mem⟩ := head_on hv c2
  have oh1 := oh.1
  have oh2 := oh.2.1
  have oh3 := oh.2.2
  have far : 1000000000 < m + 10080 → nextR l (m + 10080) = (0, false) := fun q => next_no (fun g => by have := g.2.2.2; omega)
  have wk : (m + 10080) % 10080 = m % 10080 := by omega
  rcases next_is c1 c2 c3 c4 with ⟨s, hs, e⟩ | ⟨hs, e⟩
  · obtain ⟨p1, p2, p3⟩ := nxt_some _ hv hs
    rw [h] at e
    injection e with e _
    have os := hv.1 s p1
    have os1 := os.1
    have os2 := os.2.1
    have os3 := os.2.2
    refine ⟨c1, c2, c3, c4, by omega, by omega, fun g => ?_, fun o g1 g2 => ?_, fun g => ?_, far⟩
    · refine (open_on hv (by omega) g).2 ⟨s, p1, by omega, by omega⟩
    · by_cases g3 : o ≤ 1000000000
      · refine Bool.eq_false_iff.2 fun q => ?_
        exact p3 (o % 10080) (by omega) (by omega) ((open_on hv (by omega) g3).1 q)
      · exact open_far (by omega)
    · rcases next_is c1 c2 (show 0 ≤ m + 10080 by omega) g with ⟨s', hs', e'⟩ | ⟨hs', e'⟩
      · rw [wk, hs] at hs'
        injection hs' with hs'
        subst hs'
        rw [e', wk]
        congr 1
        omega
      · rw [wk, hs] at hs'
        cases hs'
  · have hn := nxt_none _ hs
    rw [h] at e
    injection e with e _
    have := hn _ h_mem
    refine ⟨c1, c2, c3, c4, by omega, by omega, fun g => ?_, fun o g1 g2 => ?_, fun g => ?_, far⟩
    · refine (open_on hv (by omega) g).2 ?_
      rw [show n % 10080 = (l.headD (0, 0)).1 by omega]
      exact h_on
    · by_cases g3 : o ≤ 1000000000
      · refine Bool.eq_false_iff.2 fun q => ?_
        have q := (open_on hv (by omega) g3).1 q
        by_cases g4 : o - (m - m % 10080) < 10080
        · obtain ⟨u, hu, u1, u2⟩ := q
          have := hn u hu
          omega
        · exact h_bef (o % 10080) (by omega) q
      · exact open_far (by omega)
    · rcases next_is c1 c2 (show 0 ≤ m + 10080 by omega) g with ⟨s', hs', e'⟩ | ⟨hs', e'⟩
      · rw [wk, hs] at hs'
        cases hs'
      · rw [e', wk]
        congr 1
        omega
section
variable {a b : List Sq}
theorem val_nil : Val [] := ⟨fun s h => (by cases h), List.Pairwise.nil⟩
theorem not_not (ha : Val a) : notL (notL a) = a := by
  obtain ⟨v1, e1⟩ := not_val ha
  obtain ⟨v2, e2⟩ := not_val v1
  refine val_ext v2 ha fun m => ?_
  rw [e2, e1]
  constructor
  · rintro ⟨h1, h2, h3⟩
    exact Classical.byContradiction fun q => h3 ⟨h1, h2, q⟩
  · intro h
    have := on_range ha.1 h
    exact ⟨this.1, this.2, fun q => q.2.2 h⟩
theorem not_and (ha : Val a) (hb : Val b) : notL (andL a b) = orL (notL a) (notL b) := not_not (or_val (not_val ha).1 (not_val hb).1).1
theorem not_or (ha : Val a) (hb : Val b) : notL (orL a b) = andL (notL a) (notL b) := by
  unfold andL
  rw [not_not ha, not_not hb]
theorem and_not (ha : Val a) : andL a (notL a) = [] := by
  obtain ⟨v1, e1⟩ := not_val ha
  obtain ⟨v2, e2⟩ := and_val ha v1
  refine val_ext v2 val_nil fun m => ?_
  rw [e2, e1]
  exact ⟨fun h => absurd h.1 h.2.2.2, fun h => absurd h (on_nil m)⟩
theorem val_all : Val [((0 : Int), (10080 : Int))] := ⟨fun s h => by
  rw [List.mem_singleton] at h
  subst h
  exact ⟨by decide, by decide, by decide⟩, List.pairwise_singleton _ _⟩
theorem or_not (ha : Val a) : orL a (notL a) = [((0 : Int), (10080 : Int))] := by
  obtain ⟨v1, e1⟩ := not_val ha
  obtain ⟨v2, e2⟩ := or_val ha v1
  refine val_ext v2 val_all fun m => ?_
  rw [e2, e1, on_cons]
  constructor
  · rintro (h | h)
    · exact .inl (on_range ha.1 h)
    · exact .inl ⟨h.1, h.2.1⟩
  · rintro (h | h)
    · by_cases q : On m a
      · exact .inl q
      · exact .inr ⟨h.1, h.2, q⟩
    · exact absurd h (on_nil m)
theorem and_comm_l (ha : Val a) (hb : Val b) : andL a b = andL b a := by
  obtain ⟨v1, e1⟩ := and_val ha hb
  obtain ⟨v2, e2⟩ := and_val hb ha
  exact val_ext v1 v2 fun m => by rw [e1, e2]; exact And.comm
theorem or_comm_l (ha : Val a) (hb : Val b) : orL a b = orL b a := by
  obtain ⟨v1, e1⟩ := or_val ha hb
  obtain ⟨v2, e2⟩ := or_val hb ha
  exact val_ext v1 v2 fun m => by rw [e1, e2]; exact Or.comm
theorem both_is (ha : Val a) (hb : Val b) : bothR a b = andL a b := if_pos ⟨vld_val.2 ha, vld_val.2 hb⟩
theorem either_is (ha : Val a) (hb : Val b) : eitherR a b = orL a b := if_pos ⟨vld_val.2 ha, vld_val.2 hb⟩
theorem not_is (ha : Val a) : notR a = notL a := if_pos (vld_val.2 ha)
/-- the minutes of Both, Either, Not. -/
theorem open_both (ha : Val a) (hb : Val b) {m : Int} (h3 : 0 ≤ m) (h4 : m ≤ 1000000000) : openR (andL a b) m = (openR a m && openR b m) := by
  obtain ⟨v, e⟩ := and_val ha hb
  rw [Bool.eq_iff_iff, Bool.and_eq_true, open_on v h3 h4, open_on ha h3 h4, open_on hb h3 h4, e]
theorem open_either (ha : Val a) (hb : Val b) {m : Int} (h3 : 0 ≤ m) (h4 : m ≤ 1000000000) : openR (orL a b) m = (openR a m || openR b m) := by
  obtain ⟨v, e⟩ := or_val ha hb
  rw [Bool.eq_iff_iff, Bool.or_eq_true, open_on v h3 h4, open_on ha h3 h4, open_on hb h3 h4, e]
theorem open_not (ha : Val a) {m : Int} (h3 : 0 ≤ m) (h4 : m ≤ 1000000000) : openR (notL a) m = !openR a m := by
  obtain ⟨v, e⟩ := not_val ha
  have h := open_on ha h3 h4
  rw [Bool.eq_iff_iff, open_on v h3 h4, e]
  constructor
  · rintro ⟨_, _, q⟩
    rw [Bool.not_eq_true', Bool.eq_false_iff]
    exact fun g => q (h.1 g)
  · intro q
    rw [Bool.not_eq_true'] at q
    exact ⟨by omega, by omega, fun g => by rw [h.2 g] at q; cases q⟩
end
end Go.Proofs.YtgbkjdpjilldmaaDoor.Hr
/- hours: the law HoursNext. -/
namespace Go.Proofs.YtgbkjdpjilldmaaDoor.Hr
open Go.RowKit Go.Sort Go.Shelf
open Lx (IsRow alloc1 drew_below B)
open St (Sp encS encS_len encS_one)
theorem sls_one (w : World) (a : Option Addr) (n c : Nat) (l : List Sp) : ∃ w', w.alloc (.cells #[.slice a n c] 22) = w' ∧ Below w.heap.size w w' ∧ Sls w' w.heap.size [(a, n, c, l)] := ⟨_, rfl, alloc1 _ _, IsRow.made _ _ _⟩
theorem sls_two (w : World) (a b : Option Addr) (n c m d : Nat) (l k : List Sp) : ∃ w', w.alloc (.cells #[.slice a n c, .slice b m d] 22) = w' ∧ Below w.heap.size w w' ∧ Sls w' w.heap.size [(a, n, c, l), (b, m, d, k)] := ⟨_, rfl, alloc1 _ _, IsRow.made _ _ _⟩
theorem few_one (a : Option Addr) (n c : Nat) (l : List Sp) : fewS [(a, n, c, l)] = decide (n ≤ 150) := by simp [fewS]
theorem few_two (a b : Option Addr) (n c m d : Nat) (l k : List Sp) : fewS [(a, n, c, l), (b, m, d, k)] = (decide (n ≤ 150) && decide (m ≤ 150)) := by simp [fewS]
set_option maxRecDepth 100000 in
set_option maxHeartbeats 8000000 in
theorem nextLaw_any (a : Option Addr) (n c : Nat) (l : List Sp) (m o : Int) (w : World) (hn : l.length = n) (hp : SpT w w.heap.size a l) (hc : n ≤ c) (hd : Dn w.heap.size w) :
    Calls Tryd.prog 4 #[.slice a n c, .int .i64 m, .int .i64 o] w fun e w' => e = .returned (.bool true) ∧ Below w.heap.size w w' := by
  obtain ⟨Z, hZ⟩ : ∃ Z, w.heap.size = Z := ⟨_, rfl⟩
  have KH := Lib.hid (head_any w hd)
  have HP := Lib.hid hp
  have HN := Lib.hid hn
  rw [hZ]
  clear hd hp hn
  go_enter Tryd.func4, Tryd.ntmps4
  go_wp2_with fail
  refine KH.out.mono ?_
  rintro e w1 ⟨rfl, b⟩
  have B1 := Lib.hid (hZ ▸ b)
  have P1 := Lib.hid (HP.out.later b)
  obtain ⟨w2, hw2, b2, s2⟩ := sls_one w1 a n c l
  have HW := Lib.hid hw2
  have B2 := Lib.hid (stp hZ B1.out b2)
  have P2 := Lib.hid (P1.out.later b2)
  have KF := Lib.hid (few_any w1.heap.size 1 _ w2 s2 rfl (by decide))
  rw [few_one] at KF
  clear b b2 s2 hw2 KH B1 P1 HP
  go_wp2_with fail
  generalize hg : World.alloc w1 _ = u
  obtain rfl : u = w2 := hg.symm.trans HW.out
  clear hg HW
  refine KF.out.mono ?_
  rintro e w3 ⟨rfl, rfl⟩
  clear KF
  by_cases h150 : n ≤ 150
  rotate_left
  · rw [decide_eq_false h150]
    go_wp2
    go_ret
    exact ⟨rfl, B2.out⟩
  rw [decide_eq_true h150]
  have KX := Lib.hid (next_any a n c l m u HN.out P2.out hc (by omega))
  rcases hx : nextR l m with ⟨x, is⟩
  rw [hx] at KX
  go_wp2_with fail
  refine KX.out.mono ?_
  rintro e w4 ⟨rfl, b⟩
  have B4 := Lib.hid (stp hZ B2.out b)
  have P4 := Lib.hid (P2.out.later b)
  clear b B2 P2 KX
  cases is with
  | false =>
    have h0 : ¬ (vldS l = true ∧ l ≠ [] ∧ 0 ≤ m ∧ m ≤ 1000000000) := fun q => by
      rcases next_is q.1 q.2.1 q.2.2.1 q.2.2.2 with ⟨s, _, e⟩ | ⟨_, e⟩ <;> (rw [hx] at e; cases e)
    obtain rfl : x = 0 := by
      rw [next_no h0] at hx
      injection hx with h _
      exact h.symm
    clear hx
    have KV := Lib.hid (valid_any a n c l w4 HN.out P4.out hc (by omega))
    by_cases g1 : 0 ≤ m
    · by_cases g2 : m ≤ 1000000000
      · cases hv : vldS l with
        | false =>
          rw [hv] at KV
          clear h0 hv
          go_wp2_with fail
          refine KV.out.mono ?_
          rintro e w5 ⟨rfl, b⟩
          have B5 := Lib.hid (stp hZ B4.out b)
          clear b KV
          go_wp2
          go_ret
          exact ⟨rfl, B5.out⟩
        | true =>
          rw [hv] at KV
          obtain rfl : l = [] := Decidable.byContradiction fun q => h0 ⟨hv, q, g1, g2⟩
          obtain rfl : n = 0 := HN.out.symm
          clear h0 hv
          go_wp2_with fail
          refine KV.out.mono ?_
          rintro e w5 ⟨rfl, b⟩
          have B5 := Lib.hid (stp hZ B4.out b)
          clear b KV
          go_wp2
          go_ret
          exact ⟨rfl, B5.out⟩
      · clear h0 KV
        go_wp2
        go_ret
        exact ⟨rfl, B4.out⟩
    · clear h0 KV
      go_wp2
      go_ret
      exact ⟨rfl, B4.out⟩
  | true =>
    obtain ⟨y1, y2, y3, y4, y5, y6, y7, y8, y9, y10⟩ := next_yes hx
    have KV := Lib.hid (valid_any a n c l w4 HN.out P4.out hc (by omega))
    rw [y1] at KV
    have Y7 := Lib.hid y7
    have Y8 := Lib.hid y8
    have Y9 := Lib.hid y9
    have Y10 := Lib.hid y10
    have z1 : ¬ x < m := by omega
    have z2 : ¬ m + 10080 ≤ x := by omega
    clear y1 y2 y7 y8 y9 y10 hx
    go_wp2_with fail
    refine KV.out.mono ?_
    rintro e w5 ⟨rfl, b⟩
    have B5 := Lib.hid (stp hZ B4.out b)
    have P5 := Lib.hid (P4.out.later b)
    clear b KV B4 P4
    by_cases g3 : x ≤ 1000000000
    · have KO := Lib.hid (open_any a n c l x w5 HN.out P5.out hc (by omega))
      rw [Y7.out g3] at KO
      go_wp2_with fail
      refine KO.out.mono ?_
      rintro e w6 ⟨rfl, b⟩
      have B6 := Lib.hid (stp hZ B5.out b)
      have P6 := Lib.hid (P5.out.later b)
      clear b KO B5 P5
      by_cases f1 : m ≤ o
      · by_cases f2 : o < x
        · have KO2 := Lib.hid (open_any a n c l o w6 HN.out P6.out hc (by omega))
          rw [Y8.out o f1 f2] at KO2
          go_wp2_with fail
          refine KO2.out.mono ?_
          rintro e w7 ⟨rfl, b⟩
          have B7 := Lib.hid (stp hZ B6.out b)
          have P7 := Lib.hid (P6.out.later b)
          clear b KO2
          have KN := Lib.hid (next_any a n c l (m + 10080) w7 HN.out P7.out hc (by omega))
          by_cases q : m + 10080 ≤ 1000000000
          · rw [Y9.out q] at KN
            clear Y7 Y8 Y9 Y10
            go_wp2_with fail
            refine KN.out.mono ?_
            rintro e w9 ⟨rfl, b⟩
            have B9 := Lib.hid (stp hZ B7.out b)
            clear b KN
            go_wp2
            go_ret
            exact ⟨rfl, B9.out⟩
          · rw [Y10.out (by omega)] at KN
            clear Y7 Y8 Y9 Y10
            go_wp2_with fail
            refine KN.out.mono ?_
            rintro e w9 ⟨rfl, b⟩
            have B9 := Lib.hid (stp hZ B7.out b)
            clear b KN
            go_wp2
            go_ret
            exact ⟨rfl, B9.out⟩
        · have f3 : ¬ o < x := f2
          have KN := Lib.hid (next_any a n c l (m + 10080) w6 HN.out P6.out hc (by omega))
          by_cases q : m + 10080 ≤ 1000000000
          · rw [Y9.out q] at KN
            clear Y7 Y8 Y9 Y10
            go_wp2_with fail
            refine KN.out.mono ?_
            rintro e w9 ⟨rfl, b⟩
            have B9 := Lib.hid (stp hZ B6.out b)
            clear b KN
            go_wp2
            go_ret
            exact ⟨rfl, B9.out⟩
          · rw [Y10.out (by omega)] at KN
            clear Y7 Y8 Y9 Y10
            go_wp2_with fail
            refine KN.out.mono ?_
            rintro e w9 ⟨rfl, b⟩
            have B9 := Lib.hid (stp hZ B6.out b)
            clear b KN
            go_wp2
            go_ret
            exact ⟨rfl, B9.out⟩
      · have f3 : ¬ m ≤ o := f1
        have KN := Lib.hid (next_any a n c l (m + 10080) w6 HN.out P6.out hc (by omega))
        by_cases q : m + 10080 ≤ 1000000000
        · rw [Y9.out q] at KN
          clear Y7 Y8 Y9 Y10
          go_wp2_with fail
          refine KN.out.mono ?_
          rintro e w9 ⟨rfl, b⟩
          have B9 := Lib.hid (stp hZ B6.out b)
          clear b KN
          go_wp2
          go_ret
          exact ⟨rfl, B9.out⟩
        · rw [Y10.out (by omega)] at KN
          clear Y7 Y8 Y9 Y10
          go_wp2_with fail
          refine KN.out.mono ?_
          rintro e w9 ⟨rfl, b⟩
          have B9 := Lib.hid (stp hZ B6.out b)
          clear b KN
          go_wp2
          go_ret
          exact ⟨rfl, B9.out⟩
    · have g4 : ¬ x ≤ 1000000000 := g3
      by_cases f1 : m ≤ o
      · by_cases f2 : o < x
        · have KO2 := Lib.hid (open_any a n c l o w5 HN.out P5.out hc (by omega))
          rw [Y8.out o f1 f2] at KO2
          go_wp2_with fail
          refine KO2.out.mono ?_
          rintro e w7 ⟨rfl, b⟩
          have B7 := Lib.hid (stp hZ B5.out b)
          have P7 := Lib.hid (P5.out.later b)
          clear b KO2
          have KN := Lib.hid (next_any a n c l (m + 10080) w7 HN.out P7.out hc (by omega))
          by_cases q : m + 10080 ≤ 1000000000
          · exact absurd q (by omega)
          · rw [Y10.out (by omega)] at KN
            clear Y7 Y8 Y9 Y10
            go_wp2_with fail
            refine KN.out.mono ?_
            rintro e w9 ⟨rfl, b⟩
            have B9 := Lib.hid (stp hZ B7.out b)
            clear b KN
            go_wp2
            go_ret
            exact ⟨rfl, B9.out⟩
        · have f3 : ¬ o < x := f2
          have KN := Lib.hid (next_any a n c l (m + 10080) w5 HN.out P5.out hc (by omega))
          by_cases q : m + 10080 ≤ 1000000000
          · exact absurd q (by omega)
          · rw [Y10.out (by omega)] at KN
            clear Y7 Y8 Y9 Y10
            go_wp2_with fail
            refine KN.out.mono ?_
            rintro e w9 ⟨rfl, b⟩
            have B9 := Lib.hid (stp hZ B5.out b)
            clear b KN
            go_wp2
            go_ret
            exact ⟨rfl, B9.out⟩
      · have f3 : ¬ m ≤ o := f1
        have KN := Lib.hid (next_any a n c l (m + 10080) w5 HN.out P5.out hc (by omega))
        by_cases q : m + 10080 ≤ 1000000000
        · exact absurd q (by omega)
        · rw [Y10.out (by omega)] at KN
          clear Y7 Y8 Y9 Y10
          go_wp2_with fail
          refine KN.out.mono ?_
          rintro e w9 ⟨rfl, b⟩
          have B9 := Lib.hid (stp hZ B5.out b)
          clear b KN
          go_wp2
          go_ret
          exact ⟨rfl, B9.out⟩
end Go.Proofs.YtgbkjdpjilldmaaDoor.Hr
