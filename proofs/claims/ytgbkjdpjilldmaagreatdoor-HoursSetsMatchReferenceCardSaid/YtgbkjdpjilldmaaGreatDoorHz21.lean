/- Merged: HrHead, HrLawM, HrNextWalk, HrSl, HrRfM. -/
import Derived.Test.YtgbkjdpjilldmaaGreatDoorHz20
import Derived.Test.YtgbkjdpjilldmaaGreatDoorHz12
import Derived.Test.YtgbkjdpjilldmaaGreatDoorHz13
/- hours: the laws' head. -/
namespace Go.Proofs.YtgbkjdpjilldmaaGreatDoor.Hr
open Go.RowKit Go.Sort Go.Shelf
open Lx (IsRow alloc1 drew_below B)
open St (Sp encS encS_len encS_one)
theorem spans_two (w : World) (a b c d : Int) : ∃ w', w.alloc (.cells #[.int .i64 a, .int .i64 b, .int .i64 c, .int .i64 d] 54) = w' ∧ Below w.heap.size w w' ∧ SpT w' w'.heap.size (some ⟨w.heap.size, 0, none⟩) [(a, b), (c, d)] := by
  refine ⟨_, rfl, alloc1 _ _, fun _ => ?_⟩
  have r := IsRow.made w 54 #[.int .i64 a, .int .i64 b, .int .i64 c, .int .i64 d]
  refine ⟨w.heap.size, 0, rfl, r.inside, fun k t hk => ?_⟩
  rcases k with _ | _ | k
  · injection hk with hk
    subst hk
    exact ⟨r.get 0, r.get 1⟩
  · injection hk with hk
    subst hk
    exact ⟨r.get 2, r.get 3⟩
  · cases hk
theorem stp {Z : Nat} {w a b : World} (hZ : w.heap.size = Z) (h : Below Z w a) (k : Below a.heap.size a b) : Below Z w b := h.trans (k.mono (hZ ▸ h.size))
def p1B : B := [109, 111, 45, 116, 117, 32, 57, 58, 48, 48, 45, 49, 55, 58, 51, 48]
theorem p1_is : parseR p1B = ([(540, 1050), (1980, 2490)], 0, 0) := by decide +kernel
def p2B : B := [115, 117, 32, 50, 50, 58, 48, 48, 45, 50, 58, 48, 48]
theorem p2_is : parseR p2B = ([(0, 120), (9960, 10080)], 0, 0) := by decide +kernel
def p3B : B := [115, 97, 45, 109, 111, 32, 48, 58, 48, 48, 45, 50, 52, 58, 48, 48, 44, 32, 49, 50, 58, 48, 48, 45, 49, 51, 58, 48, 48]
theorem p3_is : parseR p3B = ([(0, 1440), (7200, 10080)], 0, 0) := by decide +kernel
def p4B : B := [109, 111, 32, 57, 58, 48, 48, 45, 57, 58, 48, 48]
theorem p4_is : parseR p4B = ([], 10, 8) := by decide +kernel
def p5B : B := [109, 111, 32, 57, 58, 53, 45, 49, 48, 58, 48, 48]
theorem p5_is : parseR p5B = ([], 10, 5) := by decide +kernel
def p6B : B := [109, 111, 32, 50, 52, 58, 48, 48, 45, 49, 58, 48, 48]
theorem p6_is : parseR p6B = ([], 10, 3) := by decide +kernel
def txB : B := [109, 111, 32, 48, 58, 48, 48, 45, 50, 58, 48, 48, 44, 32, 115, 117, 32, 50, 50, 58, 48, 48, 45, 50, 52, 58, 48, 48]
theorem tx_is : textW [(0, 120), (9960, 10080)] = (txB, 0) := by decide +kernel
theorem p1_any (w : World) (hd : Dn w.heap.size w) : Calls Tryz.prog 9 #[.string ⟨#[109, 111, 45, 116, 117, 32, 57, 58, 48, 48, 45, 49, 55, 58, 51, 48]⟩] w fun x w' => (∃ a c, x = .returned (.tuple #[.slice a 2 c, .int .i64 0, .int .i64 0]) ∧ 2 ≤ c ∧ SpT w' w'.heap.size a [(540, 1050), (1980, 2490)]) ∧ Below w.heap.size w w' := by
  refine (parse_any' p1B w (by decide) hd).mono ?_
  rintro x w' ⟨⟨v, rfl, ov⟩, b⟩
  rw [p1_is] at ov ⊢
  obtain ⟨a, c, hv, hc, _, _, t⟩ := spt_of ov
  exact ⟨⟨a, c, by rw [hv]; rfl, hc, t⟩, b⟩
theorem p2_any (w : World) (hd : Dn w.heap.size w) : Calls Tryz.prog 9 #[.string ⟨#[115, 117, 32, 50, 50, 58, 48, 48, 45, 50, 58, 48, 48]⟩] w fun x w' => (∃ a c, x = .returned (.tuple #[.slice a 2 c, .int .i64 0, .int .i64 0]) ∧ 2 ≤ c ∧ SpT w' w'.heap.size a [(0, 120), (9960, 10080)]) ∧ Below w.heap.size w w' := by
  refine (parse_any' p2B w (by decide) hd).mono ?_
  rintro x w' ⟨⟨v, rfl, ov⟩, b⟩
  rw [p2_is] at ov ⊢
  obtain ⟨a, c, hv, hc, _, _, t⟩ := spt_of ov
  exact ⟨⟨a, c, by rw [hv]; rfl, hc, t⟩, b⟩
theorem p3_any (w : World) (hd : Dn w.heap.size w) : Calls Tryz.prog 9 #[.string ⟨#[115, 97, 45, 109, 111, 32, 48, 58, 48, 48, 45, 50, 52, 58, 48, 48, 44, 32, 49, 50, 58, 48, 48, 45, 49, 51, 58, 48, 48]⟩] w fun x w' => (∃ a c, x = .returned (.tuple #[.slice a 2 c, .int .i64 0, .int .i64 0]) ∧ 2 ≤ c ∧ SpT w' w'.heap.size a [(0, 1440), (7200, 10080)]) ∧ Below w.heap.size w w' := by
  refine (parse_any' p3B w (by decide) hd).mono ?_
  rintro x w' ⟨⟨v, rfl, ov⟩, b⟩
  rw [p3_is] at ov ⊢
  obtain ⟨a, c, hv, hc, _, _, t⟩ := spt_of ov
  exact ⟨⟨a, c, by rw [hv]; rfl, hc, t⟩, b⟩
theorem p4_any (w : World) (hd : Dn w.heap.size w) : Calls Tryz.prog 9 #[.string ⟨#[109, 111, 32, 57, 58, 48, 48, 45, 57, 58, 48, 48]⟩] w fun x w' => (∃ a c, x = .returned (.tuple #[.slice a 0 c, .int .i64 10, .int .i64 8]) ∧ 0 ≤ c ∧ SpT w' w'.heap.size a []) ∧ Below w.heap.size w w' := by
  refine (parse_any' p4B w (by decide) hd).mono ?_
  rintro x w' ⟨⟨v, rfl, ov⟩, b⟩
  rw [p4_is] at ov ⊢
  obtain ⟨a, c, hv, hc, _, _, t⟩ := spt_of ov
  exact ⟨⟨a, c, by rw [hv]; rfl, hc, t⟩, b⟩
theorem p5_any (w : World) (hd : Dn w.heap.size w) : Calls Tryz.prog 9 #[.string ⟨#[109, 111, 32, 57, 58, 53, 45, 49, 48, 58, 48, 48]⟩] w fun x w' => (∃ a c, x = .returned (.tuple #[.slice a 0 c, .int .i64 10, .int .i64 5]) ∧ 0 ≤ c ∧ SpT w' w'.heap.size a []) ∧ Below w.heap.size w w' := by
  refine (parse_any' p5B w (by decide) hd).mono ?_
  rintro x w' ⟨⟨v, rfl, ov⟩, b⟩
  rw [p5_is] at ov ⊢
  obtain ⟨a, c, hv, hc, _, _, t⟩ := spt_of ov
  exact ⟨⟨a, c, by rw [hv]; rfl, hc, t⟩, b⟩
theorem p6_any (w : World) (hd : Dn w.heap.size w) : Calls Tryz.prog 9 #[.string ⟨#[109, 111, 32, 50, 52, 58, 48, 48, 45, 49, 58, 48, 48]⟩] w fun x w' => (∃ a c, x = .returned (.tuple #[.slice a 0 c, .int .i64 10, .int .i64 3]) ∧ 0 ≤ c ∧ SpT w' w'.heap.size a []) ∧ Below w.heap.size w w' := by
  refine (parse_any' p6B w (by decide) hd).mono ?_
  rintro x w' ⟨⟨v, rfl, ov⟩, b⟩
  rw [p6_is] at ov ⊢
  obtain ⟨a, c, hv, hc, _, _, t⟩ := spt_of ov
  exact ⟨⟨a, c, by rw [hv]; rfl, hc, t⟩, b⟩
set_option maxRecDepth 100000 in
set_option maxHeartbeats 8000000 in
theorem head_any (w : World) (hd : Dn w.heap.size w) : Calls Tryz.prog 7 #[] w fun e w' => e = .returned (.bool true) ∧ Below w.heap.size w w' := by
  obtain ⟨Z, hZ⟩ : ∃ Z, w.heap.size = Z := ⟨_, rfl⟩
  have HD := Lib.hid (hZ ▸ hd)
  have B0 := Lib.hid (Below.refl Z w)
  have dn : ∀ W, Below Z w W → Dn W.heap.size W := fun W hb => by
    have h := HD.out.below hb
    exact ⟨Nat.lt_of_lt_of_le h.1 (Nat.le_trans (by rw [← hZ]; exact Nat.le_refl _) hb.size), h.2⟩
  have DN := Lib.hid dn
  rw [hZ]
  clear dn hd
  go_enter Tryz.func7, Tryz.ntmps7
  have K1 := Lib.hid (p1_any w (DN.out _ B0.out))
  go_wp2_with fail
  refine K1.out.mono ?_
  rintro x w1 ⟨⟨a1, c1, rfl, hc, t⟩, b⟩
  have B1 := Lib.hid (stp hZ B0.out b)
  have C1 := Lib.hid hc
  have T1 := Lib.hid t
  clear t b hc K1 B0
  have K2 := Lib.hid (p2_any w1 (DN.out _ B1.out))
  go_wp2_with fail
  refine K2.out.mono ?_
  rintro x w2 ⟨⟨a2, c2, rfl, hc, t⟩, b⟩
  have B2 := Lib.hid (stp hZ B1.out b)
  have T1 := Lib.hid (T1.out.later b)
  have C2 := Lib.hid hc
  have T2 := Lib.hid t
  clear t b hc K2 B1
  have K3 := Lib.hid (p3_any w2 (DN.out _ B2.out))
  go_wp2_with fail
  refine K3.out.mono ?_
  rintro x w3 ⟨⟨a3, c3, rfl, hc, t⟩, b⟩
  have B3 := Lib.hid (stp hZ B2.out b)
  have T1 := Lib.hid (T1.out.later b)
  have T2 := Lib.hid (T2.out.later b)
  have C3 := Lib.hid hc
  have T3 := Lib.hid t
  clear t b hc K3 B2
  have K4 := Lib.hid (p4_any w3 (DN.out _ B3.out))
  go_wp2_with fail
  refine K4.out.mono ?_
  rintro x w4 ⟨⟨a4, c4, rfl, hc, t⟩, b⟩
  have B4 := Lib.hid (stp hZ B3.out b)
  have T1 := Lib.hid (T1.out.later b)
  have T2 := Lib.hid (T2.out.later b)
  have T3 := Lib.hid (T3.out.later b)
  clear t b hc K4 B3
  have K5 := Lib.hid (p5_any w4 (DN.out _ B4.out))
  go_wp2_with fail
  refine K5.out.mono ?_
  rintro x w5 ⟨⟨a5, c5, rfl, hc, t⟩, b⟩
  have B5 := Lib.hid (stp hZ B4.out b)
  have T1 := Lib.hid (T1.out.later b)
  have T2 := Lib.hid (T2.out.later b)
  have T3 := Lib.hid (T3.out.later b)
  clear t b hc K5 B4
  have K6 := Lib.hid (p6_any w5 (DN.out _ B5.out))
  go_wp2_with fail
  refine K6.out.mono ?_
  rintro x w6 ⟨⟨a6, c6, rfl, hc, t⟩, b⟩
  have B6 := Lib.hid (stp hZ B5.out b)
  have T1 := Lib.hid (T1.out.later b)
  have T2 := Lib.hid (T2.out.later b)
  have T3 := Lib.hid (T3.out.later b)
  clear t b hc K6 B5
  have K7 := Lib.hid (htext_any a2 2 c2 _ w6 rfl T2.out C2.out (DN.out _ B6.out) (by decide))
  rw [tx_is] at K7
  dsimp only [txB] at K7
  go_wp2_with fail
  refine K7.out.mono ?_
  rintro x w7 ⟨rfl, b⟩
  have B7 := Lib.hid (stp hZ B6.out b)
  have T1 := Lib.hid (T1.out.later b)
  have T2 := Lib.hid (T2.out.later b)
  have T3 := Lib.hid (T3.out.later b)
  clear b K7 B6
  obtain ⟨v1, hv, b, ts⟩ := spans_two w7 540 1050 1980 2490
  have HV := Lib.hid hv
  have BV := Lib.hid (stp hZ B7.out b)
  have T1 := Lib.hid (T1.out.later b)
  have T2 := Lib.hid (T2.out.later b)
  have T3 := Lib.hid (T3.out.later b)
  have KS := Lib.hid (same_any a1 _ 2 2 c1 2 _ _ v1 rfl rfl T1.out ts C1.out (by decide) (by decide))
  rw [decide_eq_true rfl] at KS
  clear hv b ts B7
  go_wp2_with fail
  generalize hg : World.alloc w7 _ = u1
  obtain rfl : u1 = v1 := hg.symm.trans HV.out
  clear hg HV
  refine KS.out.mono ?_
  rintro x w8 ⟨rfl, b⟩
  have B8 := Lib.hid (stp hZ BV.out b)
  have T2 := Lib.hid (T2.out.later b)
  have T3 := Lib.hid (T3.out.later b)
  clear b KS BV
  obtain ⟨v2, hv, b, ts⟩ := spans_two w8 0 120 9960 10080
  have HV := Lib.hid hv
  have BV := Lib.hid (stp hZ B8.out b)
  have T2 := Lib.hid (T2.out.later b)
  have T3 := Lib.hid (T3.out.later b)
  have KS := Lib.hid (same_any a2 _ 2 2 c2 2 _ _ v2 rfl rfl T2.out ts C2.out (by decide) (by decide))
  rw [decide_eq_true rfl] at KS
  clear hv b ts B8
  go_wp2_with fail
  generalize hg : World.alloc w8 _ = u2
  obtain rfl : u2 = v2 := hg.symm.trans HV.out
  clear hg HV
  refine KS.out.mono ?_
  rintro x w9 ⟨rfl, b⟩
  have B9 := Lib.hid (stp hZ BV.out b)
  have T3 := Lib.hid (T3.out.later b)
  clear b KS BV
  obtain ⟨v3, hv, b, ts⟩ := spans_two w9 0 1440 7200 10080
  have HV := Lib.hid hv
  have BV := Lib.hid (stp hZ B9.out b)
  have T3 := Lib.hid (T3.out.later b)
  have KS := Lib.hid (same_any a3 _ 2 2 c3 2 _ _ v3 rfl rfl T3.out ts C3.out (by decide) (by decide))
  rw [decide_eq_true rfl] at KS
  clear hv b ts B9
  go_wp2_with fail
  generalize hg : World.alloc w9 _ = u3
  obtain rfl : u3 = v3 := hg.symm.trans HV.out
  clear hg HV
  refine KS.out.mono ?_
  rintro x w10 ⟨rfl, b⟩
  have B10 := Lib.hid (stp hZ BV.out b)
  clear b KS BV
  go_wp2
  go_ret
  exact ⟨rfl, B10.out⟩
end Go.Proofs.YtgbkjdpjilldmaaGreatDoor.Hr
/- Plain: what Next and Open answer; the laws of sets of minutes. -/
namespace Go.Proofs.YtgbkjdpjilldmaaGreatDoor.Hr
theorem nxt_some (x : Int) : ∀ {l : List Sq} {s : Sq}, Val l → nxt x l = some s → s ∈ l ∧ x < s.2 ∧ ∀ y, x ≤ y → y < s.1 → ¬ On y l
  | [], s, _, h => by cases h
  | u :: l, s, hv, h => by
    rw [nxt] at h
    split at h
    · rename_i hu
      injection h with h
      subst h
      refine ⟨by simp, hu, fun y h1 h2 ho => ?_⟩
      rcases on_cons.1 ho with g | g
      · omega
      · have := on_after hv g
        have := hv.head.1.2.1
        omega
    · rename_i hu
      obtain ⟨h1, h2, h3⟩ := nxt_some x hv.tail h
      refine ⟨List.mem_cons_of_mem _ h1, h2, fun y g1 g2 ho => ?_⟩
      rcases on_cons.1 ho with g | g
      · omega
      · exact h3 y g1 g2 g
theorem nxt_none (x : Int) : ∀ {l : List Sq}, nxt x l = none → ∀ u ∈ l, u.2 ≤ x
  | [], _, u, hu => by cases hu
  | v :: l, h, u, hu => by
    rw [nxt] at h
    split at h
    · cases h
    · rename_i hv
      rcases List.mem_cons.1 hu with rfl | hu
      · omega
      · exact nxt_none x h u hu
theorem head_on {l : List Sq} (hv : Val l) (h0 : l ≠ []) : okS (l.headD (0, 0)) ∧ On (l.headD (0, 0)).1 l ∧ (∀ y, y < (l.headD (0, 0)).1 → ¬ On y l) ∧ l.headD (0, 0) ∈ l := by
  cases l with
  | nil => exact absurd rfl h0
  | cons u l =>
    have o := hv.head.1
    refine ⟨o, on_cons.2 (.inl ⟨Int.le_refl _, o.2.1⟩), fun y hy ho => ?_, by simp⟩
    have hy : y < u.1 := hy
    rcases on_cons.1 ho with g | g
    · omega
    · have := on_after hv g
      have := o.2.1
      omega
theorem next_is {l : List Sq} {m : Int} (h1 : vldS l = true) (h2 : l ≠ []) (h3 : 0 ≤ m) (h4 : m ≤ 1000000000) :
    (∃ s, nxt (m % 10080) l = some s ∧ nextR l m = (m - m % 10080 + max (m % 10080) s.1, true)) ∨ (nxt (m % 10080) l = none ∧ nextR l m = (m - m % 10080 + 10080 + (l.headD (0, 0)).1, true)) := by
  unfold nextR
  rw [if_pos ⟨h1, h2, h3, h4⟩]
  cases hn : nxt (m % 10080) l with
  | none => exact .inr ⟨rfl, rfl⟩
  | some s => exact .inl ⟨s, rfl, rfl⟩
theorem next_no {l : List Sq} {m : Int} (h : ¬ (vldS l = true ∧ l ≠ [] ∧ 0 ≤ m ∧ m ≤ 1000000000)) : nextR l m = (0, false) := by
  unfold nextR
  rw [if_neg h]
theorem next_cond {l : List Sq} {m : Int} (h : (nextR l m).2 = true) : vldS l = true ∧ l ≠ [] ∧ 0 ≤ m ∧ m ≤ 1000000000 := by
  refine Decidable.byContradiction fun q => ?_
  rw [next_no q] at h
  cases h
/-- Open is: the minute of the week is among the list's. -/
theorem open_on {l : List Sq} {m : Int} (hv : Val l) (h3 : 0 ≤ m) (h4 : m ≤ 1000000000) : openR l m = true ↔ On (m % 10080) l := by
  by_cases h2 : l = []
  · subst h2
    have e : openR [] m = false := by
      unfold openR
      rw [next_no (by simp)]
      rfl
    rw [e]
    exact ⟨fun h => (by cases h), fun h => absurd h (on_nil _)⟩
  · unfold openR
    rcases next_is (vld_val.2 hv) h2 h3 h4 with ⟨s, hs, e⟩ | ⟨hs, e⟩
    · obtain ⟨p1, p2, p3⟩ := nxt_some _ hv hs
      rw [e, Bool.true_and, decide_eq_true_iff]
      constructor
      · intro h
        exact ⟨s, p1, by omega, p2⟩
      · intro h
        have : ¬ (m % 10080 < s.1) := fun q => p3 _ (Int.le_refl _) q h
        omega
    · have hn := nxt_none _ hs
      rw [e, Bool.true_and, decide_eq_true_iff]
      have o := (head_on hv h2).1.1
      constructor
      · intro h; omega
      · rintro ⟨s, hs, q1, q2⟩
        have := hn s hs
        omega
theorem open_far {l : List Sq} {m : Int} (h : ¬ (0 ≤ m ∧ m ≤ 1000000000)) : openR l m = false := by
  unfold openR
  rw [next_no (fun q => h ⟨q.2.2.1, q.2.2.2⟩)]
  rfl
/-- all that HoursNext says of Next's answer. -/
theorem next_yes {l : List Sq} {m n : Int} (h : nextR l m = (n, true)) : vldS l = true ∧ l ≠ [] ∧ 0 ≤ m ∧ m ≤ 1000000000 ∧ m ≤ n ∧ n < m + 10080 ∧ (n ≤ 1000000000 → openR l n = true) ∧
    (∀ o, m ≤ o → o < n → openR l o = false) ∧ (m + 10080 ≤ 1000000000 → nextR l (m + 10080) = (n + 10080, true)) ∧ (1000000000 < m + 10080 → nextR l (m + 10080) = (0, false)) := by
  obtain ⟨c1, c2, c3, c4⟩ := next_cond (show (nextR l m).2 = true by rw [h])
  have hv := vld_val.1 c1
  obtain ⟨oh, h_on, h_bef, h_mem⟩ := head_on hv c2
  have oh1 := oh.1
  have oh2 := oh.2.1
  have oh3 := oh.2.2
  have far : 1000000000 < m + 10080 → nextR l (m + 10080) = (0, false) := fun q => next_no (fun g => by have := g.2.2.2; omega)
  have wk : (m + 10080) % 10080 = m % 10080 := by omega
  rcases next_is c1 c2 c3 c4 with ⟨s, hs, e⟩ | ⟨hs, e⟩
  · obtain ⟨p1, p2, p3⟩ := nxt_some _ hv hs
    rw [h] at e
    injection e with e _
    have os := hv.1 s p1
    have os1 := os.1
    have os2 := os.2.1
    have os3 := os.2.2
    refine ⟨c1, c2, c3, c4, by omega, by omega, fun g => ?_, fun o g1 g2 => ?_, fun g => ?_, far⟩
    · refine (open_on hv (by omega) g).2 ⟨s, p1, by omega, by omega⟩
    · by_cases g3 : o ≤ 1000000000
      · refine Bool.eq_false_iff.2 fun q => ?_
        exact p3 (o % 10080) (by omega) (by omega) ((open_on hv (by omega) g3).1 q)
      · exact open_far (by omega)
    · rcases next_is c1 c2 (show 0 ≤ m + 10080 by omega) g with ⟨s', hs', e'⟩ | ⟨hs', e'⟩
      · rw [wk, hs] at hs'
        injection hs' with hs'
        subst hs'
        rw [e', wk]
        congr 1
        omega
      · rw [wk, hs] at hs'
        cases hs'
  · have hn := nxt_none _ hs
    rw [h] at e
    injection e with e _
    have := hn _ h_mem
    refine ⟨c1, c2, c3, c4, by omega, by omega, fun g => ?_, fun o g1 g2 => ?_, fun g => ?_, far⟩
    · refine (open_on hv (by omega) g).2 ?_
      rw [show n % 10080 = (l.headD (0, 0)).1 by omega]
      exact h_on
    · by_cases g3 : o ≤ 1000000000
      · refine Bool.eq_false_iff.2 fun q => ?_
        have q := (open_on hv (by omega) g3).1 q
        by_cases g4 : o - (m - m % 10080) < 10080
        · obtain ⟨u, hu, u1, u2⟩ := q
          have := hn u hu
          omega
        · exact h_bef (o % 10080) (by omega) q
      · exact open_far (by omega)
    · rcases next_is c1 c2 (show 0 ≤ m + 10080 by omega) g with ⟨s', hs', e'⟩ | ⟨hs', e'⟩
      · rw [wk, hs] at hs'
        cases hs'
      · rw [e', wk]
        congr 1
        omega
section
variable {a b : List Sq}
theorem val_nil : Val [] := ⟨fun s h => (by cases h), List.Pairwise.nil⟩
theorem not_not (ha : Val a) : notL (notL a) = a := by
  obtain ⟨v1, e1⟩ := not_val ha
  obtain ⟨v2, e2⟩ := not_val v1
  refine val_ext v2 ha fun m => ?_
  rw [e2, e1]
  constructor
  · rintro ⟨h1, h2, h3⟩
    exact Classical.byContradiction fun q => h3 ⟨h1, h2, q⟩
  · intro h
    have := on_range ha.1 h
    exact ⟨this.1, this.2, fun q => q.2.2 h⟩
theorem not_and (ha : Val a) (hb : Val b) : notL (andL a b) = orL (notL a) (notL b) := not_not (or_val (not_val ha).1 (not_val hb).1).1
theorem not_or (ha : Val a) (hb : Val b) : notL (orL a b) = andL (notL a) (notL b) := by
  unfold andL
  rw [not_not ha, not_not hb]
theorem and_not (ha : Val a) : andL a (notL a) = [] := by
  obtain ⟨v1, e1⟩ := not_val ha
  obtain ⟨v2, e2⟩ := and_val ha v1
  refine val_ext v2 val_nil fun m => ?_
  rw [e2, e1]
  exact ⟨fun h => absurd h.1 h.2.2.2, fun h => absurd h (on_nil m)⟩
theorem val_all : Val [((0 : Int), (10080 : Int))] := ⟨fun s h => by
  rw [List.mem_singleton] at h
  subst h
  exact ⟨by decide, by decide, by decide⟩, List.pairwise_singleton _ _⟩
theorem or_not (ha : Val a) : orL a (notL a) = [((0 : Int), (10080 : Int))] := by
  obtain ⟨v1, e1⟩ := not_val ha
  obtain ⟨v2, e2⟩ := or_val ha v1
  refine val_ext v2 val_all fun m => ?_
  rw [e2, e1, on_cons]
  constructor
  · rintro (h | h)
    · exact .inl (on_range ha.1 h)
    · exact .inl ⟨h.1, h.2.1⟩
  · rintro (h | h)
    · by_cases q : On m a
      · exact .inl q
      · exact .inr ⟨h.1, h.2, q⟩
    · exact absurd h (on_nil m)
theorem and_comm_l (ha : Val a) (hb : Val b) : andL a b = andL b a := by
  obtain ⟨v1, e1⟩ := and_val ha hb
  obtain ⟨v2, e2⟩ := and_val hb ha
  exact val_ext v1 v2 fun m => by rw [e1, e2]; exact And.comm
theorem or_comm_l (ha : Val a) (hb : Val b) : orL a b = orL b a := by
  obtain ⟨v1, e1⟩ := or_val ha hb
  obtain ⟨v2, e2⟩ := or_val hb ha
  exact val_ext v1 v2 fun m => by rw [e1, e2]; exact Or.comm
theorem both_is (ha : Val a) (hb : Val b) : bothR a b = andL a b := if_pos ⟨vld_val.2 ha, vld_val.2 hb⟩
theorem either_is (ha : Val a) (hb : Val b) : eitherR a b = orL a b := if_pos ⟨vld_val.2 ha, vld_val.2 hb⟩
theorem not_is (ha : Val a) : notR a = notL a := if_pos (vld_val.2 ha)
/-- the minutes of Both, Either, Not. -/
theorem open_both (ha : Val a) (hb : Val b) {m : Int} (h3 : 0 ≤ m) (h4 : m ≤ 1000000000) : openR (andL a b) m = (openR a m && openR b m) := by
  obtain ⟨v, e⟩ := and_val ha hb
  rw [Bool.eq_iff_iff, Bool.and_eq_true, open_on v h3 h4, open_on ha h3 h4, open_on hb h3 h4, e]
theorem open_either (ha : Val a) (hb : Val b) {m : Int} (h3 : 0 ≤ m) (h4 : m ≤ 1000000000) : openR (orL a b) m = (openR a m || openR b m) := by
  obtain ⟨v, e⟩ := or_val ha hb
  rw [Bool.eq_iff_iff, Bool.or_eq_true, open_on v h3 h4, open_on ha h3 h4, open_on hb h3 h4, e]
theorem open_not (ha : Val a) {m : Int} (h3 : 0 ≤ m) (h4 : m ≤ 1000000000) : openR (notL a) m = !openR a m := by
  obtain ⟨v, e⟩ := not_val ha
  have h := open_on ha h3 h4
  rw [Bool.eq_iff_iff, open_on v h3 h4, e]
  constructor
  · rintro ⟨_, _, q⟩
    rw [Bool.not_eq_true', Bool.eq_false_iff]
    exact fun g => q (h.1 g)
  · intro q
    rw [Bool.not_eq_true'] at q
    exact ⟨by omega, by omega, fun g => by rw [h.2 g] at q; cases q⟩
end
end Go.Proofs.YtgbkjdpjilldmaaGreatDoor.Hr
/- hours: the law HoursNext. -/
namespace Go.Proofs.YtgbkjdpjilldmaaGreatDoor.Hr
open Go.RowKit Go.Sort Go.Shelf
open Lx (IsRow alloc1 drew_below B)
open St (Sp encS encS_len encS_one)
theorem sls_one (w : World) (a : Option Addr) (n c : Nat) (l : List Sp) : ∃ w', w.alloc (.cells #[.slice a n c] 22) = w' ∧ Below w.heap.size w w' ∧ Sls w' w.heap.size [(a, n, c, l)] := ⟨_, rfl, alloc1 _ _, IsRow.made _ _ _⟩
theorem sls_two (w : World) (a b : Option Addr) (n c m d : Nat) (l k : List Sp) : ∃ w', w.alloc (.cells #[.slice a n c, .slice b m d] 22) = w' ∧ Below w.heap.size w w' ∧ Sls w' w.heap.size [(a, n, c, l), (b, m, d, k)] := ⟨_, rfl, alloc1 _ _, IsRow.made _ _ _⟩
theorem few_one (a : Option Addr) (n c : Nat) (l : List Sp) : fewS [(a, n, c, l)] = decide (n ≤ 150) := by simp [fewS]
theorem few_two (a b : Option Addr) (n c m d : Nat) (l k : List Sp) : fewS [(a, n, c, l), (b, m, d, k)] = (decide (n ≤ 150) && decide (m ≤ 150)) := by simp [fewS]
end Go.Proofs.YtgbkjdpjilldmaaGreatDoor.Hr
/- hours: the calls of the laws of sets, as slices. -/
namespace Go.Proofs.YtgbkjdpjilldmaaGreatDoor.Hr
open Go.RowKit Go.Sort Go.Shelf
open St (Sp)
/-- a slice is answered that reads as a list. -/
def SlP (w : World) (L : List Sp) (x : Ending) (w' : World) : Prop := (∃ p cap, x = .returned (.slice p L.length cap) ∧ L.length ≤ cap ∧ SpT w' w'.heap.size p L) ∧ Below w.heap.size w w'
theorem SlP.of {w w' : World} {L : List Sp} {x : Ending} (h : (∃ v, x = .returned v ∧ OwnS w' w.heap.size v L) ∧ Below w.heap.size w w') : SlP w L x w' := by
  obtain ⟨⟨v, rfl, ov⟩, b⟩ := h
  obtain ⟨p, c, hv, hc, _, _, t⟩ := spt_of ov
  exact ⟨⟨p, c, by rw [hv], hc, t⟩, b⟩
variable {w : World} {a b : List Sp} {p q : Option Addr} {c d : Nat}
theorem notS (R : List Sp) (hR : notL a = R) (hv : Val a) (ha : SpT w w.heap.size p a) (hc : a.length ≤ c) (h : a.length ≤ 900) : Calls Tryz.prog 20 #[.slice p a.length c] w (SlP w R) := by
  refine (not_any p a.length c a w rfl ha hc (by omega)).mono fun x w' hx => ?_
  rw [not_is hv, hR] at hx
  exact SlP.of hx
theorem eitherS (R : List Sp) (hR : orL a b = R) (hv : Val a) (hw : Val b) (ha : SpT w w.heap.size p a) (hb : SpT w w.heap.size q b) (hc : a.length ≤ c) (hd : b.length ≤ d) (h : a.length ≤ 900) (k : b.length ≤ 900) : Calls Tryz.prog 24 #[.slice p a.length c, .slice q b.length d] w (SlP w R) := by
  refine (either_any p q a.length b.length c d a b w rfl rfl ha hb hc hd (by omega) (by omega)).mono fun x w' hx => ?_
  rw [either_is hv hw, hR] at hx
  exact SlP.of hx
theorem bothS (R : List Sp) (hR : andL a b = R) (hv : Val a) (hw : Val b) (ha : SpT w w.heap.size p a) (hb : SpT w w.heap.size q b) (hc : a.length ≤ c) (hd : b.length ≤ d) (h : a.length ≤ 900) (k : b.length ≤ 900) : Calls Tryz.prog 22 #[.slice p a.length c, .slice q b.length d] w (SlP w R) := by
  refine (both_any p q a.length b.length c d a b w rfl rfl ha hb hc hd (by omega) (by omega)).mono fun x w' hx => ?_
  rw [both_is hv hw, hR] at hx
  exact SlP.of hx
theorem sameS (h : a = b) (ha : SpT w w.heap.size p a) (hb : SpT w w.heap.size q b) (hc : a.length ≤ c) (hd : b.length ≤ d) (k : a.length ≤ 900) : Calls Tryz.prog 13 #[.slice p a.length c, .slice q b.length d] w fun e w' => e = .returned (.bool true) ∧ Below w.heap.size w w' := by
  have := same_any p q a.length b.length c d a b w rfl rfl ha hb hc hd (by omega)
  rw [decide_eq_true h] at this
  exact this
theorem notL_len (l : List Sp) : (notL l).length ≤ l.length + 1 := not_len l 0
theorem andL_len (a b : List Sp) : (andL a b).length ≤ a.length + b.length + 3 := by
  have h1 := not_len (orL (notL a) (notL b)) 0
  have h2 := or_len (notL a) (notL b)
  have h3 := notL_len a
  have h4 := notL_len b
  unfold andL notL at *
  omega
theorem span_one (w : World) (a b : Int) : ∃ w', w.alloc (.cells #[.int .i64 a, .int .i64 b] 54) = w' ∧ Below w.heap.size w w' ∧ SpT w' w'.heap.size (some ⟨w.heap.size, 0, none⟩) [(a, b)] := ⟨_, rfl, Lx.alloc1 _ _, sps_one w a b⟩
end Go.Proofs.YtgbkjdpjilldmaaGreatDoor.Hr
/- Plain: the list of a set of minutes, as the reference makes it. -/
namespace Go.Proofs.YtgbkjdpjilldmaaGreatDoor.Hr
def onB (l : List Sq) (m : Nat) : Bool := l.any fun s => decide (s.1 ≤ (m : Int)) && decide ((m : Int) < s.2)
theorem onB_on {l : List Sq} {m : Nat} : onB l m = true ↔ On (m : Int) l := by
  unfold onB On
  rw [List.any_eq_true]
  constructor
  · rintro ⟨s, hs, h⟩
    rw [Bool.and_eq_true, decide_eq_true_iff, decide_eq_true_iff] at h
    exact ⟨s, hs, h⟩
  · rintro ⟨s, hs, h⟩
    exact ⟨s, hs, by rw [Bool.and_eq_true, decide_eq_true_iff, decide_eq_true_iff]; exact h⟩
def setLast (l : List Sq) (x : Int) : List Sq := match l.getLast? with | some u => l.dropLast ++ [(u.1, x)] | none => l
theorem setLast_snoc (A : List Sq) (u : Sq) (x : Int) : setLast (A ++ [u]) x = A ++ [(u.1, x)] := by
  unfold setLast
  rw [List.getLast?_append]
  simp
/-- what the reference's spans has behind k minutes. -/
def spF (f : Nat → Bool) : Nat → List Sq
  | 0 => []
  | k + 1 => if f k = true then (if k = 0 ∨ f (k - 1) = false then spF f k ++ [((k : Int), (k : Int) + 1)] else setLast (spF f k) ((k : Int) + 1)) else spF f k
structure SpI (f : Nat → Bool) (k : Nat) : Prop where
  val : Val (spF f k)
  on : ∀ m : Nat, On (m : Int) (spF f k) ↔ m < k ∧ f m = true
  le : ∀ u ∈ spF f k, u.2 ≤ (k : Int)
  last : 0 < k → f (k - 1) = true → ∃ A u, spF f k = A ++ [u] ∧ u.2 = (k : Int)
  lt : k = 0 ∨ f (k - 1) = false → ∀ u ∈ spF f k, u.2 < (k : Int)
theorem spF_spec (f : Nat → Bool) : ∀ k, k ≤ 10080 → SpI f k
  | 0, _ => ⟨val_nil, fun m => ⟨fun h => absurd h (on_nil _), fun h => absurd h.1 (Nat.not_lt_zero _)⟩, fun u hu => (by cases hu), fun h => absurd h (Nat.lt_irrefl 0), fun _ u hu => (by cases hu)⟩
  | k + 1, hk => by
    obtain ⟨v, on, le, last, lt⟩ := spF_spec f k (by omega)
    by_cases hf : f k = true
    · by_cases hp : k = 0 ∨ f (k - 1) = false
      · have e : spF f (k + 1) = spF f k ++ [((k : Int), (k : Int) + 1)] := by rw [spF, if_pos hf, if_pos hp]
        have lt' := lt hp
        refine ⟨?_, fun m => ?_, fun u hu => ?_, fun _ _ => ⟨spF f k, _, e, by push_cast; rfl⟩, fun h => ?_⟩
        · rw [e]
          refine ⟨fun s hs => ?_, List.pairwise_append.2 ⟨v.2, List.pairwise_singleton _ _, fun a ha b hb => ?_⟩⟩
          · rcases List.mem_append.1 hs with hs | hs
            · exact v.1 s hs
            · rw [List.mem_singleton.1 hs]
              exact ⟨by dsimp only; omega, by dsimp only; omega, by dsimp only; omega⟩
          · rw [List.mem_singleton.1 hb]
            exact lt' a ha
        · rw [e, on_app, on, on_cons]
          constructor
          · rintro (h | h | h)
            · exact ⟨by omega, h.2⟩
            · obtain rfl : m = k := by (try dsimp only at h); omega
              exact ⟨by omega, hf⟩
            · exact absurd h (on_nil _)
          · intro h
            by_cases q : m < k
            · exact .inl ⟨q, h.2⟩
            · exact .inr (.inl (by (try dsimp only); omega))
        · rw [e] at hu
          rcases List.mem_append.1 hu with hu | hu
          · have := le u hu; omega
          · rw [List.mem_singleton.1 hu]; dsimp only; omega
        · rcases h with h | h
          · omega
          · rw [Nat.add_sub_cancel, hf] at h; cases h
      · have h1 : 0 < k := Nat.pos_of_ne_zero fun q => hp (.inl q)
        have h2 : f (k - 1) = true := by
          cases h : f (k - 1) with
          | true => rfl
          | false => exact absurd (.inr h) hp
        obtain ⟨A, u, hu, hu2⟩ := last h1 h2
        have e : spF f (k + 1) = A ++ [(u.1, (k : Int) + 1)] := by rw [spF, if_pos hf, if_neg hp, hu, setLast_snoc]
        rw [hu] at v on le lt
        have ou := v.1 u (by simp)
        unfold okS at ou
        obtain ⟨pA, _, pu⟩ := List.pairwise_append.1 v.2
        refine ⟨?_, fun m => ?_, fun w hw => ?_, fun _ _ => ⟨A, _, e, by push_cast; rfl⟩, fun h => ?_⟩
        · rw [e]
          refine ⟨fun s hs => ?_, List.pairwise_append.2 ⟨pA, List.pairwise_singleton _ _, fun a ha b hb => ?_⟩⟩
          · rcases List.mem_append.1 hs with hs | hs
            · exact v.1 s (List.mem_append_left _ hs)
            · rw [List.mem_singleton.1 hs]
              exact ⟨ou.1, by dsimp only; omega, by dsimp only; omega⟩
          · rw [List.mem_singleton.1 hb]
            exact pu a ha u (by simp)
        · have on' := on m
          rw [on_app, on_cons] at on'
          rw [e, on_app, on_cons]
          have n1 : ¬ On (m : Int) [] := on_nil _
          simp only [n1, or_false] at on' ⊢
          constructor
          · rintro (h | h)
            · have := on'.1 (.inl h); exact ⟨by omega, this.2⟩
            · by_cases q : m < k
              · have := on'.1 (.inr ⟨h.1, by omega⟩); exact ⟨by omega, this.2⟩
              · obtain rfl : m = k := by (try dsimp only at h); omega
                exact ⟨by omega, hf⟩
          · intro h
            by_cases q : m < k
            · rcases on'.2 ⟨q, h.2⟩ with h3 | h3
              · exact .inl h3
              · exact .inr ⟨h3.1, by (try dsimp only); omega⟩
            · exact .inr (by (try dsimp only); omega)
        · rw [e] at hw
          rcases List.mem_append.1 hw with hw | hw
          · have := le w (List.mem_append_left _ hw); omega
          · rw [List.mem_singleton.1 hw]; dsimp only; omega
        · rcases h with h | h
          · omega
          · rw [Nat.add_sub_cancel, hf] at h; cases h
    · have e : spF f (k + 1) = spF f k := by rw [spF, if_neg hf]
      refine ⟨by rw [e]; exact v, fun m => ?_, fun u hu => ?_, fun _ h => ?_, fun _ u hu => ?_⟩
      · rw [e, on]
        constructor
        · exact fun h => ⟨by omega, h.2⟩
        · intro h
          refine ⟨?_, h.2⟩
          have : m ≠ k := fun q => hf (q ▸ h.2)
          omega
      · rw [e] at hu; have := le u hu; omega
      · rw [Nat.add_sub_cancel] at h; exact absurd h hf
      · rw [e] at hu; have := le u hu; omega
theorem spF_is {l : List Sq} {f : Nat → Bool} (hv : Val l) (h : ∀ m : Nat, m < 10080 → (f m = true ↔ On (m : Int) l)) : spF f 10080 = l := by
  obtain ⟨v, on, _, _, _⟩ := spF_spec f 10080 (Nat.le_refl _)
  refine val_ext v hv fun m => ?_
  by_cases h0 : 0 ≤ m
  · obtain ⟨m, rfl⟩ := Int.eq_ofNat_of_zero_le h0
    rw [on]
    constructor
    · exact fun q => (h m q.1).1 q.2
    · intro q
      have := on_range hv.1 q
      exact ⟨by omega, (h m (by omega)).2 q⟩
  · exact ⟨fun q => absurd (on_range v.1 q).1 h0, fun q => absurd (on_range hv.1 q).1 h0⟩
theorem sp_not {a : List Sq} (ha : Val a) : spF (fun m => !onB a m) 10080 = notL a := by
  obtain ⟨v, e⟩ := not_val ha
  refine spF_is v fun m hm => ?_
  rw [e, Bool.not_eq_true', Bool.eq_false_iff, ne_eq, onB_on]
  exact ⟨fun h => ⟨by omega, by omega, h⟩, fun h => h.2.2⟩
theorem sp_both {a b : List Sq} (ha : Val a) (hb : Val b) : spF (fun m => onB a m && onB b m) 10080 = andL a b := by
  obtain ⟨v, e⟩ := and_val ha hb
  refine spF_is v fun m _ => ?_
  rw [e, Bool.and_eq_true, onB_on, onB_on]
theorem sp_either {a b : List Sq} (ha : Val a) (hb : Val b) : spF (fun m => onB a m || onB b m) 10080 = orL a b := by
  obtain ⟨v, e⟩ := or_val ha hb
  refine spF_is v fun m _ => ?_
  rw [e, Bool.or_eq_true, onB_on, onB_on]
theorem setLast_len (l : List Sq) (x : Int) : (setLast l x).length = l.length := by
  rcases List.eq_nil_or_concat l with rfl | ⟨A, u, rfl⟩
  · rfl
  · rw [List.concat_eq_append, setLast_snoc]
    simp
theorem spF_len (f : Nat → Bool) : ∀ k, (spF f k).length ≤ k
  | 0 => Nat.le_refl _
  | k + 1 => by
    have := spF_len f k
    rw [spF]
    split
    · split
      · rw [List.length_append]; simp; omega
      · rw [setLast_len]; omega
    · omega
end Go.Proofs.YtgbkjdpjilldmaaGreatDoor.Hr
