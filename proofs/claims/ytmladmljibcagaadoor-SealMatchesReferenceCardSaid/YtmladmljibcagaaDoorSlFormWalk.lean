/- P2.6, SealForm: its walk. -/
import Derived.Test.YtmladmljibcagaaDoorSlHead2
import Derived.RegionTactic
namespace Go.Proofs.YtmladmljibcagaaDoor.Sl
open Go.RowKit
open Go.Proofs.YtmladmljibcagaaDoor.Dg hiding intOf

theorem short_of (a : Option Addr) (n cap : Nat) (L : List B) (b : Bool) (w : World) {N : Nat} (hl : Txt w N a L) (hn : n = L.length) (hbig : n ≤ 1000000) (hb : upTo 300 L = b) :
    Calls Tryd.prog 11 #[.slice a n cap] w fun e w' => e = .returned (.bool b) ∧ w = w' := hb ▸ short_any a n cap L w hl hn hbig
theorem few_of' (idx : Int) (a p : Option Addr) (na ca np cp : Nat) (sig ps : List B) (b : Bool) (w : World) (hl : Txt w w.heap.size a sig) (hp : Txt w w.heap.size p ps) (hna : na = sig.length) (hnp : np = ps.length) (h1 : na ≤ maxLen) (h2 : np ≤ maxLen) (hb : fewS sig ps = b) :
    Calls Tryd.prog 12 #[.agg #[.int .i64 idx, .slice a na ca, .slice p np cp]] w fun e w' => e = .returned (.bool b) ∧ Below w.heap.size w w' := hb ▸ fewS_any idx a p na ca np cp sig ps w hl hp hna hnp h1 h2
theorem few_small {sig ps : List B} (h : fewS sig ps = true) : (∀ x ∈ sig, x.length ≤ 100) ∧ (∀ x ∈ ps, x.length ≤ 100) ∧ sig.length ≤ 30 ∧ ps.length ≤ 30 := by
  unfold fewS at h
  simp only [Bool.and_eq_true, decide_eq_true_eq] at h
  obtain ⟨⟨⟨h1, h2⟩, h3⟩, h4⟩ := h
  rw [List.take_of_length_le h3] at h1
  rw [List.take_of_length_le h4] at h2
  exact ⟨upTo_all h1, upTo_all h2, h3, h4⟩
theorem row_two (w : World) (x y : B) : Txt (w.alloc (.cells #[.string ⟨x.toArray⟩, .string ⟨y.toArray⟩] 9)) (w.alloc (.cells #[.string ⟨x.toArray⟩, .string ⟨y.toArray⟩] 9)).heap.size (some ⟨w.heap.size, 0, none⟩) [x, y] := row_list w _ _ _ rfl
theorem isDig_val (t : B) (ps : List B) (i : Nat) (h : isDig t = true) (k : Nat) : isDig (val t ps i k) = true := by
  cases k with
  | zero => exact h
  | succ k => exact isDig_dsum _
theorem wrap_dec {idx : Int} {np : Nat} (h8 : np ≤ 8) (h : idx < 2 ^ np) : decide (wrap64 (2 ^ np) ≤ idx) = false := by
  rw [wrap_pow np h8]
  exact decide_eq_false (Int.not_le.2 h)
structure Keep3 (Y : World) (g1 g2 g3 : Nat) (c1 c2 c3 : Array Value) (a p : Option Addr) (sig ps : List B) : Prop where
  r1 : IsRow Y g1 24 c1
  r2 : IsRow Y g2 24 c2
  r3 : IsRow Y g3 24 c3
  tab : Tab Y
  ts : Txt Y Y.heap.size a sig
  tp : Txt Y Y.heap.size p ps
theorem Keep3.later {Y Z : World} {g1 g2 g3 : Nat} {c1 c2 c3 : Array Value} {a p : Option Addr} {sig ps : List B} (h : Keep3 Y g1 g2 g3 c1 c2 c3 a p sig ps) (hb : Below Y.heap.size Y Z) : Keep3 Z g1 g2 g3 c1 c2 c3 a p sig ps :=
  ⟨h.r1.below hb h.r1.inside, h.r2.below hb h.r2.inside, h.r3.below hb h.r3.inside, Tab.at_ h.tab hb, h.ts.later hb, h.tp.later hb⟩
theorem keep3_of {w X : World} {c1 c2 c3 : Array Value} {a p : Option Addr} {sig ps : List B} (hX : (((w.alloc (.cells c1 24)).alloc (.cells c2 24)).alloc (.cells c3 24)).drew.drew = X) (ht : Tab w) (hs : Txt w w.heap.size a sig) (hp : Txt w w.heap.size p ps) :
    Keep3 X w.heap.size (w.heap.size + 1) (w.heap.size + 1 + 1) c1 c2 c3 a p sig ps ∧ Below w.heap.size w X := by
  have b1 : Below w.heap.size w (((w.alloc (.cells c1 24)).alloc (.cells c2 24)).alloc (.cells c3 24)) := (((Below.refl _ w).alloc (Nat.le_refl _) _).alloc (by simp) _).alloc (by simp; omega) _
  have bX : Below w.heap.size w X := hX ▸ ⟨b1.os, b1.tape, b1.output, b1.size, b1.block⟩
  refine ⟨⟨?_, ?_, ?_, Tab.at_ ht bX, hs.later bX, hp.later bX⟩, bX⟩
  · exact hX ▸ (((IsRow.made w 24 c1).later _).later _ : IsRow (((w.alloc (.cells c1 24)).alloc (.cells c2 24)).alloc (.cells c3 24)) w.heap.size 24 c1)
  · have := (IsRow.made (w.alloc (.cells c1 24)) 24 c2).later (.cells c3 24)
    rw [World.size_alloc] at this
    exact hX ▸ this
  · have := IsRow.made ((w.alloc (.cells c1 24)).alloc (.cells c2 24)) 24 c3
    rw [World.size_alloc, World.size_alloc] at this
    exact hX ▸ this
theorem ver_len (pub m : B) (idx : Int) (sig ps : List B) (h : sig.length ≠ 18) : verB pub m idx sig ps = false := by
  unfold verB formed
  simp [h]
theorem wrap_id {x : Int} (h : -9223372036854775808 ≤ x) (h' : x ≤ 9223372036854775807) : wrap64 x = x := by unfold wrap64; omega
theorem pow_int (np : Nat) (h8 : np ≤ 8) : (0 : Int) ≤ 2 ^ np ∧ (2 : Int) ^ np ≤ 256 := by
  have := pow_le np 0 h8
  simp only [Nat.sub_zero] at this
  have e : ((2 ^ np : Nat) : Int) = 2 ^ np := by simp
  have h1 : (0 : Int) ≤ ((2 ^ np : Nat) : Int) := Int.natCast_nonneg _
  have h2 : ((2 ^ np : Nat) : Int) ≤ ((256 : Nat) : Int) := Int.ofNat_le.2 this
  rw [e] at h1 h2
  exact ⟨h1, h2⟩
theorem ver_far (pub m : B) {idx : Int} (sig ps : List B) {np : Nat} (hn : np = ps.length) (h8 : np ≤ 8) (h0 : 0 ≤ idx) (hi : idx < 2 ^ np) : verB pub m (wrap64 (idx + wrap64 (2 ^ np))) sig ps = false := by
  obtain ⟨h1, h256⟩ := pow_int np h8
  have e : wrap64 (idx + wrap64 (2 ^ np)) = idx + 2 ^ np := by
    rw [wrap_pow np h8]
    exact wrap_id (by omega) (by omega)
  have : ¬ (idx + (2 : Int) ^ np < 2 ^ np) := by omega
  rw [e, hn] at *
  unfold verB formed
  simp only [decide_eq_false this, Bool.and_false, Bool.false_and]
theorem ver_below (pub m : B) {idx : Int} (sig ps : List B) {np : Nat} (h8 : np ≤ 8) (h0 : 0 ≤ idx) (hi : idx < 2 ^ np) : verB pub m (wrap64 (idx - wrap64 (2 ^ np))) sig ps = false := by
  obtain ⟨h1, h256⟩ := pow_int np h8
  have e : wrap64 (idx - wrap64 (2 ^ np)) = idx - 2 ^ np := by
    rw [wrap_pow np h8]
    exact wrap_id (by omega) (by omega)
  have : ¬ (0 ≤ idx - (2 : Int) ^ np) := by omega
  rw [e]
  unfold verB formed
  simp only [decide_eq_false this, Bool.and_false, Bool.false_and]
theorem isDig_root (m : B) (i : Nat) (sig ps : List B) : isDig (rootBy m i sig ps) = true := isDig_val _ _ _ (isDig_dl _) _
set_option maxRecDepth 100000 in
set_option maxHeartbeats 4000000 in
theorem form_any (pub m : B) (idx : Int) (a p : Option Addr) (na ca np cp : Nat) (sig ps : List B) (w : World) (ht : Tab w) (hl : Txt w w.heap.size a sig) (hp : Txt w w.heap.size p ps) (hna : na = sig.length) (hnp : np = ps.length)
    (h1 : na ≤ ca) (h2 : ca ≤ maxLen) (h3 : np ≤ cp) (h4 : cp ≤ maxLen) (hi1 : -9223372036854775808 ≤ idx) (hi2 : idx ≤ 9223372036854775807) :
    Calls Tryd.prog 9 #[.string ⟨pub.toArray⟩, .string ⟨m.toArray⟩, .agg #[.int .i64 idx, .slice a na ca, .slice p np cp]] w fun e w' => e = .returned (.bool true) ∧ Below w.heap.size w w' := by
  have HNA := Lib.hid hna
  have HNP := Lib.hid hnp
  have hm1 : na ≤ maxLen := by omega
  have hm2 : np ≤ maxLen := by omega
  have HM1 := Lib.hid hm1
  have HM2 := Lib.hid hm2
  unfold maxLen at h2 h4
  have RB := IsRow.made w 24 #[.int .i64 idx, .slice a na ca, .slice p np cp]
  have bn := below_new w (.cells #[.int .i64 idx, .slice a na ca, .slice p np cp] 24)
  have HT := Lib.hid (Tab.at_ ht bn)
  have HL := Lib.hid (hl.later bn)
  have HP := Lib.hid (hp.later bn)
  have HRB := Lib.hid RB
  have HBN := Lib.hid bn
  clear hna hnp ht hl hp RB bn hm1 hm2
  go_enter Tryd.func9, Tryd.ntmps9
  go_wp2_with fail
  refine (head_any _ HT.out).mono ?_
  rintro e w1 ⟨rfl, hb1⟩
  have T1 := Lib.hid (Tab.at_ HT.out hb1)
  have L1 := Lib.hid (HL.out.later hb1)
  have P1 := Lib.hid (HP.out.later hb1)
  have R1 := Lib.hid (HRB.out.below hb1 HRB.out.inside)
  have B1 : Hid (Below w.heap.size w w1) := HBN.out.trans (hb1.mono HBN.out.size)
  clear HT HL HP HRB HBN hb1
  go_wp2_with fail
  have bx := below_new w1 (.cells #[.string ⟨pub.toArray⟩, .string ⟨m.toArray⟩] 9)
  obtain ⟨b, hb⟩ : ∃ b, upTo 300 [pub, m] = b := ⟨_, rfl⟩
  refine (short_of _ 2 2 [pub, m] b _ (row_two w1 pub m) rfl (by decide) hb).mono ?_
  rintro e w' ⟨rfl, rfl⟩
  have T2 := Lib.hid (Tab.at_ T1.out bx)
  have L2 := Lib.hid (L1.out.later bx)
  have P2 := Lib.hid (P1.out.later bx)
  have R2 := Lib.hid (R1.out.below bx R1.out.inside)
  have B2 := Lib.hid (B1.out.trans (bx.mono B1.out.size))
  have HB := Lib.hid hb
  clear T1 L1 P1 R1 B1 bx hb
  generalize hw2 : w1.alloc (.cells #[.string ⟨pub.toArray⟩, .string ⟨m.toArray⟩] 9) = w2 at *
  clear hw2
  obtain ⟨s0, s1, s2, _, _, _⟩ := store_facts R2.out
  cases b with
  | false =>
    go_wp2
    go_ret
    exact ⟨rfl, B2.out⟩
  | true =>
    have hsm := upTo_all HB.out
    have hpl : pub.length ≤ 300 := hsm pub (by simp)
    have hml : m.length ≤ 300 := hsm m (by simp)
    clear hsm
    go_wp2_with fail
    obtain ⟨b, hb⟩ : ∃ b, fewS sig ps = b := ⟨_, rfl⟩
    refine (few_of' idx a p na ca np cp sig ps b _ L2.out P2.out HNA.out HNP.out HM1.out HM2.out hb).mono ?_
    rintro e w3 ⟨rfl, hb3⟩
    have T3 := Lib.hid (Tab.at_ T2.out hb3)
    have L3 := Lib.hid (L2.out.later hb3)
    have P3 := Lib.hid (P2.out.later hb3)
    have R3 := Lib.hid (R2.out.below hb3 R2.out.inside)
    have B3 := Lib.hid (B2.out.trans (hb3.mono B2.out.size))
    have HF := Lib.hid hb
    clear T2 L2 P2 R2 B2 hb3 hb s0 s1 s2
    obtain ⟨s0, s1, s2, _, _, _⟩ := store_facts R3.out
    cases b with
    | false =>
      go_wp2
      go_ret
      exact ⟨rfl, B3.out⟩
    | true =>
      obtain ⟨f1, f2, f3, f4⟩ := few_small HF.out
      have g1 : na ≤ 30 := by have := HNA.out; omega
      have g2 : np ≤ 30 := by have := HNP.out; omega
      have F1 : Hid (∀ x ∈ sig, x.length ≤ 1000) := fun x hx => Nat.le_trans (f1 x hx) (by decide)
      have F2 : Hid (∀ x ∈ ps, x.length ≤ 1000) := fun x hx => Nat.le_trans (f2 x hx) (by decide)
      clear f1 f2 f3 f4
      go_wp2_with fail
      obtain ⟨b, hb⟩ : ∃ b, verB pub m idx sig ps = b := ⟨_, rfl⟩
      refine (verify_of pub m _ _ idx a p na ca np cp sig ps b _ rfl rfl T3.out L3.out P3.out HNA.out HNP.out (by omega) (by omega) (by omega) F1.out F2.out hb).mono ?_
      rintro e w4 ⟨rfl, hb4⟩
      have T4 := Lib.hid (Tab.at_ T3.out hb4)
      have L4 := Lib.hid (L3.out.later hb4)
      have P4 := Lib.hid (P3.out.later hb4)
      have R4 := Lib.hid (R3.out.below hb4 R3.out.inside)
      have B4 := Lib.hid (B3.out.trans (hb4.mono B3.out.size))
      have HV := Lib.hid hb
      clear T3 L3 P3 R3 B3 hb4 hb s0 s1 s2
      obtain ⟨s0, s1, s2, _, _, _⟩ := store_facts R4.out
      cases b with
      | false =>
        go_wp2
        go_ret
        exact ⟨rfl, B4.out⟩
      | true =>
        obtain ⟨v1, v2, v3, v4, v5, v6, v7⟩ := verB_parts HV.out
        have hna18 : na = 18 := by have := HNA.out; omega
        subst hna18
        have hnp8 : np ≤ 8 := by have := HNP.out; omega
        have DP : Hid (isDig pub = true) := v7 ▸ isDig_root m idx.toNat sig ps
        have hp2 : ((2 ^ np : Nat) : Int) = 2 ^ np := by simp
        have hlt : idx < 2 ^ np := by rw [← HNP.out] at v4; omega
        have hw := wrap_pow np hnp8
        have HQ := Lib.hid hlt
        have HD8 := Lib.hid hnp8
        have d1 : decide ((8 : Int) < (np : Int)) = false := decide_eq_false (by omega)
        have d2 : decide (idx < 0) = false := decide_eq_false (by omega)
        have d3 : decide (wrap64 (2 ^ np) ≤ idx) = false := wrap_dec hnp8 hlt
        have V5 := Lib.hid v5
        have V6 := Lib.hid v6
        have HP2 := Lib.hid hp2
        have HW := Lib.hid hw
        have HV1 := Lib.hid v1
        have cD : ∀ d os, Calls Tryd.prog 20 #[.string ⟨pub.toArray⟩] (Sort.grow (redrawn w4 d) os) fun e w'' => e = .returned (.bool true) ∧ ∃ q : Regrown, w'' = Sort.grow (redrawn w4 q.d) q.os :=
          fun d os => Calls.regrown_of ((isDig_of pub true _ (by omega) DP.out).mono fun e w' ⟨he, hw⟩ => ⟨he, hw ▸ Below.refl _ _⟩)
        obtain ⟨k0, k1, k2⟩ := three_regrown R4.out
        clear v1 v2 v4 v5 v6 v7 hp2 hw hlt
        go_wp2_with fail
        refine wp_region_quiet_below (by kernel_rfl) (by kernel_rfl) ?_
        repeat (first | go_big_quiet_step (first | with_reducible exact cD _ _) | quiet_step (first | with_reducible exact cD _ _))
        refine wpQuiet_nil ?_
        intro _ hw'
        obtain ⟨⟨dq, osq⟩, hw''⟩ := hw'
        subst hw''
        have bq := below_regrown w4 dq osq
        have T5 := Lib.hid (Tab.at_ T4.out bq)
        have L5 := Lib.hid (L4.out.later bq)
        have P5 := Lib.hid (P4.out.later bq)
        have R5 := Lib.hid (R4.out.below bq R4.out.inside)
        have B5 := Lib.hid (B4.out.trans (bq.mono B4.out.size))
        clear T4 L4 P4 R4 B4 bq k0 k1 k2 cD s0 s1 s2 d1 d2 d3
        generalize Sort.grow (redrawn w4 dq) osq = w5 at *
        obtain ⟨s0, s1, s2, _, _, _⟩ := store_facts R5.out
        go_wp2
        go_loop [8] (fun i => ∃ k : Nat, k ≤ 18 ∧ i = .int .i64 k) (fun i => 18 - (intOf i).toNat)
        case atStart => exact ⟨0, by omega, rfl⟩
        case round =>
          obtain ⟨k, hk, rfl⟩ := hrel
          by_cases hlt : k < 18
          · obtain ⟨b, off, rfl, _, c1⟩ := L5.out.at_ (k := k) (by rw [HV1.out]; exact hlt)
            have hd : isDig (sig.getD k []) = true := List.all_eq_true.1 V5.out _ (getD_mem (by rw [HV1.out]; exact hlt))
            have HD := Lib.hid hd
            have hsz := getD_small F1.out k
            clear hd
            generalize sig.getD k [] = x at *
            go_wp2_with fail
            refine (isDig_of x true _ (by omega) HD.out).mono ?_
            rintro e w' ⟨rfl, rfl⟩
            go_wp2
            go_round
            case rel => exact ⟨k + 1, by omega, by go_num⟩
            case measure => simp [intOf]; omega
          · obtain rfl : k = 18 := by omega
            clear hk hlt
            go_wp2
            go_loop [9] (fun i => ∃ k : Nat, k ≤ np ∧ i = .int .i64 k) (fun i => np - (intOf i).toNat)
            case atStart => exact ⟨0, by omega, rfl⟩
            case round =>
              obtain ⟨k, hk, rfl⟩ := hrel
              by_cases hlt : k < np
              · obtain ⟨b, off, rfl, _, c1⟩ := P5.out.at_ (k := k) (by rw [← HNP.out]; exact hlt)
                have hd : isDig (ps.getD k []) = true := List.all_eq_true.1 V6.out _ (getD_mem (by rw [← HNP.out]; exact hlt))
                have HD := Lib.hid hd
                have hsz := getD_small F2.out k
                clear hd
                generalize ps.getD k [] = x at *
                go_wp2_with fail
                refine (isDig_of x true _ (by omega) HD.out).mono ?_
                rintro e w' ⟨rfl, rfl⟩
                go_wp2
                go_round
                case rel => exact ⟨k + 1, by omega, by go_num⟩
                case measure => simp [intOf]; omega
              · obtain rfl : k = np := by omega
                clear hk hlt
                obtain ⟨ba, oa, rfl, _, _⟩ := L5.out.at_ (k := 0) (by rw [HV1.out]; decide)
                have q0 := fun o1 o2 o3 => (three_allocs R5.out o1 o2 o3).1
                have q1 := fun o1 o2 o3 => (three_allocs R5.out o1 o2 o3).2.1
                have q2 := fun o1 o2 o3 => (three_allocs R5.out o1 o2 o3).2.2
                have hlt5 : w.heap.size < w5.heap.size := R5.out.inside
                have d1 := World.new_ne w5 _ s0
                go_wp2_with fail
                go_region
                go_wp2_with fail
                go_region
                go_wp2_with fail
                have VF : Hid (verB pub m (wrap64 (idx + wrap64 (2 ^ k))) sig ps = false) := ver_far pub m sig ps HNP.out hnp8 v3 HQ.out
                have VB : Hid (verB pub m (wrap64 (idx - wrap64 (2 ^ k))) sig ps = false) := ver_below pub m sig ps hnp8 v3 HQ.out
                obtain ⟨X, hX⟩ : ∃ X, (((w5.alloc (.cells #[.int .i64 idx, .slice (some ⟨ba, oa, none⟩) 17 ca, .slice p k cp] 24)).alloc (.cells #[.int .i64 (wrap64 (idx + wrap64 (2 ^ k))), .slice (some ⟨ba, oa, none⟩) 18 ca, .slice p k cp] 24)).alloc
                  (.cells #[.int .i64 (wrap64 (idx - wrap64 (2 ^ k))), .slice (some ⟨ba, oa, none⟩) 18 ca, .slice p k cp] 24)).drew.drew = X := ⟨_, rfl⟩
                obtain ⟨hk3, bX⟩ := keep3_of hX T5.out L5.out P5.out
                have H6 := Lib.hid hk3
                have B6 := Lib.hid (B5.out.trans (bX.mono B5.out.size))
                rw [hX]
                clear hX hk3 bX q0 q1 q2 d1 s0 s1 s2 T5 L5 P5 R5 B5
                have h17 : (sig.take 17).length = 17 := by rw [List.length_take, HV1.out]; rfl
                refine (verify_of pub m _ _ idx _ p 17 ca k cp (sig.take 17) ps false _ rfl rfl H6.out.tab (H6.out.ts.take 17) H6.out.tp h17.symm HNP.out (by omega) (by decide) (by omega) (take_small F1.out 17) F2.out (ver_len _ _ _ _ _ (by rw [h17]; decide))).mono ?_
                rintro e w7 ⟨rfl, hb7⟩
                have H7 := Lib.hid (H6.out.later hb7)
                have B7 := Lib.hid (B6.out.trans (hb7.mono B6.out.size))
                clear H6 B6 hb7 h17
                obtain ⟨x0, x1, x2, _, _, _⟩ := store_facts H7.out.r1
                obtain ⟨y0, y1, y2, _, _, _⟩ := store_facts H7.out.r2
                obtain ⟨z0, z1, z2, _, _, _⟩ := store_facts H7.out.r3
                go_wp2_with fail
                refine (verify_of pub m _ _ _ _ p 18 ca k cp sig ps false _ rfl rfl H7.out.tab H7.out.ts H7.out.tp HNA.out HNP.out (by omega) (by decide) (by omega) F1.out F2.out VF.out).mono ?_
                rintro e w8 ⟨rfl, hb8⟩
                have H8 := Lib.hid (H7.out.later hb8)
                have B8 := Lib.hid (B7.out.trans (hb8.mono B7.out.size))
                clear H7 B7 hb8 x0 x1 x2 y0 y1 y2 z0 z1 z2
                obtain ⟨x0, x1, x2, _, _, _⟩ := store_facts H8.out.r1
                obtain ⟨y0, y1, y2, _, _, _⟩ := store_facts H8.out.r2
                obtain ⟨z0, z1, z2, _, _, _⟩ := store_facts H8.out.r3
                go_wp2_with fail
                refine (verify_of pub m _ _ _ _ p 18 ca k cp sig ps false _ rfl rfl H8.out.tab H8.out.ts H8.out.tp HNA.out HNP.out (by omega) (by decide) (by omega) F1.out F2.out VB.out).mono ?_
                rintro e w9 ⟨rfl, hb9⟩
                have B9 := Lib.hid (B8.out.trans (hb9.mono B8.out.size))
                clear H8 B8 hb9 x0 x1 x2 y0 y1 y2 z0 z1 z2
                go_wp2
                go_ret
                exact ⟨rfl, B9.out⟩
end Go.Proofs.YtmladmljibcagaaDoor.Sl
