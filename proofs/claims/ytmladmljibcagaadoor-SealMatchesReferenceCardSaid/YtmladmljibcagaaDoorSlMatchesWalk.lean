/- P2.1, SealMatchesReference: its walk. -/
import Derived.Test.YtmladmljibcagaaDoorSlRefSign
import Derived.Test.YtmladmljibcagaaDoorSlRefVerify
namespace Go.Proofs.YtmladmljibcagaaDoor.Sl
open Go.RowKit
open Go.Proofs.YtmladmljibcagaaDoor.Dg hiding intOf

/-- what Public answers. -/
def pubR (sec : B) (h : Int) : B × Int := if 0 ≤ h ∧ h ≤ 8 then (pubOf sec h.toNat, 0) else ([], 1)
theorem public_all (sec : B) (h : Int) (P : B) (E : Int) (w : World) (ht : Tab w) (hs : sec.length ≤ 1000) (hP : (pubR sec h).1 = P) (hE : (pubR sec h).2 = E) :
    Calls Tryd.prog 13 #[.string ⟨sec.toArray⟩, .int .i64 h] w fun e w' => e = .returned (.tuple #[.string ⟨P.toArray⟩, .int .i64 E]) ∧ Below w.heap.size w w' := by
  subst hP hE
  unfold pubR
  by_cases hh : 0 ≤ h ∧ h ≤ 8
  · rw [if_pos hh]
    obtain ⟨n, rfl⟩ : ∃ n : Nat, h = (n : Int) := ⟨h.toNat, by omega⟩
    exact public_any sec n w ht hs (by omega)
  · rw [if_neg hh]
    exact (public_no sec h w (by omega)).mono fun e w' ⟨a, b⟩ => ⟨a, b ▸ Below.refl _ _⟩
theorem refpublic_all (sec : B) (h : Int) (P : B) (E : Int) (w : World) (hs : sec.length ≤ 1000) (hP : (pubR sec h).1 = P) (hE : (pubR sec h).2 = E) :
    Calls Tryd.prog 14 #[.string ⟨sec.toArray⟩, .int .i64 h] w fun e w' => e = .returned (.tuple #[.string ⟨P.toArray⟩, .int .i64 E]) ∧ Below w.heap.size w w' := by
  subst hP hE
  unfold pubR
  by_cases hh : 0 ≤ h ∧ h ≤ 8
  · rw [if_pos hh]
    obtain ⟨n, rfl⟩ : ∃ n : Nat, h = (n : Int) := ⟨h.toNat, by omega⟩
    exact refpublic_any sec n w hs (by omega)
  · rw [if_neg hh]
    exact (refpublic_no sec h w (by omega)).mono fun e w' ⟨a, b⟩ => ⟨a, b ▸ Below.refl _ _⟩
/-- what Sign answers: the index, the texts of Sig and Path, the error. -/
def signR (sec m : B) (h i : Int) : Int × List B × List B × Int := if (0 ≤ h ∧ h ≤ 8) ∧ inB i h.toNat = true then (i, sigOf sec i.toNat m, pathOf sec h.toNat i.toNat, 0) else (0, [], [], 1)
theorem in_parts {i : Int} {n : Nat} (h : inB i n = true) : ∃ k : Nat, i = (k : Int) ∧ k < 2 ^ n := by
  unfold inB at h
  simp only [Bool.and_eq_true, decide_eq_true_eq] at h
  have e : ((2 ^ n : Nat) : Int) = 2 ^ n := by simp
  rw [← e] at h
  exact ⟨i.toNat, by omega, by omega⟩
theorem sign_all (sec m : B) (h i : Int) (I : Int) (S P : List B) (E : Int) (w : World) (ht : Tab w) (hs : sec.length ≤ 1000) (hm : m.length ≤ 1000) (hr : signR sec m h i = (I, S, P, E)) :
    Calls Tryd.prog 15 #[.string ⟨sec.toArray⟩, .int .i64 h, .int .i64 i, .string ⟨m.toArray⟩] w fun e w' => ∃ a na c p np cp, e = .returned (.tuple #[.agg #[.int .i64 I, .slice a na c, .slice p np cp], .int .i64 E]) ∧
      Txt w' w'.heap.size a S ∧ Txt w' w'.heap.size p P ∧ na = S.length ∧ np = P.length ∧ na ≤ maxLen ∧ np ≤ maxLen ∧ Below w.heap.size w w' := by
  unfold signR at hr
  by_cases hc : (0 ≤ h ∧ h ≤ 8) ∧ inB i h.toNat = true
  · rw [if_pos hc] at hr
    obtain ⟨n, rfl⟩ : ∃ n : Nat, h = (n : Int) := ⟨h.toNat, by omega⟩
    rw [Int.toNat_natCast] at hc hr
    obtain ⟨k, rfl, hk⟩ := in_parts hc.2
    rw [Int.toNat_natCast] at hr
    injection hr with e1 e2
    injection e2 with e2 e3
    injection e3 with e3 e4
    subst e1 e2 e3 e4
    refine (sign_any sec m n k w ht hs hm (by omega) hk).mono ?_
    rintro e w' ⟨a, c, p, cp, rfl, h1, h2, h3, h4, hb⟩
    exact ⟨a, 18, c, p, n, cp, rfl, h1, h2, (sigOf_len _ _ _).symm, (path_len _ _ _).symm, by decide, by unfold maxLen; omega, hb⟩
  · rw [if_neg hc] at hr
    injection hr with e1 e2
    injection e2 with e2 e3
    injection e3 with e3 e4
    subst e1 e2 e3 e4
    refine (sign_no sec m h i w ?_).mono ?_
    · by_cases hh : 0 ≤ h ∧ h ≤ 8
      · refine .inr ⟨h.toNat, by omega, by omega, ?_⟩
        cases hb : inB i h.toNat with
        | false => rfl
        | true => exact absurd ⟨hh, hb⟩ hc
      · left; simp; omega
    · rintro e w' ⟨rfl, hb⟩
      exact ⟨none, 0, 0, none, 0, 0, rfl, Txt.none_, Txt.none_, rfl, rfl, by decide, by decide, hb⟩
theorem refsign_all (sec m : B) (h i : Int) (I : Int) (S P : List B) (E : Int) (w : World) (hs : sec.length ≤ 1000) (hm : m.length ≤ 1000) (hr : signR sec m h i = (I, S, P, E)) :
    Calls Tryd.prog 16 #[.string ⟨sec.toArray⟩, .int .i64 h, .int .i64 i, .string ⟨m.toArray⟩] w fun e w' => ∃ a na c p np cp, e = .returned (.tuple #[.agg #[.int .i64 I, .slice a na c, .slice p np cp], .int .i64 E]) ∧
      Txt w' w'.heap.size a S ∧ Txt w' w'.heap.size p P ∧ na = S.length ∧ np = P.length ∧ na ≤ maxLen ∧ np ≤ maxLen ∧ Below w.heap.size w w' := by
  unfold signR at hr
  by_cases hc : (0 ≤ h ∧ h ≤ 8) ∧ inB i h.toNat = true
  · rw [if_pos hc] at hr
    obtain ⟨n, rfl⟩ : ∃ n : Nat, h = (n : Int) := ⟨h.toNat, by omega⟩
    rw [Int.toNat_natCast] at hc hr
    obtain ⟨k, rfl, hk⟩ := in_parts hc.2
    rw [Int.toNat_natCast] at hr
    injection hr with e1 e2
    injection e2 with e2 e3
    injection e3 with e3 e4
    subst e1 e2 e3 e4
    refine (refsign_any sec m n k w hs hm (by omega) hk).mono ?_
    rintro e w' ⟨a, c, p, cp, rfl, h1, h2, h3, h4, hb⟩
    exact ⟨a, 18, c, p, n, cp, rfl, h1, h2, (sigOf_len _ _ _).symm, (path_len _ _ _).symm, by decide, by unfold maxLen; omega, hb⟩
  · rw [if_neg hc] at hr
    injection hr with e1 e2
    injection e2 with e2 e3
    injection e3 with e3 e4
    subst e1 e2 e3 e4
    refine (refsign_no sec m h i w ?_).mono ?_
    · by_cases hh : 0 ≤ h ∧ h ≤ 8
      · refine .inr (.inr ⟨h.toNat, by omega, by omega, ?_⟩)
        cases hb : inB i h.toNat with
        | false => rfl
        | true => exact absurd ⟨hh, hb⟩ hc
      · omega
    · rintro e w' ⟨rfl, hb⟩
      exact ⟨none, 0, 0, none, 0, 0, rfl, Txt.none_, Txt.none_, rfl, rfl, by decide, by decide, hb⟩
set_option maxRecDepth 100000 in
set_option maxHeartbeats 8000000 in
theorem matches_any (sec m pub : B) (h i : Int) (idx : Int) (a p : Option Addr) (na ca np cp : Nat) (sig ps : List B) (w : World) (ht : Tab w) (hl : Txt w w.heap.size a sig) (hp : Txt w w.heap.size p ps) (hna : na = sig.length) (hnp : np = ps.length)
    (h1 : na ≤ ca) (h2 : ca ≤ maxLen) (h3 : np ≤ cp) (h4 : cp ≤ maxLen) :
    Calls Tryd.prog 3 #[.string ⟨sec.toArray⟩, .int .i64 h, .int .i64 i, .string ⟨m.toArray⟩, .string ⟨pub.toArray⟩, .agg #[.int .i64 idx, .slice a na ca, .slice p np cp]] w fun e w' => e = .returned (.bool true) ∧ Below w.heap.size w w' := by
  have HNA := Lib.hid hna
  have HNP := Lib.hid hnp
  have hm1 : na ≤ maxLen := by omega
  have hm2 : np ≤ maxLen := by omega
  have HM1 := Lib.hid hm1
  have HM2 := Lib.hid hm2
  unfold maxLen at h2 h4
  have RB := IsRow.made w 24 #[.int .i64 idx, .slice a na ca, .slice p np cp]
  have bn := below_new w (.cells #[.int .i64 idx, .slice a na ca, .slice p np cp] 24)
  have HT := Lib.hid (Tab.at_ ht bn)
  have HL := Lib.hid (hl.later bn)
  have HP := Lib.hid (hp.later bn)
  have HRB := Lib.hid RB
  have HBN := Lib.hid bn
  clear hna hnp ht hl hp RB bn hm1 hm2
  go_enter Tryd.func3, Tryd.ntmps3
  go_wp2_with fail
  refine (head_any _ HT.out).mono ?_
  rintro e w1 ⟨rfl, hb1⟩
  have T1 := Lib.hid (Tab.at_ HT.out hb1)
  have L1 := Lib.hid (HL.out.later hb1)
  have P1 := Lib.hid (HP.out.later hb1)
  have R1 := Lib.hid (HRB.out.below hb1 HRB.out.inside)
  have B1 : Hid (Below w.heap.size w w1) := HBN.out.trans (hb1.mono HBN.out.size)
  clear HT HL HP HRB HBN hb1
  go_wp2_with fail
  have bx := below_new w1 (.cells #[.string ⟨sec.toArray⟩, .string ⟨m.toArray⟩, .string ⟨pub.toArray⟩] 9)
  obtain ⟨b, hb⟩ : ∃ b, upTo 300 [sec, m, pub] = b := ⟨_, rfl⟩
  refine (short_of _ 3 3 [sec, m, pub] b _ (row_three w1 sec m pub) rfl (by decide) hb).mono ?_
  rintro e w' ⟨rfl, rfl⟩
  have T2 := Lib.hid (Tab.at_ T1.out bx)
  have L2 := Lib.hid (L1.out.later bx)
  have P2 := Lib.hid (P1.out.later bx)
  have R2 := Lib.hid (R1.out.below bx R1.out.inside)
  have B2 := Lib.hid (B1.out.trans (bx.mono B1.out.size))
  have HB := Lib.hid hb
  clear T1 L1 P1 R1 B1 bx hb
  generalize hw2 : w1.alloc (.cells #[.string ⟨sec.toArray⟩, .string ⟨m.toArray⟩, .string ⟨pub.toArray⟩] 9) = w2 at *
  clear hw2
  obtain ⟨s0, s1, s2, _, _, _⟩ := store_facts R2.out
  cases b with
  | false =>
    go_wp2
    go_ret
    exact ⟨rfl, B2.out⟩
  | true =>
    have hsm := upTo_all HB.out
    have hpl : sec.length ≤ 300 := hsm sec (by simp)
    have hml : m.length ≤ 300 := hsm m (by simp)
    have hul : pub.length ≤ 300 := hsm pub (by simp)
    clear hsm
    go_wp2_with fail
    obtain ⟨b, hb⟩ : ∃ b, fewS sig ps = b := ⟨_, rfl⟩
    refine (few_of' idx a p na ca np cp sig ps b _ L2.out P2.out HNA.out HNP.out HM1.out HM2.out hb).mono ?_
    rintro e w3 ⟨rfl, hb3⟩
    have T3 := Lib.hid (Tab.at_ T2.out hb3)
    have L3 := Lib.hid (L2.out.later hb3)
    have P3 := Lib.hid (P2.out.later hb3)
    have R3 := Lib.hid (R2.out.below hb3 R2.out.inside)
    have B3 := Lib.hid (B2.out.trans (hb3.mono B2.out.size))
    have HF := Lib.hid hb
    clear T2 L2 P2 R2 B2 hb3 hb s0 s1 s2
    obtain ⟨s0, s1, s2, _, _, _⟩ := store_facts R3.out
    cases b with
    | false =>
      go_wp2
      go_ret
      exact ⟨rfl, B3.out⟩
    | true =>
      obtain ⟨f1, f2, f3, f4⟩ := few_small HF.out
      have g1 : na ≤ 30 := by have := HNA.out; omega
      have g2 : np ≤ 30 := by have := HNP.out; omega
      have F1 : Hid (∀ x ∈ sig, x.length ≤ 1000) := fun x hx => Nat.le_trans (f1 x hx) (by decide)
      have F2 : Hid (∀ x ∈ ps, x.length ≤ 1000) := fun x hx => Nat.le_trans (f2 x hx) (by decide)
      clear f1 f2 f3 f4
      by_cases hbig : 3 < h ∧ h ≤ 8
      · obtain ⟨g3, g4⟩ := hbig
        go_wp2
        go_ret
        exact ⟨rfl, B3.out⟩
      · obtain ⟨PB, hPB⟩ : ∃ PB, (pubR sec h).1 = PB := ⟨_, rfl⟩
        obtain ⟨EB, hEB⟩ : ∃ EB, (pubR sec h).2 = EB := ⟨_, rfl⟩
        obtain ⟨⟨SI, SS, SP, SE⟩, hS⟩ : ∃ r, signR sec m h i = r := ⟨_, rfl⟩
        have g5 : (decide (3 < h) && decide (h ≤ 8)) = false := by simp; omega
        have HPB := Lib.hid hPB
        have HEB := Lib.hid hEB
        have HS := Lib.hid hS
        clear hPB hEB hS
        by_cases g3 : 3 < h
        · have g4 : ¬ h ≤ 8 := by omega
          go_wp2_with fail
          refine (public_all sec h PB EB _ T3.out (by omega) HPB.out HEB.out).mono ?_
          rintro e w4 ⟨rfl, hb4⟩
          have T4 := Lib.hid (Tab.at_ T3.out hb4)
          have V4 : Hid (VS w w4 idx a p na ca np cp sig ps) := ⟨R3.out.below hb4 R3.out.inside, L3.out.later hb4, P3.out.later hb4, B3.out.trans (hb4.mono B3.out.size)⟩
          clear T3 L3 P3 R3 B3 hb4 s0 s1 s2
          go_wp2_with fail
          refine (refpublic_all sec h PB EB _ (by omega) HPB.out HEB.out).mono ?_
          rintro e w5 ⟨rfl, hb5⟩
          have T5 := Lib.hid (Tab.at_ T4.out hb5)
          have V5 := Lib.hid (V4.out.later hb5)
          clear T4 V4 hb5
          go_wp2_with fail
          refine (sign_all sec m h i SI SS SP SE _ T5.out (by omega) (by omega) HS.out).mono ?_
          rintro e w6 ⟨a1, n1, c1, p1, m1, d1, rfl, x1, x2, x3, x4, x5, x6, hb6⟩
          have bx := below_new w6 (.cells #[.int .i64 SI, .slice a1 n1 c1, .slice p1 m1 d1] 24)
          have by_ := hb6.trans (bx.mono hb6.size)
          have R18 := Lib.hid (IsRow.made w6 24 #[.int .i64 SI, .slice a1 n1 c1, .slice p1 m1 d1])
          have T6 := Lib.hid (Tab.at_ T5.out by_)
          have V6 := Lib.hid (V5.out.later by_)
          have X1 := Lib.hid (x1.later bx)
          have X2 := Lib.hid (x2.later bx)
          have X3 := Lib.hid x3
          have X4 := Lib.hid x4
          have X5 := Lib.hid x5
          have X6 := Lib.hid x6
          clear T5 V5 hb6 bx by_ x1 x2 x3 x4 x5 x6
          go_wp2_with fail
          generalize hW : w6.alloc (.cells #[.int .i64 SI, .slice a1 n1 c1, .slice p1 m1 d1] 24) = W6 at *
          clear hW
          refine (refsign_all sec m h i SI SS SP SE _ (by omega) (by omega) HS.out).mono ?_
          rintro e w7 ⟨a2, n2, c2, p2, m2, d2, rfl, y1, y2, y3, y4, y5, y6, hb7⟩
          have bx := below_new w7 (.cells #[.int .i64 SI, .slice a2 n2 c2, .slice p2 m2 d2] 24)
          have by_ := hb7.trans (bx.mono hb7.size)
          have R20 := IsRow.made w7 24 #[.int .i64 SI, .slice a2 n2 c2, .slice p2 m2 d2]
          have R18' := R18.out.below by_ R18.out.inside
          have T7 := Lib.hid (Tab.at_ T6.out by_)
          have V7 := Lib.hid (V6.out.later by_)
          have X1' := Lib.hid (X1.out.later by_)
          have X2' := Lib.hid (X2.out.later by_)
          have Y1 := Lib.hid (y1.later bx)
          have Y2 := Lib.hid (y2.later bx)
          have Y3 := Lib.hid y3
          have Y4 := Lib.hid y4
          clear T6 V6 hb7 bx by_ y1 y2 y3 y4 y5 y6 X1 X2 R18
          obtain ⟨s0, s1, s2, _, _, _⟩ := store_facts R18'
          obtain ⟨t0, t1, t2, _, _, _⟩ := store_facts R20
          clear R18' R20
          go_wp2_with fail
          generalize hW : w7.alloc (.cells #[.int .i64 SI, .slice a2 n2 c2, .slice p2 m2 d2] 24) = W7 at *
          clear hW s0 s1 s2 t0 t1 t2
          refine (refsame_eq SI SI a1 p1 a2 p2 n1 c1 m1 d1 n2 c2 m2 d2 SS SP SS SP true _ X1'.out X2'.out Y1.out Y2.out X3.out X4.out Y3.out Y4.out X5.out X6.out (by simp)).mono ?_
          rintro e w8 ⟨rfl, hb8⟩
          have T8 := Lib.hid (Tab.at_ T7.out hb8)
          have V8 := Lib.hid (V7.out.later hb8)
          clear T7 V7 X1' X2' Y1 Y2 hb8
          obtain ⟨b1, hb1⟩ : ∃ b, verB pub m idx sig ps = b := ⟨_, rfl⟩
          obtain ⟨b2, hb2⟩ : ∃ b, verB PB m idx sig ps = b := ⟨_, rfl⟩
          have c1' : ∀ d os, Calls Tryd.prog 18 #[.string ⟨pub.toArray⟩, .string ⟨m.toArray⟩, .agg #[.int .i64 idx, .slice a na ca, .slice p np cp]] (Sort.grow (redrawn w8 d) os) fun e w'' => e = .returned (.bool b1) ∧ ∃ q : Regrown, w'' = Sort.grow (redrawn w8 q.d) q.os :=
            fun d os => Calls.regrown_of (hb1 ▸ verify_any pub m idx a p na ca np cp sig ps _ (Tab.at_ T8.out (below_regrown w8 d os)) (V8.out.ta.later (below_regrown w8 d os)) (V8.out.tp.later (below_regrown w8 d os)) HNA.out HNP.out (by omega) (by omega) (by omega) F1.out F2.out)
          have c2' : ∀ d os, Calls Tryd.prog 19 #[.string ⟨pub.toArray⟩, .string ⟨m.toArray⟩, .agg #[.int .i64 idx, .slice a na ca, .slice p np cp]] (Sort.grow (redrawn w8 d) os) fun e w'' => e = .returned (.bool b1) ∧ ∃ q : Regrown, w'' = Sort.grow (redrawn w8 q.d) q.os :=
            fun d os => Calls.regrown_of (hb1 ▸ refverify_any pub m idx a p na ca np cp sig ps _ (V8.out.ta.later (below_regrown w8 d os)) (V8.out.tp.later (below_regrown w8 d os)) HNA.out HNP.out (by omega) (by omega) (by omega) F1.out F2.out)
          have c3' : ∀ d os, Calls Tryd.prog 18 #[.string ⟨PB.toArray⟩, .string ⟨m.toArray⟩, .agg #[.int .i64 idx, .slice a na ca, .slice p np cp]] (Sort.grow (redrawn w8 d) os) fun e w'' => e = .returned (.bool b2) ∧ ∃ q : Regrown, w'' = Sort.grow (redrawn w8 q.d) q.os :=
            fun d os => Calls.regrown_of (hb2 ▸ verify_any PB m idx a p na ca np cp sig ps _ (Tab.at_ T8.out (below_regrown w8 d os)) (V8.out.ta.later (below_regrown w8 d os)) (V8.out.tp.later (below_regrown w8 d os)) HNA.out HNP.out (by omega) (by omega) (by omega) F1.out F2.out)
          have c4' : ∀ d os, Calls Tryd.prog 19 #[.string ⟨PB.toArray⟩, .string ⟨m.toArray⟩, .agg #[.int .i64 idx, .slice a na ca, .slice p np cp]] (Sort.grow (redrawn w8 d) os) fun e w'' => e = .returned (.bool b2) ∧ ∃ q : Regrown, w'' = Sort.grow (redrawn w8 q.d) q.os :=
            fun d os => Calls.regrown_of (hb2 ▸ refverify_any PB m idx a p na ca np cp sig ps _ (V8.out.ta.later (below_regrown w8 d os)) (V8.out.tp.later (below_regrown w8 d os)) HNA.out HNP.out (by omega) (by omega) (by omega) F1.out F2.out)
          obtain ⟨k0, k1, k2⟩ := three_regrown V8.out.row
          clear hb1 hb2
          go_wp2_with fail
          refine wp_region_quiet_below (by kernel_rfl) (by kernel_rfl) ?_
          repeat (first | go_big_quiet_step (first | with_reducible exact c1' _ _ | with_reducible exact c2' _ _ | with_reducible exact c3' _ _ | with_reducible exact c4' _ _) | quiet_step (first | with_reducible exact c1' _ _ | with_reducible exact c2' _ _ | with_reducible exact c3' _ _ | with_reducible exact c4' _ _))
          refine wpQuiet_nil ?_
          intro _ hw'
          obtain ⟨⟨dq, osq⟩, hw''⟩ := hw'
          subst hw''
          go_wp2
          go_ret
          exact ⟨ret_bool (by simp), V8.out.below.trans ((below_regrown w8 dq osq).mono V8.out.below.size)⟩
        · go_wp2_with fail
          refine (public_all sec h PB EB _ T3.out (by omega) HPB.out HEB.out).mono ?_
          rintro e w4 ⟨rfl, hb4⟩
          have T4 := Lib.hid (Tab.at_ T3.out hb4)
          have V4 : Hid (VS w w4 idx a p na ca np cp sig ps) := ⟨R3.out.below hb4 R3.out.inside, L3.out.later hb4, P3.out.later hb4, B3.out.trans (hb4.mono B3.out.size)⟩
          clear T3 L3 P3 R3 B3 hb4 s0 s1 s2
          go_wp2_with fail
          refine (refpublic_all sec h PB EB _ (by omega) HPB.out HEB.out).mono ?_
          rintro e w5 ⟨rfl, hb5⟩
          have T5 := Lib.hid (Tab.at_ T4.out hb5)
          have V5 := Lib.hid (V4.out.later hb5)
          clear T4 V4 hb5
          go_wp2_with fail
          refine (sign_all sec m h i SI SS SP SE _ T5.out (by omega) (by omega) HS.out).mono ?_
          rintro e w6 ⟨a1, n1, c1, p1, m1, d1, rfl, x1, x2, x3, x4, x5, x6, hb6⟩
          have bx := below_new w6 (.cells #[.int .i64 SI, .slice a1 n1 c1, .slice p1 m1 d1] 24)
          have by_ := hb6.trans (bx.mono hb6.size)
          have R18 := Lib.hid (IsRow.made w6 24 #[.int .i64 SI, .slice a1 n1 c1, .slice p1 m1 d1])
          have T6 := Lib.hid (Tab.at_ T5.out by_)
          have V6 := Lib.hid (V5.out.later by_)
          have X1 := Lib.hid (x1.later bx)
          have X2 := Lib.hid (x2.later bx)
          have X3 := Lib.hid x3
          have X4 := Lib.hid x4
          have X5 := Lib.hid x5
          have X6 := Lib.hid x6
          clear T5 V5 hb6 bx by_ x1 x2 x3 x4 x5 x6
          go_wp2_with fail
          generalize hW : w6.alloc (.cells #[.int .i64 SI, .slice a1 n1 c1, .slice p1 m1 d1] 24) = W6 at *
          clear hW
          refine (refsign_all sec m h i SI SS SP SE _ (by omega) (by omega) HS.out).mono ?_
          rintro e w7 ⟨a2, n2, c2, p2, m2, d2, rfl, y1, y2, y3, y4, y5, y6, hb7⟩
          have bx := below_new w7 (.cells #[.int .i64 SI, .slice a2 n2 c2, .slice p2 m2 d2] 24)
          have by_ := hb7.trans (bx.mono hb7.size)
          have R20 := IsRow.made w7 24 #[.int .i64 SI, .slice a2 n2 c2, .slice p2 m2 d2]
          have R18' := R18.out.below by_ R18.out.inside
          have T7 := Lib.hid (Tab.at_ T6.out by_)
          have V7 := Lib.hid (V6.out.later by_)
          have X1' := Lib.hid (X1.out.later by_)
          have X2' := Lib.hid (X2.out.later by_)
          have Y1 := Lib.hid (y1.later bx)
          have Y2 := Lib.hid (y2.later bx)
          have Y3 := Lib.hid y3
          have Y4 := Lib.hid y4
          clear T6 V6 hb7 bx by_ y1 y2 y3 y4 y5 y6 X1 X2 R18
          obtain ⟨s0, s1, s2, _, _, _⟩ := store_facts R18'
          obtain ⟨t0, t1, t2, _, _, _⟩ := store_facts R20
          clear R18' R20
          go_wp2_with fail
          generalize hW : w7.alloc (.cells #[.int .i64 SI, .slice a2 n2 c2, .slice p2 m2 d2] 24) = W7 at *
          clear hW s0 s1 s2 t0 t1 t2
          refine (refsame_eq SI SI a1 p1 a2 p2 n1 c1 m1 d1 n2 c2 m2 d2 SS SP SS SP true _ X1'.out X2'.out Y1.out Y2.out X3.out X4.out Y3.out Y4.out X5.out X6.out (by simp)).mono ?_
          rintro e w8 ⟨rfl, hb8⟩
          have T8 := Lib.hid (Tab.at_ T7.out hb8)
          have V8 := Lib.hid (V7.out.later hb8)
          clear T7 V7 X1' X2' Y1 Y2 hb8
          obtain ⟨b1, hb1⟩ : ∃ b, verB pub m idx sig ps = b := ⟨_, rfl⟩
          obtain ⟨b2, hb2⟩ : ∃ b, verB PB m idx sig ps = b := ⟨_, rfl⟩
          have c1' : ∀ d os, Calls Tryd.prog 18 #[.string ⟨pub.toArray⟩, .string ⟨m.toArray⟩, .agg #[.int .i64 idx, .slice a na ca, .slice p np cp]] (Sort.grow (redrawn w8 d) os) fun e w'' => e = .returned (.bool b1) ∧ ∃ q : Regrown, w'' = Sort.grow (redrawn w8 q.d) q.os :=
            fun d os => Calls.regrown_of (hb1 ▸ verify_any pub m idx a p na ca np cp sig ps _ (Tab.at_ T8.out (below_regrown w8 d os)) (V8.out.ta.later (below_regrown w8 d os)) (V8.out.tp.later (below_regrown w8 d os)) HNA.out HNP.out (by omega) (by omega) (by omega) F1.out F2.out)
          have c2' : ∀ d os, Calls Tryd.prog 19 #[.string ⟨pub.toArray⟩, .string ⟨m.toArray⟩, .agg #[.int .i64 idx, .slice a na ca, .slice p np cp]] (Sort.grow (redrawn w8 d) os) fun e w'' => e = .returned (.bool b1) ∧ ∃ q : Regrown, w'' = Sort.grow (redrawn w8 q.d) q.os :=
            fun d os => Calls.regrown_of (hb1 ▸ refverify_any pub m idx a p na ca np cp sig ps _ (V8.out.ta.later (below_regrown w8 d os)) (V8.out.tp.later (below_regrown w8 d os)) HNA.out HNP.out (by omega) (by omega) (by omega) F1.out F2.out)
          have c3' : ∀ d os, Calls Tryd.prog 18 #[.string ⟨PB.toArray⟩, .string ⟨m.toArray⟩, .agg #[.int .i64 idx, .slice a na ca, .slice p np cp]] (Sort.grow (redrawn w8 d) os) fun e w'' => e = .returned (.bool b2) ∧ ∃ q : Regrown, w'' = Sort.grow (redrawn w8 q.d) q.os :=
            fun d os => Calls.regrown_of (hb2 ▸ verify_any PB m idx a p na ca np cp sig ps _ (Tab.at_ T8.out (below_regrown w8 d os)) (V8.out.ta.later (below_regrown w8 d os)) (V8.out.tp.later (below_regrown w8 d os)) HNA.out HNP.out (by omega) (by omega) (by omega) F1.out F2.out)
          have c4' : ∀ d os, Calls Tryd.prog 19 #[.string ⟨PB.toArray⟩, .string ⟨m.toArray⟩, .agg #[.int .i64 idx, .slice a na ca, .slice p np cp]] (Sort.grow (redrawn w8 d) os) fun e w'' => e = .returned (.bool b2) ∧ ∃ q : Regrown, w'' = Sort.grow (redrawn w8 q.d) q.os :=
            fun d os => Calls.regrown_of (hb2 ▸ refverify_any PB m idx a p na ca np cp sig ps _ (V8.out.ta.later (below_regrown w8 d os)) (V8.out.tp.later (below_regrown w8 d os)) HNA.out HNP.out (by omega) (by omega) (by omega) F1.out F2.out)
          obtain ⟨k0, k1, k2⟩ := three_regrown V8.out.row
          clear hb1 hb2
          go_wp2_with fail
          refine wp_region_quiet_below (by kernel_rfl) (by kernel_rfl) ?_
          repeat (first | go_big_quiet_step (first | with_reducible exact c1' _ _ | with_reducible exact c2' _ _ | with_reducible exact c3' _ _ | with_reducible exact c4' _ _) | quiet_step (first | with_reducible exact c1' _ _ | with_reducible exact c2' _ _ | with_reducible exact c3' _ _ | with_reducible exact c4' _ _))
          refine wpQuiet_nil ?_
          intro _ hw'
          obtain ⟨⟨dq, osq⟩, hw''⟩ := hw'
          subst hw''
          go_wp2
          go_ret
          exact ⟨ret_bool (by simp), V8.out.below.trans ((below_regrown w8 dq osq).mono V8.out.below.size)⟩
end Go.Proofs.YtmladmljibcagaaDoor.Sl
