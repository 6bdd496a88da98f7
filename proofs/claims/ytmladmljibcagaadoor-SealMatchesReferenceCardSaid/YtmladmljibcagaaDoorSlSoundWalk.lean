/- P2.3, SealSound: its walk. -/
import Derived.Test.YtmladmljibcagaaDoorSlBindsWalk
namespace Go.Proofs.YtmladmljibcagaaDoor.Sl
open Go.RowKit
open Go.Proofs.YtmladmljibcagaaDoor.Dg hiding intOf

theorem checked_of8 (m : B) (s : ByteArray) (i : Int) (idx : Nat) (a p : Option Addr) (ca np cp : Nat) (sig ps : List B) (w0 w : World) (hw : Below w0.heap.size w0 w) (hs : s = ⟨m.toArray⟩) (hi0 : i = (idx : Int)) (hm : m.length ≤ 300) (hl : Hid (Txt w0 w0.heap.size a sig)) (hp : Hid (Txt w0 w0.heap.size p ps)) (h18 : Hid (sig.length = 18)) (hnp : Hid (np = ps.length)) (h8 : np ≤ 8)
    (hi : Hid (idx < 1000000)) (hx : Hid (∀ x ∈ sig, x.length ≤ 1000)) (hy : Hid (∀ x ∈ ps, x.length ≤ 1000)) :
    Calls Tryd.prog 24 #[.string s, .agg #[.int .i64 i, .slice a 18 ca, .slice p np cp]] w fun e w' => ∃ g nn c, e = .returned (.slice (some ⟨g, 0, none⟩) nn c) ∧ 0 < nn ∧ nn ≤ 5000 ∧ Hid (Own w' w.heap.size (.slice (some ⟨g, 0, none⟩) nn c) nn (checked m idx sig ps)) ∧ Below w.heap.size w w' := by
  subst hs hi0
  refine (checked_any m idx a p ca np cp sig ps w (by omega) (hl.out.later hw) (hp.out.later hw) h18.out hnp.out h8 hi.out hx.out hy.out).mono ?_
  rintro e w' ⟨a, nn, c, rfl, hn, ho, hb⟩
  have h0 : 0 < nn := by rw [ho.1]; exact List.length_pos_of_mem (mem_checked_ends m idx sig ps)
  obtain ⟨g, c', hv⟩ := ho.pos h0
  rw [hv] at ho ⊢
  exact ⟨g, nn, c', rfl, h0, hn, ho, hb⟩
theorem refsame_eq (x y : Int) (a p a' p' : Option Addr) (na ca np cp na' ca' np' cp' : Nat) (s q s' q' : List B) (r : Bool) (w : World) (h1 : Txt w w.heap.size a s) (h2 : Txt w w.heap.size p q) (h3 : Txt w w.heap.size a' s') (h4 : Txt w w.heap.size p' q')
    (n1 : na = s.length) (n2 : np = q.length) (n3 : na' = s'.length) (n4 : np' = q'.length) (l1 : na ≤ maxLen) (l2 : np ≤ maxLen) (hr : (decide (x = y) && (decide (s = s') && decide (q = q'))) = r) :
    Calls Tryd.prog 17 #[.agg #[.int .i64 x, .slice a na ca, .slice p np cp], .agg #[.int .i64 y, .slice a' na' ca', .slice p' np' cp']] w fun e w' => e = .returned (.bool r) ∧ Below w.heap.size w w' :=
  hr ▸ refsame_any x y a p a' p' na ca np cp na' ca' np' cp' s q s' q' w h1 h2 h3 h4 n1 n2 n3 n4 l1 l2
theorem coll_of {L : List B} {sec m : B} {h : Nat} {idx : Int} {sig ps : List B} (hv : verB (pubOf sec h) m idx sig ps = true) (hm : ∀ x ∈ made sec h 15, x ∈ L) (hc : ∀ x ∈ checked m idx.toNat sig ps, x ∈ L)
    (hne : ¬ (idx.toNat < 2 ^ h ∧ ps = pathOf sec h idx.toNat ∧ sig = sigOf sec idx.toNat m)) : Coll L := Classical.byContradiction fun hn => hne (sound hn hv hm hc)
theorem no_in {idx : Int} {h : Nat} (h0 : 0 ≤ idx) (hn : ¬ idx.toNat < 2 ^ h) : inB idx h = false := by
  unfold inB
  have e : ((2 ^ h : Nat) : Int) = 2 ^ h := by simp
  have : ¬ idx < (2 : Int) ^ h := by rw [← e]; omega
  rw [decide_eq_false this, Bool.and_false]
set_option maxRecDepth 100000 in
set_option maxHeartbeats 8000000 in
theorem sound_any (sec m : B) (r1 : UInt8) (idx : Int) (a p : Option Addr) (na ca np cp : Nat) (sig ps : List B) (w : World) (ht : Tab w) (hl : Txt w w.heap.size a sig) (hp : Txt w w.heap.size p ps) (hna : na = sig.length) (hnp : np = ps.length)
    (h1 : na ≤ ca) (h2 : ca ≤ maxLen) (h3 : np ≤ cp) (h4 : cp ≤ maxLen) :
    Calls Tryd.prog 5 #[.string ⟨sec.toArray⟩, .int .u8 r1.toNat, .string ⟨m.toArray⟩, .agg #[.int .i64 idx, .slice a na ca, .slice p np cp]] w fun e w' => e = .returned (.bool true) ∧ Below w.heap.size w w' := by
  have HNA := Lib.hid hna
  have HNP := Lib.hid hnp
  have hm1 : na ≤ maxLen := by omega
  have hm2 : np ≤ maxLen := by omega
  have HM1 := Lib.hid hm1
  have HM2 := Lib.hid hm2
  unfold maxLen at h2 h4
  have u1 := r1.toNat_lt
  obtain ⟨h, hh⟩ : ∃ h, r1.toNat % 3 = h := ⟨_, rfl⟩
  have hh2 : h ≤ 2 := by omega
  have HE1 : Hid ((r1.toNat : Int) % 3 = (h : Int)) := by show _ = _; omega
  have RB := IsRow.made w 24 #[.int .i64 idx, .slice a na ca, .slice p np cp]
  have bn := below_new w (.cells #[.int .i64 idx, .slice a na ca, .slice p np cp] 24)
  have HT := Lib.hid (Tab.at_ ht bn)
  have HL := Lib.hid (hl.later bn)
  have HP := Lib.hid (hp.later bn)
  have HRB := Lib.hid RB
  have HBN := Lib.hid bn
  clear hna hnp ht hl hp RB bn hm1 hm2 hh
  go_enter Tryd.func5, Tryd.ntmps5
  go_wp2_with fail
  refine (head_any _ HT.out).mono ?_
  rintro e w1 ⟨rfl, hb1⟩
  have T1 := Lib.hid (Tab.at_ HT.out hb1)
  have L1 := Lib.hid (HL.out.later hb1)
  have P1 := Lib.hid (HP.out.later hb1)
  have R1 := Lib.hid (HRB.out.below hb1 HRB.out.inside)
  have B1 : Hid (Below w.heap.size w w1) := HBN.out.trans (hb1.mono HBN.out.size)
  clear HT HL HP HRB HBN hb1
  go_wp2_with fail
  rw [HE1.out]
  clear HE1 u1
  have bx := below_new w1 (.cells #[.string ⟨sec.toArray⟩, .string ⟨m.toArray⟩] 9)
  obtain ⟨b, hb⟩ : ∃ b, upTo 300 [sec, m] = b := ⟨_, rfl⟩
  refine (short_of _ 2 2 [sec, m] b _ (row_two w1 sec m) rfl (by decide) hb).mono ?_
  rintro e w' ⟨rfl, rfl⟩
  have T2 := Lib.hid (Tab.at_ T1.out bx)
  have L2 := Lib.hid (L1.out.later bx)
  have P2 := Lib.hid (P1.out.later bx)
  have R2 := Lib.hid (R1.out.below bx R1.out.inside)
  have B2 := Lib.hid (B1.out.trans (bx.mono B1.out.size))
  have HB := Lib.hid hb
  clear T1 L1 P1 R1 B1 bx hb
  generalize hw2 : w1.alloc (.cells #[.string ⟨sec.toArray⟩, .string ⟨m.toArray⟩] 9) = w2 at *
  clear hw2
  obtain ⟨s0, s1, s2, _, _, _⟩ := store_facts R2.out
  cases b with
  | false =>
    go_wp2
    go_ret
    exact ⟨rfl, B2.out⟩
  | true =>
    have hsm := upTo_all HB.out
    have hpl : sec.length ≤ 300 := hsm sec (by simp)
    have hml : m.length ≤ 300 := hsm m (by simp)
    clear hsm
    go_wp2_with fail
    obtain ⟨b, hb⟩ : ∃ b, fewS sig ps = b := ⟨_, rfl⟩
    refine (few_of' idx a p na ca np cp sig ps b _ L2.out P2.out HNA.out HNP.out HM1.out HM2.out hb).mono ?_
    rintro e w3 ⟨rfl, hb3⟩
    have T3 := Lib.hid (Tab.at_ T2.out hb3)
    have L3 := Lib.hid (L2.out.later hb3)
    have P3 := Lib.hid (P2.out.later hb3)
    have R3 := Lib.hid (R2.out.below hb3 R2.out.inside)
    have B3 := Lib.hid (B2.out.trans (hb3.mono B2.out.size))
    have HF := Lib.hid hb
    clear T2 L2 P2 R2 B2 hb3 hb s0 s1 s2
    obtain ⟨s0, s1, s2, _, _, _⟩ := store_facts R3.out
    cases b with
    | false =>
      go_wp2
      go_ret
      exact ⟨rfl, B3.out⟩
    | true =>
      obtain ⟨f1, f2, f3, f4⟩ := few_small HF.out
      have g1 : na ≤ 30 := by have := HNA.out; omega
      have g2 : np ≤ 30 := by have := HNP.out; omega
      have F1 : Hid (∀ x ∈ sig, x.length ≤ 1000) := fun x hx => Nat.le_trans (f1 x hx) (by decide)
      have F2 : Hid (∀ x ∈ ps, x.length ≤ 1000) := fun x hx => Nat.le_trans (f2 x hx) (by decide)
      clear f1 f2 f3 f4
      go_wp2_with fail
      refine (public_of sec _ h _ _ rfl rfl T3.out (by omega) (by omega)).mono ?_
      rintro e w4 ⟨rfl, hb4⟩
      have T4 := Lib.hid (Tab.at_ T3.out hb4)
      have L4 := Lib.hid (L3.out.later hb4)
      have P4 := Lib.hid (P3.out.later hb4)
      have R4 := Lib.hid (R3.out.below hb4 R3.out.inside)
      have B4 := Lib.hid (B3.out.trans (hb4.mono B3.out.size))
      clear T3 L3 P3 R3 B3 hb4 s0 s1 s2
      obtain ⟨s0, s1, s2, _, _, _⟩ := store_facts R4.out
      go_wp2_with fail
      obtain ⟨b, hb⟩ : ∃ b, verB (pubOf sec h) m idx sig ps = b := ⟨_, rfl⟩
      refine (verify_of (pubOf sec h) m _ _ idx a p na ca np cp sig ps b _ rfl rfl T4.out L4.out P4.out HNA.out HNP.out (by omega) (by omega) (by omega) F1.out F2.out hb).mono ?_
      rintro e w5 ⟨rfl, hb5⟩
      have T5 := Lib.hid (Tab.at_ T4.out hb5)
      have L5 := Lib.hid (L4.out.later hb5)
      have P5 := Lib.hid (P4.out.later hb5)
      have R5 := Lib.hid (R4.out.below hb5 R4.out.inside)
      have B5 := Lib.hid (B4.out.trans (hb5.mono B4.out.size))
      have HV := Lib.hid hb
      clear T4 L4 P4 R4 B4 hb5 hb s0 s1 s2
      obtain ⟨s0, s1, s2, _, _, _⟩ := store_facts R5.out
      cases b with
      | false =>
        go_wp2
        go_ret
        exact ⟨rfl, B5.out⟩
      | true =>
        obtain ⟨v1, v2, v3, v4, v5, v6, v7⟩ := verB_parts HV.out
        have hna18 : na = 18 := by have := HNA.out; omega
        subst hna18
        have hnp8 : np ≤ 8 := by have := HNP.out; omega
        have HV1 := Lib.hid v1
        have HI6 : Hid (idx.toNat < 1000000) := Nat.lt_of_lt_of_le v4 (Nat.le_trans (Nat.pow_le_pow_right (by decide) v2) (by decide))
        have HI0 : Hid (idx = (idx.toNat : Int)) := (Int.toNat_of_nonneg v3).symm
        clear v1 v2 v4 v5 v6 v7
        go_wp2_with fail
        by_cases hgood : idx.toNat < 2 ^ h
        · have HGD := Lib.hid hgood
          refine (sign_of sec m _ _ h idx.toNat _ _ _ rfl HI0.out rfl rfl T5.out (by omega) (by omega) (by omega) hgood).mono ?_
          rintro e w6 ⟨a', c', p', cp', rfl, hta, htp, ⟨hc1, hc2⟩, ⟨hp1, hp2⟩, hb6⟩
          have bx := below_new w6 (.cells #[.int .i64 idx, .slice a' 18 c', .slice p' h cp'] 24)
          have by_ := hb6.trans (bx.mono hb6.size)
          have R13 := IsRow.made w6 24 #[.int .i64 idx, .slice a' 18 c', .slice p' h cp']
          have R6 := Lib.hid (R5.out.below by_ R5.out.inside)
          have L6 := Lib.hid (L5.out.later by_)
          have P6 := Lib.hid (P5.out.later by_)
          have X6 := Lib.hid (hta.later bx)
          have Y6 := Lib.hid (htp.later bx)
          have B6 := Lib.hid (B5.out.trans (by_.mono B5.out.size))
          clear T5 L5 P5 R5 B5 hb6 bx by_ hta htp s0 s1 s2 hgood
          obtain ⟨s0, s1, s2, _, _, _⟩ := store_facts R6.out
          obtain ⟨x0, x1, x2, _, _, _⟩ := store_facts R13
          clear R13
          unfold maxLen at hc2 hp2
          go_wp2_with fail
          generalize hW : w6.alloc (.cells #[.int .i64 idx, .slice a' 18 c', .slice p' h cp'] 24) = W6 at *
          clear hW s0 s1 s2 x0 x1 x2
          obtain ⟨b, hb⟩ : ∃ b, (decide (idx = idx) && (decide (sigOf sec idx.toNat m = sig) && decide (pathOf sec h idx.toNat = ps))) = b := ⟨_, rfl⟩
          refine (refsame_eq idx idx a' p' a p 18 c' h cp' 18 ca np cp (sigOf sec idx.toNat m) (pathOf sec h idx.toNat) sig ps b _ X6.out Y6.out L6.out P6.out (sigOf_len _ _ _).symm (path_len _ _ _).symm HV1.out.symm HNP.out (by decide) (by unfold maxLen; omega) hb).mono ?_
          rintro e w7 ⟨rfl, hb7⟩
          have L7 := Lib.hid (L6.out.later hb7)
          have P7 := Lib.hid (P6.out.later hb7)
          have R7 := Lib.hid (R6.out.below hb7 R6.out.inside)
          have B7 := Lib.hid (B6.out.trans (hb7.mono B6.out.size))
          have HSAME := Lib.hid hb
          clear R6 L6 P6 X6 Y6 B6 hb7 hb
          cases b with
          | true =>
            go_wp2
            go_ret
            exact ⟨rfl, B7.out⟩
          | false =>
            have HC : Hid (Coll (made sec h 15 ++ checked m idx.toNat sig ps)) := coll_of HV.out (fun x hx => List.mem_append.2 (.inl hx)) (fun x hx => List.mem_append.2 (.inr hx)) (fun hc => by have := HSAME.out; rw [← hc.2.1, ← hc.2.2] at this; simp at this)
            have S1 : Hid (∀ x ∈ made sec h 15 ++ checked m idx.toNat sig ps, x.length ≤ 100000) := mem_small (made_small sec h 15 (by omega) (by omega)) (checked_small m idx.toNat F1.out F2.out)
            obtain ⟨s0, s1, s2, _, _, _⟩ := store_facts R7.out
            go_wp2_with fail
            go_region_held3 (fun w' => w'.cell? ⟨w.heap.size, 0, none⟩ = some (.int .i64 idx) ∧ w'.cell? ⟨w.heap.size, 1, none⟩ = some (.slice a 18 ca) ∧ w'.cell? ⟨w.heap.size, 2, none⟩ = some (.slice p np cp)) (first | go_keep | exact KS)
              (first
                | (go_at_call 23; refine (made_of sec _ h 15 _ _ _ rfl rfl rfl (by omega) hh2 (by decide) (by decide)).mono ?_; rintro e wA ⟨a1, n1, c1, rfl, hn1, ho1, hb6⟩; have hbw : Below w7.heap.size w7 wA := Below.trans (below_drew' w7) hb6; have KS := And.intro (kept hbw s0) (And.intro (kept hbw s1) (kept hbw s2)))
                | (go_at_call 24; refine (checked_of8 m _ _ idx.toNat a p ca np cp sig ps w7 _ hbw rfl HI0.out hml L7 P7 HV1 HNP hnp8 HI6 F1 F2).mono ?_; rintro e wB ⟨g2, n2, c2, rfl, hn20, hn2, ho2, hb7⟩; have hbw7 : Below w7.heap.size w7 wB := Below.trans hbw (hb7.mono hbw.size); have KS := And.intro (kept hbw7 s0) (And.intro (kept hbw7 s1) (kept hbw7 s2)))
                | ((refine step_appLG (by rfl) _ _ (by rfl) w7.heap.size _ n1 _ (checked m idx.toNat sig ps) ⟨g2, 0, none⟩ n2 c2 (by rfl) (Own.later ho1 hb7) (by rfl) ho2.out.txt.2 ho2.out.1 hn20 (by omega) (by omega) hbw7.size ?_; intro g cap wC ho8 hg8 hlt8 hor8 hsz8; have hbw8 : Below w7.heap.size w7 wC := hbw7.grown hg8 hbw7.size (fun k hk => (hlt8 k hk).1); have KS := And.intro (kept hbw8 s0) (And.intro (kept hbw8 s1) (kept hbw8 s2))))
                | (go_at_call 22; refine (shown_of (some ⟨g, 0, none⟩) (n1 + n2) cap (made sec h 15 ++ checked m idx.toNat sig ps) _ ho8.txt.2 ho8.1 (by omega) S1.out HC.out).mono ?_; rintro e wD ⟨rfl, hb9⟩; have hbw9 : Below w7.heap.size w7 wD := Below.trans hbw8 (hb9.mono hbw8.size); have KS := And.intro (kept hbw9 s0) (And.intro (kept hbw9 s1) (kept hbw9 s2))))
            have B9 := Lib.hid (B7.out.trans (hbw9.mono B7.out.size))
            clear ho1 ho2 ho8 hg8 hlt8 hor8 hbw hbw7 hbw8 hbw9 KS S1 HC
            go_wp2
            go_ret
            exact ⟨rfl, B9.out⟩
        · refine (sign_no_of sec m _ _ (h : Int) idx _ rfl rfl (.inr ⟨h, rfl, by omega, no_in v3 hgood⟩)).mono ?_
          rintro e w6 ⟨rfl, hb6⟩
          have bx := below_new w6 (.cells #[.int .i64 0, .slice none 0 0, .slice none 0 0] 24)
          have by_ := hb6.trans (bx.mono hb6.size)
          have R6 := Lib.hid (R5.out.below by_ R5.out.inside)
          have L6 := Lib.hid (L5.out.later by_)
          have P6 := Lib.hid (P5.out.later by_)
          have B6 := Lib.hid (B5.out.trans (by_.mono B5.out.size))
          have HGD : Hid (¬ idx.toNat < 2 ^ h) := hgood
          clear T5 L5 P5 R5 B5 hb6 bx by_ s0 s1 s2 hgood
          go_wp2_with fail
          generalize hW : w6.alloc (.cells #[.int .i64 0, .slice none 0 0, .slice none 0 0] 24) = W6 at *
          clear hW
          have HC : Hid (Coll (made sec h 15 ++ checked m idx.toNat sig ps)) := coll_of HV.out (fun x hx => List.mem_append.2 (.inl hx)) (fun x hx => List.mem_append.2 (.inr hx)) (fun hc => HGD.out hc.1)
          have S1 : Hid (∀ x ∈ made sec h 15 ++ checked m idx.toNat sig ps, x.length ≤ 100000) := mem_small (made_small sec h 15 (by omega) (by omega)) (checked_small m idx.toNat F1.out F2.out)
          obtain ⟨s0, s1, s2, _, _, _⟩ := store_facts R6.out
          go_wp2_with fail
          go_region_held3 (fun w' => w'.cell? ⟨w.heap.size, 0, none⟩ = some (.int .i64 idx) ∧ w'.cell? ⟨w.heap.size, 1, none⟩ = some (.slice a 18 ca) ∧ w'.cell? ⟨w.heap.size, 2, none⟩ = some (.slice p np cp)) (first | go_keep | exact KS)
            (first
              | (go_at_call 23; refine (made_of sec _ h 15 _ _ _ rfl rfl rfl (by omega) hh2 (by decide) (by decide)).mono ?_; rintro e wA ⟨a1, n1, c1, rfl, hn1, ho1, hb6⟩; have hbw : Below W6.heap.size W6 wA := Below.trans (below_drew' W6) hb6; have KS := And.intro (kept hbw s0) (And.intro (kept hbw s1) (kept hbw s2)))
              | (go_at_call 24; refine (checked_of8 m _ _ idx.toNat a p ca np cp sig ps W6 _ hbw rfl HI0.out hml L6 P6 HV1 HNP hnp8 HI6 F1 F2).mono ?_; rintro e wB ⟨g2, n2, c2, rfl, hn20, hn2, ho2, hb7⟩; have hbw7 : Below W6.heap.size W6 wB := Below.trans hbw (hb7.mono hbw.size); have KS := And.intro (kept hbw7 s0) (And.intro (kept hbw7 s1) (kept hbw7 s2)))
              | ((refine step_appLG (by rfl) _ _ (by rfl) W6.heap.size _ n1 _ (checked m idx.toNat sig ps) ⟨g2, 0, none⟩ n2 c2 (by rfl) (Own.later ho1 hb7) (by rfl) ho2.out.txt.2 ho2.out.1 hn20 (by omega) (by omega) hbw7.size ?_; intro g cap wC ho8 hg8 hlt8 hor8 hsz8; have hbw8 : Below W6.heap.size W6 wC := hbw7.grown hg8 hbw7.size (fun k hk => (hlt8 k hk).1); have KS := And.intro (kept hbw8 s0) (And.intro (kept hbw8 s1) (kept hbw8 s2))))
              | (go_at_call 22; refine (shown_of (some ⟨g, 0, none⟩) (n1 + n2) cap (made sec h 15 ++ checked m idx.toNat sig ps) _ ho8.txt.2 ho8.1 (by omega) S1.out HC.out).mono ?_; rintro e wD ⟨rfl, hb9⟩; have hbw9 : Below W6.heap.size W6 wD := Below.trans hbw8 (hb9.mono hbw8.size); have KS := And.intro (kept hbw9 s0) (And.intro (kept hbw9 s1) (kept hbw9 s2))))
          have B9 := Lib.hid (B6.out.trans (hbw9.mono B6.out.size))
          clear ho1 ho2 ho8 hg8 hlt8 hor8 hbw hbw7 hbw8 hbw9 KS S1 HC
          go_wp2
          go_ret
          exact ⟨rfl, B9.out⟩
end Go.Proofs.YtmladmljibcagaaDoor.Sl
