/- P2.2, SealVerifies: its walk. -/
import Derived.Test.YtmladmljibcagaaDoorSlSame
import Derived.Test.YtmladmljibcagaaDoorSlFormWalk
namespace Go.Proofs.YtmladmljibcagaaDoor.Sl
open Go.RowKit
open Go.Proofs.YtmladmljibcagaaDoor.Dg hiding intOf

structure VW (Y : World) (g1 g2 g3 : Nat) (i : Int) (h h' : Nat) (a p a' p' a'' p'' : Option Addr) (c cp c' cp' c'' cp'' : Nat) (sig ps : List B) : Prop where
  r1 : IsRow Y g1 24 #[.int .i64 i, .slice a 18 c, .slice p h cp]
  r2 : IsRow Y g2 24 #[.int .i64 i, .slice a' 18 c', .slice p' h cp']
  r3 : IsRow Y g3 24 #[.int .i64 i, .slice a'' 18 c'', .slice p'' h' cp'']
  tab : Tab Y
  t1 : Txt Y Y.heap.size a sig
  t2 : Txt Y Y.heap.size p ps
  t3 : Txt Y Y.heap.size a' sig
  t4 : Txt Y Y.heap.size p' ps
  t5 : Txt Y Y.heap.size a'' sig
theorem VW.later {Y Z : World} {g1 g2 g3 : Nat} {i : Int} {h h' : Nat} {a p a' p' a'' p'' : Option Addr} {c cp c' cp' c'' cp'' : Nat} {sig ps : List B} (k : VW Y g1 g2 g3 i h h' a p a' p' a'' p'' c cp c' cp' c'' cp'' sig ps) (hb : Below Y.heap.size Y Z) :
    VW Z g1 g2 g3 i h h' a p a' p' a'' p'' c cp c' cp' c'' cp'' sig ps :=
  ⟨k.r1.below hb k.r1.inside, k.r2.below hb k.r2.inside, k.r3.below hb k.r3.inside, Tab.at_ k.tab hb, k.t1.later hb, k.t2.later hb, k.t3.later hb, k.t4.later hb, k.t5.later hb⟩
theorem refsame_of (x : Int) (a p a' p' : Option Addr) (na ca np cp ca' cp' : Nat) (s q : List B) (w : World) (h1 : Txt w w.heap.size a s) (h2 : Txt w w.heap.size p q) (h3 : Txt w w.heap.size a' s) (h4 : Txt w w.heap.size p' q)
    (n1 : na = s.length) (n2 : np = q.length) (l1 : na ≤ maxLen) (l2 : np ≤ maxLen) :
    Calls Tryd.prog 17 #[.agg #[.int .i64 x, .slice a na ca, .slice p np cp], .agg #[.int .i64 x, .slice a' na ca', .slice p' np cp']] w fun e w' => e = .returned (.bool true) ∧ Below w.heap.size w w' := by
  have := refsame_any x x a p a' p' na ca np cp na ca' np cp' s q s q w h1 h2 h3 h4 n1 n2 n1 n2 l1 l2
  simp only [decide_true, Bool.and_true] at this
  exact this
theorem mod_idx (h r : Nat) (hh : h ≤ 8) : ((r : Int) % wrap64 (2 ^ h)) = ((r % 2 ^ h : Nat) : Int) := by
  rw [wrap_pow h hh]
  simp
set_option maxRecDepth 100000 in
set_option maxHeartbeats 8000000 in
theorem verifies_any (sec m : B) (r1 r2 : UInt8) (w : World) (ht : Tab w) :
    Calls Tryd.prog 4 #[.string ⟨sec.toArray⟩, .int .u8 r1.toNat, .int .u8 r2.toNat, .string ⟨m.toArray⟩] w fun e w' => e = .returned (.bool true) ∧ Below w.heap.size w w' := by
  have HT := Lib.hid ht
  clear ht
  have u1 := r1.toNat_lt
  have u2 := r2.toNat_lt
  go_enter Tryd.func4, Tryd.ntmps4
  go_wp2_with fail
  refine (head_any _ HT.out).mono ?_
  rintro e w1 ⟨rfl, hb1⟩
  have T1 := Lib.hid (Tab.at_ HT.out hb1)
  have B1 := Lib.hid hb1
  clear HT hb1
  go_wp2_with fail
  have bx := below_new w1 (.cells #[.string ⟨sec.toArray⟩, .string ⟨m.toArray⟩] 9)
  obtain ⟨b, hb⟩ : ∃ b, upTo 300 [sec, m] = b := ⟨_, rfl⟩
  refine (short_of _ 2 2 [sec, m] b _ (row_two w1 sec m) rfl (by decide) hb).mono ?_
  rintro e w' ⟨rfl, rfl⟩
  have T2 := Lib.hid (Tab.at_ T1.out bx)
  have B2 := Lib.hid (B1.out.trans (bx.mono B1.out.size))
  have HB := Lib.hid hb
  clear T1 B1 bx hb
  generalize hw2 : w1.alloc (.cells #[.string ⟨sec.toArray⟩, .string ⟨m.toArray⟩] 9) = w2 at *
  clear hw2
  cases b with
  | false =>
    go_wp2
    go_ret
    exact ⟨rfl, B2.out⟩
  | true =>
    have hsm := upTo_all HB.out
    have hsl : sec.length ≤ 300 := hsm sec (by simp)
    have hml : m.length ≤ 300 := hsm m (by simp)
    clear hsm HB
    obtain ⟨h, hh⟩ : ∃ h, r1.toNat % 4 = h := ⟨_, rfl⟩
    obtain ⟨i, hi⟩ : ∃ i, r2.toNat % 2 ^ h = i := ⟨_, rfl⟩
    have h3 : h ≤ 3 := by omega
    have hi2 : i < 2 ^ h := hi ▸ Nat.mod_lt _ (Nat.two_pow_pos h)
    have hi3 : i < 2 ^ (h + 1) := Nat.lt_of_lt_of_le hi2 (Nat.pow_le_pow_right (by decide) (by omega))
    have HE1 : Hid ((r1.toNat : Int) % 4 = (h : Int)) := by show _ = _; omega
    have HE2 : Hid ((r2.toNat : Int) % wrap64 (2 ^ (r1.toNat % 4)) = (i : Int)) := by show _ = _; rw [hh, mod_idx h _ (by omega), hi]
    have HI2 := Lib.hid hi2
    have HI3 := Lib.hid hi3
    have HV : Hid (verB (pubOf sec h) m (i : Int) (sigOf sec i m) (pathOf sec h i) = true) := ver_own sec h i m (by omega) hi2
    have hz : ¬ wrap64 (2 ^ (r1.toNat % 4)) = 0 := by rw [hh, wrap_pow h (by omega)]; have := Nat.two_pow_pos h; have e : ((2 ^ h : Nat) : Int) = 2 ^ h := by simp
                                                      rw [← e]; omega
    clear hi2 hi3 hh hi
    go_wp2_with fail
    rw [HE1.out, HE2.out]
    clear HE1 HE2 u1 u2 hz
    refine (public_of sec _ h _ _ rfl rfl T2.out (by omega) (by omega)).mono ?_
    rintro e w3 ⟨rfl, hb3⟩
    have T3 := Lib.hid (Tab.at_ T2.out hb3)
    have B3 := Lib.hid (B2.out.trans (hb3.mono B2.out.size))
    clear T2 B2 hb3
    go_wp2_with fail
    refine (sign_of sec m _ _ h i _ _ _ rfl rfl rfl rfl T3.out (by omega) (by omega) (by omega) HI2.out).mono ?_
    rintro e w4 ⟨a, c, p, cp, rfl, hta, htp, ⟨hc1, hc2⟩, ⟨hp1, hp2⟩, hb4⟩
    have bx := below_new w4 (.cells #[.int .i64 i, .slice a 18 c, .slice p h cp] 24)
    have R4 := Lib.hid (IsRow.made w4 24 #[.int .i64 i, .slice a 18 c, .slice p h cp])
    have T4 := Lib.hid (Tab.at_ (Tab.at_ T3.out hb4) bx)
    have HA := Lib.hid (hta.later bx)
    have HP := Lib.hid (htp.later bx)
    have B4 := Lib.hid ((B3.out.trans (hb4.mono B3.out.size)).trans (bx.mono (Nat.le_trans B3.out.size hb4.size)))
    clear T3 B3 hb4 bx hta htp
    obtain ⟨g1, hg1⟩ : ∃ g, w4.heap.size = g := ⟨_, rfl⟩
    have HG1 := Lib.hid hg1
    rw [hg1] at R4
    clear hg1
    go_wp2_with fail
    rw [HG1.out]
    generalize hW : w4.alloc (.cells #[.int .i64 i, .slice a 18 c, .slice p h cp] 24) = W4 at *
    clear hW HG1
    refine (sign_of sec m _ _ h i _ _ _ rfl rfl rfl rfl T4.out (by omega) (by omega) (by omega) HI2.out).mono ?_
    rintro e w5 ⟨a', c', p', cp', rfl, hta, htp, ⟨hc3, hc4⟩, ⟨hp3, hp4⟩, hb4⟩
    have bx := below_new w5 (.cells #[.int .i64 i, .slice a' 18 c', .slice p' h cp'] 24)
    have by_ := hb4.trans (bx.mono hb4.size)
    have R5 := Lib.hid (IsRow.made w5 24 #[.int .i64 i, .slice a' 18 c', .slice p' h cp'])
    have Q4 := Lib.hid (R4.out.below by_ R4.out.inside)
    have T5 := Lib.hid (Tab.at_ T4.out by_)
    have HA5 := Lib.hid (HA.out.later by_)
    have HP5 := Lib.hid (HP.out.later by_)
    have HA' := Lib.hid (hta.later bx)
    have HP' := Lib.hid (htp.later bx)
    have B5 := Lib.hid (B4.out.trans (by_.mono B4.out.size))
    clear T4 B4 hb4 bx hta htp by_ R4 HA HP
    obtain ⟨g2, hg2⟩ : ∃ g, w5.heap.size = g := ⟨_, rfl⟩
    have HG2 := Lib.hid hg2
    rw [hg2] at R5
    clear hg2
    go_wp2_with fail
    rw [HG2.out]
    generalize hW : w5.alloc (.cells #[.int .i64 i, .slice a' 18 c', .slice p' h cp'] 24) = W5 at *
    clear hW HG2
    refine (sign_of sec m _ _ (h + 1) i _ _ _ (by omega) rfl rfl rfl T5.out (by omega) (by omega) (by omega) HI3.out).mono ?_
    rintro e w6 ⟨a'', c'', p'', cp'', rfl, hta, htp, ⟨hc5, hc6⟩, ⟨hp5, hp6⟩, hb4⟩
    have bx := below_new w6 (.cells #[.int .i64 i, .slice a'' 18 c'', .slice p'' (h + 1) cp''] 24)
    have by_ := hb4.trans (bx.mono hb4.size)
    have R6 := IsRow.made w6 24 #[.int .i64 i, .slice a'' 18 c'', .slice p'' (h + 1) cp'']
    have B6 := Lib.hid (B5.out.trans (by_.mono B5.out.size))
    obtain ⟨g3, hg3⟩ : ∃ g, w6.heap.size = g := ⟨_, rfl⟩
    have HG3 := Lib.hid hg3
    rw [hg3] at R6
    have VK : Hid (VW (w6.alloc (.cells #[.int .i64 i, .slice a'' 18 c'', .slice p'' (h + 1) cp''] 24)) g1 g2 g3 i h (h + 1) a p a' p' a'' p'' c cp c' cp' c'' cp'' (sigOf sec i m) (pathOf sec h i)) :=
      ⟨Q4.out.below by_ Q4.out.inside, R5.out.below by_ R5.out.inside, R6, Tab.at_ T5.out by_, HA5.out.later by_, HP5.out.later by_, HA'.out.later by_, HP'.out.later by_, hta.later bx⟩
    clear T5 B5 hb4 bx hta htp by_ Q4 R5 R6 HA5 HP5 HA' HP' hg3
    unfold maxLen at hc2 hp2
    obtain ⟨s0, s1, s2, _, _, _⟩ := store_facts VK.out.r1
    obtain ⟨x0, x1, x2, _, _, _⟩ := store_facts VK.out.r2
    obtain ⟨y0, y1, y2, _, _, _⟩ := store_facts VK.out.r3
    go_wp2_with fail
    rw [HG3.out]
    generalize hW : w6.alloc (.cells #[.int .i64 i, .slice a'' 18 c'', .slice p'' (h + 1) cp''] 24) = W6 at *
    clear hW HG3 s0 s1 s2 x0 x1 x2 y0 y1 y2
    have HSL : Hid (18 = (sigOf sec i m).length) := (sigOf_len sec i m).symm
    have HPL : Hid (h = (pathOf sec h i).length) := (path_len sec h i).symm
    refine (refsame_of i a p a' p' 18 c h cp c' cp' (sigOf sec i m) (pathOf sec h i) _ VK.out.t1 VK.out.t2 VK.out.t3 VK.out.t4 HSL.out HPL.out (by decide) (by unfold maxLen; omega)).mono ?_
    rintro e w7 ⟨rfl, hb7⟩
    have V7 := Lib.hid (VK.out.later hb7)
    have B7 := Lib.hid (B6.out.trans (hb7.mono B6.out.size))
    clear VK B6 hb7
    obtain ⟨s0, s1, s2, _, _, _⟩ := store_facts V7.out.r1
    obtain ⟨x0, x1, x2, _, _, _⟩ := store_facts V7.out.r2
    obtain ⟨y0, y1, y2, _, _, _⟩ := store_facts V7.out.r3
    obtain ⟨v1, v2, v3, v4, v5, v6, v7⟩ := verB_parts HV.out
    have V5 := Lib.hid v5
    have V6 := Lib.hid v6
    have F1 : Hid (∀ x ∈ sigOf sec i m, x.length ≤ 1000) := sigOf_small sec i m
    have F2 : Hid (∀ x ∈ pathOf sec h i, x.length ≤ 1000) := pathOf_small sec h i
    have DP : Hid (isDig (pubOf sec h) = true) := isDig_pub sec h
    have HPS : (pubOf sec h).length ≤ 1000 := by have := DP.out; unfold isDig at this; simp at this; omega
    clear v1 v2 v3 v4 v5 v6 v7
    generalize sigOf sec i m = sig at *
    generalize pathOf sec h i = ps at *
    generalize pubOf sec h = pub at *
    go_wp2
    go_loop [20] (fun i => ∃ k : Nat, k ≤ 18 ∧ i = .int .i64 k) (fun i => 18 - (intOf i).toNat)
    case atStart => exact ⟨0, by omega, rfl⟩
    case round =>
      obtain ⟨k, hk, rfl⟩ := hrel
      by_cases hlt : k < 18
      · obtain ⟨b, off, rfl, _, c1⟩ := V7.out.t1.at_ (k := k) (by rw [← HSL.out]; exact hlt)
        have hd : isDig (sig.getD k []) = true := List.all_eq_true.1 V5.out _ (getD_mem (by rw [← HSL.out]; exact hlt))
        have HD := Lib.hid hd
        have hsz := getD_small F1.out k
        clear hd
        generalize sig.getD k [] = x at *
        go_wp2_with fail
        refine (isDig_of x true _ (by omega) HD.out).mono ?_
        rintro e w' ⟨rfl, rfl⟩
        go_wp2
        go_round
        case rel => exact ⟨k + 1, by omega, by go_num⟩
        case measure => simp [intOf]; omega
      · obtain rfl : k = 18 := by omega
        clear hk hlt
        go_wp2
        go_loop [21] (fun i => ∃ k : Nat, k ≤ h ∧ i = .int .i64 k) (fun i => h - (intOf i).toNat)
        case atStart => exact ⟨0, by omega, rfl⟩
        case round =>
          obtain ⟨k, hk, rfl⟩ := hrel
          by_cases hlt : k < h
          · obtain ⟨b, off, rfl, _, c1⟩ := V7.out.t2.at_ (k := k) (by rw [← HPL.out]; exact hlt)
            have hd : isDig (ps.getD k []) = true := List.all_eq_true.1 V6.out _ (getD_mem (by rw [← HPL.out]; exact hlt))
            have HD := Lib.hid hd
            have hsz := getD_small F2.out k
            clear hd
            generalize ps.getD k [] = x at *
            go_wp2_with fail
            refine (isDig_of x true _ (by omega) HD.out).mono ?_
            rintro e w' ⟨rfl, rfl⟩
            go_wp2
            go_round
            case rel => exact ⟨k + 1, by omega, by go_num⟩
            case measure => simp [intOf]; omega
          · obtain rfl : k = h := by omega
            clear hk hlt
            go_wp2_with fail
            refine (isDig_of pub true _ (by omega) DP.out).mono ?_
            rintro e w' ⟨rfl, rfl⟩
            go_wp2_with fail
            refine (sameB _ _ 18 _ 18 _ sig sig true _ V7.out.t5 V7.out.t1 HSL.out HSL.out (by decide) (by simp)).mono ?_
            rintro e w8 ⟨rfl, hb8⟩
            have V8 := Lib.hid (V7.out.later hb8)
            have B8 := Lib.hid (B7.out.trans (hb8.mono B7.out.size))
            clear V7 B7 hb8 s0 s1 s2 x0 x1 x2 y0 y1 y2
            obtain ⟨s0, s1, s2, _, _, _⟩ := store_facts V8.out.r1
            go_wp2_with fail
            refine (verify_of pub m _ _ _ _ _ 18 _ k _ sig ps true _ rfl rfl V8.out.tab V8.out.t1 V8.out.t2 HSL.out HPL.out (by omega) (by decide) (by omega) F1.out F2.out HV.out).mono ?_
            rintro e w9 ⟨rfl, hb9⟩
            have B9 := Lib.hid (B8.out.trans (hb9.mono B8.out.size))
            clear V8 B8 hb9 s0 s1 s2
            go_wp2
            go_ret
            exact ⟨rfl, B9.out⟩
end Go.Proofs.YtmladmljibcagaaDoor.Sl
