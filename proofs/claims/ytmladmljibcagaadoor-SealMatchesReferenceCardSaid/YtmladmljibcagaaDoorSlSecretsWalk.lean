/- P2.5, SealSecrets: its walk. -/
import Derived.Test.YtmladmljibcagaaDoorSlShown
import Derived.Test.YtmladmljibcagaaDoorSlVerifiesWalk
namespace Go.Proofs.YtmladmljibcagaaDoor.Sl
open Go.RowKit
open Go.Proofs.YtmladmljibcagaaDoor.Dg hiding intOf

theorem wpList_appLG {w : World} {rest : List Oper} {ops : Array Oper} {o : Oper} {a : Act} {Q : Exit → Act → World → Prop} (hgd : Region.wanted o (yielded ops a.tmps) = true) (s x : Operand)
    (ho : o.op = .call { callee := .builtin .append, args := #[s, x], argTypes := #[22, 22] }) (base : Nat) (v : Value) (n : Nat) (L M : List B) (ad : Addr) (m c : Nat)
    (hs : a.eval s = v) (hown : Own w base v n L) (hx : a.eval x = .slice (some ad) m c) (htx : Txt w w.heap.size (some ad) M) (hm : m = M.length) (h0 : 0 < m) (hm1 : m ≤ 1000000) (hlen : n ≤ 1000000) (hbase : base ≤ w.heap.size)
    (h : ∀ g cap w', Own w' base (.slice (some ⟨g, 0, none⟩) (n + m) cap) (n + m) (L ++ M) → w.grownBy w' v.ownBlock → (∀ k, v.ownBlock = some k → base ≤ k ∧ k < w.heap.size) → (v.ownBlock = some g ∨ g = w.heap.size) → g < w'.heap.size →
      wpList Tryd.prog ops Q rest (a.put o.dst (.slice (some ⟨g, 0, none⟩) (n + m) cap)) w') : wpList Tryd.prog ops Q (o :: rest) a w := by
  obtain ⟨i0, hi, hz0, hz1, hz2⟩ := info_parts string_info
  refine wpList_step fun K hK => ?_
  rw [if_pos hgd]
  refine wp_append_lies (P := Tryd.prog) w s x _ ho base 9 i0 _ 1 16 Tryd.underlying22 hi hz0 hz1 hz2 rfl (by decide) v n (strv L) hs hown.2 ad m c (strv M) hx (by rw [strv_len, Nat.mul_one]; exact hm.symm) (news_txt htx) (strv_one M) h0 (by unfold maxLen; omega) (by omega) hbase w.heap.size rfl ?_
  intro g cap w1 h1 h2 h3 h4
  exact hK _ _ (h g cap w1 ⟨by rw [hown.1, hm]; simp, by rw [strv_append]; exact h1⟩ h2 hown.lt h3 h4)
theorem row_three (w : World) (x y z : B) : Txt (w.alloc (.cells #[.string ⟨x.toArray⟩, .string ⟨y.toArray⟩, .string ⟨z.toArray⟩] 9)) (w.alloc (.cells #[.string ⟨x.toArray⟩, .string ⟨y.toArray⟩, .string ⟨z.toArray⟩] 9)).heap.size (some ⟨w.heap.size, 0, none⟩) [x, y, z] := row_list w _ _ _ rfl
theorem chainL_small {x : B} (hx : x.length ≤ 1000) (n : Nat) : ∀ y ∈ chainL x n, y.length ≤ 100000 := by
  intro y hy
  unfold chainL at hy
  obtain ⟨k, _, rfl⟩ := List.mem_map.1 hy
  exact Nat.le_trans (chainN_len x hx (by decide) k) (by decide)
theorem nodeT_small {a b : B} (ha : a.length ≤ 1000) (hb : b.length ≤ 1000) : (nodeT a b).length ≤ 100000 := Nat.le_trans (fewB_len (few_node ha hb)) (by decide)
theorem joined_small {L : List B} (h : fewB L) : (joined L).length ≤ 100000 := Nat.le_trans (fewB_len h) (by decide)
theorem made_small (sec : B) (h n : Nat) (hs : sec.length ≤ 1000) (hh : h ≤ 8) : ∀ x ∈ made sec h n, x.length ≤ 100000 := by
  intro x hx
  unfold made at hx
  rcases List.mem_append.1 hx with hx | hx
  · unfold madeKeys at hx
    obtain ⟨i, hi, hx⟩ := List.mem_flatMap.1 hx
    have hi' : i < 256 := Nat.lt_of_lt_of_le (List.mem_range.1 hi) (Nat.pow_le_pow_right (by decide) hh)
    unfold madeKey at hx
    rcases List.mem_append.1 hx with hx | hx
    · obtain ⟨k, hk, hx⟩ := List.mem_flatMap.1 hx
      have hk' := List.mem_range.1 hk
      unfold madeChain at hx
      rcases List.mem_cons.1 hx with rfl | hx
      · exact startT_small sec i k hs (by omega) (by omega)
      · exact chainL_small (Nat.le_trans (dsum_small _) (by decide)) n x hx
    · obtain rfl := List.mem_singleton.1 hx
      exact joined_small ⟨by rw [endsOf_len]; decide, ends_small sec i 18⟩
  · unfold madeTree at hx
    obtain ⟨d, _, hx⟩ := List.mem_flatMap.1 hx
    unfold upTexts at hx
    obtain ⟨j, _, rfl⟩ := List.mem_map.1 hx
    exact nodeT_small (getD_small (lev_small (keysOf_small _ _) d) _) (getD_small (lev_small (keysOf_small _ _) d) _)
theorem shown_of (a : Option Addr) (n cap : Nat) (L : List B) (w : World) (hl : Txt w w.heap.size a L) (hn : n = L.length) (hbig : n ≤ 100000) (hx : ∀ x ∈ L, x.length ≤ 100000) (hc : Coll L) :
    Calls Tryd.prog 22 #[.slice a n cap] w fun e w' => e = .returned (.bool true) ∧ Below w.heap.size w w' := shown_any a n cap L w hl hn hbig hx hc
theorem mem_small {L M : List B} {m : Nat} (h : ∀ x ∈ L, x.length ≤ m) (h' : ∀ x ∈ M, x.length ≤ m) : ∀ x ∈ L ++ M, x.length ≤ m := fun x hx => (List.mem_append.1 hx).elim (h x) (h' x)
theorem made_of (sec : B) (s : ByteArray) (h n : Nat) (b c : Int) (w : World) (hs' : s = ⟨sec.toArray⟩) (hb : b = (h : Int)) (hc : c = (n : Int)) (hs : sec.length ≤ 1000) (hh : h ≤ 2) (hn : 15 ≤ n) (hn2 : n ≤ 30) :
    Calls Tryd.prog 23 #[.string s, .int .i64 b, .int .i64 c] w fun e w' => ∃ a nn c, e = .returned (.slice a nn c) ∧ nn ≤ 5000 ∧ Own w' w.heap.size (.slice a nn c) nn (made sec h n) ∧ Below w.heap.size w w' := by
  subst hs' hb hc; exact made_any sec h n w hs hh hn hn2
set_option maxRecDepth 100000 in
set_option maxHeartbeats 8000000 in
theorem secrets_any (sec oth m : B) (r1 r2 : UInt8) (w : World) (ht : Tab w) :
    Calls Tryd.prog 8 #[.string ⟨sec.toArray⟩, .string ⟨oth.toArray⟩, .int .u8 r1.toNat, .int .u8 r2.toNat, .string ⟨m.toArray⟩] w fun e w' => e = .returned (.bool true) ∧ Below w.heap.size w w' := by
  have HT := Lib.hid ht
  clear ht
  have u1 := r1.toNat_lt
  have u2 := r2.toNat_lt
  obtain ⟨h, hh⟩ : ∃ h, r1.toNat % 3 = h := ⟨_, rfl⟩
  obtain ⟨i, hi⟩ : ∃ i, r2.toNat % 2 ^ h = i := ⟨_, rfl⟩
  have h3 : h ≤ 2 := by omega
  have hi2 : i < 2 ^ h := hi ▸ Nat.mod_lt _ (Nat.two_pow_pos h)
  have HE1 : Hid ((r1.toNat : Int) % 3 = (h : Int)) := by show _ = _; omega
  have HE2 : Hid ((r2.toNat : Int) % wrap64 (2 ^ (r1.toNat % 3)) = (i : Int)) := by show _ = _; rw [hh, mod_idx h _ (by omega), hi]
  have HI2 := Lib.hid hi2
  have hz : ¬ wrap64 (2 ^ (r1.toNat % 3)) = 0 := by rw [hh, wrap_pow h (by omega)]; have := Nat.two_pow_pos h; have e : ((2 ^ h : Nat) : Int) = 2 ^ h := by simp
                                                    rw [← e]; omega
  clear hi2 hh hi
  go_enter Tryd.func8, Tryd.ntmps8
  go_wp2_with fail
  refine (head_any _ HT.out).mono ?_
  rintro e w1 ⟨rfl, hb1⟩
  have T1 := Lib.hid (Tab.at_ HT.out hb1)
  have B1 := Lib.hid hb1
  clear HT hb1
  go_wp2_with fail
  rw [HE1.out, HE2.out]
  clear HE1 HE2 u1 u2 hz
  have bx := below_new w1 (.cells #[.string ⟨sec.toArray⟩, .string ⟨oth.toArray⟩, .string ⟨m.toArray⟩] 9)
  obtain ⟨b, hb⟩ : ∃ b, upTo 300 [sec, oth, m] = b := ⟨_, rfl⟩
  refine (short_of _ 3 3 [sec, oth, m] b _ (row_three w1 sec oth m) rfl (by decide) hb).mono ?_
  rintro e w' ⟨rfl, rfl⟩
  have T2 := Lib.hid (Tab.at_ T1.out bx)
  have B2 := Lib.hid (B1.out.trans (bx.mono B1.out.size))
  have HB := Lib.hid hb
  clear T1 B1 bx hb
  generalize hw2 : w1.alloc (.cells #[.string ⟨sec.toArray⟩, .string ⟨oth.toArray⟩, .string ⟨m.toArray⟩] 9) = w2 at *
  clear hw2
  cases b with
  | false =>
    go_wp2
    go_ret
    exact ⟨rfl, B2.out⟩
  | true =>
    have hsm := upTo_all HB.out
    have hsl : sec.length ≤ 300 := hsm sec (by simp)
    have hol : oth.length ≤ 300 := hsm oth (by simp)
    have hml : m.length ≤ 300 := hsm m (by simp)
    clear hsm HB
    by_cases hne : sec = oth
    · have f1 : (sec == oth) = true := beq_iff_eq.2 hne
      clear hne
      go_wp2
      go_ret
      exact ⟨rfl, B2.out⟩
    · have f1 : (sec == oth) = false := beq_eq_false_iff_ne.2 hne
      have HNE := Lib.hid hne
      clear hne
      go_wp2_with fail
      refine (public_of oth _ h _ _ rfl rfl T2.out (by omega) (by omega)).mono ?_
      rintro e w3 ⟨rfl, hb3⟩
      have T3 := Lib.hid (Tab.at_ T2.out hb3)
      have B3 := Lib.hid (B2.out.trans (hb3.mono B2.out.size))
      clear T2 B2 hb3
      go_wp2_with fail
      refine (sign_of sec m _ _ h i _ _ _ rfl rfl rfl rfl T3.out (by omega) (by omega) (by omega) HI2.out).mono ?_
      rintro e w4 ⟨a, c, p, cp, rfl, hta, htp, ⟨hc1, hc2⟩, ⟨hp1, hp2⟩, hb4⟩
      have bx := below_new w4 (.cells #[.int .i64 i, .slice a 18 c, .slice p h cp] 24)
      have R4 := IsRow.made w4 24 #[.int .i64 i, .slice a 18 c, .slice p h cp]
      have T4 := Lib.hid (Tab.at_ (Tab.at_ T3.out hb4) bx)
      have HA := Lib.hid (hta.later bx)
      have HP := Lib.hid (htp.later bx)
      have B4 := Lib.hid ((B3.out.trans (hb4.mono B3.out.size)).trans (bx.mono (Nat.le_trans B3.out.size hb4.size)))
      clear T3 B3 hb4 bx hta htp
      obtain ⟨s0, s1, s2, _, _, _⟩ := store_facts R4
      clear R4
      unfold maxLen at hc2 hp2
      go_wp2_with fail
      generalize hW : w4.alloc (.cells #[.int .i64 i, .slice a 18 c, .slice p h cp] 24) = W4 at *
      clear hW s0 s1 s2
      obtain ⟨b, hb⟩ : ∃ b, verB (pubOf oth h) m (i : Int) (sigOf sec i m) (pathOf sec h i) = b := ⟨_, rfl⟩
      refine (verify_of (pubOf oth h) m _ _ i a p 18 c h cp (sigOf sec i m) (pathOf sec h i) b _ rfl rfl T4.out HA.out HP.out (sigOf_len _ _ _).symm (path_len _ _ _).symm (by omega) (by decide) (by omega) (sigOf_small _ _ _) (pathOf_small _ _ _) hb).mono ?_
      rintro e w5 ⟨rfl, hb5⟩
      have B5 := Lib.hid (B4.out.trans (hb5.mono B4.out.size))
      have HV := Lib.hid hb
      clear T4 HA HP B4 hb5 hb
      cases b with
      | false =>
        go_wp2
        go_ret
        exact ⟨rfl, B5.out⟩
      | true =>
        have HC : Hid (Coll (made sec h 15 ++ made oth h 15)) := secrets HI2.out HNE.out HV.out (fun x hx => List.mem_append.2 (.inl hx)) (fun x hx => List.mem_append.2 (.inr hx))
        have S1 : Hid (∀ x ∈ made sec h 15 ++ made oth h 15, x.length ≤ 100000) := mem_small (made_small sec h 15 (by omega) (by omega)) (made_small oth h 15 (by omega) (by omega))
        clear HV
        go_wp2_with fail
        refine (made_of sec _ h 15 _ _ _ rfl rfl rfl (by omega) h3 (by decide) (by decide)).mono ?_
        rintro e w6 ⟨a1, n1, c1, rfl, hn1, ho1, hb6⟩
        have O1 := Lib.hid ho1
        have B6 := Lib.hid (B5.out.trans (hb6.mono B5.out.size))
        have Z6 := Lib.hid hb6.size
        have Z5 := Lib.hid B5.out.size
        clear ho1 hb6 B5
        go_wp2_with fail
        refine (made_of oth _ h 15 _ _ _ rfl rfl rfl (by omega) h3 (by decide) (by decide)).mono ?_
        rintro e w7 ⟨a2, n2, c2, rfl, hn2, ho2, hb7⟩
        have O1' := Lib.hid (O1.out.later hb7)
        have B7 := Lib.hid (B6.out.trans (hb7.mono B6.out.size))
        have Z7 := Lib.hid (Nat.le_trans Z6.out hb7.size)
        have X2 := Lib.hid ho2.txt.2
        have L2 := Lib.hid ho2.1
        have hn20 : 0 < n2 := by
          rw [L2.out]
          exact List.length_pos_of_mem (mem_made_start oth h 15 (i := 0) (k := 0) (Nat.two_pow_pos h) (by decide))
        obtain ⟨g2, cg2, hv2⟩ := ho2.pos hn20
        injection hv2 with ha2 _ hcg2
        subst ha2 hcg2
        clear ho2 hb7 B6 O1 Z6
        go_wp2_with (at_builtin; refine wpList_appLG (by rfl) _ _ (by rfl) w5.heap.size _ n1 _ (made oth h 15) ⟨g2, 0, none⟩ n2 c2 (by rfl) O1'.out (by rfl) X2.out L2.out hn20 (by omega) (by omega) Z7.out ?_; intro g cap w8 ho8 hg8 hlt8 hor8 hsz8)
        have B8 := Lib.hid (B7.out.grown hg8 B7.out.size (fun k hk => Nat.le_trans Z5.out (hlt8 k hk).1))
        refine (shown_of (some ⟨g, 0, none⟩) (n1 + n2) cap (made sec h 15 ++ made oth h 15) _ ho8.txt.2 ho8.1 (by omega) S1.out HC.out).mono ?_
        rintro e w9 ⟨rfl, hb9⟩
        have B9 := Lib.hid (B8.out.trans (hb9.mono B8.out.size))
        clear hb9 B8 B7 O1' X2 L2 ho8 hg8 hlt8 hor8 hsz8
        go_wp2
        go_ret
        exact ⟨rfl, B9.out⟩
end Go.Proofs.YtmladmljibcagaaDoor.Sl
