/- P2.4, SealBinds: its walk. -/
import Derived.Test.YtmladmljibcagaaDoorSlSecretsWalk
import Derived.Test.YtmladmljibcagaaDoorSlChecked
import Derived.Deep.RegionWith
namespace Go.Proofs.YtmladmljibcagaaDoor.Sl
open Go.RowKit
open Go.Proofs.YtmladmljibcagaaDoor.Dg hiding intOf

theorem checked_small (m : B) (i : Nat) {sig ps : List B} (hs : ∀ x ∈ sig, x.length ≤ 1000) (hp : ∀ x ∈ ps, x.length ≤ 1000) : ∀ x ∈ checked m i sig ps, x.length ≤ 100000 := by
  intro x hx
  unfold checked at hx
  rcases List.mem_append.1 hx with hx | hx
  · rcases List.mem_append.1 hx with hx | hx
    · unfold checkedSig at hx
      obtain ⟨k, _, hx⟩ := List.mem_flatMap.1 hx
      exact chainL_small (getD_small hs k) _ x hx
    · obtain rfl := List.mem_singleton.1 hx
      exact joined_small ⟨by rw [signEnds_len]; decide, ckEnds_small hs 18⟩
  · unfold checkedPath at hx
    obtain ⟨d, _, rfl⟩ := List.mem_map.1 hx
    have hv : (val (signer m sig) ps i d).length ≤ 1000 := val_small (dsum_small _ |> fun h => Nat.le_trans h (by decide)) d
    unfold upT
    split
    · exact nodeT_small (getD_small hp d) hv
    · exact nodeT_small hv (getD_small hp d)
theorem checked_of (m : B) (s : ByteArray) (i : Int) (idx : Nat) (a p : Option Addr) (ca np cp : Nat) (sig ps : List B) (w0 w : World) (hw : Below w0.heap.size w0 w) (hs : s = ⟨m.toArray⟩) (hi0 : i = (idx : Int)) (hm : m.length ≤ 300) (hl : Hid (Txt w0 w0.heap.size a sig)) (hp : Hid (Txt w0 w0.heap.size p ps)) (h18 : Hid (sig.length = 18)) (hnp : Hid (np = ps.length)) (h8 : np ≤ 2)
    (hi : Hid (idx < 1000000)) (hx : Hid (∀ x ∈ sig, x.length ≤ 1000)) (hy : Hid (∀ x ∈ ps, x.length ≤ 1000)) :
    Calls Tryd.prog 24 #[.string s, .agg #[.int .i64 i, .slice a 18 ca, .slice p np cp]] w fun e w' => ∃ g nn c, e = .returned (.slice (some ⟨g, 0, none⟩) nn c) ∧ 0 < nn ∧ nn ≤ 5000 ∧ Hid (Own w' w.heap.size (.slice (some ⟨g, 0, none⟩) nn c) nn (checked m idx sig ps)) ∧ Below w.heap.size w w' := by
  subst hs hi0
  refine (checked_any m idx a p ca np cp sig ps w (by omega) (hl.out.later hw) (hp.out.later hw) h18.out hnp.out (by omega) hi.out hx.out hy.out).mono ?_
  rintro e w' ⟨a, nn, c, rfl, hn, ho, hb⟩
  have h0 : 0 < nn := by rw [ho.1]; exact List.length_pos_of_mem (mem_checked_ends m idx sig ps)
  obtain ⟨g, c', hv⟩ := ho.pos h0
  rw [hv] at ho ⊢
  exact ⟨g, nn, c', rfl, h0, hn, ho, hb⟩
theorem step_appLG {w : World} {ops : Array Oper} {o : Oper} {a : Act} {Q : Exit → Act → World → Prop} {K : Act → World → Prop} {E : Prop} (hgd : Region.wanted o (yielded ops a.tmps) = true) (s x : Operand)
    (ho : o.op = .call { callee := .builtin .append, args := #[s, x], argTypes := #[22, 22] }) (base : Nat) (v : Value) (n : Nat) (L M : List B) (ad : Addr) (m c : Nat)
    (hs : a.eval s = v) (hown : Own w base v n L) (hx : a.eval x = .slice (some ad) m c) (htx : Txt w w.heap.size (some ad) M) (hm : m = M.length) (h0 : 0 < m) (hm1 : m ≤ 1000000) (hlen : n ≤ 1000000) (hbase : base ≤ w.heap.size)
    (h : ∀ g cap w', Own w' base (.slice (some ⟨g, 0, none⟩) (n + m) cap) (n + m) (L ++ M) → w.grownBy w' v.ownBlock → (∀ k, v.ownBlock = some k → base ≤ k ∧ k < w.heap.size) → (v.ownBlock = some g ∨ g = w.heap.size) → g < w'.heap.size →
      K (a.put o.dst (.slice (some ⟨g, 0, none⟩) (n + m) cap)) w') : if Region.wanted o (yielded ops a.tmps) = true then Oper.wp Tryd.prog o a w K Q else E := by
  obtain ⟨i0, hi, hz0, hz1, hz2⟩ := info_parts string_info
  rw [if_pos hgd]
  refine wp_append_lies (P := Tryd.prog) w s x _ ho base 9 i0 _ 1 16 Tryd.underlying22 hi hz0 hz1 hz2 rfl (by decide) v n (strv L) hs hown.2 ad m c (strv M) hx (by rw [strv_len, Nat.mul_one]; exact hm.symm) (news_txt htx) (strv_one M) h0 (by unfold maxLen; omega) (by omega) hbase w.heap.size rfl ?_
  intro g cap w1 h1 h2 h3 h4
  exact h g cap w1 ⟨by rw [hown.1, hm]; simp, by rw [strv_append]; exact h1⟩ h2 hown.lt h3 h4
theorem wp_appL {w : World} {o : Oper} {a : Act} {Q : Exit → Act → World → Prop} {K : Act → World → Prop} (s x : Operand)
    (ho : o.op = .call { callee := .builtin .append, args := #[s, x], argTypes := #[22, 22] }) (base : Nat) (v : Value) (n : Nat) (L M : List B) (ad : Addr) (m c : Nat)
    (hs : a.eval s = v) (hown : Own w base v n L) (hx : a.eval x = .slice (some ad) m c) (htx : Txt w w.heap.size (some ad) M) (hm : m = M.length) (h0 : 0 < m) (hm1 : m ≤ 1000000) (hlen : n ≤ 1000000) (hbase : base ≤ w.heap.size)
    (h : ∀ g cap w', Own w' base (.slice (some ⟨g, 0, none⟩) (n + m) cap) (n + m) (L ++ M) → w.grownBy w' v.ownBlock → (∀ k, v.ownBlock = some k → base ≤ k ∧ k < w.heap.size) → (v.ownBlock = some g ∨ g = w.heap.size) → g < w'.heap.size →
      K (a.put o.dst (.slice (some ⟨g, 0, none⟩) (n + m) cap)) w') : Oper.wp Tryd.prog o a w K Q := by
  obtain ⟨i0, hi, hz0, hz1, hz2⟩ := info_parts string_info
  refine wp_append_lies (P := Tryd.prog) w s x _ ho base 9 i0 _ 1 16 Tryd.underlying22 hi hz0 hz1 hz2 rfl (by decide) v n (strv L) hs hown.2 ad m c (strv M) hx (by rw [strv_len, Nat.mul_one]; exact hm.symm) (news_txt htx) (strv_one M) h0 (by unfold maxLen; omega) (by omega) hbase w.heap.size rfl ?_
  intro g cap w1 h1 h2 h3 h4
  exact h g cap w1 ⟨by rw [hown.1, hm]; simp, by rw [strv_append]; exact h1⟩ h2 hown.lt h3 h4
set_option maxRecDepth 100000 in
set_option maxHeartbeats 8000000 in
theorem binds_any (sec m o : B) (r1 r2 : UInt8) (w : World) (ht : Tab w) :
    Calls Tryd.prog 6 #[.string ⟨sec.toArray⟩, .int .u8 r1.toNat, .int .u8 r2.toNat, .string ⟨m.toArray⟩, .string ⟨o.toArray⟩] w fun e w' => e = .returned (.bool true) ∧ Below w.heap.size w w' := by
  have HT := Lib.hid ht
  clear ht
  have u1 := r1.toNat_lt
  have u2 := r2.toNat_lt
  obtain ⟨h, hh⟩ : ∃ h, r1.toNat % 3 = h := ⟨_, rfl⟩
  obtain ⟨i, hi⟩ : ∃ i, r2.toNat % 2 ^ h = i := ⟨_, rfl⟩
  have h3 : h ≤ 2 := by omega
  have hi2 : i < 2 ^ h := hi ▸ Nat.mod_lt _ (Nat.two_pow_pos h)
  have HE1 : Hid ((r1.toNat : Int) % 3 = (h : Int)) := by show _ = _; omega
  have HE2 : Hid ((r2.toNat : Int) % wrap64 (2 ^ (r1.toNat % 3)) = (i : Int)) := by show _ = _; rw [hh, mod_idx h _ (by omega), hi]
  have HI2 := Lib.hid hi2
  have hz : ¬ wrap64 (2 ^ (r1.toNat % 3)) = 0 := by rw [hh, wrap_pow h (by omega)]; have := Nat.two_pow_pos h; have e : ((2 ^ h : Nat) : Int) = 2 ^ h := by simp
                                                    rw [← e]; omega
  clear hi2 hh hi
  go_enter Tryd.func6, Tryd.ntmps6
  go_wp2_with fail
  refine (head_any _ HT.out).mono ?_
  rintro e w1 ⟨rfl, hb1⟩
  have T1 := Lib.hid (Tab.at_ HT.out hb1)
  have B1 := Lib.hid hb1
  clear HT hb1
  go_wp2_with fail
  rw [HE1.out, HE2.out]
  clear HE1 HE2 u1 u2 hz
  have bx := below_new w1 (.cells #[.string ⟨sec.toArray⟩, .string ⟨m.toArray⟩, .string ⟨o.toArray⟩] 9)
  obtain ⟨b, hb⟩ : ∃ b, upTo 300 [sec, m, o] = b := ⟨_, rfl⟩
  refine (short_of _ 3 3 [sec, m, o] b _ (row_three w1 sec m o) rfl (by decide) hb).mono ?_
  rintro e w' ⟨rfl, rfl⟩
  have T2 := Lib.hid (Tab.at_ T1.out bx)
  have B2 := Lib.hid (B1.out.trans (bx.mono B1.out.size))
  have HB := Lib.hid hb
  clear T1 B1 bx hb
  generalize hw2 : w1.alloc (.cells #[.string ⟨sec.toArray⟩, .string ⟨m.toArray⟩, .string ⟨o.toArray⟩] 9) = w2 at *
  clear hw2
  cases b with
  | false =>
    go_wp2
    go_ret
    exact ⟨rfl, B2.out⟩
  | true =>
    have hsm := upTo_all HB.out
    have hsl : sec.length ≤ 300 := hsm sec (by simp)
    have hol : o.length ≤ 300 := hsm o (by simp)
    have hml : m.length ≤ 300 := hsm m (by simp)
    clear hsm HB
    go_wp2_with fail
    refine (refsumB m _ (by omega)).mono ?_
    rintro e w' ⟨rfl, rfl⟩
    go_wp2_with fail
    refine (refsumB o _ (by omega)).mono ?_
    rintro e w' ⟨rfl, rfl⟩
    by_cases hne : dsum m = dsum o
    · have f1 : (dsum m == dsum o) = true := beq_iff_eq.2 hne
      clear hne
      go_wp2
      go_ret
      exact ⟨rfl, B2.out⟩
    · have f1 : (dsum m == dsum o) = false := beq_eq_false_iff_ne.2 hne
      have HNE := Lib.hid hne
      clear hne
      go_wp2_with fail
      refine (public_of sec _ h _ _ rfl rfl T2.out (by omega) (by omega)).mono ?_
      rintro e w3 ⟨rfl, hb3⟩
      have T3 := Lib.hid (Tab.at_ T2.out hb3)
      have B3 := Lib.hid (B2.out.trans (hb3.mono B2.out.size))
      clear T2 B2 hb3
      go_wp2_with fail
      refine (sign_of sec m _ _ h i _ _ _ rfl rfl rfl rfl T3.out (by omega) (by omega) (by omega) HI2.out).mono ?_
      rintro e w4 ⟨a, c, p, cp, rfl, hta, htp, ⟨hc1, hc2⟩, ⟨hp1, hp2⟩, hb4⟩
      have bx := below_new w4 (.cells #[.int .i64 i, .slice a 18 c, .slice p h cp] 24)
      have R4 := IsRow.made w4 24 #[.int .i64 i, .slice a 18 c, .slice p h cp]
      have T4 := Lib.hid (Tab.at_ (Tab.at_ T3.out hb4) bx)
      have R4' := Lib.hid R4
      have HA := Lib.hid (hta.later bx)
      have HP := Lib.hid (htp.later bx)
      have B4 := Lib.hid ((B3.out.trans (hb4.mono B3.out.size)).trans (bx.mono (Nat.le_trans B3.out.size hb4.size)))
      clear T3 B3 hb4 bx hta htp
      obtain ⟨s0, s1, s2, _, _, _⟩ := store_facts R4
      clear R4
      unfold maxLen at hc2 hp2
      go_wp2_with fail
      generalize hW : w4.alloc (.cells #[.int .i64 i, .slice a 18 c, .slice p h cp] 24) = W4 at *
      clear hW s0 s1 s2
      obtain ⟨b, hb⟩ : ∃ b, verB (pubOf sec h) o (i : Int) (sigOf sec i m) (pathOf sec h i) = b := ⟨_, rfl⟩
      refine (verify_of (pubOf sec h) o _ _ i a p 18 c h cp (sigOf sec i m) (pathOf sec h i) b _ rfl rfl T4.out HA.out HP.out (sigOf_len _ _ _).symm (path_len _ _ _).symm (by omega) (by decide) (by omega) (sigOf_small _ _ _) (pathOf_small _ _ _) hb).mono ?_
      rintro e w5 ⟨rfl, hb5⟩
      have B5 := Lib.hid (B4.out.trans (hb5.mono B4.out.size))
      have R5 := Lib.hid (R4'.out.below hb5 R4'.out.inside)
      have A5 := Lib.hid (HA.out.later hb5)
      have P5 := Lib.hid (HP.out.later hb5)
      have HV := Lib.hid hb
      clear T4 HA HP B4 R4' hb5 hb
      cases b with
      | false =>
        go_wp2
        go_ret
        exact ⟨rfl, B5.out⟩
      | true =>
        have HC : Hid (Coll (made sec h 30 ++ checked o i (sigOf sec i m) (pathOf sec h i))) := binds HI2.out HNE.out HV.out (fun x hx => List.mem_append.2 (.inl hx)) (fun x hx => List.mem_append.2 (.inr hx))
        have S1 : Hid (∀ x ∈ made sec h 30 ++ checked o i (sigOf sec i m) (pathOf sec h i), x.length ≤ 100000) := mem_small (made_small sec h 30 (by omega) (by omega)) (checked_small o i (sigOf_small _ _ _) (pathOf_small _ _ _))
        have hi1000 : i < 1000000 := by have := HI2.out; have h4 := Nat.pow_le_pow_right (n := 2) (by decide) h3; omega
        have N0 : Hid (0 < (checked o i (sigOf sec i m) (pathOf sec h i)).length) := List.length_pos_of_mem (mem_checked_ends o i (sigOf sec i m) (pathOf sec h i))
        have G1 : Hid ((sigOf sec i m).length = 18) := sigOf_len _ _ _
        have G2 : Hid (h = (pathOf sec h i).length) := (path_len _ _ _).symm
        have G3 : Hid (∀ x ∈ sigOf sec i m, x.length ≤ 1000) := sigOf_small _ _ _
        have G4 : Hid (∀ x ∈ pathOf sec h i, x.length ≤ 1000) := pathOf_small _ _ _
        clear HV
        generalize sigOf sec i m = sig at *
        generalize pathOf sec h i = ps at *
        obtain ⟨s0, s1, s2, _, _, _⟩ := store_facts R5.out
        go_wp2_with fail
        clear f1
        have HI6 := Lib.hid hi1000
        clear hi1000
        go_region_held3 (fun w' => w'.cell? ⟨w4.heap.size, 0, none⟩ = some (.int .i64 i) ∧ w'.cell? ⟨w4.heap.size, 1, none⟩ = some (.slice a 18 c) ∧ w'.cell? ⟨w4.heap.size, 2, none⟩ = some (.slice p h cp)) (first | go_keep | exact KS)
          (first
            | (go_at_call 23; refine (made_of sec _ h 30 _ _ _ rfl rfl rfl (by omega) h3 (by decide) (by decide)).mono ?_; rintro e w6 ⟨a1, n1, c1, rfl, hn1, ho1, hb6⟩; have hbw : Below w5.heap.size w5 w6 := Below.trans (below_drew' w5) hb6; have KS := And.intro (kept hbw s0) (And.intro (kept hbw s1) (kept hbw s2)))
            | (go_at_call 24; refine (checked_of o _ _ i a p c h cp sig ps w5 _ hbw rfl rfl hol A5 P5 G1 G2 h3 HI6 G3 G4).mono ?_; rintro e w7 ⟨g2, n2, c2, rfl, hn20, hn2, ho2, hb7⟩; have hbw7 : Below w5.heap.size w5 w7 := Below.trans hbw (hb7.mono hbw.size); have KS := And.intro (kept hbw7 s0) (And.intro (kept hbw7 s1) (kept hbw7 s2)))
            | ((refine step_appLG (by rfl) _ _ (by rfl) w5.heap.size _ n1 _ (checked o i sig ps) ⟨g2, 0, none⟩ n2 c2 (by rfl) (Own.later ho1 hb7) (by rfl) ho2.out.txt.2 ho2.out.1 hn20 (by omega) (by omega) hbw7.size ?_; intro g cap w8 ho8 hg8 hlt8 hor8 hsz8; have hbw8 : Below w5.heap.size w5 w8 := hbw7.grown hg8 hbw7.size (fun k hk => (hlt8 k hk).1); have KS := And.intro (kept hbw8 s0) (And.intro (kept hbw8 s1) (kept hbw8 s2))))
            | (go_at_call 22; refine (shown_of (some ⟨g, 0, none⟩) (n1 + n2) cap (made sec h 30 ++ checked o i sig ps) _ ho8.txt.2 ho8.1 (by omega) S1.out HC.out).mono ?_; rintro e w9 ⟨rfl, hb9⟩; have hbw9 : Below w5.heap.size w5 w9 := Below.trans hbw8 (hb9.mono hbw8.size); have KS := And.intro (kept hbw9 s0) (And.intro (kept hbw9 s1) (kept hbw9 s2))))
        have B9 := Lib.hid (B5.out.trans (hbw9.mono B5.out.size))
        clear ho1 ho2 ho8 hg8 hlt8 hor8 hbw hbw7 hbw8 hbw9 KS S1 HC
        go_wp2
        go_ret
        exact ⟨rfl, B9.out⟩
end Go.Proofs.YtmladmljibcagaaDoor.Sl
