/- container/heap.Push, down, at the queue. -/
import Derived.Test.YteghhfkllclghaaIxUp
namespace Go.Proofs.Yteghhfkllclghaa.Ix
open Go.RowKit Go.Sort
set_option maxRecDepth 100000 in
set_option maxHeartbeats 2000000 in
theorem hpush_any (w : World) (base q : Nat) (v : Value) (L : List Qi) (y : Qi) (h : Qu w base q v L) (hH : HeapL bfQ L L.length) (hlen : L.length ≤ 100000) (hbase : base ≤ w.heap.size) :
    Calls Try.prog 40 #[qI q, itV y] w fun e w' => e = .returned (.tuple #[]) ∧ (∃ v' L', Qu w' base q v' L' ∧ L'.Perm (y :: L) ∧ HeapL bfQ L' L'.length) ∧ Bq base q w w' := by
  have k1 := Lib.hid (push_any w base q v L y h hlen hbase)
  have HH := Lib.hid hH
  have HL := Lib.hid hlen
  have HB := Lib.hid hbase
  have ml := m_len q
  have mp := m_push q
  clear h hH hbase
  unfold ptr at k1
  obtain ⟨Y, hY⟩ : ∃ Y, itV y = Y := ⟨_, rfl⟩
  rw [hY] at k1 ⊢
  clear hY
  unfold qI
  go_enter Try.func40, Try.ntmps40
  go_wp2_with fail
  refine k1.out.mono ?_
  rintro e w1 ⟨rfl, ⟨v1, h1⟩, b1⟩
  have B1 := Lib.hid b1
  have hl : (L ++ [y]).length = L.length + 1 := by simp
  have k2 := Lib.hid (len_any w1 base q v1 _ h1)
  rw [hl] at k2
  have hb1 := Nat.le_trans HB.out b1.size
  have k3 := Lib.hid (up_any w1 base q v1 (L ++ [y]) L.length h1 (up_start HH.out y) (by rw [hl]; omega) (by rw [hl]; omega) hb1)
  unfold ptr at k2
  unfold qI at k3
  have hw1 : wrap64 ((L.length : Int) + 1 - 1) = (L.length : Int) := by unfold wrap64; omega
  clear h1 b1 k1 hl hb1
  go_wp2_with fail
  refine k2.out.mono ?_
  rintro e w2 ⟨rfl, rfl⟩
  clear k2
  go_wp2_with fail
  refine k3.out.mono ?_
  rintro e w3 ⟨rfl, ⟨L', h2, h3, h4⟩, b3⟩
  have hfin := Lib.hid (show (∃ v' L', Qu w3 base q v' L' ∧ L'.Perm (y :: L) ∧ HeapL bfQ L' L'.length) ∧ Bq base q w w3 from ⟨⟨v1, L', h2, h3.trans (List.perm_append_comm (l₁ := L) (l₂ := [y])), h4⟩, B1.out.trans b3⟩)
  clear h2 h3 h4 b3 k3
  go_wp2
  go_end0
  exact ⟨rfl, hfin.out⟩
set_option maxRecDepth 100000 in
set_option maxHeartbeats 4000000 in
theorem down_any (w : World) (base q : Nat) (v : Value) (L : List Qi) (n : Nat) (h : Qu w base q v L) (hD : DownInv bfQ L n 0) (hn : n < L.length) (hlen : L.length ≤ 1000000) (hbase : base ≤ w.heap.size) :
    Calls Try.prog 51 #[qI q, .int .i64 0, .int .i64 n] w fun e w' => (∃ b, e = .returned (.bool b)) ∧ (∃ L', Qu w' base q v L' ∧ L'.Perm L ∧ HeapL bfQ L' n ∧ L'[n]? = L[n]?) ∧ Bq base q w w' := by
  have H := Lib.hid h
  have HD := Lib.hid hD
  have HL := Lib.hid hlen
  have HB := Lib.hid hbase
  have ml := m_less q
  have ms := m_swap q
  clear h hD hbase
  unfold qI
  go_enter Try.func51, Try.ntmps51
  go_wp2_with fail
  go_loopw [7] (fun t wr => ∃ i : Nat, i ≤ n ∧ t = .int .i64 i ∧ Hid (∃ L', L'.Perm L ∧ Qu wr base q v L' ∧ DownInv bfQ L' n i ∧ L'[n]? = L[n]?) ∧ Hid (Bq base q w wr)) (fun t _ => n - (intOf t).toNat)
  case atStart => exact ⟨0, by omega, rfl, Lib.hid ⟨L, List.Perm.refl _, H.out, HD.out, rfl⟩, Lib.hid (Bq.refl _ _ _)⟩
  case round =>
    obtain ⟨i, hi, rfl, hinv, hb⟩ := hrel
    obtain ⟨M, hp, hq, hd, he⟩ := hinv.out
    have hml : M.length = L.length := hp.length_eq
    have hw1 : wrap64 (2 * (i : Int)) = 2 * (i : Int) := by unfold wrap64; omega
    have hw2 : wrap64 (2 * (i : Int) + 1) = 2 * (i : Int) + 1 := by unfold wrap64; omega
    have hw3 : wrap64 (2 * (i : Int) + 1 + 1) = 2 * (i : Int) + 1 + 1 := by unfold wrap64; omega
    have hbs : base ≤ wr.heap.size := Nat.le_trans HB.out hb.out.size
    by_cases h1 : n ≤ 2 * i + 1
    · have hg : (n : Int) ≤ 2 * (i : Int) + 1 := by omega
      have HE := Lib.hid (show ∃ L', Qu wr base q v L' ∧ L'.Perm L ∧ HeapL bfQ L' n ∧ L'[n]? = L[n]? from ⟨M, hq, hp, down_done hd (fun k h0 hk hpk => by unfold par at hpk; omega), he⟩)
      clear hinv hp hq hd he
      go_wp2
      go_ret
      exact ⟨⟨_, rfl⟩, HE.out, hb.out⟩
    · have hg : ¬ (n : Int) ≤ 2 * (i : Int) + 1 := by omega
      have hg0 : ¬ 2 * (i : Int) + 1 < 0 := by omega
      obtain ⟨a, ha⟩ : ∃ a, M[i]? = some a := ⟨_, List.getElem?_eq_getElem (by omega)⟩
      obtain ⟨b1, hbb1⟩ : ∃ b, M[2 * i + 1]? = some b := ⟨_, List.getElem?_eq_getElem (by omega)⟩
      by_cases h2 : 2 * i + 2 < n
      · have hg2 : 2 * (i : Int) + 1 + 1 < (n : Int) := by omega
        obtain ⟨b2, hbb2⟩ : ∃ b, M[2 * i + 2]? = some b := ⟨_, List.getElem?_eq_getElem (by omega)⟩
        have k1 := Lib.hid (less_any wr base q v M hq hbb2 hbb1)
        unfold ptr at k1
        rw [show ((2 * i + 2 : Nat) : Int) = 2 * (i : Int) + 1 + 1 by omega, show ((2 * i + 1 : Nat) : Int) = 2 * (i : Int) + 1 by omega] at k1
        cases hc : bfQ b2 b1 with
        | false =>
          have HC := Lib.hid hc
          rw [hc] at k1
          clear hinv hc
          go_wp2_with fail
          refine k1.out.mono ?_
          rintro e w2 ⟨rfl, bb⟩
          have hq2 := Lib.hid (hq.below bb)
          have hb2' := Lib.hid (hb.out.trans (bb.q hbs))
          have hbs2 : base ≤ w2.heap.size := Nat.le_trans hbs bb.size
          clear bb k1 hq
          have hs : ∀ k, 0 < k → k < n → par k = i → ∀ x, M[k]? = some x → bfQ x b1 = false := fun k h0 hk hpk x hx => by
            have hk2 : k = 2 * i + 1 ∨ k = 2 * i + 2 := by unfold par at hpk; omega
            rcases hk2 with rfl | rfl
            · rw [hbb1] at hx; injection hx with hx; rw [← hx]; exact bf_irr _
            · rw [hbb2] at hx; injection hx with hx; rw [← hx]; exact HC.out
          have hx := hbb1
          have k3 := Lib.hid (less_any w2 base q v M hq2.out hx ha)
          unfold ptr at k3
          rw [show ((2 * i + 1 : Nat) : Int) = 2 * (i : Int) + 1 by omega] at k3
          cases hlt : bfQ b1 a with
          | false =>
            have HE := Lib.hid (show ∃ L', Qu w2 base q v L' ∧ L'.Perm L ∧ HeapL bfQ L' n ∧ L'[n]? = L[n]? from ⟨M, hq2.out, hp, down_done hd (fun k h0 hk hpk x y hx' hy => by
              have hy' : y = a := by rw [ha] at hy; injection hy with hy; exact hy.symm
              rw [hy']
              exact bf_weak.neg _ _ _ (hs k h0 hk hpk x hx') hlt), he⟩)
            rw [hlt] at k3
            clear hlt hs hp hd he hq2
            go_wp2_with fail
            refine k3.out.mono ?_
            rintro e w3 ⟨rfl, b3⟩
            have hfin := Lib.hid (show (∃ L', Qu w3 base q v L' ∧ L'.Perm L ∧ HeapL bfQ L' n ∧ L'[n]? = L[n]?) ∧ Bq base q w w3 by
              obtain ⟨L', h1, h2, h3, h4⟩ := HE.out
              exact ⟨⟨L', h1.below b3, h2, h3, h4⟩, hb2'.out.trans (b3.q hbs2)⟩)
            clear b3 k3 HE
            go_wp2
            go_ret
            exact ⟨⟨_, rfl⟩, hfin.out⟩
          | true =>
            have HU2 := Lib.hid (down_step bf_weak hd (by omega) (by omega) (by unfold par; omega) ha hx hlt hs)
            rw [hlt] at k3
            have HM := Lib.hid (And.intro hp (And.intro ha (And.intro hx he)))
            clear hlt hs hp hd he
            go_wp2_with fail
            refine k3.out.mono ?_
            rintro e w3 ⟨rfl, b3⟩
            have k4 := Lib.hid (swap_any w3 base q v M (hq2.out.below b3) HM.out.2.1 HM.out.2.2.1)
            unfold ptr at k4
            rw [show ((2 * i + 1 : Nat) : Int) = 2 * (i : Int) + 1 by omega] at k4
            have hb3 := Lib.hid (hb2'.out.trans (b3.q hbs2))
            clear b3 k3 hq2 hb2'
            go_wp2_with fail
            refine k4.out.mono ?_
            rintro e w4 ⟨rfl, hq4, b4⟩
            have HI := Lib.hid (show ∃ L', L'.Perm L ∧ Qu w4 base q v L' ∧ DownInv bfQ L' n (2 * i + 1) ∧ L'[n]? = L[n]? from ⟨_, (swp_perm HM.out.2.1 HM.out.2.2.1).trans HM.out.1, hq4, HU2.out, by rw [swp_get HM.out.2.1 HM.out.2.2.1, if_neg (by omega), if_neg (by omega)]; exact HM.out.2.2.2⟩)
            have hb4 := Lib.hid (hb3.out.trans b4)
            clear hq4 b4 k4 HU2 HM hb3
            go_wp2_with fail
            go_roundw
            case rel => exact ⟨2 * i + 1, by omega, by go_num, HI, hb4⟩
            case measure => simp [intOf]; omega
        | true =>
          have HC := Lib.hid hc
          rw [hc] at k1
          clear hinv hc
          go_wp2_with fail
          refine k1.out.mono ?_
          rintro e w2 ⟨rfl, bb⟩
          have hq2 := Lib.hid (hq.below bb)
          have hb2' := Lib.hid (hb.out.trans (bb.q hbs))
          have hbs2 : base ≤ w2.heap.size := Nat.le_trans hbs bb.size
          clear bb k1 hq
          have hs : ∀ k, 0 < k → k < n → par k = i → ∀ x, M[k]? = some x → bfQ x b2 = false := fun k h0 hk hpk x hx => by
            have hk2 : k = 2 * i + 1 ∨ k = 2 * i + 2 := by unfold par at hpk; omega
            rcases hk2 with rfl | rfl
            · rw [hbb1] at hx; injection hx with hx; rw [← hx]; exact bf_weak.asymm _ _ HC.out
            · rw [hbb2] at hx; injection hx with hx; rw [← hx]; exact bf_irr _
          have hx := hbb2
          have k3 := Lib.hid (less_any w2 base q v M hq2.out hx ha)
          unfold ptr at k3
          rw [show ((2 * i + 2 : Nat) : Int) = 2 * (i : Int) + 1 + 1 by omega] at k3
          cases hlt : bfQ b2 a with
          | false =>
            have HE := Lib.hid (show ∃ L', Qu w2 base q v L' ∧ L'.Perm L ∧ HeapL bfQ L' n ∧ L'[n]? = L[n]? from ⟨M, hq2.out, hp, down_done hd (fun k h0 hk hpk x y hx' hy => by
              have hy' : y = a := by rw [ha] at hy; injection hy with hy; exact hy.symm
              rw [hy']
              exact bf_weak.neg _ _ _ (hs k h0 hk hpk x hx') hlt), he⟩)
            rw [hlt] at k3
            clear hlt hs hp hd he hq2
            go_wp2_with fail
            refine k3.out.mono ?_
            rintro e w3 ⟨rfl, b3⟩
            have hfin := Lib.hid (show (∃ L', Qu w3 base q v L' ∧ L'.Perm L ∧ HeapL bfQ L' n ∧ L'[n]? = L[n]?) ∧ Bq base q w w3 by
              obtain ⟨L', h1, h2, h3, h4⟩ := HE.out
              exact ⟨⟨L', h1.below b3, h2, h3, h4⟩, hb2'.out.trans (b3.q hbs2)⟩)
            clear b3 k3 HE
            go_wp2
            go_ret
            exact ⟨⟨_, rfl⟩, hfin.out⟩
          | true =>
            have HU2 := Lib.hid (down_step bf_weak hd (by omega) (by omega) (by unfold par; omega) ha hx hlt hs)
            rw [hlt] at k3
            have HM := Lib.hid (And.intro hp (And.intro ha (And.intro hx he)))
            clear hlt hs hp hd he
            go_wp2_with fail
            refine k3.out.mono ?_
            rintro e w3 ⟨rfl, b3⟩
            have k4 := Lib.hid (swap_any w3 base q v M (hq2.out.below b3) HM.out.2.1 HM.out.2.2.1)
            unfold ptr at k4
            rw [show ((2 * i + 2 : Nat) : Int) = 2 * (i : Int) + 1 + 1 by omega] at k4
            have hb3 := Lib.hid (hb2'.out.trans (b3.q hbs2))
            clear b3 k3 hq2 hb2'
            go_wp2_with fail
            refine k4.out.mono ?_
            rintro e w4 ⟨rfl, hq4, b4⟩
            have HI := Lib.hid (show ∃ L', L'.Perm L ∧ Qu w4 base q v L' ∧ DownInv bfQ L' n (2 * i + 2) ∧ L'[n]? = L[n]? from ⟨_, (swp_perm HM.out.2.1 HM.out.2.2.1).trans HM.out.1, hq4, HU2.out, by rw [swp_get HM.out.2.1 HM.out.2.2.1, if_neg (by omega), if_neg (by omega)]; exact HM.out.2.2.2⟩)
            have hb4 := Lib.hid (hb3.out.trans b4)
            clear hq4 b4 k4 HU2 HM hb3
            go_wp2_with fail
            go_roundw
            case rel => exact ⟨2 * i + 2, by omega, by go_num, HI, hb4⟩
            case measure => simp [intOf]; omega
      · have hg2 : ¬ 2 * (i : Int) + 1 + 1 < (n : Int) := by omega
        have hq2 := Lib.hid hq
        have hb2' := hb
        have hbs2 := hbs
        clear hinv hq
        have hs : ∀ k, 0 < k → k < n → par k = i → ∀ x, M[k]? = some x → bfQ x b1 = false := fun k h0 hk hpk x hx => by
          have hk2 : k = 2 * i + 1 := by unfold par at hpk; omega
          subst hk2
          rw [hbb1] at hx; injection hx with hx; rw [← hx]; exact bf_irr _
        have hx := hbb1
        have k3 := Lib.hid (less_any wr base q v M hq2.out hx ha)
        unfold ptr at k3
        rw [show ((2 * i + 1 : Nat) : Int) = 2 * (i : Int) + 1 by omega] at k3
        cases hlt : bfQ b1 a with
        | false =>
          have HE := Lib.hid (show ∃ L', Qu wr base q v L' ∧ L'.Perm L ∧ HeapL bfQ L' n ∧ L'[n]? = L[n]? from ⟨M, hq2.out, hp, down_done hd (fun k h0 hk hpk x y hx' hy => by
            have hy' : y = a := by rw [ha] at hy; injection hy with hy; exact hy.symm
            rw [hy']
            exact bf_weak.neg _ _ _ (hs k h0 hk hpk x hx') hlt), he⟩)
          rw [hlt] at k3
          clear hlt hs hp hd he hq2
          go_wp2_with fail
          refine k3.out.mono ?_
          rintro e w3 ⟨rfl, b3⟩
          have hfin := Lib.hid (show (∃ L', Qu w3 base q v L' ∧ L'.Perm L ∧ HeapL bfQ L' n ∧ L'[n]? = L[n]?) ∧ Bq base q w w3 by
            obtain ⟨L', h1, h2, h3, h4⟩ := HE.out
            exact ⟨⟨L', h1.below b3, h2, h3, h4⟩, hb2'.out.trans (b3.q hbs2)⟩)
          clear b3 k3 HE
          go_wp2
          go_ret
          exact ⟨⟨_, rfl⟩, hfin.out⟩
        | true =>
          have HU2 := Lib.hid (down_step bf_weak hd (by omega) (by omega) (by unfold par; omega) ha hx hlt hs)
          rw [hlt] at k3
          have HM := Lib.hid (And.intro hp (And.intro ha (And.intro hx he)))
          clear hlt hs hp hd he
          go_wp2_with fail
          refine k3.out.mono ?_
          rintro e w3 ⟨rfl, b3⟩
          have k4 := Lib.hid (swap_any w3 base q v M (hq2.out.below b3) HM.out.2.1 HM.out.2.2.1)
          unfold ptr at k4
          rw [show ((2 * i + 1 : Nat) : Int) = 2 * (i : Int) + 1 by omega] at k4
          have hb3 := Lib.hid (hb2'.out.trans (b3.q hbs2))
          clear b3 k3 hq2 hb2'
          go_wp2_with fail
          refine k4.out.mono ?_
          rintro e w4 ⟨rfl, hq4, b4⟩
          have HI := Lib.hid (show ∃ L', L'.Perm L ∧ Qu w4 base q v L' ∧ DownInv bfQ L' n (2 * i + 1) ∧ L'[n]? = L[n]? from ⟨_, (swp_perm HM.out.2.1 HM.out.2.2.1).trans HM.out.1, hq4, HU2.out, by rw [swp_get HM.out.2.1 HM.out.2.2.1, if_neg (by omega), if_neg (by omega)]; exact HM.out.2.2.2⟩)
          have hb4 := Lib.hid (hb3.out.trans b4)
          clear hq4 b4 k4 HU2 HM hb3
          go_wp2_with fail
          go_roundw
          case rel => exact ⟨2 * i + 1, by omega, by go_num, HI, hb4⟩
          case measure => simp [intOf]; omega
end Go.Proofs.Yteghhfkllclghaa.Ix
