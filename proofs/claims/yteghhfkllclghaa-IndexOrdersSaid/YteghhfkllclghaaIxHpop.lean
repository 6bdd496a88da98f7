/- container/heap.Pop, at the queue. -/
import Derived.Test.YteghhfkllclghaaIxDown
namespace Go.Proofs.Yteghhfkllclghaa.Ix
open Go.RowKit Go.Sort
theorem heap_take {M : List Qi} {n : Nat} (h : HeapL bfQ M n) (hn : n ≤ M.length) : HeapL bfQ (M.take n) (M.take n).length := fun i h0 hi a b ha hb => by
  have hl : (M.take n).length = n := by rw [List.length_take]; omega
  rw [hl] at hi
  rw [List.getElem?_take, if_pos hi] at ha
  rw [List.getElem?_take, if_pos (by unfold par; omega)] at hb
  exact h i h0 hi a b ha hb
theorem take_last {M : List Qi} {n : Nat} {r : Qi} (hl : M.length = n + 1) (hr : M[n]? = some r) : M.Perm (r :: M.take n) := by
  have h1 := (List.getElem?_eq_some_iff.1 hr).1
  have e : M.take n ++ [r] = M := by
    have := List.take_append_getElem (l := M) (i := n) (by omega)
    rw [(List.getElem?_eq_some_iff.1 hr).2] at this
    rw [this, List.take_of_length_le (by omega)]
  have hp := List.perm_append_comm (l₁ := M.take n) (l₂ := [r])
  rw [e] at hp
  exact hp
set_option maxRecDepth 100000 in
set_option maxHeartbeats 2000000 in
theorem hpop_any (w : World) (base q : Nat) (v : Value) (L : List Qi) (r : Qi) (h : Qu w base q v L) (hH : HeapL bfQ L L.length) (hr : L[0]? = some r) (hlen : L.length ≤ 1000000) (hbase : base ≤ w.heap.size) :
    Calls Try.prog 43 #[qI q] w fun e w' => e = .returned (itV r) ∧ (∃ v' M, Qu w' base q v' M ∧ L.Perm (r :: M) ∧ HeapL bfQ M M.length) ∧ Bq base q w w' := by
  obtain ⟨n, hn⟩ : ∃ n, L.length = n + 1 := ⟨L.length - 1, by have := (List.getElem?_eq_some_iff.1 hr).1; omega⟩
  obtain ⟨z, hz⟩ : ∃ z, L[n]? = some z := ⟨_, List.getElem?_eq_getElem (by omega)⟩
  have k1 := Lib.hid (len_any w base q v L h)
  have k2 := Lib.hid (swap_any w base q v L h hr hz)
  have HN := Lib.hid hn
  have HL := Lib.hid hlen
  have HB := Lib.hid hbase
  have HX := Lib.hid (And.intro hH (And.intro hr hz))
  have ml := m_len q
  have ms := m_swap q
  have mp := m_pop q
  have hw1 : wrap64 ((n : Int) + 1 - 1) = (n : Int) := by unfold wrap64; omega
  have hw2 : wrap64 (n : Int) = (n : Int) := by unfold wrap64; omega
  rw [hn] at k1
  unfold ptr at k1 k2
  rw [show ((0 : Nat) : Int) = 0 from rfl] at k2
  clear h hH hr hz hn hbase
  unfold qI
  go_enter Try.func43, Try.ntmps43
  go_wp2_with fail
  refine k1.out.mono ?_
  rintro e w1 ⟨rfl, rfl⟩
  clear k1
  go_wp2_with fail
  refine k2.out.mono ?_
  rintro e w2 ⟨rfl, h2, b2⟩
  have B2 := Lib.hid b2
  have hb2 := Nat.le_trans HB.out b2.size
  have hD := down_start (bf := bfQ) (L := L) (m := n) (by rw [← HN.out]; exact HX.out.1) HX.out.2.1 HX.out.2.2
  have hl2 : (swp L 0 n).length = n + 1 := by rw [swp_len]; exact HN.out
  have hlast : (swp L 0 n)[n]? = some r := by rw [swp_get HX.out.2.1 HX.out.2.2, if_pos rfl]
  have k3 := Lib.hid (down_any w2 base q v _ n h2 hD (by omega) (by have := HL.out; have := HN.out; omega) hb2)
  unfold qI at k3
  have HP := Lib.hid (And.intro (swp_perm HX.out.2.1 HX.out.2.2) (And.intro hl2 hlast))
  clear h2 b2 hb2 hD hl2 hlast k2
  go_wp2_with fail
  refine k3.out.mono ?_
  rintro e w3 ⟨⟨bb, rfl⟩, ⟨M, h3, hp, hH3, hl3⟩, b3⟩
  have B3 := Lib.hid (B2.out.trans b3)
  have hb3 := Nat.le_trans HB.out B3.out.size
  have hM : M.length = n + 1 := by rw [hp.length_eq]; exact HP.out.2.1
  have hMn : M[n]? = some r := hl3.trans HP.out.2.2
  have k4 := Lib.hid (pop_any w3 base q v M r h3 (by rw [hM]; exact hMn) hb3)
  unfold ptr at k4
  rw [hM] at k4
  have HF := Lib.hid (show L.Perm (r :: M.take n) ∧ HeapL bfQ (M.take n) (M.take n).length from ⟨(HP.out.1.symm.trans hp.symm).trans (take_last hM hMn), heap_take hH3 (by omega)⟩)
  clear h3 hp hH3 hl3 b3 hb3 hM hMn k3
  go_wp2_with fail
  refine k4.out.mono ?_
  rintro e w4 ⟨rfl, ⟨v', h4⟩, b4⟩
  have hfin := Lib.hid (show (∃ v' M, Qu w4 base q v' M ∧ L.Perm (r :: M) ∧ HeapL bfQ M M.length) ∧ Bq base q w1 w4 from ⟨⟨v', M.take n, h4, HF.out.1, HF.out.2⟩, B3.out.trans b4⟩)
  clear h4 b4 k4 HF
  obtain ⟨Y, hY⟩ : ∃ Y, itV r = Y := ⟨_, rfl⟩
  have HY := Lib.hid hY
  rw [hY]
  clear hY
  go_wp2
  go_ret
  exact ⟨by rw [HY.out]; rfl, hfin.out⟩
end Go.Proofs.Yteghhfkllclghaa.Ix
