/- container/heap.up, at the queue. -/
import Derived.Test.YteghhfkllclghaaIxPush
namespace Go.Proofs.Yteghhfkllclghaa.Ix
open Go.RowKit Go.Sort
/-- the queue as a heap.Interface. -/
def qI (q : Nat) : Value := .iface 75 (.pointer (some ⟨q, 0, none⟩))
/- 245: the number of the program's types. -/
theorem m_less (q : Nat) (w : World) : (method 145 75 (.pointer (some ⟨q, 0, none⟩)) "Less").run Try.prog w = .ok (91, .pointer (some ⟨q, 0, none⟩)) w := by kernel_rfl
theorem m_swap (q : Nat) (w : World) : (method 145 75 (.pointer (some ⟨q, 0, none⟩)) "Swap").run Try.prog w = .ok (94, .pointer (some ⟨q, 0, none⟩)) w := by kernel_rfl
theorem m_push (q : Nat) (w : World) : (method 145 75 (.pointer (some ⟨q, 0, none⟩)) "Push").run Try.prog w = .ok (93, .pointer (some ⟨q, 0, none⟩)) w := by kernel_rfl
theorem m_pop (q : Nat) (w : World) : (method 145 75 (.pointer (some ⟨q, 0, none⟩)) "Pop").run Try.prog w = .ok (92, .pointer (some ⟨q, 0, none⟩)) w := by kernel_rfl
theorem m_len (q : Nat) (w : World) : (method 145 75 (.pointer (some ⟨q, 0, none⟩)) "Len").run Try.prog w = .ok (42, .pointer (some ⟨q, 0, none⟩)) w := by kernel_rfl
theorem par_div {n : Nat} (h : 0 < n) : ((n : Int) - 1).tdiv 2 = (par n : Int) := by
  unfold par
  rw [Int.tdiv_eq_ediv_of_nonneg (by omega)]
  omega
set_option maxRecDepth 100000 in
set_option maxHeartbeats 2000000 in
theorem up_any (w : World) (base q : Nat) (v : Value) (L : List Qi) (j : Nat) (h : Qu w base q v L) (hU : UpInv bfQ L j) (hj : j < L.length) (hlen : L.length ≤ 1000000) (hbase : base ≤ w.heap.size) :
    Calls Try.prog 50 #[qI q, .int .i64 j] w fun e w' => e = .returned (.tuple #[]) ∧ (∃ L', Qu w' base q v L' ∧ L'.Perm L ∧ HeapL bfQ L' L'.length) ∧ Bq base q w w' := by
  have H := Lib.hid h
  have HU := Lib.hid hU
  have HL := Lib.hid hlen
  have HB := Lib.hid hbase
  clear h hU hbase
  unfold qI
  go_enter Try.func50, Try.ntmps50
  go_wp2_with fail
  go_loopw [1] (fun t wr => ∃ n : Nat, n < L.length ∧ t = .int .i64 n ∧ Hid (∃ L', L'.Perm L ∧ Qu wr base q v L' ∧ UpInv bfQ L' n) ∧ Hid (Bq base q w wr)) (fun t _ => (intOf t).toNat)
  case atStart => exact ⟨j, hj, rfl, Lib.hid ⟨L, List.Perm.refl _, H.out, HU.out⟩, Lib.hid (Bq.refl _ _ _)⟩
  case round =>
    obtain ⟨n, hn, rfl, hi, hb⟩ := hrel
    obtain ⟨M, hp, hq, hu⟩ := hi.out
    have hml : M.length = L.length := hp.length_eq
    by_cases h0 : n = 0
    · subst h0
      have HE := Lib.hid (show ∃ L', Qu wr base q v L' ∧ L'.Perm L ∧ HeapL bfQ L' L'.length from ⟨M, hq, hp, up_done hu (.inl rfl)⟩)
      clear hi hq hu hp
      go_wp2
      go_end0
      exact ⟨rfl, HE.out, hb.out⟩
    · have hpar := par_div (n := n) (by omega)
      have hpl : par n < n := by unfold par; omega
      have hne : ((par n : Nat) : Int) ≠ (n : Int) := by omega
      have hbe : (((par n : Nat) : Int) == (n : Int)) = false := by simp; omega
      obtain ⟨a, ha⟩ : ∃ a, M[n]? = some a := ⟨_, List.getElem?_eq_getElem (by omega)⟩
      obtain ⟨b, hb'⟩ : ∃ b, M[par n]? = some b := ⟨_, List.getElem?_eq_getElem (by omega)⟩
      have hbs : base ≤ wr.heap.size := Nat.le_trans HB.out hb.out.size
      have k1 := Lib.hid (less_any wr base q v M hq ha hb')
      have HM := Lib.hid (And.intro hp (And.intro hq (And.intro hu (And.intro ha (And.intro hb' hbs)))))
      clear hi hp hq hu ha hb' hbs hml
      have hw : wrap64 ((n : Int) - 1) = (n : Int) - 1 := by have := HL.out; unfold wrap64; omega
      have ml := m_less q
      have ms := m_swap q
      unfold ptr at k1
      cases hlt : bfQ a b with
      | false =>
        have HE := Lib.hid (show ∃ L', Qu wr base q v L' ∧ L'.Perm L ∧ HeapL bfQ L' L'.length from ⟨M, HM.out.2.1, HM.out.1, up_done HM.out.2.2.1 (.inr fun x y hx hy => by
          rw [HM.out.2.2.2.1] at hx; rw [HM.out.2.2.2.2.1] at hy
          injection hx with hx; injection hy with hy
          rw [← hx, ← hy]; exact hlt)⟩)
        rw [hlt] at k1
        clear hlt
        go_wp2_with fail
        refine k1.out.mono ?_
        rintro e w2 ⟨rfl, b2⟩
        have hfin := Lib.hid (show (∃ L', Qu w2 base q v L' ∧ L'.Perm L ∧ HeapL bfQ L' L'.length) ∧ Bq base q w w2 by
          obtain ⟨L', h1, h2, h3⟩ := HE.out
          exact ⟨⟨L', h1.below b2, h2, h3⟩, hb.out.trans (b2.q HM.out.2.2.2.2.2)⟩)
        clear b2 k1 HE
        go_wp2
        go_end0
        exact ⟨rfl, hfin.out⟩
      | true =>
        have HU2 := Lib.hid (up_step bf_weak HM.out.2.2.1 (by omega) HM.out.2.2.2.1 HM.out.2.2.2.2.1 hlt)
        rw [hlt] at k1
        clear hlt
        go_wp2_with fail
        refine k1.out.mono ?_
        rintro e w2 ⟨rfl, b2⟩
        have k2 := Lib.hid (swap_any w2 base q v M (HM.out.2.1.below b2) HM.out.2.2.2.2.1 HM.out.2.2.2.1)
        have hb2 := Lib.hid (hb.out.trans (b2.q HM.out.2.2.2.2.2))
        unfold ptr at k2
        clear b2 k1
        go_wp2_with fail
        refine k2.out.mono ?_
        rintro e w3 ⟨rfl, hq3, b3⟩
        have HI := Lib.hid (show ∃ L', L'.Perm L ∧ Qu w3 base q v L' ∧ UpInv bfQ L' (par n) from ⟨_, (swp_perm HM.out.2.2.2.2.1 HM.out.2.2.2.1).trans HM.out.1, hq3, HU2.out⟩)
        have hb3 := Lib.hid (hb2.out.trans b3)
        have hpn : par n < L.length := by omega
        clear hq3 b3 k2 HU2 HM
        go_wp2_with fail
        go_roundw
        case rel => exact ⟨par n, hpn, by go_num, HI, hb3⟩
        case measure => simp [intOf]; omega
end Go.Proofs.Yteghhfkllclghaa.Ix
