/- tag: Get; the reference's Same, Strings, Few; the laws' few. -/
import Derived.Test.YtlknbjaippfemaaTgLeaf
namespace Go.Proofs.Ytlknbjaippfemaa.Tg
open Go.RowKit
open Lx hiding intOf
theorem get_at {l : List T} {k : B} {j : Nat} (h : ∀ t ∈ l.take j, t.1 ≠ k) (hj : j < l.length) (he : l[j].1 = k) : getO l k = some l[j].2 := by rw [get_take h hj, if_pos he]
set_option maxRecDepth 100000 in
set_option maxHeartbeats 4000000 in
theorem get_any (ao : Option Addr) (n cap : Nat) (l : List T) (key : B) (w : World) (hn : l.length = n) (ha : TagsT w w.heap.size ao l) (hc : n ≤ cap) (hm : n ≤ 1000000) :
    Calls Try.prog 16 #[.slice ao n cap, .string ⟨key.toArray⟩] w fun e w' => e = .returned (.tuple #[.string ⟨(getV l key).toArray⟩, .bool (getO l key).isSome]) ∧ Below w.heap.size w w' := by
  have HA := Lib.hid ha
  have HN := Lib.hid hn
  have hc' : (n : Int) ≤ (cap : Int) := by omega
  have hm' : (n : Int) ≤ 1000000 := by omega
  obtain ⟨v, hv⟩ : ∃ v, getV l key = v := ⟨_, rfl⟩
  obtain ⟨s, hs⟩ : ∃ v, (getO l key).isSome = v := ⟨_, rfl⟩
  rw [hv, hs]
  have HV := Lib.hid (show ∀ o, getO l key = o → o.getD [] = v ∧ o.isSome = s from fun o ho => by rw [← ho]; exact ⟨hv, hs⟩)
  clear hn ha hv hs
  go_enter Try.func16, Try.ntmps16
  go_wp2
  go_loopw [10] (fun i wr => ∃ k : Nat, k ≤ n ∧ i = .int .i64 k ∧ Hid (∀ t ∈ l.take k, t.1 ≠ key) ∧ Hid (Below w.heap.size w wr)) (fun i _ => n - (Lx.intOf i).toNat)
  case atStart => exact ⟨0, by omega, rfl, Lib.hid (fun t h => by simp at h), Lib.hid (Below.refl _ _)⟩
  case round =>
    obtain ⟨k, hk, rfl, HC, HK⟩ := hrel
    by_cases hlt : k < n
    · have hkl : k < l.length := by rw [HN.out]; exact hlt
      have hlt2 : (k : Int) < (n : Int) := by omega
      obtain ⟨g, off, rfl, hg, x0, x1⟩ := (HA.out.below HK.out (Nat.le_refl _)).at_ hkl
      have G1 := Lib.hid (fun he => get_at HC.out hkl he)
      have G2 := Lib.hid (show l[k].1 ≠ key → ∀ t ∈ l.take (k + 1), t.1 ≠ key from fun hne t ht => by
        rw [List.take_succ_eq_append_getElem hkl] at ht
        rcases List.mem_append.1 ht with h | h
        · exact HC.out t h
        · rw [List.mem_singleton] at h
          rw [h]; exact hne)
      generalize l[k].1 = ky at *
      generalize l[k].2 = val at *
      clear hkl HC
      have H1 := Lib.hid (fun o => HK.out.trans ((alloc1 wr o).mono HK.out.size))
      by_cases he : ky = key
      · obtain ⟨rfl, rfl⟩ : val = v ∧ true = s := by
          have := HV.out _ (G1.out he)
          exact this
        subst he
        clear G1 G2 HV
        go_wp2
        go_ret2
        exact ⟨rfl, H1.out _⟩
      · have he3 : (ky == key) = false := by rw [beq_eq_false_iff_ne]; exact he
        have HG := Lib.hid (G2.out he)
        clear G1 G2 he
        go_wp2
        go_roundw
        case rel => exact ⟨k + 1, by omega, by go_num, HG, Lib.hid (H1.out _)⟩
        case measure => simp [Lx.intOf]; omega
    · obtain rfl : n = k := by omega
      obtain ⟨rfl, rfl⟩ : ([] : B) = v ∧ false = s := by
        have h := HC.out
        rw [← HN.out, List.take_length] at h
        have := HV.out none (get_none.2 h)
        exact this
      go_wp2
      go_ret2
      exact ⟨rfl, HK.out⟩
set_option maxRecDepth 100000 in
set_option maxHeartbeats 4000000 in
theorem same_any (ao bo : Option Addr) (n m ca cb : Nat) (l q : List T) (w : World) (hn : l.length = n) (hq : q.length = m) (ha : TagsT w w.heap.size ao l) (hb : TagsT w w.heap.size bo q) (hca : n ≤ ca) (hcb : m ≤ cb) (hm : n ≤ 1000000) :
    Calls Try.prog 18 #[.slice ao n ca, .slice bo m cb] w fun e w' => e = .returned (.bool (decide (l = q))) ∧ Below w.heap.size w w' := by
  have HA := Lib.hid ha
  have HB := Lib.hid hb
  have HN := Lib.hid hn
  have HQ := Lib.hid hq
  have hca' : (n : Int) ≤ (ca : Int) := by omega
  have hm' : (n : Int) ≤ 1000000 := by omega
  obtain ⟨R, hR⟩ : ∃ R, decide (l = q) = R := ⟨_, rfl⟩
  rw [hR]
  have HR := Lib.hid hR
  by_cases hnm : n = m
  rotate_left
  · obtain rfl : false = R := by
      rw [← hR, eq_comm, decide_eq_false_iff_not]
      intro e
      exact hnm (by rw [← hn, ← hq, e])
    have h1 : ((n : Int) == (m : Int)) = false := by rw [beq_eq_false_iff_ne]; omega
    have h2 : (n == m) = false := by rw [beq_eq_false_iff_ne]; exact hnm
    clear hR hn hq ha hb
    go_enter Try.func18, Try.ntmps18
    go_wp2
    go_ret
    exact ⟨rfl, Below.refl _ _⟩
  subst hnm
  have hcb' : (n : Int) ≤ (cb : Int) := by omega
  clear hR hn hq ha hb
  go_enter Try.func18, Try.ntmps18
  go_wp2
  go_loopw [5] (fun i wr => ∃ k : Nat, k ≤ n ∧ i = .int .i64 k ∧ Hid (l.take k = q.take k) ∧ Hid (Below w.heap.size w wr)) (fun i _ => n - (Lx.intOf i).toNat)
  case atStart => exact ⟨0, by omega, rfl, Lib.hid rfl, Lib.hid (Below.refl _ _)⟩
  case round =>
    obtain ⟨k, hk, rfl, HC, HK⟩ := hrel
    by_cases hlt : k < n
    · have hkl : k < l.length := by rw [HN.out]; exact hlt
      have hkq : k < q.length := by rw [HQ.out]; exact hlt
      have hlt2 : (k : Int) < (n : Int) := by omega
      obtain ⟨g1, o1, rfl, hg1, x0, x1⟩ := (HA.out.below HK.out (Nat.le_refl _)).at_ hkl
      obtain ⟨g2, o2, rfl, hg2, y0, y1⟩ := (HB.out.below HK.out (Nat.le_refl _)).at_ hkq
      have G1 := Lib.hid (show l[k] = q[k] → l.take (k + 1) = q.take (k + 1) from fun e => by rw [List.take_succ_eq_append_getElem hkl, List.take_succ_eq_append_getElem hkq, HC.out, e])
      have G2 := Lib.hid (show l[k] ≠ q[k] → false = R from fun hne => by
        rw [← HR.out, eq_comm, decide_eq_false_iff_not]
        intro e
        subst e
        exact hne rfl)
      generalize l[k] = t1 at *
      generalize q[k] = t2 at *
      obtain ⟨a1, b1⟩ := t1
      obtain ⟨a2, b2⟩ := t2
      dsimp only at x0 x1 y0 y1
      clear hkl hkq HC
      by_cases he : a1 = a2
      · subst he
        by_cases hf : b1 = b2
        · subst hf
          have HG := Lib.hid (G1.out rfl)
          clear G1 G2
          go_wp2
          go_quiet (fail)
          have H12 := Lib.hid (fun j => (show Below wr.heap.size wr (wr.drewN j) from ⟨rfl, rfl, rfl, Nat.le_refl _, fun _ _ => rfl⟩))
          go_wp2
          go_roundw
          case rel => exact ⟨k + 1, by omega, by go_num, HG, Lib.hid (HK.out.trans ((H12.out _).mono HK.out.size))⟩
          case measure => simp [Lx.intOf]; omega
        · obtain rfl := G2.out (fun e => by injection e with _ e; exact hf e)
          have hf3 : (b1 == b2) = false := by rw [beq_eq_false_iff_ne]; exact hf
          clear G1 G2
          go_wp2
          go_quiet (fail)
          have H12 := Lib.hid (fun j => (show Below wr.heap.size wr (wr.drewN j) from ⟨rfl, rfl, rfl, Nat.le_refl _, fun _ _ => rfl⟩))
          go_wp2
          go_ret
          exact ⟨rfl, HK.out.trans ((H12.out _).mono HK.out.size)⟩
      · obtain rfl := G2.out (fun e => by injection e with e _; exact he e)
        have he3 : (a1 == a2) = false := by rw [beq_eq_false_iff_ne]; exact he
        clear G1 G2
        go_wp2
        go_quiet (fail)
        have H12 := Lib.hid (fun j => (show Below wr.heap.size wr (wr.drewN j) from ⟨rfl, rfl, rfl, Nat.le_refl _, fun _ _ => rfl⟩))
        go_wp2
        go_ret
        exact ⟨rfl, HK.out.trans ((H12.out _).mono HK.out.size)⟩
    · obtain rfl : n = k := by omega
      obtain rfl : true = R := by
        have h := HC.out
        rw [← HR.out, eq_comm, decide_eq_true_iff]
        rwa [List.take_of_length_le (by rw [HN.out]; exact Nat.le_refl _), List.take_of_length_le (by rw [HQ.out]; exact Nat.le_refl _)] at h
      go_wp2
      go_ret
      exact ⟨rfl, HK.out⟩
end Go.Proofs.Ytlknbjaippfemaa.Tg
