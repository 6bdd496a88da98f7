/- tag: the reference's Strings and Few; the laws' few. -/
import Derived.Test.YtlknbjaippfemaaTgLeaf2
namespace Go.Proofs.Ytlknbjaippfemaa.Tg
open Go.RowKit
open Lx hiding intOf
/-- a slice of strings in memory below Z. -/
def StrT (w : World) (Z : Nat) (ao : Option Addr) (l : List B) : Prop := 0 < l.length → ∃ g off, ao = some ⟨g, off, none⟩ ∧ g < Z ∧ ∀ (k : Nat) (y : B), l[k]? = some y → w.cell? ⟨g, off + k, none⟩ = some (.string ⟨y.toArray⟩)
theorem StrT.below {w w' : World} {Z Z' : Nat} {ao : Option Addr} {l : List B} (h : StrT w Z ao l) (hb : Below Z' w w') (hZ : Z ≤ Z') : StrT w' Z ao l := fun h0 => by
  obtain ⟨g, off, e, hg, hc⟩ := h h0
  exact ⟨g, off, e, hg, fun k y hk => (hb.cell (p := ⟨g, _, none⟩) (Nat.lt_of_lt_of_le hg hZ)).trans (hc k y hk)⟩
theorem StrT.more {w : World} {Z Z' : Nat} {ao : Option Addr} {l : List B} (h : StrT w Z ao l) (hZ : Z ≤ Z') : StrT w Z' ao l := fun h0 => by
  obtain ⟨g, off, e, hg, hc⟩ := h h0
  exact ⟨g, off, e, Nat.lt_of_lt_of_le hg hZ, hc⟩
theorem StrT.later {w w' : World} {ao : Option Addr} {l : List B} (h : StrT w w.heap.size ao l) (hb : Below w.heap.size w w') : StrT w' w'.heap.size ao l := (h.below hb (Nat.le_refl _)).more hb.size
theorem StrT.at_ {w : World} {Z : Nat} {ao : Option Addr} {l : List B} {k : Nat} (h : StrT w Z ao l) (hk : k < l.length) : ∃ g off, ao = some ⟨g, off, none⟩ ∧ g < Z ∧ w.cell? ⟨g, off + k, none⟩ = some (.string ⟨l[k].toArray⟩) := by
  obtain ⟨g, off, e, hg, hc⟩ := h (by omega)
  exact ⟨g, off, e, hg, hc k _ (List.getElem?_eq_getElem hk)⟩
set_option maxRecDepth 100000 in
set_option maxHeartbeats 4000000 in
theorem strs_any (ao bo : Option Addr) (n m ca cb : Nat) (l q : List B) (w : World) (hn : l.length = n) (hq : q.length = m) (ha : StrT w w.heap.size ao l) (hb : StrT w w.heap.size bo q) (hca : n ≤ ca) (hcb : m ≤ cb) (hm : n ≤ 1000000) :
    Calls Try.prog 19 #[.slice ao n ca, .slice bo m cb] w fun e w' => e = .returned (.bool (decide (l = q))) ∧ Below w.heap.size w w' := by
  have HA := Lib.hid ha
  have HB := Lib.hid hb
  have HN := Lib.hid hn
  have HQ := Lib.hid hq
  have hca' : (n : Int) ≤ (ca : Int) := by omega
  have hm' : (n : Int) ≤ 1000000 := by omega
  obtain ⟨R, hR⟩ : ∃ R, decide (l = q) = R := ⟨_, rfl⟩
  rw [hR]
  have HR := Lib.hid hR
  by_cases hnm : n = m
  rotate_left
  · obtain rfl : false = R := by
      rw [← hR, eq_comm, decide_eq_false_iff_not]
      intro e
      exact hnm (by rw [← hn, ← hq, e])
    have h1 : ((n : Int) == (m : Int)) = false := by rw [beq_eq_false_iff_ne]; omega
    have h2 : (n == m) = false := by rw [beq_eq_false_iff_ne]; exact hnm
    clear hR hn hq ha hb
    go_enter Try.func19, Try.ntmps19
    go_wp2
    go_ret
    exact ⟨rfl, Below.refl _ _⟩
  subst hnm
  have hcb' : (n : Int) ≤ (cb : Int) := by omega
  clear hR hn hq ha hb
  go_enter Try.func19, Try.ntmps19
  go_wp2
  go_loopw [5] (fun i wr => ∃ k : Nat, k ≤ n ∧ i = .int .i64 k ∧ Hid (l.take k = q.take k) ∧ Hid (Below w.heap.size w wr)) (fun i _ => n - (Lx.intOf i).toNat)
  case atStart => exact ⟨0, by omega, rfl, Lib.hid rfl, Lib.hid (Below.refl _ _)⟩
  case round =>
    obtain ⟨k, hk, rfl, HC, HK⟩ := hrel
    by_cases hlt : k < n
    · have hkl : k < l.length := by rw [HN.out]; exact hlt
      have hkq : k < q.length := by rw [HQ.out]; exact hlt
      have hlt2 : (k : Int) < (n : Int) := by omega
      obtain ⟨g1, o1, rfl, hg1, x0⟩ := (HA.out.below HK.out (Nat.le_refl _)).at_ hkl
      obtain ⟨g2, o2, rfl, hg2, y0⟩ := (HB.out.below HK.out (Nat.le_refl _)).at_ hkq
      have G1 := Lib.hid (show l[k] = q[k] → l.take (k + 1) = q.take (k + 1) from fun e => by rw [List.take_succ_eq_append_getElem hkl, List.take_succ_eq_append_getElem hkq, HC.out, e])
      have G2 := Lib.hid (show l[k] ≠ q[k] → false = R from fun hne => by
        rw [← HR.out, eq_comm, decide_eq_false_iff_not]
        intro e
        subst e
        exact hne rfl)
      generalize l[k] = a1 at *
      generalize q[k] = a2 at *
      clear hkl hkq HC
      have H12 := Lib.hid (fun j => (show Below wr.heap.size wr (wr.drewN j) from ⟨rfl, rfl, rfl, Nat.le_refl _, fun _ _ => rfl⟩))
      by_cases he : a1 = a2
      · subst he
        have HG := Lib.hid (G1.out rfl)
        clear G1 G2
        go_wp2
        go_quiet (fail)
        go_wp2
        go_roundw
        case rel => exact ⟨k + 1, by omega, by go_num, HG, Lib.hid (HK.out.trans ((H12.out _).mono HK.out.size))⟩
        case measure => simp [Lx.intOf]; omega
      · obtain rfl := G2.out he
        have he3 : (a1 == a2) = false := by rw [beq_eq_false_iff_ne]; exact he
        clear G1 G2
        go_wp2
        go_quiet (fail)
        go_wp2
        go_ret
        exact ⟨rfl, HK.out.trans ((H12.out _).mono HK.out.size)⟩
    · obtain rfl : n = k := by omega
      obtain rfl : true = R := by
        have h := HC.out
        rw [← HR.out, eq_comm, decide_eq_true_iff]
        rwa [List.take_of_length_le (by rw [HN.out]; exact Nat.le_refl _), List.take_of_length_le (by rw [HQ.out]; exact Nat.le_refl _)] at h
      go_wp2
      go_ret
      exact ⟨rfl, HK.out⟩
def fit (t : T) : Bool := decide (t.1.length ≤ 300) && decide (t.2.length ≤ 300)
def fewB (m : Nat) (l : List T) : Bool := decide (l.length ≤ m) && l.all fit
theorem few_siz {m : Nat} {l : List T} (h : fewB m l = true) : l.length ≤ m ∧ Siz l := by
  unfold fewB at h
  rw [Bool.and_eq_true, decide_eq_true_iff, List.all_eq_true] at h
  refine ⟨h.1, fun t ht => ?_⟩
  have := h.2 t ht
  unfold fit at this
  simp only [Bool.and_eq_true, decide_eq_true_iff] at this
  omega
set_option maxRecDepth 100000 in
set_option maxHeartbeats 1000000 in
theorem refFew_any (ao : Option Addr) (n cap m : Nat) (l : List T) (w : World) (hn : l.length = n) (ha : TagsT w w.heap.size ao l) (hc : n ≤ cap) (hm : m ≤ 1000) :
    Calls Try.prog 22 #[.slice ao n cap, .int .i64 m] w fun e w' => e = .returned (.bool (fewB m l)) ∧ w = w' := by
  have HA := Lib.hid ha
  have HN := Lib.hid hn
  have hc' : (n : Int) ≤ (cap : Int) := by omega
  obtain ⟨R, hR⟩ : ∃ R, fewB m l = R := ⟨_, rfl⟩
  rw [hR]
  by_cases hnm : n ≤ m
  · have hz : (n : Int) ≤ (m : Int) := by omega
    have HR : Hid (l.all fit = R) := Lib.hid (by rw [← hR]; unfold fewB; rw [hn, decide_eq_true hnm, Bool.true_and])
    clear hR hn ha
    go_enter Try.func22, Try.ntmps22
    go_wp2
    go_loop [5] (fun i => ∃ k : Nat, k ≤ n ∧ i = .int .i64 k ∧ Hid ((l.take k).all fit = true)) (fun i => n - (Lx.intOf i).toNat)
    case atStart => exact ⟨0, by omega, rfl, Lib.hid rfl⟩
    case round =>
      obtain ⟨k, hk, rfl, HI⟩ := hrel
      by_cases hlt : k < n
      · have hkl : k < l.length := by rw [HN.out]; exact hlt
        obtain ⟨g, off, rfl, hg, x0, x1⟩ := HA.out.at_ hkl
        have hlt2 : (k : Int) < (n : Int) := by omega
        have hs : (l.take (k + 1)).all fit = fit l[k] := by
          rw [List.take_succ_eq_append_getElem hkl, List.all_append, HI.out]
          simp
        have BAD := Lib.hid (show fit l[k] = false → false = R from fun h => by
          rw [← HR.out, eq_comm, List.all_eq_false]
          exact ⟨l[k], List.getElem_mem hkl, by rw [h]; simp⟩)
        have HS := Lib.hid hs
        generalize l[k] = t at *
        obtain ⟨ky, val⟩ := t
        dsimp only at x0 x1
        clear hs hkl HI
        by_cases h1 : ky.length ≤ 300
        · by_cases h2 : val.length ≤ 300
          · have HG := Lib.hid (show (l.take (k + 1)).all fit = true by rw [HS.out]; unfold fit; rw [decide_eq_true h1, decide_eq_true h2]; rfl)
            have d1 : ¬ (300 : Int) < (ky.length : Int) := by omega
            have d2 : ¬ (300 : Int) < (val.length : Int) := by omega
            clear BAD h1 h2 HS
            go_wp2
            go_round
            case rel => exact ⟨k + 1, by omega, by go_num, HG⟩
            case measure => simp [Lx.intOf]; omega
          · obtain rfl := BAD.out (by unfold fit; rw [decide_eq_false h2, Bool.and_false])
            have d1 : ¬ (300 : Int) < (ky.length : Int) := by omega
            have d2 : (300 : Int) < (val.length : Int) := by omega
            clear BAD h1 h2 HS
            go_wp2
            go_ret
            exact ⟨rfl, rfl⟩
        · obtain rfl := BAD.out (by unfold fit; rw [decide_eq_false h1, Bool.false_and])
          have d1 : (300 : Int) < (ky.length : Int) := by omega
          clear BAD h1 HS
          go_wp2
          go_ret
          exact ⟨rfl, rfl⟩
      · obtain rfl : n = k := by omega
        obtain rfl : true = R := by
          have := HI.out
          rw [← HN.out, List.take_length, HR.out] at this
          exact this.symm
        go_wp2
        go_ret
        exact ⟨rfl, rfl⟩
  · have hz : ¬ (n : Int) ≤ (m : Int) := by omega
    have hz2 : (0 : Int) < (n : Int) := by omega
    obtain rfl : false = R := by rw [← hR]; unfold fewB; rw [hn, decide_eq_false hnm, Bool.false_and]
    clear hR hn ha
    go_enter Try.func22, Try.ntmps22
    go_wp2
    go_loop [5] (fun i => i = .int .i64 0) (fun i => 0)
    case atStart => exact rfl
    case round =>
      obtain rfl := hrel
      go_wp2
      go_ret
      exact ⟨rfl, rfl⟩
/-- a slice of slices of tags: the row g of their values. -/
def Sls (w : World) (g : Nat) (ls : List (Option Addr × Nat × Nat × List T)) : Prop := IsRow w g 22 (ls.map fun s => Value.slice s.1 s.2.1 s.2.2.1).toArray ∧ ∀ s ∈ ls, s.2.2.2.length = s.2.1 ∧ TagsT w w.heap.size s.1 s.2.2.2 ∧ s.2.1 ≤ s.2.2.1
set_option maxRecDepth 100000 in
set_option maxHeartbeats 1000000 in
theorem few_any (g n : Nat) (ls : List (Option Addr × Nat × Nat × List T)) (w : World) (h : Sls w g ls) (hn : ls.length = n) (hm : n ≤ 10) :
    Calls Try.prog 7 #[.slice (some ⟨g, 0, none⟩) n n] w fun e w' => e = .returned (.bool (ls.all fun s => fewB 70 s.2.2.2)) ∧ w = w' := by
  have H := Lib.hid h
  have HN := Lib.hid hn
  have hm' : (n : Int) ≤ 10 := by omega
  obtain ⟨R, hR⟩ : ∃ R, (ls.all fun s => fewB 70 s.2.2.2) = R := ⟨_, rfl⟩
  rw [hR]
  have HR := Lib.hid hR
  clear hR hn h
  go_enter Try.func7, Try.ntmps7
  go_wp2
  go_loop [3] (fun i => ∃ k : Nat, k ≤ n ∧ i = .int .i64 k ∧ Hid ((ls.take k).all (fun s => fewB 70 s.2.2.2) = true)) (fun i => n - (Lx.intOf i).toNat)
  case atStart => exact ⟨0, by omega, rfl, Lib.hid rfl⟩
  case round =>
    obtain ⟨k, hk, rfl, HI⟩ := hrel
    by_cases hlt : k < n
    · have hkl : k < ls.length := by rw [HN.out]; exact hlt
      have hlt2 : (k : Int) < (n : Int) := by omega
      have x0 := H.out.1.get k
      rw [show (ls.map fun s => Value.slice s.1 s.2.1 s.2.2.1).toArray[k]? = some (Value.slice ls[k].1 ls[k].2.1 ls[k].2.2.1) by simp [hkl]] at x0
      obtain ⟨q1, q2, q3⟩ := H.out.2 _ (List.getElem_mem hkl)
      have KF := Lib.hid (refFew_any ls[k].1 ls[k].2.1 ls[k].2.2.1 70 ls[k].2.2.2 w q1 q2 q3 (by omega))
      have hs : (ls.take (k + 1)).all (fun s => fewB 70 s.2.2.2) = fewB 70 ls[k].2.2.2 := by
        rw [List.take_succ_eq_append_getElem hkl, List.all_append, HI.out]
        simp
      have BAD := Lib.hid (show fewB 70 ls[k].2.2.2 = false → false = R from fun h => by
        rw [← HR.out, eq_comm, List.all_eq_false]
        exact ⟨ls[k], List.getElem_mem hkl, by rw [h]; simp⟩)
      have HS := Lib.hid hs
      generalize ls[k] = t at *
      obtain ⟨a1, n1, c1, l1⟩ := t
      dsimp only at x0 KF BAD HS
      clear hs hkl HI q1 q2 q3
      cases hf : fewB 70 l1 with
      | false =>
        obtain rfl := BAD.out hf
        rw [hf] at KF
        clear hf
        go_wp2_with (refine KF.out.mono ?_; rintro e w1 ⟨rfl, rfl⟩)
        go_ret
        exact ⟨rfl, rfl⟩
      | true =>
        have HG := Lib.hid (HS.out.trans hf)
        rw [hf] at KF
        clear hf
        go_wp2_with (refine KF.out.mono ?_; rintro e w1 ⟨rfl, rfl⟩)
        go_round
        case rel => exact ⟨k + 1, by omega, by go_num, HG⟩
        case measure => simp [Lx.intOf]; omega
    · obtain rfl : n = k := by omega
      obtain rfl : true = R := by
        have := HI.out
        rw [← HN.out, List.take_length, HR.out] at this
        exact this.symm
      go_wp2
      go_ret
      exact ⟨rfl, rfl⟩
end Go.Proofs.Ytlknbjaippfemaa.Tg
