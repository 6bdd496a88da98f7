/- Merged: HrValid, HrSame, HrNext, HrNot, HrConcat. -/
import Derived.Test.YtgbkjdpjilldmaaGreatDoorHz11
/- hours: Valid. -/
namespace Go.Proofs.YtgbkjdpjilldmaaGreatDoor.Hr
open Go.RowKit Go.Sort Go.Shelf
open Lx (IsRow alloc1 drew_below)
open St (Sp encS encS_len encS_one)
set_option maxRecDepth 100000 in
set_option maxHeartbeats 4000000 in
theorem valid_any (ao : Option Addr) (n cap : Nat) (l : List Sp) (w : World) (hn : l.length = n) (ha : SpT w w.heap.size ao l) (hc : n ≤ cap) (hm : n ≤ 1000000) :
    Calls Tryz.prog 14 #[.slice ao n cap] w fun e w' => e = .returned (.bool (vldS l)) ∧ Below w.heap.size w w' := by
  have HA := Lib.hid ha
  have HN := Lib.hid hn
  have hc' : (n : Int) ≤ (cap : Int) := by omega
  have hm' : (n : Int) ≤ 1000000 := by omega
  obtain ⟨R, hR⟩ : ∃ R, vldS l = R := ⟨_, rfl⟩
  rw [hR]
  have HR := Lib.hid hR
  clear hR hn ha
  go_enter Tryz.func14, Tryz.ntmps14
  go_wp2
  go_loopw [7] (fun i wr => ∃ k : Nat, k ≤ n ∧ i = .int .i64 k ∧ Hid (Val (l.take k)) ∧ Hid (Below w.heap.size w wr)) (fun i _ => n - (Lx.intOf i).toNat)
  case atStart => exact ⟨0, by omega, rfl, Lib.hid ⟨fun s hs => by simp at hs, by simp⟩, Lib.hid (Below.refl _ _)⟩
  case round =>
    obtain ⟨k, hk, rfl, HC, HK⟩ := hrel
    by_cases hlt : k < n
    · have hkl : k < l.length := by rw [HN.out]; exact hlt
      have hlt2 : (k : Int) < (n : Int) := by omega
      have hA := HA.out.below HK.out (Nat.le_refl _)
      obtain ⟨g0, o0, rfl, hg0, x0, x1⟩ := hA.at_ hkl
      have PRE := Lib.hid (show 0 < k → ∃ p : Int, wr.cell? ⟨g0, o0 + (k - 1) * 2 + 1, none⟩ = some (.int .i64 p) ∧ (¬ p < l[k].1 → false = R) ∧ (okS l[k] → p < l[k].1 → Val (l.take (k + 1))) from fun h0 => by
        obtain ⟨g2, o2, e2, hg2, _, x2⟩ := hA.at_ (k := k - 1) (by omega)
        injection e2 with e2
        injection e2 with e3 e4
        exact ⟨(l[k - 1]'(by omega)).2, by rw [e3, e4]; exact x2, fun h => by rw [← HR.out, vld_false (val_bad2 hkl h0 h)], fun h1 h2 => val_step hkl HC.out h1 (fun _ => h2)⟩)
      have FST := Lib.hid (show k = 0 → okS l[k] → Val (l.take (k + 1)) from fun h0 h1 => val_step hkl HC.out h1 (fun h2 => by omega))
      have BAD := Lib.hid (show ¬ okS l[k] → false = R from fun h => by rw [← HR.out, vld_false (val_bad1 hkl h)])
      generalize l[k] = s at *
      obtain ⟨f, t⟩ := s
      dsimp only at x0 x1
      unfold okS at BAD FST
      dsimp only at BAD FST
      have G0 := Lib.hid (show g0 < wr.heap.size from Nat.lt_of_lt_of_le hg0 HK.out.size)
      clear hA hkl HC
      obtain ⟨w3, hw3, b3, r3⟩ := span_made wr f t
      have B3 := Lib.hid (HK.out.trans (b3.mono HK.out.size))
      have LT := Lib.hid (show ∀ i v, wr.cell? ⟨g0, i, none⟩ = some v → w3.cell? ⟨g0, i, none⟩ = some v from fun i v h => (b3.cell (p := ⟨g0, _, none⟩) G0.out).trans h)
      have HW3 := Lib.hid hw3
      clear hw3 b3 HK
      go_upto_region 4 with fail
      rw [HW3.out]
      obtain ⟨pb, hpb⟩ : ∃ p, wr.heap.size = p := ⟨_, rfl⟩
      rw [hpb] at r3 ⊢
      obtain ⟨y0, y1, _, _⟩ := facts2 r3
      clear x0 x1 r3
      have H12 := Lib.hid (fun j => (show Below w3.heap.size w3 (w3.drewN j) from ⟨rfl, rfl, rfl, Nat.le_refl _, fun _ _ => rfl⟩))
      by_cases c1 : f < 0
      · obtain rfl := BAD.out (by omega)
        clear PRE FST BAD
        go_wp2
        go_ret
        exact ⟨rfl, B3.out⟩
      by_cases c2 : t ≤ f
      · obtain rfl := BAD.out (by omega)
        clear PRE FST BAD
        go_wp2
        go_ret
        exact ⟨rfl, B3.out⟩
      by_cases c3 : 10080 < t
      · obtain rfl := BAD.out (by omega)
        clear PRE FST BAD
        go_wp2
        go_ret
        exact ⟨rfl, B3.out⟩
      have OK := Lib.hid (show 0 ≤ f ∧ f < t ∧ t ≤ 10080 by omega)
      by_cases h0 : 0 < k
      · obtain ⟨p, xp, hp1, hp2⟩ := PRE.out h0
        have xp1 := LT.out _ _ xp
        have hd : decide ((0 : Int) < (k : Int)) = true := decide_eq_true (by omega)
        have hd2 : decide (0 < k) = true := decide_eq_true h0
        have hk1 : IntKind.i64.wrap ((k : Int) - 1) = ((k - 1 : Nat) : Int) := by
          rw [IntWalk.i64_in _ (by omega)]
          omega
        have hk2 : ((k - 1 : Nat) : Int) < (n : Int) := by omega
        dsimp only at hp1 hp2
        by_cases hpf : p < f
        · have HV := Lib.hid (hp2 OK.out hpf)
          have hpf2 : decide (f ≤ p) = false := decide_eq_false (by omega)
          clear PRE FST BAD hp1 hp2 xp LT
          go_upto_region 6 with fail
          go_quiet (fail)
          go_wp2
          go_roundw
          case rel => exact ⟨k + 1, by omega, by go_num, HV, Lib.hid (B3.out.trans ((H12.out _).mono B3.out.size))⟩
          case measure => simp [Lx.intOf]; omega
        · obtain rfl := hp1 hpf
          have hpf2 : decide (f ≤ p) = true := decide_eq_true (by omega)
          clear PRE FST BAD hp1 hp2 xp LT
          go_upto_region 6 with fail
          go_quiet (fail)
          go_wp2
          go_ret
          exact ⟨rfl, B3.out.trans ((H12.out _).mono B3.out.size)⟩
      · have hd : decide ((0 : Int) < (k : Int)) = false := decide_eq_false (by omega)
        have hd2 : decide (0 < k) = false := decide_eq_false h0
        have HV := Lib.hid (FST.out (by omega) OK.out)
        clear PRE FST BAD LT
        go_upto_region 6 with fail
        go_quiet (fail)
        go_wp2
        go_roundw
        case rel => exact ⟨k + 1, by omega, by go_num, HV, Lib.hid (B3.out.trans ((H12.out _).mono B3.out.size))⟩
        case measure => simp [Lx.intOf]; omega
    · obtain rfl : n = k := by omega
      obtain rfl : true = R := by
        have := HC.out
        rw [← HN.out, List.take_length] at this
        rw [← HR.out, vld_val.2 this]
      go_wp2
      go_ret
      exact ⟨rfl, HK.out⟩
end Go.Proofs.YtgbkjdpjilldmaaGreatDoor.Hr
/- hours: the reference's Same; the laws' few. -/
namespace Go.Proofs.YtgbkjdpjilldmaaGreatDoor.Hr
open Go.RowKit Go.Sort Go.Shelf
open Lx (IsRow alloc1 drew_below)
open St (Sp encS encS_len encS_one)
set_option maxRecDepth 100000 in
set_option maxHeartbeats 4000000 in
theorem same_any (ao bo : Option Addr) (n m ca cb : Nat) (l q : List Sp) (w : World) (hn : l.length = n) (hq : q.length = m) (ha : SpT w w.heap.size ao l) (hb : SpT w w.heap.size bo q) (hca : n ≤ ca) (hcb : m ≤ cb) (hm : n ≤ 1000000) :
    Calls Tryz.prog 13 #[.slice ao n ca, .slice bo m cb] w fun e w' => e = .returned (.bool (decide (l = q))) ∧ Below w.heap.size w w' := by
  have HA := Lib.hid ha
  have HB := Lib.hid hb
  have HN := Lib.hid hn
  have HQ := Lib.hid hq
  have hca' : (n : Int) ≤ (ca : Int) := by omega
  have hm' : (n : Int) ≤ 1000000 := by omega
  obtain ⟨R, hR⟩ : ∃ R, decide (l = q) = R := ⟨_, rfl⟩
  rw [hR]
  have HR := Lib.hid hR
  by_cases hnm : n = m
  rotate_left
  · obtain rfl : false = R := by
      rw [← hR, eq_comm, decide_eq_false_iff_not]
      intro e
      exact hnm (by rw [← hn, ← hq, e])
    have h1 : ((n : Int) == (m : Int)) = false := by rw [beq_eq_false_iff_ne]; omega
    have h2 : (n == m) = false := by rw [beq_eq_false_iff_ne]; exact hnm
    clear hR hn hq ha hb
    go_enter Tryz.func13, Tryz.ntmps13
    go_wp2
    go_ret
    exact ⟨rfl, Below.refl _ _⟩
  subst hnm
  have hcb' : (n : Int) ≤ (cb : Int) := by omega
  clear hR hn hq ha hb
  go_enter Tryz.func13, Tryz.ntmps13
  go_wp2
  go_loopw [5] (fun i wr => ∃ k : Nat, k ≤ n ∧ i = .int .i64 k ∧ Hid (l.take k = q.take k) ∧ Hid (Below w.heap.size w wr)) (fun i _ => n - (Lx.intOf i).toNat)
  case atStart => exact ⟨0, by omega, rfl, Lib.hid rfl, Lib.hid (Below.refl _ _)⟩
  case round =>
    obtain ⟨k, hk, rfl, HC, HK⟩ := hrel
    by_cases hlt : k < n
    · have hkl : k < l.length := by rw [HN.out]; exact hlt
      have hkq : k < q.length := by rw [HQ.out]; exact hlt
      have hlt2 : (k : Int) < (n : Int) := by omega
      obtain ⟨g1, o1, rfl, hg1, x0, x1⟩ := (HA.out.below HK.out (Nat.le_refl _)).at_ hkl
      obtain ⟨g2, o2, rfl, hg2, y0, y1⟩ := (HB.out.below HK.out (Nat.le_refl _)).at_ hkq
      have G1 := Lib.hid (show l[k] = q[k] → l.take (k + 1) = q.take (k + 1) from fun e => by rw [List.take_succ_eq_append_getElem hkl, List.take_succ_eq_append_getElem hkq, HC.out, e])
      have G2 := Lib.hid (show l[k] ≠ q[k] → false = R from fun hne => by
        rw [← HR.out, eq_comm, decide_eq_false_iff_not]
        intro e
        subst e
        exact hne rfl)
      generalize l[k] = t1 at *
      generalize q[k] = t2 at *
      obtain ⟨a1, b1⟩ := t1
      obtain ⟨a2, b2⟩ := t2
      dsimp only at x0 x1 y0 y1
      clear hkl hkq HC
      by_cases he : a1 = a2
      · subst he
        by_cases hf : b1 = b2
        · subst hf
          have HG := Lib.hid (G1.out rfl)
          clear G1 G2
          go_wp2
          go_quiet (fail)
          have H12 := Lib.hid (fun j => (show Below wr.heap.size wr (wr.drewN j) from ⟨rfl, rfl, rfl, Nat.le_refl _, fun _ _ => rfl⟩))
          go_wp2
          go_roundw
          case rel => exact ⟨k + 1, by omega, by go_num, HG, Lib.hid (HK.out.trans ((H12.out _).mono HK.out.size))⟩
          case measure => simp [Lx.intOf]; omega
        · obtain rfl := G2.out (fun e => by injection e with _ e; exact hf e)
          have hf3 : (b1 == b2) = false := by rw [beq_eq_false_iff_ne]; exact hf
          clear G1 G2
          go_wp2
          go_quiet (fail)
          have H12 := Lib.hid (fun j => (show Below wr.heap.size wr (wr.drewN j) from ⟨rfl, rfl, rfl, Nat.le_refl _, fun _ _ => rfl⟩))
          go_wp2
          go_ret
          exact ⟨rfl, HK.out.trans ((H12.out _).mono HK.out.size)⟩
      · obtain rfl := G2.out (fun e => by injection e with e _; exact he e)
        have he3 : (a1 == a2) = false := by rw [beq_eq_false_iff_ne]; exact he
        clear G1 G2
        go_wp2
        go_quiet (fail)
        have H12 := Lib.hid (fun j => (show Below wr.heap.size wr (wr.drewN j) from ⟨rfl, rfl, rfl, Nat.le_refl _, fun _ _ => rfl⟩))
        go_wp2
        go_ret
        exact ⟨rfl, HK.out.trans ((H12.out _).mono HK.out.size)⟩
    · obtain rfl : n = k := by omega
      obtain rfl : true = R := by
        have h := HC.out
        rw [← HR.out, eq_comm, decide_eq_true_iff]
        rwa [List.take_of_length_le (by rw [HN.out]; exact Nat.le_refl _), List.take_of_length_le (by rw [HQ.out]; exact Nat.le_refl _)] at h
      go_wp2
      go_ret
      exact ⟨rfl, HK.out⟩
/-- a slice of slices of spans: the row g of their values. -/
def Sls (w : World) (g : Nat) (ls : List (Option Addr × Nat × Nat × List Sp)) : Prop := IsRow w g 22 (ls.map fun s => Value.slice s.1 s.2.1 s.2.2.1).toArray
def fewS (ls : List (Option Addr × Nat × Nat × List Sp)) : Bool := ls.all fun s => decide (s.2.1 ≤ 150)
set_option maxRecDepth 100000 in
set_option maxHeartbeats 1000000 in
theorem few_any (g n : Nat) (ls : List (Option Addr × Nat × Nat × List Sp)) (w : World) (h : Sls w g ls) (hn : ls.length = n) (hm : n ≤ 10) :
    Calls Tryz.prog 8 #[.slice (some ⟨g, 0, none⟩) n n] w fun e w' => e = .returned (.bool (fewS ls)) ∧ w = w' := by
  have H := Lib.hid h
  have HN := Lib.hid hn
  have hm' : (n : Int) ≤ 10 := by omega
  obtain ⟨R, hR⟩ : ∃ R, fewS ls = R := ⟨_, rfl⟩
  rw [hR]
  have HR := Lib.hid hR
  clear hR hn h
  go_enter Tryz.func8, Tryz.ntmps8
  go_wp2
  go_loop [3] (fun i => ∃ k : Nat, k ≤ n ∧ i = .int .i64 k ∧ Hid (fewS (ls.take k) = true)) (fun i => n - (Lx.intOf i).toNat)
  case atStart => exact ⟨0, by omega, rfl, Lib.hid rfl⟩
  case round =>
    obtain ⟨k, hk, rfl, HI⟩ := hrel
    by_cases hlt : k < n
    · have hkl : k < ls.length := by rw [HN.out]; exact hlt
      have hlt2 : (k : Int) < (n : Int) := by omega
      have x0 := H.out.get k
      rw [show (ls.map fun s => Value.slice s.1 s.2.1 s.2.2.1).toArray[k]? = some (Value.slice ls[k].1 ls[k].2.1 ls[k].2.2.1) by simp [hkl]] at x0
      have hs : fewS (ls.take (k + 1)) = decide (ls[k].2.1 ≤ 150) := by
        unfold fewS
        rw [List.take_succ_eq_append_getElem hkl, List.all_append]
        have := HI.out
        unfold fewS at this
        rw [this]
        simp
      have BAD := Lib.hid (show decide (ls[k].2.1 ≤ 150) = false → false = R from fun h => by
        rw [← HR.out, eq_comm]
        unfold fewS
        rw [List.all_eq_false]
        exact ⟨ls[k], List.getElem_mem hkl, by rw [h]; simp⟩)
      have HS := Lib.hid hs
      generalize ls[k] = t at *
      obtain ⟨a1, n1, c1, l1⟩ := t
      dsimp only at x0 BAD HS
      clear hs hkl HI
      by_cases h150 : n1 ≤ 150
      · have h2 : ¬ (150 : Int) < (n1 : Int) := by omega
        have HG := Lib.hid (HS.out.trans (decide_eq_true h150))
        clear BAD HS
        go_wp2
        go_round
        case rel => exact ⟨k + 1, by omega, by go_num, HG⟩
        case measure => simp [Lx.intOf]; omega
      · obtain rfl := BAD.out (decide_eq_false h150)
        have h2 : (150 : Int) < (n1 : Int) := by omega
        clear BAD HS
        go_wp2
        go_ret
        exact ⟨rfl, rfl⟩
    · obtain rfl : n = k := by omega
      obtain rfl : true = R := by
        have := HI.out
        rw [← HN.out, List.take_length] at this
        rw [← HR.out, this]
      go_wp2
      go_ret
      exact ⟨rfl, rfl⟩
end Go.Proofs.YtgbkjdpjilldmaaGreatDoor.Hr
/- hours: Next, Open. -/
namespace Go.Proofs.YtgbkjdpjilldmaaGreatDoor.Hr
open Go.RowKit Go.Sort Go.Shelf
open Lx (IsRow alloc1 drew_below)
open St (Sp encS encS_len encS_one)
set_option maxRecDepth 100000 in
set_option maxHeartbeats 4000000 in
theorem next_any (ao : Option Addr) (n cap : Nat) (l : List Sp) (m : Int) (w : World) (hn : l.length = n) (ha : SpT w w.heap.size ao l) (hc : n ≤ cap) (hm : n ≤ 1000000) :
    Calls Tryz.prog 16 #[.slice ao n cap, .int .i64 m] w fun e w' => e = .returned (.tuple #[.int .i64 (nextR l m).1, .bool (nextR l m).2]) ∧ Below w.heap.size w w' := by
  have VL := Lib.hid (valid_any ao n cap l w hn ha hc hm)
  have HA := Lib.hid ha
  have HN := Lib.hid hn
  have hc' : (n : Int) ≤ (cap : Int) := by omega
  have hm' : (n : Int) ≤ 1000000 := by omega
  obtain ⟨R1, hR1⟩ : ∃ R, (nextR l m).1 = R := ⟨_, rfl⟩
  obtain ⟨R2, hR2⟩ : ∃ R, (nextR l m).2 = R := ⟨_, rfl⟩
  rw [hR1, hR2]
  have HR := Lib.hid (show nextR l m = (R1, R2) from by rw [← hR1, ← hR2])
  have NO := Lib.hid (show ¬ (vldS l = true ∧ l ≠ [] ∧ 0 ≤ m ∧ m ≤ 1000000000) → 0 = R1 ∧ false = R2 from fun h => by
    have := HR.out
    unfold nextR at this
    rw [if_neg h] at this
    injection this with e1 e2
    exact ⟨e1, e2⟩)
  obtain ⟨V, hV⟩ : ∃ V, vldS l = V := ⟨_, rfl⟩
  rw [hV] at VL
  have HV := Lib.hid hV
  clear hR1 hR2 hn ha hV
  go_enter Tryz.func16, Tryz.ntmps16
  cases V with
  | false =>
    obtain ⟨rfl, rfl⟩ := NO.out (fun h => by rw [HV.out] at h; cases h.1)
    go_wp2_with (refine VL.out.mono ?_; rintro e w2 ⟨rfl, b2⟩)
    go_ret2
    exact ⟨rfl, b2⟩
  | true =>
  by_cases h0 : n = 0
  · obtain ⟨rfl, rfl⟩ := NO.out (fun h => h.2.1 (List.eq_nil_of_length_eq_zero (by rw [HN.out, h0])))
    subst h0
    go_wp2_with (refine VL.out.mono ?_; rintro e w2 ⟨rfl, b2⟩)
    go_ret2
    exact ⟨rfl, b2⟩
  have e0 : ((n : Int) == 0) = false := by rw [beq_eq_false_iff_ne]; omega
  have e00 : (n == 0) = false := by rw [beq_eq_false_iff_ne]; exact h0
  by_cases c1 : m < 0
  · obtain ⟨rfl, rfl⟩ := NO.out (fun h => by have := h.2.2.1; omega)
    go_wp2_with (refine VL.out.mono ?_; rintro e w2 ⟨rfl, b2⟩)
    go_ret2
    exact ⟨rfl, b2⟩
  by_cases c2 : 1000000000 < m
  · obtain ⟨rfl, rfl⟩ := NO.out (fun h => by have := h.2.2.2; omega)
    go_wp2_with (refine VL.out.mono ?_; rintro e w2 ⟨rfl, b2⟩)
    go_ret2
    exact ⟨rfl, b2⟩
  have YES := Lib.hid (show nextR l m = _ from by unfold nextR; rw [if_pos ⟨HV.out, fun h => h0 (by rw [← HN.out, h]; rfl), by omega, by omega⟩])
  go_wp2_with (refine VL.out.mono ?_; rintro e w2 ⟨rfl, b2⟩)
  have B2 := Lib.hid b2
  have VAL := Lib.hid (vld_val.1 HV.out)
  have hd0 : 0 ≤ m % 10080 := by omega
  have hd1 : m % 10080 < 10080 := by omega
  have hd2 : m % 10080 ≤ m := by omega
  generalize m % 10080 = d at *
  have ON := Lib.hid (show ∀ s, nxt d l = some s → m - d + max d s.1 = R1 ∧ true = R2 from fun s h => by
    have := YES.out
    rw [HR.out, h] at this
    injection this with e1 e2
    exact ⟨e1.symm, e2.symm⟩)
  have OFF := Lib.hid (show nxt d l = none → m - d + 10080 + (l.headD (0, 0)).1 = R1 ∧ true = R2 from fun h => by
    have := YES.out
    rw [HR.out, h] at this
    injection this with e1 e2
    exact ⟨e1.symm, e2.symm⟩)
  clear VL NO YES b2
  go_loopw [33] (fun i wr => ∃ k : Nat, k ≤ n ∧ i = .int .i64 k ∧ Hid (nxt d (l.take k) = none) ∧ Hid (Below w.heap.size w wr)) (fun i _ => n - (Lx.intOf i).toNat)
  case atStart => exact ⟨0, by omega, rfl, Lib.hid rfl, B2⟩
  case round =>
    obtain ⟨k, hk, rfl, HC, HK⟩ := hrel
    by_cases hlt : k < n
    · have hkl : k < l.length := by rw [HN.out]; exact hlt
      have hlt2 : (k : Int) < (n : Int) := by omega
      obtain ⟨g0, o0, rfl, hg0, x0, x1⟩ := (HA.out.below HK.out (Nat.le_refl _)).at_ hkl
      have ST := Lib.hid (show nxt d (l.take (k + 1)) = if d < l[k].2 then some l[k] else none from by rw [List.take_succ_eq_append_getElem hkl, nxt_snoc d _ _ HC.out])
      have UP := Lib.hid (show ∀ s, nxt d (l.take (k + 1)) = some s → nxt d l = some s from fun s h => by
        have := nxt_more d (l.drop (k + 1)) s _ h
        rwa [List.take_append_drop] at this)
      have hok := VAL.out.1 _ (List.getElem_mem hkl)
      unfold okS at hok
      generalize l[k] = s at *
      obtain ⟨f, t⟩ := s
      dsimp only at x0 x1 ST hok
      obtain ⟨f1, f2, f3⟩ := hok
      clear hkl HC
      obtain ⟨w3, hw3, b3, r3⟩ := span_made wr f t
      have B3 := Lib.hid (HK.out.trans (b3.mono HK.out.size))
      have HW3 := Lib.hid hw3
      clear hw3 b3 HK
      go_upto_region 8 with fail
      rw [HW3.out]
      obtain ⟨pb, hpb⟩ : ∃ p, wr.heap.size = p := ⟨_, rfl⟩
      rw [hpb] at r3 ⊢
      obtain ⟨y0, y1, _, _⟩ := facts2 r3
      clear x0 x1 r3
      by_cases c3 : d < t
      · obtain ⟨rfl, rfl⟩ := ON.out (f, t) (UP.out _ (by rw [ST.out, if_pos c3]))
        have hmx : max d f ≤ 10080 := by omega
        have hmx2 : 0 ≤ max d f := by omega
        clear ON OFF UP ST HR
        go_wp2
        go_ret2
        exact ⟨rfl, B3.out⟩
      · have HG := Lib.hid (ST.out.trans (if_neg c3))
        clear ON UP ST
        go_wp2
        go_roundw
        case rel => exact ⟨k + 1, by omega, by go_num, HG, B3⟩
        case measure => simp [Lx.intOf]; omega
    · obtain rfl : n = k := by omega
      have hkl : 0 < l.length := by rw [HN.out]; omega
      have hn0 : (0 : Int) < (n : Int) := by omega
      obtain ⟨g0, o0, rfl, hg0, x0, x1⟩ := (HA.out.below HK.out (Nat.le_refl _)).at_ hkl
      have hok := VAL.out.1 _ (List.getElem_mem hkl)
      unfold okS at hok
      have OF2 := OFF.out (by
        have := HC.out
        rwa [← HN.out, List.take_length] at this)
      rw [show (l.headD (0, 0)).1 = l[0].1 from by cases l with | nil => simp at hkl | cons => rfl] at OF2
      generalize l[0] = s at *
      obtain ⟨f, t⟩ := s
      dsimp only at x0 x1 hok
      obtain ⟨f1, f2, f3⟩ := hok
      obtain ⟨rfl, rfl⟩ := OF2
      rw [Nat.zero_mul, Nat.add_zero] at x0
      clear ON OFF HR hkl x1
      go_wp2
      go_ret2
      exact ⟨rfl, HK.out⟩
set_option maxRecDepth 100000 in
set_option maxHeartbeats 4000000 in
theorem open_any (ao : Option Addr) (n cap : Nat) (l : List Sp) (m : Int) (w : World) (hn : l.length = n) (ha : SpT w w.heap.size ao l) (hc : n ≤ cap) (hm : n ≤ 1000000) :
    Calls Tryz.prog 18 #[.slice ao n cap, .int .i64 m] w fun e w' => e = .returned (.bool (openR l m)) ∧ Below w.heap.size w w' := by
  have NX := Lib.hid (next_any ao n cap l m w hn ha hc hm)
  obtain ⟨R, hR⟩ : ∃ R, openR l m = R := ⟨_, rfl⟩
  rw [hR]
  unfold openR at hR
  obtain ⟨R1, hR1⟩ : ∃ R, (nextR l m).1 = R := ⟨_, rfl⟩
  obtain ⟨R2, hR2⟩ : ∃ R, (nextR l m).2 = R := ⟨_, rfl⟩
  rw [hR1, hR2] at NX hR
  subst hR
  clear hR1 hR2 hn ha
  go_enter Tryz.func18, Tryz.ntmps18
  cases R2 with
  | false =>
    go_wp2_with (refine NX.out.mono ?_; rintro e w2 ⟨rfl, b2⟩)
    go_ret
    exact ⟨rfl, b2⟩
  | true =>
    by_cases h : R1 = m
    · subst h
      rw [decide_eq_true rfl]
      go_wp2_with (refine NX.out.mono ?_; rintro e w2 ⟨rfl, b2⟩)
      go_ret
      exact ⟨rfl, b2⟩
    · have h1 : (R1 == m) = false := by rw [beq_eq_false_iff_ne]; exact h
      rw [decide_eq_false h]
      go_wp2_with (refine NX.out.mono ?_; rintro e w2 ⟨rfl, b2⟩)
      go_ret
      exact ⟨rfl, b2⟩
end Go.Proofs.YtgbkjdpjilldmaaGreatDoor.Hr
/- hours: Not. -/
namespace Go.Proofs.YtgbkjdpjilldmaaGreatDoor.Hr
open Go.RowKit Go.Sort Go.Shelf
open Lx (IsRow alloc1 drew_below)
open St (Sp encS encS_len encS_one)
def notR (l : List Sp) : List Sp := if vldS l = true then notL l else []
set_option maxRecDepth 100000 in
set_option maxHeartbeats 4000000 in
theorem not_any (ao : Option Addr) (n cap : Nat) (l : List Sp) (w : World) (hn : l.length = n) (ha : SpT w w.heap.size ao l) (hc : n ≤ cap) (hm : n ≤ 90000) :
    Calls Tryz.prog 20 #[.slice ao n cap] w fun e w' => (∃ v, e = .returned v ∧ OwnS w' w.heap.size v (notR l)) ∧ Below w.heap.size w w' := by
  have VL := Lib.hid (valid_any ao n cap l w hn ha hc (by omega))
  have HA := Lib.hid ha
  have HN := Lib.hid hn
  have hc' : (n : Int) ≤ (cap : Int) := by omega
  have hm' : (n : Int) ≤ 90000 := by omega
  obtain ⟨R, hR⟩ : ∃ R, notR l = R := ⟨_, rfl⟩
  rw [hR]
  unfold notR at hR
  obtain ⟨b, hb⟩ : ∃ b, w.heap.size = b := ⟨_, rfl⟩
  rw [hb]
  rw [hb] at VL HA
  have B0 := Lib.hid (show b ≤ w.heap.size from Nat.le_of_eq hb.symm)
  go_enter Tryz.func20, Tryz.ntmps20
  cases hV : vldS l with
  | false =>
    rw [hV] at VL hR
    rw [if_neg (by decide)] at hR
    subst hR
    clear hn ha hb
    go_wp2_with (refine VL.out.mono ?_; rintro e w2 ⟨rfl, b2⟩)
    go_ret
    exact ⟨⟨_, rfl, OwnS.nil _ _⟩, b2⟩
  | true =>
  rw [hV] at VL hR
  rw [if_pos rfl] at hR
  have HR := Lib.hid hR
  clear hn ha hb hR
  go_wp2_with (refine VL.out.mono ?_; rintro e w2 ⟨rfl, b2⟩)
  have B2 := Lib.hid b2
  clear b2 VL hV
  go_loopw [12, 3, 4] (fun i v a wr => ∃ (k : Nat) (c : Int) (L : List Sp), k ≤ n ∧ L.length ≤ k ∧ i = .int .i64 k ∧ a = .int .i64 c ∧ Hid (L ++ notF c (l.drop k) = R) ∧ Hid (OwnS wr b v L) ∧ Hid (Below b w wr)) (fun i _ _ _ => n - (Lx.intOf i).toNat)
  case atStart => exact ⟨0, 0, [], by omega, by simp, rfl, rfl, Lib.hid HR.out, Lib.hid (OwnS.nil _ _), B2⟩
  case round =>
    obtain ⟨k, c, L, hk, hL, rfl, rfl, HC, HO, HK⟩ := hrel
    by_cases hlt : k < n
    · have hkl : k < l.length := by rw [HN.out]; exact hlt
      have hlt2 : (k : Int) < (n : Int) := by omega
      obtain ⟨g0, o0, rfl, hg0, x0, x1⟩ := (HA.out.below HK.out (Nat.le_refl _)).at_ hkl
      have ST := Lib.hid (show L ++ ((if c < l[k].1 then [(c, l[k].1)] else []) ++ notF l[k].2 (l.drop (k + 1))) = R from by
        have := HC.out
        rwa [List.drop_eq_getElem_cons hkl, notF] at this)
      generalize l[k] = s at *
      obtain ⟨f, t⟩ := s
      dsimp only at x0 x1 ST
      clear hkl HC
      have ZW := Lib.hid (show b ≤ wr.heap.size from Nat.le_trans B0.out HK.out.size)
      obtain ⟨w3, hw3, b3, r3⟩ := span_made wr f t
      have LV := Lib.hid (World.ownsRow.lt HO.out)
      have O3 := Lib.hid (Own.below HO.out b3)
      have B3 := Lib.hid (HK.out.trans (b3.mono ZW.out))
      have HW3 := Lib.hid hw3
      have Z3 := Lib.hid (show b ≤ w3.heap.size from Nat.le_trans ZW.out b3.size)
      clear hw3 b3 HO HK
      go_upto_region 8 with fail
      rw [HW3.out]
      obtain ⟨pb, hpb⟩ : ∃ p, wr.heap.size = p := ⟨_, rfl⟩
      rw [hpb] at r3 ⊢
      obtain ⟨y0, y1, _, _⟩ := facts2 r3
      have R3 := Lib.hid r3
      clear x0 x1 r3 HW3 ZW
      by_cases c1 : c < f
      · have HG := Lib.hid (show (L ++ [(c, f)]) ++ notF t (l.drop (k + 1)) = R from by
          have := ST.out
          rw [if_pos c1, ← List.append_assoc] at this
          exact this)
        have ow := O3.out.below (alloc1 w3 (.cells #[.int .i64 c, .int .i64 f] 54))
        have tg := sps_one w3 c f
        have hz := Nat.le_trans Z3.out (alloc1 w3 (.cells #[.int .i64 c, .int .i64 f] 54)).size
        have FK := Lib.hid (fun (w7 : World) (q : Option Nat) (hg : (w3.alloc (.cells #[.int .i64 c, .int .i64 f] 54)).grownBy w7 q) (hq : q ≠ some pb) => (show w7.cell? ⟨pb, 1, none⟩ = some (.int .i64 t) from ((R3.out.below (alloc1 w3 _) R3.out.inside).grown hg hq).get 1))
        have NE := Lib.hid (fun e => Nat.lt_irrefl pb (by have := (LV.out pb e).2; rwa [hpb] at this))
        clear ST
        go_wp2_with (at_builtin; refine wpList_appS rfl _ _ (by rfl) b _ L [(c, f)] (some ⟨w3.heap.size, 0, none⟩) 1 1 (by rfl) ow (by rfl) tg rfl (by omega) hz ?_; intro v7 w7 ho7 hg7 hlt7; have yy1 := FK.out w7 _ hg7 NE.out)
        have O7 := Lib.hid ho7
        have B7 := Lib.hid ((B3.out.trans ((alloc1 w3 _).mono Z3.out)).grown hg7 hz (fun k hk => (hlt7 k hk).1))
        clear ow tg hz ho7 hg7 hlt7 FK NE
        go_wp2
        go_roundw
        case rel => exact ⟨k + 1, t, L ++ [(c, f)], by omega, by simp; omega, by go_num, rfl, HG, O7, B7⟩
        case measure => simp [Lx.intOf]; omega
      · have HG := Lib.hid (show L ++ notF t (l.drop (k + 1)) = R from by
          have := ST.out
          rw [if_neg c1, List.nil_append] at this
          exact this)
        clear ST
        go_wp2
        go_roundw
        case rel => exact ⟨k + 1, t, L, by omega, by omega, by go_num, rfl, HG, O3, B3⟩
        case measure => simp [Lx.intOf]; omega
    · obtain rfl : n = k := by omega
      have HE := Lib.hid (show L ++ notF c [] = R from by
        have := HC.out
        rwa [← HN.out, List.drop_length] at this)
      have ZW := Lib.hid (show b ≤ wr.heap.size from Nat.le_trans B0.out HK.out.size)
      clear HC
      by_cases c1 : c < 10080
      · have HG := Lib.hid (show L ++ [(c, 10080)] = R from by
          have := HE.out
          rwa [notF, if_pos c1] at this)
        have ow := HO.out.below (alloc1 wr (.cells #[.int .i64 c, .int .i64 10080] 54))
        have tg := sps_one wr c 10080
        have hz := Nat.le_trans ZW.out (alloc1 wr (.cells #[.int .i64 c, .int .i64 10080] 54)).size
        clear HE
        go_wp2_with (at_builtin; refine wpList_appS rfl _ _ (by rfl) b _ L [(c, 10080)] (some ⟨wr.heap.size, 0, none⟩) 1 1 (by rfl) ow (by rfl) tg rfl (by omega) hz ?_; intro v7 w7 ho7 hg7 hlt7)
        have O7 := Lib.hid (HG.out ▸ ho7)
        have B7 := Lib.hid ((HK.out.trans ((alloc1 wr _).mono ZW.out)).grown hg7 hz (fun k hk => (hlt7 k hk).1))
        clear ow tg hz ho7 hg7 hlt7
        go_wp2
        go_ret
        exact ⟨⟨_, rfl, O7.out⟩, B7.out⟩
      · have HG := Lib.hid (show L = R from by
          have := HE.out
          rwa [notF, if_neg c1, List.append_nil] at this)
        have O7 := Lib.hid (HG.out ▸ HO.out)
        clear HE
        go_wp2
        go_ret
        exact ⟨⟨_, rfl, O7.out⟩, HK.out⟩
end Go.Proofs.YtgbkjdpjilldmaaGreatDoor.Hr
/- hours: slices.Grow of nil; slices.Concat of slices of spans, each of which may be empty. -/
namespace Go.Proofs.YtgbkjdpjilldmaaGreatDoor.Hr
open Go.RowKit Go.Sort Go.Shelf
open Lx (IsRow alloc1 drew_below)
open St (Sp encS encS_len encS_one)
set_option maxRecDepth 100000 in
set_option maxHeartbeats 2000000 in
theorem grow_any (n : Nat) (w : World) (hn : n ≤ 100000) :
    Calls Tryz.prog 75 #[.slice none 0 0, .int .i64 n] w fun e w' => (∃ v, e = .returned v ∧ OwnS w' w.heap.size v []) ∧ Below w.heap.size w w' := by
  by_cases h0 : 0 < n
  · obtain ⟨i0, hi0, hs0, hb0, hz0⟩ := info_of span_info
    have hrz : ∀ ty, (Builtin.append_ #[22, 3] ty #[.slice none 0 0, .int .i64 (n : Int)]).run Tryz.prog w =
        .ok (.slice (some ⟨w.heap.size, 0, none⟩) n (grownCap w n 0 54)) (w.drew.alloc (.cells ((#[] : Array Value) ++ Builtin.zeroCells (Value.agg #[.int .i64 0, .int .i64 0]).cells n ++ Builtin.zeroCells (Value.agg #[.int .i64 0, .int .i64 0]).cells (grownCap w n 0 54 - n)) 54)) := fun ty => by
      have h := Lib.run_append_grow_zeros (P := Tryz.prog) w 22 3 ty 54 i0 _ .i64 .i64 Tryz.underlying22 Tryz.underlying3 hi0 hz0 none 0 0 [] (run_firstCells_none w.drew i0.size 0 0 0) n h0 (by omega) (by omega) (by omega) (by rw [hb0]; omega)
        (growslice_fits (by omega) (by rw [hb0]; omega))
      rw [Nat.zero_add] at h
      exact h
    have hGn : n ≤ grownCap w n 0 54 := grownCap_ge w _ _ _
    have hG63 := grownCap_le_maxLen w n 0 54 (by unfold maxLen; omega)
    obtain ⟨G, hG⟩ : ∃ G, G = grownCap w n 0 54 := ⟨_, rfl⟩
    rw [← hG] at hrz hGn hG63
    clear hG hi0 hs0 hb0 hz0
    have HG63 := Lib.hid hG63
    unfold maxLen at hG63
    go_enter Tryz.func75, Tryz.ntmps75
    go_wp2_with (at_builtin; refine Lib.wpList_append_run _ rfl _ _ _ _ rfl _ _ rfl rfl _ _ (hrz _) ?_)
    all_goals
      go_ret
      have hsz : (Builtin.zeroCells #[Value.int .i64 0, Value.int .i64 0] n ++ Builtin.zeroCells #[Value.int .i64 0, Value.int .i64 0] (G - n)).size = G * 2 := by
        simp [Builtin.zeroCells]
        omega
      exact ⟨⟨_, rfl, World.ownsRow_made (base := w.heap.size) w _ G (Nat.le_refl _) HG63.out hsz⟩, (alloc1 w _).trans ((drew_below _).mono (by simp))⟩
  · obtain rfl : n = 0 := by omega
    go_enter Tryz.func75, Tryz.ntmps75
    go_wp2
    go_ret
    exact ⟨⟨_, rfl, OwnS.nil _ _⟩, Below.refl _ _⟩
/-- a slice of slices of spans: the row g of their values, and what they are. -/
def SlsT (w : World) (g : Nat) (ls : List (Option Addr × Nat × Nat × List Sp)) : Prop := Sls w g ls ∧ ∀ s ∈ ls, s.2.2.2.length = s.2.1 ∧ SpT w w.heap.size s.1 s.2.2.2 ∧ s.2.1 ≤ s.2.2.1
abbrev Sl := Option Addr × Nat × Nat × List Sp
def jl (ls : List Sl) (k : Nat) : List Sp := ((ls.take k).map fun s => s.2.2.2).flatten
def sm (ls : List Sl) (k : Nat) : Nat := ((ls.take k).map fun s => s.2.1).sum
theorem jl_succ {ls : List Sl} {k : Nat} (h : k < ls.length) : jl ls (k + 1) = jl ls k ++ ls[k].2.2.2 := by
  unfold jl
  rw [List.take_succ_eq_append_getElem h, List.map_append, List.flatten_append]
  simp
theorem sm_succ {ls : List Sl} {k : Nat} (h : k < ls.length) : sm ls (k + 1) = sm ls k + ls[k].2.1 := by
  unfold sm
  rw [List.take_succ_eq_append_getElem h, List.map_append, List.sum_append]
  simp
theorem sm_le {ls : List Sl} (hL : ∀ s ∈ ls, s.2.1 ≤ 1000) : ∀ k, k ≤ ls.length → sm ls k ≤ k * 1000
  | 0, _ => by simp [sm]
  | k + 1, h => by
    rw [sm_succ (by omega)]
    have := sm_le hL k (by omega)
    have := hL _ (List.getElem_mem (show k < ls.length by omega))
    omega
theorem jl_len {ls : List Sl} (hL : ∀ s ∈ ls, s.2.2.2.length = s.2.1) : ∀ k, k ≤ ls.length → (jl ls k).length = sm ls k
  | 0, _ => by simp [jl, sm]
  | k + 1, h => by
    rw [sm_succ (by omega), jl_succ (by omega), List.length_append, jl_len hL k (by omega), hL _ (List.getElem_mem (show k < ls.length by omega))]
set_option maxRecDepth 100000 in
set_option maxHeartbeats 4000000 in
theorem concat_any (g m : Nat) (ls : List Sl) (w : World) (h : SlsT w g ls) (hm : ls.length = m) (hm3 : m ≤ 10) (hL : ∀ s ∈ ls, s.2.1 ≤ 1000) :
    Calls Tryz.prog 46 #[.slice (some ⟨g, 0, none⟩) m m] w fun e w' => (∃ v, e = .returned v ∧ OwnS w' w.heap.size v (jl ls m)) ∧ Below w.heap.size w w' := by
  have H := Lib.hid h
  have HM := Lib.hid hm
  have HL := Lib.hid hL
  have hm' : (m : Int) ≤ 10 := by omega
  have SL := Lib.hid (sm_le hL)
  have JL := Lib.hid (jl_len (fun s hs => (h.2 s hs).1))
  clear h hm hL
  go_enter Tryz.func46, Tryz.ntmps46
  go_wp2
  go_loop [3, 11] (fun s i => ∃ k : Nat, k ≤ m ∧ i = .int .i64 k ∧ s = .int .i64 (sm ls k : Nat)) (fun _ i => m - (Lx.intOf i).toNat)
  case atStart => exact ⟨0, by omega, rfl, rfl⟩
  case round =>
    obtain ⟨k, hk, rfl, rfl⟩ := hrel
    by_cases hlt : k < m
    · have hkl : k < ls.length := by rw [HM.out]; exact hlt
      have hlt2 : (k : Int) < (m : Int) := by omega
      have x0 := H.out.1.get k
      rw [show (ls.map fun s => Value.slice s.1 s.2.1 s.2.2.1).toArray[k]? = some (Value.slice ls[k].1 ls[k].2.1 ls[k].2.2.1) by simp [hkl]] at x0
      have SS := Lib.hid (sm_succ hkl)
      have s1 := SL.out k (by rw [HM.out]; omega)
      have s2 := HL.out _ (List.getElem_mem hkl)
      generalize ls[k] = s at *
      obtain ⟨a1, n1, c1, l1⟩ := s
      dsimp only at x0 s2 SS
      have s1' : ((sm ls k : Nat) : Int) ≤ 10000 := by omega
      have s2' : ((n1 : Nat) : Int) ≤ 1000 := by omega
      clear hkl
      go_wp2
      go_round
      case rel => exact ⟨k + 1, by omega, by go_num, by rw [SS.out]; go_num⟩
      case measure => simp [Lx.intOf]; omega
    · obtain rfl : m = k := by omega
      have s1 := SL.out m (by rw [HM.out]; omega)
      have KG := Lib.hid (grow_any (sm ls m) w (by omega))
      go_wp2_with fail
      refine KG.out.mono ?_
      rintro e w1 ⟨⟨v, rfl, hv⟩, hb1⟩
      have O1 := Lib.hid (show OwnS w1 w.heap.size v (jl ls 0) from hv)
      have B1 := Lib.hid hb1
      have M3 := Lib.hid hm3
      clear hv hb1 KG
      go_wp2
      go_loopw [6, 27] (fun u i wr => ∃ k : Nat, k ≤ m ∧ i = .int .i64 k ∧ Hid (OwnS wr w.heap.size u (jl ls k)) ∧ Hid (Below w.heap.size w wr)) (fun _ i _ => m - (Lx.intOf i).toNat)
      case atStart => exact ⟨0, by omega, rfl, O1, B1⟩
      case round =>
        clear O1 B1
        obtain ⟨k, hk, rfl, HO, HB⟩ := hrel
        by_cases hlt : k < m
        · have hkl : k < ls.length := by rw [HM.out]; exact hlt
          have hlt2 : (k : Int) < (m : Int) := by omega
          have x0 := (H.out.1.below HB.out H.out.1.inside).get k
          rw [show (ls.map fun s => Value.slice s.1 s.2.1 s.2.2.1).toArray[k]? = some (Value.slice ls[k].1 ls[k].2.1 ls[k].2.2.1) by simp [hkl]] at x0
          have JS := Lib.hid (jl_succ hkl)
          have q1 := Lib.hid ((H.out.2 _ (List.getElem_mem hkl)).1)
          have q2 := Lib.hid ((H.out.2 _ (List.getElem_mem hkl)).2.1.later HB.out)
          have jn := Lib.hid (JL.out k (by omega))
          have s1 := Lib.hid (SL.out k (by omega))
          have s2 := Lib.hid (HL.out _ (List.getElem_mem hkl))
          generalize ls[k] = s at *
          obtain ⟨a1, n1, c1, l1⟩ := s
          dsimp only at x0 s2 JS q1 q2
          clear hkl
          go_wp2_with (at_builtin; refine wpList_appS rfl _ _ (by rfl) w.heap.size _ (jl ls k) l1 a1 n1 c1 (by rfl) HO.out (by rfl) q2.out q1.out.symm (by have := jn.out; have := s1.out; have := s2.out; have := M3.out; omega) HB.out.size ?_; intro v' w2 ho2 hg2 hlt2)
          have O2 := Lib.hid (show OwnS w2 w.heap.size v' (jl ls (k + 1)) from JS.out ▸ ho2)
          have B2 := Lib.hid (HB.out.grown hg2 HB.out.size (fun k hk => (hlt2 k hk).1))
          clear HO ho2 hg2 hlt2 x0
          go_wp2
          go_roundw
          case rel => exact ⟨k + 1, by omega, by go_num, O2, B2⟩
          case measure => simp [Lx.intOf]; omega
        · obtain rfl : m = k := by omega
          go_wp2
          go_ret
          exact ⟨⟨_, rfl, HO.out⟩, HB.out⟩
end Go.Proofs.YtgbkjdpjilldmaaGreatDoor.Hr
