/- Merged: HrTab, HrRfV, HrRfN, HrRfS, HrRfP. -/
import Derived.Test.YtgbkjdpjilldmaaGreatDoorHz21
/- The reference's week: an array of 10080 minutes. -/
namespace Go.Proofs.YtgbkjdpjilldmaaGreatDoor.Hr
open Go.RowKit Go.Sort Go.Shelf
open Lx (IsRow alloc1 drew_below B)
open St (Sp encS encS_len encS_one)
def bits (f : Nat → Bool) : Array Value := ((List.range 10080).map fun i => Value.bool (f i)).toArray
theorem bits_size (f : Nat → Bool) : (bits f).size = 10080 := by simp [bits]
theorem bits_get (f : Nat → Bool) (i : Nat) (h : i < 10080) : (bits f)[i]? = some (.bool (f i)) := by simp [bits, h]
theorem bits_congr {f g : Nat → Bool} (h : ∀ i, i < 10080 → f i = g i) : bits f = bits g := by
  apply Array.ext_getElem?
  intro k
  by_cases hk : k < 10080
  · rw [bits_get _ k hk, bits_get _ k hk, h k hk]
  · rw [Array.getElem?_eq_none (by rw [bits_size]; omega), Array.getElem?_eq_none (by rw [bits_size]; omega)]
theorem bits_put (f : Nat → Bool) (i : Nat) (v : Bool) : (bits f).setIfInBounds i (.bool v) = bits fun k => if k = i then v else f k := by
  apply Array.ext_getElem?
  intro k
  rw [Array.getElem?_setIfInBounds]
  by_cases hk : k < 10080
  · rw [bits_size]
    by_cases e : i = k
    · subst e
      rw [if_pos rfl, if_pos hk, bits_get _ i hk, if_pos rfl]
    · rw [if_neg e, bits_get _ k hk, bits_get _ k hk, if_neg (fun h => e h.symm)]
  · rw [Array.getElem?_eq_none (xs := bits fun k => if k = i then v else f k) (by rw [bits_size]; omega), bits_size, Array.getElem?_eq_none (xs := bits f) (by rw [bits_size]; omega)]
    split
    · rename_i e
      rw [if_neg (by omega)]
    · rfl
theorem bits_zero : bits (fun _ => false) = Array.replicate 10080 (.bool false) := by
  apply Array.ext_getElem?
  intro k
  by_cases hk : k < 10080
  · rw [bits_get _ k hk]
    simp [hk]
  · rw [Array.getElem?_eq_none (by rw [bits_size]; omega), Array.getElem?_eq_none (by simp; omega)]
/-- all are false. -/
noncomputable def chkL (l : List Value) : Bool := List.rec true (fun v _ ih => match v with | .bool false => ih | _ => false) l
theorem chkL_cons (v : Value) (l : List Value) : chkL (v :: l) = match v with | .bool false => chkL l | _ => false := rfl
theorem chkL_all : ∀ {l : List Value}, chkL l = true → ∀ v ∈ l, v = .bool false
  | [], _, v, h => by cases h
  | u :: l, h, v, hv => by
    rw [chkL_cons] at h
    split at h
    · rcases List.mem_cons.1 hv with rfl | hv
      · rfl
      · exact chkL_all h v hv
    · cases h
theorem zc_all : chkL Tryz.zeroCells65.toList = true := by kernel_rfl
theorem zc_bits : Tryz.zeroCells65 = bits fun _ => false := by
  have h := Array.eq_replicate_of_mem (xs := Tryz.zeroCells65) (a := .bool false) fun v hv => chkL_all zc_all v (by simpa using hv)
  rw [Tryz.zeroCells65_size] at h
  rw [bits_zero]
  exact h
theorem zero_week (w : World) : Sem.run Tryz.prog (zeroValue 65) w = .ok (.agg (bits fun _ => false)) w := by
  rw [← zc_bits]
  exact Tryz.zeroValue65 w
abbrev Wk (w : World) (g : Nat) (f : Nat → Bool) : Prop := IsRow w g 65 (bits f)
theorem wk_get {w : World} {g : Nat} {f : Nat → Bool} (h : Wk w g f) (i : Nat) (hi : i < 10080) : w.cell? ⟨g, i, none⟩ = some (.bool (f i)) ∧ w.frozen? ⟨g, i, none⟩ = false := ⟨by rw [IsRow.get h, bits_get f i hi], IsRow.open_ h i⟩
theorem wk_put {w : World} {g : Nat} {f f' : Nat → Bool} (h : Wk w g f) (i : Nat) (v : Bool) (e : ∀ k, k < 10080 → (if k = i then v else f k) = f' k) : Wk (w.setCell ⟨g, i, none⟩ (.bool v)) g f' := by
  have h1 := IsRow.put h i (.bool v)
  rw [bits_put f i v, bits_congr e] at h1
  exact h1
end Go.Proofs.YtgbkjdpjilldmaaGreatDoor.Hr
/- hours: the reference's Valid, minute, Next, Open. -/
namespace Go.Proofs.YtgbkjdpjilldmaaGreatDoor.Hr
open Go.RowKit Go.Sort Go.Shelf
open Lx (IsRow alloc1 drew_below B)
open St (Sp encS encS_len encS_one)
theorem drewN_v (w : World) (j : Nat) : Below w.heap.size w (w.drewN j) := ⟨rfl, rfl, rfl, Nat.le_refl _, fun _ _ => rfl⟩
set_option maxRecDepth 100000 in
set_option maxHeartbeats 8000000 in
theorem rfValid_any (ao : Option Addr) (n cap : Nat) (l : List Sp) (w : World) (hn : l.length = n) (ha : SpT w w.heap.size ao l) (hc : n ≤ cap) (hm : n ≤ 1000000) :
    Calls Tryz.prog 15 #[.slice ao n cap] w fun e w' => e = .returned (.bool (vldS l)) ∧ Below w.heap.size w w' := by
  have HA := Lib.hid ha
  have HN := Lib.hid hn
  have hc' : (n : Int) ≤ (cap : Int) := by omega
  have hm' : (n : Int) ≤ 1000000 := by omega
  obtain ⟨R, hR⟩ : ∃ R, vldS l = R := ⟨_, rfl⟩
  rw [hR]
  have HR := Lib.hid hR
  clear hR hn ha
  go_enter Tryz.func15, Tryz.ntmps15
  go_wp2
  go_loopw [3] (fun i wr => ∃ k : Nat, k ≤ n ∧ i = .int .i64 k ∧ Hid (Val (l.take k)) ∧ Hid (Below w.heap.size w wr)) (fun i _ => n - (Lx.intOf i).toNat)
  case atStart => exact ⟨0, by omega, rfl, Lib.hid ⟨fun s hs => by simp at hs, by simp⟩, Lib.hid (Below.refl _ _)⟩
  case round =>
    obtain ⟨k, hk, rfl, HC, HK⟩ := hrel
    by_cases hlt : k < n
    · have hkl : k < l.length := by rw [HN.out]; exact hlt
      have hlt2 : (k : Int) < (n : Int) := by omega
      have hA := HA.out.below HK.out (Nat.le_refl _)
      obtain ⟨g0, o0, rfl, hg0, x0, x1⟩ := hA.at_ hkl
      have PRE := Lib.hid (show 0 < k → ∃ p : Int, wr.cell? ⟨g0, o0 + (k - 1) * 2 + 1, none⟩ = some (.int .i64 p) ∧ (¬ p < l[k].1 → false = R) ∧ (okS l[k] → p < l[k].1 → Val (l.take (k + 1))) from fun h0 => by
        obtain ⟨g2, o2, e2, hg2, _, x2⟩ := hA.at_ (k := k - 1) (by omega)
        injection e2 with e2
        injection e2 with e3 e4
        exact ⟨(l[k - 1]'(by omega)).2, by rw [e3, e4]; exact x2, fun h => by rw [← HR.out, vld_false (val_bad2 hkl h0 h)], fun h1 h2 => val_step hkl HC.out h1 (fun _ => h2)⟩)
      have FST := Lib.hid (show k = 0 → okS l[k] → Val (l.take (k + 1)) from fun h0 h1 => val_step hkl HC.out h1 (fun h2 => by omega))
      have BAD := Lib.hid (show ¬ okS l[k] → false = R from fun h => by rw [← HR.out, vld_false (val_bad1 hkl h)])
      generalize l[k] = s at *
      obtain ⟨f, t⟩ := s
      dsimp only at x0 x1
      unfold okS at BAD FST
      dsimp only at BAD FST
      clear hA hkl HC
      have H12 := Lib.hid (fun j => HK.out.trans ((drewN_v wr j).mono HK.out.size))
      by_cases c1 : f < 0
      · obtain rfl := BAD.out (by omega)
        have d1 : decide (f < 0) = true := decide_eq_true c1
        clear PRE FST BAD
        go_upto_region 4 with fail
        go_quiet (fail)
        go_wp2
        go_ret
        exact ⟨rfl, H12.out _⟩
      have d1 : decide (f < 0) = false := decide_eq_false c1
      by_cases c2 : t ≤ f
      · obtain rfl := BAD.out (by omega)
        have d2 : decide (t ≤ f) = true := decide_eq_true c2
        clear PRE FST BAD
        go_upto_region 4 with fail
        go_quiet (fail)
        go_wp2
        go_ret
        exact ⟨rfl, H12.out _⟩
      have d2 : decide (t ≤ f) = false := decide_eq_false c2
      by_cases c3 : 10080 < t
      · obtain rfl := BAD.out (by omega)
        have d3 : decide (10080 < t) = true := decide_eq_true c3
        clear PRE FST BAD
        go_upto_region 4 with fail
        go_quiet (fail)
        go_wp2
        go_ret
        exact ⟨rfl, H12.out _⟩
      have d3 : decide (10080 < t) = false := decide_eq_false c3
      have OK := Lib.hid (show 0 ≤ f ∧ f < t ∧ t ≤ 10080 by omega)
      by_cases h0 : 0 < k
      · obtain ⟨p, xp, hp1, hp2⟩ := PRE.out h0
        have hd : decide ((0 : Int) < (k : Int)) = true := decide_eq_true (by omega)
        have hd2 : decide (0 < k) = true := decide_eq_true h0
        have hk1 : IntKind.i64.wrap ((k : Int) - 1) = ((k - 1 : Nat) : Int) := by
          rw [IntWalk.i64_in _ (by omega)]
          omega
        have hk2 : ((k - 1 : Nat) : Int) < (n : Int) := by omega
        dsimp only at hp1 hp2
        by_cases hpf : p < f
        · have HV := Lib.hid (hp2 OK.out hpf)
          have hpf2 : decide (f ≤ p) = false := decide_eq_false (by omega)
          clear PRE FST BAD hp1 hp2
          go_upto_region 4 with fail
          go_quiet (fail)
          go_wp2
          go_roundw
          case rel => exact ⟨k + 1, by omega, by go_num, HV, Lib.hid (H12.out _)⟩
          case measure => simp [Lx.intOf]; omega
        · obtain rfl := hp1 hpf
          have hpf2 : decide (f ≤ p) = true := decide_eq_true (by omega)
          clear PRE FST BAD hp1 hp2
          go_upto_region 4 with fail
          go_quiet (fail)
          go_wp2
          go_ret
          exact ⟨rfl, H12.out _⟩
      · have hd : decide ((0 : Int) < (k : Int)) = false := decide_eq_false (by omega)
        have hd2 : decide (0 < k) = false := decide_eq_false h0
        have HV := Lib.hid (FST.out (by omega) OK.out)
        clear PRE FST BAD
        go_upto_region 4 with fail
        go_quiet (fail)
        go_wp2
        go_roundw
        case rel => exact ⟨k + 1, by omega, by go_num, HV, Lib.hid (H12.out _)⟩
        case measure => simp [Lx.intOf]; omega
    · obtain rfl : k = n := by omega
      have e : R = true := by
        have h1 := HC.out
        rw [List.take_of_length_le (by rw [HN.out]; exact Nat.le_refl _)] at h1
        rw [← HR.out]
        exact vld_val.2 h1
      subst e
      have hlt2 : ¬ (k : Int) < (k : Int) := by omega
      go_wp2
      go_ret
      exact ⟨rfl, HK.out⟩
theorem minute_any (m : Int) (w : World) : Calls Tryz.prog 45 #[.int .i64 m] w fun e w' => e = .returned (.bool (decide (0 ≤ m) && decide (m ≤ 1000000000))) ∧ w' = w := by
  by_cases h1 : 0 ≤ m
  · rw [decide_eq_true h1, Bool.true_and]
    go_enter Tryz.func45, Tryz.ntmps45
    go_wp2
    go_ret
    exact ⟨rfl, rfl⟩
  · rw [decide_eq_false h1, Bool.false_and]
    go_enter Tryz.func45, Tryz.ntmps45
    go_wp2
    go_ret
    exact ⟨rfl, rfl⟩
end Go.Proofs.YtgbkjdpjilldmaaGreatDoor.Hr
/- hours: the reference's Next, Open. -/
namespace Go.Proofs.YtgbkjdpjilldmaaGreatDoor.Hr
open Go.RowKit Go.Sort Go.Shelf
open Lx (IsRow alloc1 drew_below B)
open St (Sp encS encS_len encS_one)
theorem nxt_take {l : List Sp} {m : Int} {k : Nat} (hk : k < l.length) (h : nxt m (l.take k) = none) : nxt m (l.take (k + 1)) = if m < l[k].2 then some l[k] else none := by
  rw [List.take_succ_eq_append_getElem hk, nxt_snoc m l[k] _ h]
theorem nxt_all {l : List Sp} {m : Int} {k : Nat} {s : Sp} (h : nxt m (l.take k) = some s) : nxt m l = some s := by
  have := nxt_more m (l.drop k) s (l.take k) h
  rwa [List.take_append_drop] at this
set_option maxRecDepth 100000 in
set_option maxHeartbeats 8000000 in
theorem rfNext_any (ao : Option Addr) (n cap : Nat) (l : List Sp) (m : Int) (w : World) (hn : l.length = n) (ha : SpT w w.heap.size ao l) (hc : n ≤ cap) (hm : n ≤ 1000000) :
    Calls Tryz.prog 17 #[.slice ao n cap, .int .i64 m] w fun e w' => e = .returned (.tuple #[.int .i64 (nextR l m).1, .bool (nextR l m).2]) ∧ Below w.heap.size w w' := by
  have VL := Lib.hid (rfValid_any ao n cap l w hn ha hc hm)
  have KM := Lib.hid (fun w => minute_any m w)
  have HA := Lib.hid ha
  have HN := Lib.hid hn
  have hc' : (n : Int) ≤ (cap : Int) := by omega
  have hm' : (n : Int) ≤ 1000000 := by omega
  clear hn ha
  by_cases hq : vldS l = true ∧ l ≠ [] ∧ 0 ≤ m ∧ m ≤ 1000000000
  rotate_left
  · rw [next_no hq]
    cases hv : vldS l with
    | false =>
      rw [hv] at VL
      clear hq hv
      go_enter Tryz.func17, Tryz.ntmps17
      go_wp2_with fail
      refine VL.out.mono ?_
      rintro e w2 ⟨rfl, b2⟩
      go_wp2
      go_ret2
      exact ⟨rfl, b2⟩
    | true =>
      rw [hv] at VL
      by_cases h1 : 0 ≤ m ∧ m ≤ 1000000000
      · obtain rfl : l = [] := Decidable.byContradiction fun q => hq ⟨hv, q, h1.1, h1.2⟩
        obtain rfl : n = 0 := HN.out.symm
        have hb : (decide (0 ≤ m) && decide (m ≤ 1000000000)) = true := by rw [decide_eq_true h1.1, decide_eq_true h1.2]; rfl
        rw [hb] at KM
        clear hq hv h1 hb
        go_enter Tryz.func17, Tryz.ntmps17
        go_wp2_with fail
        refine VL.out.mono ?_
        rintro e w2 ⟨rfl, b2⟩
        go_wp2_with fail
        refine (KM.out w2).mono ?_
        rintro e w3 ⟨rfl, rfl⟩
        go_wp2
        go_ret2
        exact ⟨rfl, b2⟩
      · have hb : (decide (0 ≤ m) && decide (m ≤ 1000000000)) = false := by
          rw [Bool.and_eq_false_iff, decide_eq_false_iff_not, decide_eq_false_iff_not]; omega
        rw [hb] at KM
        clear hq hv h1 hb
        go_enter Tryz.func17, Tryz.ntmps17
        go_wp2_with fail
        refine VL.out.mono ?_
        rintro e w2 ⟨rfl, b2⟩
        go_wp2_with fail
        refine (KM.out w2).mono ?_
        rintro e w3 ⟨rfl, rfl⟩
        go_wp2
        go_ret2
        exact ⟨rfl, b2⟩
  obtain ⟨q1, q2, q3, q4⟩ := hq
  rw [q1] at VL
  have hb : (decide (0 ≤ m) && decide (m ≤ 1000000000)) = true := by rw [decide_eq_true q3, decide_eq_true q4]; rfl
  rw [hb] at KM
  have NX := next_is q1 q2 q3 q4
  obtain ⟨R, hR⟩ : ∃ R, nextR l m = R := ⟨_, rfl⟩
  rw [hR] at NX ⊢
  have hn0 : 0 < n := Nat.pos_of_ne_zero fun q => q2 (List.eq_nil_of_length_eq_zero (by rw [HN.out, q]))
  obtain ⟨x, hx⟩ : ∃ x, m % 10080 = x := ⟨_, rfl⟩
  have hx2 : m.tmod 10080 = x := by rw [Int.tmod_eq_emod_of_nonneg q3]; exact hx
  rw [hx] at NX
  have x0 : 0 ≤ x := by omega
  have x1 : x < 10080 := by omega
  have x2 : x ≤ m := by omega
  have HNX := Lib.hid NX
  have OKA := Lib.hid (vld_val.1 q1).1
  have HB0 := Lib.hid (show ∀ s0 : Sp, l.head? = some s0 → l.headD (0, 0) = s0 from fun s0 h => by cases l with | nil => cases h | cons a r => simpa using h)
  clear q1 q2 hb hR NX
  go_enter Tryz.func17, Tryz.ntmps17
  go_wp2_with fail
  refine VL.out.mono ?_
  rintro e w2 ⟨rfl, b2⟩
  have B2 := Lib.hid b2
  clear b2 VL
  go_wp2_with fail
  refine (KM.out w2).mono ?_
  rintro e w3 ⟨rfl, rfl⟩
  have hz0 : ((n : Int) == 0) = false := by rw [beq_eq_false_iff_ne]; omega
  go_wp2_with fail
  go_loopw [7] (fun i wr => ∃ k : Nat, k ≤ n ∧ i = .int .i64 k ∧ Hid (nxt x (l.take k) = none) ∧ Hid (w3 = wr)) (fun i _ => n - (Lx.intOf i).toNat)
  case atStart => exact ⟨0, by omega, rfl, Lib.hid rfl, Lib.hid rfl⟩
  case round =>
    obtain ⟨k, hk, rfl, HC, HW⟩ := hrel
    obtain rfl := HW.out
    by_cases hlt : k < n
    · have hkl : k < l.length := by rw [HN.out]; exact hlt
      have hlt2 : (k : Int) < (n : Int) := by omega
      obtain ⟨g0, o0, rfl, hg0, y0, y1⟩ := (HA.out.below B2.out (Nat.le_refl _)).at_ hkl
      have ST := Lib.hid (nxt_take hkl HC.out)
      have os := OKA.out _ (List.getElem_mem hkl)
      generalize l[k] = s at *
      obtain ⟨f, t⟩ := s
      dsimp only [okS] at y0 y1 os
      obtain ⟨o1, o2, o3⟩ := os
      by_cases hxt : x < t
      · have e := ST.out
        rw [if_pos hxt] at e
        have e2 := nxt_all e
        obtain rfl : R = (m - x + max x f, true) := by
          rcases HNX.out with ⟨s, h1, h2⟩ | ⟨h1, _⟩
          · rw [e2] at h1
            injection h1 with h1
            subst h1
            exact h2
          · rw [e2] at h1; cases h1
        clear ST HC HNX e e2 hkl
        go_wp2
        go_ret2
        exact ⟨rfl, B2.out⟩
      · have E := Lib.hid (show nxt x (l.take (k + 1)) = none by rw [ST.out, if_neg hxt])
        clear ST HC hkl
        go_wp2
        go_roundw
        case rel => exact ⟨k + 1, by omega, by go_num, E, Lib.hid trivial⟩
        case measure => simp [Lx.intOf]; omega
    · obtain rfl : k = n := by omega
      have hlt2 : ¬ (k : Int) < (k : Int) := by omega
      have e := HC.out
      rw [List.take_of_length_le (by rw [HN.out]; exact Nat.le_refl _)] at e
      have hkl : 0 < l.length := by rw [HN.out]; exact hn0
      obtain ⟨g0, o0, rfl, hg0, y0, y1⟩ := (HA.out.below B2.out (Nat.le_refl _)).at_ hkl
      have os := OKA.out _ (List.getElem_mem hkl)
      have hd := HB0.out l[0] (by rw [List.head?_eq_getElem?, List.getElem?_eq_getElem hkl])
      obtain ⟨f, hf⟩ : ∃ z, l[0].1 = z := ⟨_, rfl⟩
      obtain ⟨o1, o2, o3⟩ := os
      rw [hf] at o1 o2 y0
      have o4 : f < 10080 := by omega
      obtain rfl : R = (m - x + 10080 + f, true) := by
        rcases HNX.out with ⟨s, h1, _⟩ | ⟨_, h2⟩
        · rw [e] at h1; cases h1
        · rw [hd, hf] at h2; exact h2
      rw [Nat.zero_mul, Nat.add_zero] at y0
      clear HC HNX e hd HB0 y1 o2 o3
      have hk0 : (0 : Int) < (k : Int) := by omega
      go_wp2
      go_ret2
      exact ⟨rfl, B2.out⟩
set_option maxRecDepth 100000 in
set_option maxHeartbeats 8000000 in
theorem rfOpen_any (ao : Option Addr) (n cap : Nat) (l : List Sp) (m : Int) (w : World) (hn : l.length = n) (ha : SpT w w.heap.size ao l) (hc : n ≤ cap) (hm : n ≤ 1000000) :
    Calls Tryz.prog 19 #[.slice ao n cap, .int .i64 m] w fun e w' => e = .returned (.bool (openR l m)) ∧ Below w.heap.size w w' := by
  have VL := Lib.hid (rfValid_any ao n cap l w hn ha hc hm)
  have KM := Lib.hid (fun w => minute_any m w)
  have HA := Lib.hid ha
  have HN := Lib.hid hn
  have hc' : (n : Int) ≤ (cap : Int) := by omega
  have hm' : (n : Int) ≤ 1000000 := by omega
  clear hn ha
  by_cases h1 : 0 ≤ m ∧ m ≤ 1000000000
  rotate_left
  · rw [open_far h1]
    have hb : (decide (0 ≤ m) && decide (m ≤ 1000000000)) = false := by
      rw [Bool.and_eq_false_iff, decide_eq_false_iff_not, decide_eq_false_iff_not]; omega
    rw [hb] at KM
    cases hv : vldS l <;>
    · rw [hv] at VL
      clear hv h1 hb
      go_enter Tryz.func19, Tryz.ntmps19
      go_wp2_with fail
      refine VL.out.mono ?_
      rintro e w2 ⟨rfl, b2⟩
      go_wp2_with (refine (KM.out w2).mono ?_; rintro e w3 ⟨rfl, rfl⟩)
      go_ret
      exact ⟨rfl, b2⟩
  obtain ⟨q3, q4⟩ := h1
  have hb : (decide (0 ≤ m) && decide (m ≤ 1000000000)) = true := by rw [decide_eq_true q3, decide_eq_true q4]; rfl
  rw [hb] at KM
  clear hb
  cases hv : vldS l with
  | false =>
    have e : openR l m = false := by
      unfold openR
      rw [next_no (fun q => by rw [hv] at q; cases q.1)]
      rfl
    rw [e]
    rw [hv] at VL
    clear hv e
    go_enter Tryz.func19, Tryz.ntmps19
    go_wp2_with fail
    refine VL.out.mono ?_
    rintro e w2 ⟨rfl, b2⟩
    go_wp2
    go_ret
    exact ⟨rfl, b2⟩
  | true =>
  rw [hv] at VL
  have HON := Lib.hid (open_on (vld_val.1 hv) q3 q4)
  obtain ⟨R, hR⟩ : ∃ R, openR l m = R := ⟨_, rfl⟩
  rw [hR] at HON ⊢
  obtain ⟨x, hx⟩ : ∃ x, m % 10080 = x := ⟨_, rfl⟩
  have hx2 : m.tmod 10080 = x := by rw [Int.tmod_eq_emod_of_nonneg q3]; exact hx
  rw [hx] at HON
  clear hR hv
  go_enter Tryz.func19, Tryz.ntmps19
  go_wp2_with fail
  refine VL.out.mono ?_
  rintro e w2 ⟨rfl, b2⟩
  have B2 := Lib.hid b2
  clear b2 VL
  go_wp2_with fail
  refine (KM.out w2).mono ?_
  rintro e w3 ⟨rfl, rfl⟩
  go_wp2_with fail
  go_loopw [5] (fun i wr => ∃ k : Nat, k ≤ n ∧ i = .int .i64 k ∧ Hid (¬ On x (l.take k)) ∧ Hid (w3 = wr)) (fun i _ => n - (Lx.intOf i).toNat)
  case atStart => exact ⟨0, by omega, rfl, Lib.hid (on_nil _), Lib.hid rfl⟩
  case round =>
    obtain ⟨k, hk, rfl, HC, HW⟩ := hrel
    obtain rfl := HW.out
    by_cases hlt : k < n
    · have hkl : k < l.length := by rw [HN.out]; exact hlt
      have hlt2 : (k : Int) < (n : Int) := by omega
      obtain ⟨g0, o0, rfl, hg0, y0, y1⟩ := (HA.out.below B2.out (Nat.le_refl _)).at_ hkl
      have YES := Lib.hid (show l[k].1 ≤ x ∧ x < l[k].2 → true = R from fun h => (HON.out.2 ⟨l[k], List.getElem_mem hkl, h⟩).symm)
      have NO := Lib.hid (show ¬ (l[k].1 ≤ x ∧ x < l[k].2) → ¬ On x (l.take (k + 1)) from fun h q => by
        rw [List.take_succ_eq_append_getElem hkl] at q
        rcases on_app.1 q with q | q
        · exact HC.out q
        · rcases on_cons.1 q with q | q
          · exact h q
          · exact on_nil _ q)
      generalize l[k] = s at *
      obtain ⟨f, t⟩ := s
      dsimp only at y0 y1 YES NO
      clear HC hkl
      by_cases c1 : f ≤ x
      · by_cases c2 : x < t
        · obtain rfl := YES.out ⟨c1, c2⟩
          clear YES NO HON
          go_wp2
          go_ret
          exact ⟨rfl, B2.out⟩
        · have E := Lib.hid (NO.out fun h => c2 h.2)
          clear YES NO
          go_wp2
          go_roundw
          case rel => exact ⟨k + 1, by omega, by go_num, E, Lib.hid trivial⟩
          case measure => simp [Lx.intOf]; omega
      · have E := Lib.hid (NO.out fun h => c1 h.1)
        clear YES NO
        go_wp2
        go_roundw
        case rel => exact ⟨k + 1, by omega, by go_num, E, Lib.hid trivial⟩
        case measure => simp [Lx.intOf]; omega
    · obtain rfl : k = n := by omega
      have hlt2 : ¬ (k : Int) < (k : Int) := by omega
      have e := HC.out
      rw [List.take_of_length_le (by rw [HN.out]; exact Nat.le_refl _)] at e
      obtain rfl : false = R := by
        cases R with
        | false => rfl
        | true => exact absurd (HON.out.1 rfl) e
      clear HC HON e
      go_wp2
      go_ret
      exact ⟨rfl, B2.out⟩
end Go.Proofs.YtgbkjdpjilldmaaGreatDoor.Hr
/- hours: the reference's set: the minutes of a valid list. -/
namespace Go.Proofs.YtgbkjdpjilldmaaGreatDoor.Hr
open Go.RowKit Go.Sort Go.Shelf
open Lx (IsRow alloc1 drew_below B)
open St (Sp encS encS_len encS_one)
theorem drewN_s (w : World) (j : Nat) : Below w.heap.size w (w.drewN j) := ⟨rfl, rfl, rfl, Nat.le_refl _, fun _ _ => rfl⟩
set_option maxRecDepth 100000 in
set_option maxHeartbeats 8000000 in
theorem set_any (ao : Option Addr) (c : Nat) (l : List Sp) (w : World) (ha : SpT w w.heap.size ao l) (hc : l.length ≤ c) (hv : Val l) (hm : l.length ≤ 1000) :
    Calls Tryz.prog 35 #[.slice ao l.length c] w fun e w' => (e = .returned (.pointer (some ⟨w.heap.size, 0, none⟩)) ∧ Wk w' w.heap.size (onB l)) ∧ Below w.heap.size w w' := by
  obtain ⟨n, hn⟩ : ∃ n, l.length = n := ⟨_, rfl⟩
  rw [hn] at hc hm ⊢
  have hz := zero_week
  have HA := Lib.hid ha
  have HN := Lib.hid hn
  have HV := Lib.hid hv
  have hc' : (n : Int) ≤ (c : Int) := by omega
  have hm' : (n : Int) ≤ 1000 := by omega
  clear ha hn hv
  go_enter Tryz.func35, Tryz.ntmps35
  go_wp2
  clear hz
  have b0 := alloc1 w (.cells (bits fun _ => false) 65)
  have r0 : Wk (w.alloc (.cells (bits fun _ => false) 65)) w.heap.size (onB (l.take 0)) := by
    have := IsRow.made w 65 (bits fun _ => false)
    exact this
  obtain ⟨W, hW⟩ : ∃ W, w.alloc (.cells (bits fun _ => false) 65) = W := ⟨_, rfl⟩
  rw [hW] at b0 r0 ⊢
  obtain ⟨Z, hZ⟩ : ∃ Z, w.heap.size = Z := ⟨_, rfl⟩
  rw [hZ] at b0 r0 HA ⊢
  have HB := Lib.hid b0
  have HR := Lib.hid r0
  have HZ := Lib.hid hZ
  clear hW b0 r0 hZ
  go_loopw [4] (fun i wr => ∃ k : Nat, k ≤ n ∧ i = .int .i64 k ∧ Hid (Below Z w wr) ∧ Hid (Wk wr Z (onB (l.take k)))) (fun i _ => n - (Lx.intOf i).toNat)
  case atStart => exact ⟨0, by omega, rfl, HB, HR⟩
  case round =>
    clear HB HR
    obtain ⟨k, hk, rfl, HB, HR⟩ := hrel
    by_cases hlt : k < n
    · have hkl : k < l.length := by rw [HN.out]; exact hlt
      have hlt2 : (k : Int) < (n : Int) := by omega
      obtain ⟨g, off, rfl, hg, x0, x1⟩ := (HA.out.below HB.out (Nat.le_refl _)).at_ hkl
      have os := HV.out.1 _ (List.getElem_mem hkl)
      have CL := Lib.hid (fun (wx : World) (hb : Below Z w wx) => (HA.out.below hb (Nat.le_refl _)).at_ hkl)
      have ST := Lib.hid (show ∀ i, onB (l.take (k + 1)) i = (onB (l.take k) i || (decide (l[k].1 ≤ (i : Int)) && decide ((i : Int) < l[k].2))) from fun i => by
        rw [List.take_succ_eq_append_getElem hkl]
        unfold onB
        rw [List.any_append]
        simp)
      generalize l[k] = s at *
      obtain ⟨f, t⟩ := s
      dsimp only [okS] at x0 x1 os CL ST
      obtain ⟨p1, p2, p3⟩ := os
      obtain ⟨f, rfl⟩ := Int.eq_ofNat_of_zero_le p1
      obtain ⟨t, rfl⟩ := Int.eq_ofNat_of_zero_le (show 0 ≤ t by omega)
      have hT : t ≤ 10080 := by omega
      have hF : f < t := by omega
      clear p1 p2 p3 hkl
      go_wp2
      clear x0 x1
      go_loopw [5] (fun i wq => ∃ m : Nat, f ≤ m ∧ m ≤ t ∧ i = .int .i64 m ∧ Hid (Below Z w wq) ∧ Hid (Wk wq Z (fun i => onB (l.take k) i || (decide (f ≤ i) && decide (i < m))))) (fun i _ => t - (Lx.intOf i).toNat)
      case atStart => exact ⟨f, by omega, by omega, rfl, HB, Lib.hid (by
        have h := HR.out
        unfold Wk at h ⊢
        rw [bits_congr (f := onB (l.take k)) (g := fun i => onB (l.take k) i || (decide (f ≤ i) && decide (i < f))) (fun i _ => by
          have : (decide (f ≤ i) && decide (i < f)) = false := by rw [Bool.and_eq_false_iff, decide_eq_false_iff_not, decide_eq_false_iff_not]; omega
          rw [this, Bool.or_false])] at h
        exact h)⟩
      case round =>
        clear HB HR
        obtain ⟨m, hm1, hm2, rfl, HB, HR⟩ := hrel
        obtain ⟨g', off', e, _, x0, x1⟩ := CL.out _ HB.out
        injection e with e
        injection e with e1 e2
        subst e1 e2
        by_cases hmt : m < t
        · have hmt2 : (m : Int) < (t : Int) := by omega
          have hm3 : (m : Int) < 10080 := by omega
          obtain ⟨y0, y1⟩ := wk_get HR.out m (by omega)
          have HR2 := Lib.hid (wk_put (f' := fun i => onB (l.take k) i || (decide (f ≤ i) && decide (i < m + 1))) HR.out m true (fun i _ => by
            by_cases e : i = m
            · subst e
              rw [if_pos rfl, decide_eq_true hm1, decide_eq_true (Nat.lt_succ_self i)]
              simp
            · rw [if_neg e]
              have : decide (i < m + 1) = decide (i < m) := by rw [decide_eq_decide]; omega
              rw [this]))
          have HB2 := Lib.hid (HB.out.setCell (p := ⟨Z, m, none⟩) (Nat.le_refl _) (.bool true))
          clear HR HB
          go_wp2
          go_roundw
          case rel => exact ⟨m + 1, by omega, by omega, by go_num, HB2, HR2⟩
          case measure => simp [Lx.intOf]; omega
        · obtain rfl : m = t := by omega
          have hmt2 : ¬ (m : Int) < (m : Int) := by omega
          have HR2 : Hid (Wk wr Z (onB (l.take (k + 1)))) := Lib.hid (by
            have h := HR.out
            unfold Wk at h ⊢
            rw [bits_congr (g := onB (l.take (k + 1))) (fun i _ => by
              rw [ST.out i]
              congr 1
              congr 1
              · rw [decide_eq_decide]; omega
              · rw [decide_eq_decide]; omega)] at h
            exact h)
          clear HR
          go_wp2
          go_roundw
          case rel => exact ⟨k + 1, by omega, by go_num, HB, HR2⟩
          case measure => simp [Lx.intOf]; omega
    · obtain rfl : k = n := by omega
      have hlt2 : ¬ (k : Int) < (k : Int) := by omega
      have h9 := HR.out
      rw [List.take_of_length_le (by rw [HN.out]; exact Nat.le_refl _)] at h9
      have H9 := Lib.hid h9
      clear h9 HR
      go_wp2
      go_ret
      exact ⟨⟨by rw [HZ.out]; rfl, by rw [HZ.out]; exact H9.out⟩, by rw [HZ.out]; exact HB.out⟩
end Go.Proofs.YtgbkjdpjilldmaaGreatDoor.Hr
/- hours: the reference's spans: the list of a set of minutes. -/
namespace Go.Proofs.YtgbkjdpjilldmaaGreatDoor.Hr
open Go.RowKit Go.Sort Go.Shelf
open Lx (IsRow alloc1 drew_below B)
open St (Sp encS encS_len encS_one)
set_option maxRecDepth 100000 in
set_option maxHeartbeats 8000000 in
theorem spans_any (g : Nat) (f : Nat → Bool) (w : World) (h : Wk w g f) :
    Calls Tryz.prog 38 #[.pointer (some ⟨g, 0, none⟩)] w fun e w' => (∃ v, e = .returned v ∧ OwnS w' w.heap.size v (spF f 10080)) ∧ Below w.heap.size w w' := by
  obtain ⟨b, hb⟩ : ∃ b, w.heap.size = b := ⟨_, rfl⟩
  have hg : g < b := hb ▸ IsRow.inside h
  have B0 := Lib.hid (show Below b w w from Below.refl _ _)
  have BZ := Lib.hid (show b ≤ w.heap.size from Nat.le_of_eq hb.symm)
  have GT := Lib.hid (fun (wx : World) (hx : Below b w wx) (i : Nat) (hi : i < 10080) => (show wx.cell? ⟨g, i, none⟩ = some (.bool (f i)) from (hx.cell (p := ⟨g, i, none⟩) hg).trans (wk_get h i hi).1))
  rw [hb]
  clear h hb
  go_enter Tryz.func38, Tryz.ntmps38
  go_wp2
  go_loopw [3, 4] (fun v i wr => ∃ k : Nat, k ≤ 10080 ∧ i = .int .i64 k ∧ Hid (OwnS wr b v (spF f k)) ∧ Hid (Below b w wr)) (fun _ i _ => 10080 - (Lx.intOf i).toNat)
  case atStart => exact ⟨0, by omega, rfl, Lib.hid (OwnS.nil _ _), B0⟩
  case round =>
    clear B0
    obtain ⟨k, hk, rfl, HO, HK⟩ := hrel
    by_cases hlt : k < 10080
    · have hlt2 : (k : Int) < 10080 := by omega
      have y0 := GT.out _ HK.out k hlt
      have ZW := Lib.hid (show b ≤ wr.heap.size from Nat.le_trans BZ.out HK.out.size)
      have LN := spF_len f k
      cases hf : f k with
      | false =>
        rw [hf] at y0
        have E := Lib.hid (show spF f (k + 1) = spF f k by rw [spF, if_neg (by rw [hf]; decide)])
        clear hf LN
        go_wp2
        go_roundw
        case rel => exact ⟨k + 1, by omega, by go_num, Lib.hid (by rw [E.out]; exact HO.out), HK⟩
        case measure => simp [Lx.intOf]; omega
      | true =>
        rw [hf] at y0
        by_cases h0 : k = 0
        · have E := Lib.hid (show spF f (k + 1) = spF f k ++ [((k : Int), (k : Int) + 1)] by rw [spF, if_pos hf, if_pos (.inl h0)])
          have h1 : ((k : Int) == 0) = true := by rw [beq_iff_eq]; omega
          have ow := HO.out.below (alloc1 wr (.cells #[.int .i64 (k : Int), .int .i64 ((k : Int) + 1)] 54))
          have tg := sps_one wr (k : Int) ((k : Int) + 1)
          have hz := Nat.le_trans ZW.out (alloc1 wr (.cells #[.int .i64 (k : Int), .int .i64 ((k : Int) + 1)] 54)).size
          clear hf h0
          go_wp2_with (at_builtin; refine wpList_appS rfl _ _ (by rfl) b _ (spF f k) [((k : Int), (k : Int) + 1)] (some ⟨wr.heap.size, 0, none⟩) 1 1 (by rfl) ow (by rfl) tg rfl (by omega) hz ?_; intro v7 w7 ho7 hg7 hlt7)
          have O7 := Lib.hid ho7
          have B7 := Lib.hid ((HK.out.trans ((alloc1 wr _).mono ZW.out)).grown hg7 hz (fun k hk => (hlt7 k hk).1))
          clear ow tg hz ho7 hg7 hlt7
          go_wp2
          go_roundw
          case rel => exact ⟨k + 1, by omega, by go_num, Lib.hid (by rw [E.out]; exact O7.out), B7⟩
          case measure => simp [Lx.intOf]; omega
        · have y1 := GT.out _ HK.out (k - 1) (by omega)
          have h1 : ((k : Int) == 0) = false := by rw [beq_eq_false_iff_ne]; omega
          have hk1 : IntKind.i64.wrap ((k : Int) - 1) = ((k - 1 : Nat) : Int) := by
            rw [IntWalk.i64_in _ (by omega)]
            omega
          have hk3 : ((k - 1 : Nat) : Int) < 10080 := by omega
          cases hp : f (k - 1) with
          | false =>
            rw [hp] at y1
            have E := Lib.hid (show spF f (k + 1) = spF f k ++ [((k : Int), (k : Int) + 1)] by rw [spF, if_pos hf, if_pos (.inr hp)])
            have ow := HO.out.below (alloc1 wr (.cells #[.int .i64 (k : Int), .int .i64 ((k : Int) + 1)] 54))
            have tg := sps_one wr (k : Int) ((k : Int) + 1)
            have hz := Nat.le_trans ZW.out (alloc1 wr (.cells #[.int .i64 (k : Int), .int .i64 ((k : Int) + 1)] 54)).size
            clear hf hp
            go_wp2_with (at_builtin; refine wpList_appS rfl _ _ (by rfl) b _ (spF f k) [((k : Int), (k : Int) + 1)] (some ⟨wr.heap.size, 0, none⟩) 1 1 (by rfl) ow (by rfl) tg rfl (by omega) hz ?_; intro v7 w7 ho7 hg7 hlt7)
            have O7 := Lib.hid ho7
            have B7 := Lib.hid ((HK.out.trans ((alloc1 wr _).mono ZW.out)).grown hg7 hz (fun k hk => (hlt7 k hk).1))
            clear ow tg hz ho7 hg7 hlt7
            go_wp2
            go_roundw
            case rel => exact ⟨k + 1, by omega, by go_num, Lib.hid (by rw [E.out]; exact O7.out), B7⟩
            case measure => simp [Lx.intOf]; omega
          | true =>
            rw [hp] at y1
            obtain ⟨A, u, hA, hu⟩ := (spF_spec f k (by omega)).last (by omega) hp
            have E := Lib.hid (show spF f (k + 1) = A ++ [(u.1, (k : Int) + 1)] by rw [spF, if_pos hf, if_neg (fun q => by rcases q with q | q; exact h0 q; rw [hp] at q; cases q), hA, setLast_snoc])
            rw [hA] at HO LN
            obtain ⟨m, hm1⟩ : ∃ m, (A ++ [u]).length = m := ⟨_, rfl⟩
            have hmA : m = A.length + 1 := by rw [← hm1]; simp
            obtain ⟨aL, cL, hvL, hcL, _, h3L⟩ := HO.out.shape
            obtain ⟨gL, rfl, hgL, hgL2⟩ : ∃ g, aL = some ⟨g, 0, none⟩ ∧ b ≤ g ∧ g < wr.heap.size := by
              rcases h3L with ⟨_, _, h⟩ | h
              · simp at h
              · exact h
            rw [hm1] at hvL hcL LN
            subst hvL
            obtain ⟨c0, c1⟩ := last_cells HO.out hmA
            have fz := Own.open_ HO.out ((m - 1) * 2 + 1)
            have hm0 : IntKind.i64.wrap ((m : Int) - 1) = ((m - 1 : Nat) : Int) := by
              rw [IntWalk.i64_in _ (by omega)]
              omega
            have hm2 : ((m - 1 : Nat) : Int) < (m : Int) := by omega
            have hcL' : (m : Int) ≤ (cL : Int) := by omega
            have LN2 : (m : Int) ≤ 10080 := by omega
            have FIN := Lib.hid (show OwnS (wr.setCell ⟨gL, (m - 1) * 2 + 1, none⟩ (.int .i64 ((k : Int) + 1))) b (.slice (some ⟨gL, 0, none⟩) m cL) (spF f (k + 1)) ∧ Below b w (wr.setCell ⟨gL, (m - 1) * 2 + 1, none⟩ (.int .i64 ((k : Int) + 1))) from by
              obtain ⟨s1, s2⟩ := OwnS.set2 HO.out hmA ((k : Int) + 1)
              exact ⟨by rw [E.out]; exact s1, HK.out.grown s2 ZW.out (fun k hk => by injection hk with hk; omega)⟩)
            clear hf hp hA hu hm1 hmA hcL h3L E LN HO
            go_wp2
            go_roundw
            case rel => exact ⟨k + 1, by omega, by go_num, Lib.hid FIN.out.1, Lib.hid FIN.out.2⟩
            case measure => simp [Lx.intOf]; omega
    · obtain rfl : k = 10080 := by omega
      go_wp2
      go_ret
      exact ⟨⟨_, rfl, HO.out⟩, HK.out⟩
end Go.Proofs.YtgbkjdpjilldmaaGreatDoor.Hr
