/- tag: TagSets. -/
import Derived.Test.YtnepfifcjjjjjaaTgHead
import Derived.Test.YtnepfifcjjjjjaaTgSetMath
namespace Go.Proofs.Ytnepfifcjjjjjaa.Tg
open Go.RowKit
open Lx (IsRow alloc1 drew_below nmB)
theorem setR_ok {l : List T} {k v : B} (h1 : vld l = true) (h2 : nmB k = true) (h3 : v.length ≤ 200) (h4 : (setL l k v).length ≤ 60) : setR l k v = (setL l k v, 0) := by
  unfold setR
  rw [if_neg (by rw [h1, h2]; simp; exact h3), if_neg (by omega)]
theorem setR_cases (l : List T) (k v : B) : setR l k v = ([], 1) ∨ (setR l k v = ([], 2) ∧ vld l = true ∧ l.length = 60) ∨ (setR l k v = (setL l k v, 0) ∧ vld l = true ∧ nmB k = true ∧ v.length ≤ 200 ∧ (setL l k v).length ≤ 60) := by
  by_cases h1 : vld l = true
  · by_cases h2 : nmB k = true
    · by_cases h3 : v.length ≤ 200
      · by_cases h4 : (setL l k v).length ≤ 60
        · exact .inr (.inr ⟨setR_ok h1 h2 h3 h4, h1, h2, h3, h4⟩)
        · refine .inr (.inl ⟨?_, h1, ?_⟩)
          · unfold setR
            rw [if_neg (by rw [h1, h2]; simp; exact h3), if_pos (by omega)]
          · have := set_len l k v
            have := vld_few h1
            omega
      · exact .inl (if_pos (.inr (.inr (by omega))))
    · exact .inl (if_pos (.inr (.inl (by simpa using h2))))
  · exact .inl (if_pos (.inl (by simpa using h1)))
set_option maxRecDepth 100000 in
set_option maxHeartbeats 8000000 in
theorem sets_any (a0 : Option Addr) (n0 c0 : Nat) (l0 : List T) (k o v : B) (W : World) (hl0 : l0.length = n0) (hp0 : TagsT W W.heap.size a0 l0) (hc0 : n0 ≤ c0) :
    Calls Try.prog 5 #[.slice a0 n0 c0, .string ⟨k.toArray⟩, .string ⟨o.toArray⟩, .string ⟨v.toArray⟩] W fun e w' => e = .returned (.bool true) ∧ Below W.heap.size W w' := by
  have HL0 := Lib.hid hl0
  have P0 := Lib.hid hp0
  have C0 := Lib.hid hc0
  obtain ⟨Z, hZ⟩ : ∃ Z, W.heap.size = Z := ⟨_, rfl⟩
  clear hl0 hp0 hc0
  have HH := Lib.hid (head_any W)
  rw [hZ]
  go_enter Try.func5, Try.ntmps5
  go_upto_region 2 with ((with_reducible refine HH.out.mono ?_); rintro e w1 ⟨rfl, b1⟩)
  obtain ⟨w2, hw2, b2, r2⟩ : ∃ w2, w1.alloc (.cells #[.slice a0 n0 c0] 22) = w2 ∧ Below w1.heap.size w1 w2 ∧ IsRow w2 w1.heap.size 22 #[.slice a0 n0 c0] := ⟨_, rfl, alloc1 _ _, IsRow.made _ _ _⟩
  have B2 := Lib.hid (b1.trans (b2.mono b1.size))
  have HW2 := Lib.hid hw2
  have S2 : Hid (Sls w2 w1.heap.size [(a0, n0, c0, l0)]) := Lib.hid ⟨r2, fun s hs => by
    rw [List.mem_singleton] at hs
    subst hs
    exact ⟨HL0.out, P0.out.later B2.out, C0.out⟩⟩
  have KF := Lib.hid (few_any w1.heap.size 1 _ w2 S2.out rfl (by decide))
  obtain ⟨F, hF⟩ : ∃ F, (List.all [(a0, n0, c0, l0)] fun s => fewB 70 s.2.2.2) = F := ⟨_, rfl⟩
  rw [hF] at KF
  have HF := Lib.hid hF
  clear hw2 b2 r2 b1 HH hF S2
  go_wp2_with fail
  generalize hg : World.alloc w1 _ = w2'
  obtain rfl : w2' = w2 := hg.symm.trans HW2.out
  clear hg
  refine KF.out.mono ?_
  rintro e w3 ⟨rfl, rfl⟩
  cases F with
  | false =>
    go_wp2
    go_ret
    exact ⟨rfl, hZ ▸ B2.out⟩
  | true =>
  have hff := HF.out
  simp only [List.all_cons, List.all_nil, Bool.and_true] at hff
  have Z0 := Lib.hid (few_siz hff)
  clear hff KF HF
  by_cases k3 : 300 < k.length
  · have k3' : (300 : Int) < (k.length : Int) := by omega
    go_wp2
    go_ret
    exact ⟨rfl, hZ ▸ B2.out⟩
  have k3' : ¬ (300 : Int) < (k.length : Int) := by omega
  by_cases o3 : 300 < o.length
  · have o3' : (300 : Int) < (o.length : Int) := by omega
    go_wp2
    go_ret
    exact ⟨rfl, hZ ▸ B2.out⟩
  have o3' : ¬ (300 : Int) < (o.length : Int) := by omega
  by_cases v3 : 300 < v.length
  · have v3' : (300 : Int) < (v.length : Int) := by omega
    go_wp2
    go_ret
    exact ⟨rfl, hZ ▸ B2.out⟩
  have v3' : ¬ (300 : Int) < (v.length : Int) := by omega
  have KS := Lib.hid (set_any a0 n0 c0 l0 k v w2' HL0.out (P0.out.later B2.out) C0.out Z0.out.2 (by omega) (by omega))
  rcases setR_cases l0 k v with h | ⟨h, h1, h2⟩ | ⟨h, h1, h2, h3, h4⟩
  · rw [h] at KS
    go_wp2_with fail
    refine KS.out.mono ?_
    rintro e w4 ⟨⟨v4, rfl, hx⟩, b4⟩
    obtain ⟨ax, cx, he, _, _, _⟩ := hx.tags
    obtain rfl : v4 = .slice ax 0 cx := he
    have B4 := Lib.hid (B2.out.trans (b4.mono B2.out.size))
    clear hx b4
    go_wp2
    go_ret
    exact ⟨rfl, hZ ▸ B4.out⟩
  · rw [h] at KS
    obtain rfl : n0 = 60 := HL0.out.symm.trans h2
    go_wp2_with fail
    refine KS.out.mono ?_
    rintro e w4 ⟨⟨v4, rfl, hx⟩, b4⟩
    obtain ⟨ax, cx, he, _, _, _⟩ := hx.tags
    obtain rfl : v4 = .slice ax 0 cx := he
    have B4 := Lib.hid (B2.out.trans (b4.mono B2.out.size))
    clear hx b4
    go_wp2
    go_ret
    exact ⟨rfl, hZ ▸ B4.out⟩
  · rw [h] at KS
    go_wp2_with fail
    refine KS.out.mono ?_
    rintro e w4 ⟨⟨v4, rfl, hx⟩, b4⟩
    obtain ⟨ax, cx, rfl, hcx, _, tx⟩ := hx.tags
    have B4 := Lib.hid (B2.out.trans (b4.mono B2.out.size))
    have VX := Lib.hid (set_vld h1 h2 h3 h4)
    have XL := Lib.hid (show (setL l0 k v).length ≤ 60 from h4)
    have GA := Lib.hid (show getV (setL l0 k v) k = v from by
      unfold getV
      rw [set_at k v (vld_inc h1)]
      split
      · rename_i e; exact e.symm
      · rfl)
    obtain ⟨bv, hbv⟩ : ∃ b, (getO (setL l0 k v) k).isSome = b := ⟨_, rfl⟩
    have DV := Lib.hid (show (v = [] → bv = false) ∧ (v ≠ [] → bv = true) from by
      rw [← hbv, set_at k v (vld_inc h1)]
      exact ⟨fun e => by rw [if_pos e]; rfl, fun e => by rw [if_neg e]; rfl⟩)
    have GB := Lib.hid hbv
    have GC := Lib.hid (show o ≠ k → getO (setL l0 k v) o = getO l0 o from fun hne => set_off v (vld_inc h1) hne)
    have GR := Lib.hid (show setR (setL l0 k v) k (getV l0 k) = (l0, 0) from by
      rw [setR_ok VX.out h2 (val_len h1) (by rw [set_back h1]; exact vld_few h1), set_back h1])
    have WL := Lib.hid (show (getV l0 k).length ≤ 200 from val_len h1)
    have XS : Hid (Siz (setL l0 k v)) := Lib.hid fun t ht => by
      rcases set_mem.1 ht with ⟨q1, _⟩ | ⟨q1, q2, _⟩
      · exact Z0.out.2 t q1
      · rw [q1, q2]; exact ⟨by omega, by omega⟩
    obtain ⟨X, hX⟩ : ∃ X, setL l0 k v = X := ⟨_, rfl⟩
    dsimp only at tx hcx
    dsimp only
    rw [hX] at VX XL GA GB GC GR XS tx hcx ⊢
    have X4 := Lib.hid tx
    have CX := Lib.hid hcx
    have KG1 := Lib.hid (get_any ax X.length cx X k w4 rfl X4.out CX.out (Nat.le_trans XL.out (by decide)))
    rw [GA.out, GB.out] at KG1
    clear hx b4 tx hcx KS h hX hbv
    go_wp2_with fail
    refine KG1.out.mono ?_
    rintro e w5 ⟨rfl, b5⟩
    have B5 := Lib.hid (B4.out.trans (b5.mono B4.out.size))
    have X5 := Lib.hid (X4.out.later b5)
    have NL := Lib.hid (show n0 ≤ 1000000 from by have := vld_few h1; have := HL0.out; omega)
    have KG2 := Lib.hid (get_any a0 n0 c0 l0 o w5 HL0.out (P0.out.later B5.out) C0.out NL.out)
    clear b5 KG1 B4 X4
    go_wp2_with fail
    refine KG2.out.mono ?_
    rintro e w6 ⟨rfl, b6⟩
    have B6 := Lib.hid (B5.out.trans (b6.mono B5.out.size))
    have X6 := Lib.hid (X5.out.later b6)
    have KG3 := Lib.hid (get_any ax X.length cx X o w6 rfl X6.out CX.out (Nat.le_trans XL.out (by decide)))
    clear b6 KG2 B5 X5
    go_wp2_with fail
    refine KG3.out.mono ?_
    rintro e w7 ⟨rfl, b7⟩
    have B7 := Lib.hid (B6.out.trans (b7.mono B6.out.size))
    have X7 := Lib.hid (X6.out.later b7)
    have KG4 := Lib.hid (get_any a0 n0 c0 l0 k w7 HL0.out (P0.out.later B7.out) C0.out NL.out)
    clear b7 KG3 B6 X6
    go_wp2_with fail
    refine KG4.out.mono ?_
    rintro e w8 ⟨rfl, b8⟩
    have B8 := Lib.hid (B7.out.trans (b8.mono B7.out.size))
    have X8 := Lib.hid (X7.out.later b8)
    have KS2 := Lib.hid (set_any ax X.length cx X k (getV l0 k) w8 rfl X8.out CX.out XS.out (by omega) (Nat.le_trans WL.out (by decide)))
    rw [GR.out] at KS2
    clear b8 KG4 B7 X7
    go_wp2_with fail
    refine KS2.out.mono ?_
    rintro e w9 ⟨⟨v9, rfl, hx⟩, b9⟩
    obtain ⟨ay, cy, rfl, hcy, _, ty⟩ := hx.tags
    have B9 := Lib.hid (B8.out.trans (b9.mono B8.out.size))
    have X9 := Lib.hid (X8.out.later b9)
    have Y9 := Lib.hid (show TagsT w9 w9.heap.size ay l0 from ty)
    have CY := Lib.hid (show l0.length ≤ cy from hcy)
    have KV1 := Lib.hid (valid_any a0 n0 c0 l0 w9 HL0.out (P0.out.later B9.out) C0.out Z0.out.2)
    rw [h1] at KV1
    clear b9 hx hcy ty KS2 B8 X8
    go_wp2_with fail
    refine KV1.out.mono ?_
    rintro e w10 ⟨rfl, b10⟩
    have B10 := Lib.hid (B9.out.trans (b10.mono B9.out.size))
    have X10 := Lib.hid (X9.out.later b10)
    have Y10 := Lib.hid (Y9.out.later b10)
    have KV2 := Lib.hid (valid_any ax X.length cx X w10 rfl X10.out CX.out XS.out)
    rw [VX.out] at KV2
    clear b10 KV1 B9 X9 Y9
    by_cases hv0 : v = []
    · obtain rfl : bv = false := DV.out.1 hv0
      subst hv0
      by_cases hko : k = o
      · subst hko
        go_wp2_with fail
        refine KV2.out.mono ?_
        rintro e w11 ⟨rfl, b11⟩
        have B11 := Lib.hid (B10.out.trans (b11.mono B10.out.size))
        have KS3 := Lib.hid (same_any ay a0 l0.length n0 cy c0 l0 l0 w11 rfl HL0.out (Y10.out.later b11) (P0.out.later B11.out) CY.out C0.out (Nat.le_trans (vld_few h1) (by decide)))
        rw [decide_eq_true rfl] at KS3
        clear b11 KV2
        go_wp2_with fail
        refine KS3.out.mono ?_
        rintro e w12 ⟨rfl, b12⟩
        have B12 := Lib.hid (B11.out.trans (b12.mono B11.out.size))
        clear b12 KS3
        go_wp2
        go_ret
        exact ⟨rfl, hZ ▸ B12.out⟩
      · have hne : o ≠ k := fun e => hko e.symm
        have e3 : (k == o) = false := by rw [beq_eq_false_iff_ne]; exact hko
        rw [show getV X o = getV l0 o from by unfold getV; rw [GC.out hne], GC.out hne]
        go_wp2_with fail
        refine KV2.out.mono ?_
        rintro e w11 ⟨rfl, b11⟩
        have B11 := Lib.hid (B10.out.trans (b11.mono B10.out.size))
        have KS3 := Lib.hid (same_any ay a0 l0.length n0 cy c0 l0 l0 w11 rfl HL0.out (Y10.out.later b11) (P0.out.later B11.out) CY.out C0.out (Nat.le_trans (vld_few h1) (by decide)))
        rw [decide_eq_true rfl] at KS3
        clear b11 KV2
        go_wp2_with fail
        refine KS3.out.mono ?_
        rintro e w12 ⟨rfl, b12⟩
        have B12 := Lib.hid (B11.out.trans (b12.mono B11.out.size))
        clear b12 KS3
        go_wp2
        go_ret
        exact ⟨rfl, hZ ▸ B12.out⟩
    · obtain rfl : bv = true := DV.out.2 hv0
      have e1 : (v == []) = false := by rw [beq_eq_false_iff_ne]; exact hv0
      have e2 : v.isEmpty = false := by cases v with | nil => exact absurd rfl hv0 | cons => rfl
      by_cases hko : k = o
      · subst hko
        go_wp2_with fail
        refine KV2.out.mono ?_
        rintro e w11 ⟨rfl, b11⟩
        have B11 := Lib.hid (B10.out.trans (b11.mono B10.out.size))
        have KS3 := Lib.hid (same_any ay a0 l0.length n0 cy c0 l0 l0 w11 rfl HL0.out (Y10.out.later b11) (P0.out.later B11.out) CY.out C0.out (Nat.le_trans (vld_few h1) (by decide)))
        rw [decide_eq_true rfl] at KS3
        clear b11 KV2
        go_wp2_with fail
        refine KS3.out.mono ?_
        rintro e w12 ⟨rfl, b12⟩
        have B12 := Lib.hid (B11.out.trans (b12.mono B11.out.size))
        clear b12 KS3
        go_wp2
        go_ret
        exact ⟨rfl, hZ ▸ B12.out⟩
      · have hne : o ≠ k := fun e => hko e.symm
        have e3 : (k == o) = false := by rw [beq_eq_false_iff_ne]; exact hko
        rw [show getV X o = getV l0 o from by unfold getV; rw [GC.out hne], GC.out hne]
        go_wp2_with fail
        refine KV2.out.mono ?_
        rintro e w11 ⟨rfl, b11⟩
        have B11 := Lib.hid (B10.out.trans (b11.mono B10.out.size))
        have KS3 := Lib.hid (same_any ay a0 l0.length n0 cy c0 l0 l0 w11 rfl HL0.out (Y10.out.later b11) (P0.out.later B11.out) CY.out C0.out (Nat.le_trans (vld_few h1) (by decide)))
        rw [decide_eq_true rfl] at KS3
        clear b11 KV2
        go_wp2_with fail
        refine KS3.out.mono ?_
        rintro e w12 ⟨rfl, b12⟩
        have B12 := Lib.hid (B11.out.trans (b12.mono B11.out.size))
        clear b12 KS3
        go_wp2
        go_ret
        exact ⟨rfl, hZ ▸ B12.out⟩
theorem str_is (s : ByteArray) : (⟨s.data.toList.toArray⟩ : ByteArray) = s := by simp
theorem sets_str (a0 : Option Addr) (n0 c0 : Nat) (l0 : List T) (s1 s2 s3 : ByteArray) (W : World) (hl0 : l0.length = n0) (hp0 : TagsT W W.heap.size a0 l0) (hc0 : n0 ≤ c0) :
    Calls Try.prog 5 #[.slice a0 n0 c0, .string s1, .string s2, .string s3] W fun e w' => e = .returned (.bool true) ∧ Below W.heap.size W w' := by
  have h := sets_any a0 n0 c0 l0 s1.data.toList s2.data.toList s3.data.toList W hl0 hp0 hc0
  rw [str_is, str_is, str_is] at h
  exact h
end Go.Proofs.Ytnepfifcjjjjjaa.Tg
