/- tag: TagMerges. -/
import Derived.Test.YtnepfifcjjjjjaaTgHead
import Derived.Test.YtnepfifcjjjjjaaTgMergeMath
namespace Go.Proofs.Ytnepfifcjjjjjaa.Tg
open Go.RowKit
open Lx (IsRow alloc1 drew_below)
theorem merge_len (b o t : List T) : (mergeR b o t).1.length ≤ 100000 ∧ (mergeR b o t).2.length ≤ 100000 := by
  unfold mergeR
  split
  · rename_i h
    rw [Bool.and_eq_true, Bool.and_eq_true] at h
    have h1 := vld_few h.1.1
    have h2 := vld_few h.1.2
    have h3 := vld_few h.2
    have k1 := keys_len [b, o, t]
    simp only [List.map_cons, List.map_nil, List.sum_cons, List.sum_nil] at k1
    have k2 := mrg_len (fun k => oneR (getV b k) (getV o k) (getV t k)) (keysR [b, o, t]) (keysR [b, o, t]).length
    rw [List.take_length] at k2
    omega
  · exact ⟨Nat.zero_le _, Nat.zero_le _⟩
theorem merge_bad {b o t : List T} (h : vld b = false ∨ vld o = false) : mergeR b o t = ([], []) := by
  unfold mergeR
  rcases h with h | h <;> simp [h]
set_option maxRecDepth 100000 in
set_option maxHeartbeats 8000000 in
theorem merges_any (a0 a1 a2 : Option Addr) (n0 n1 n2 c0 c1 c2 : Nat) (l0 l1 l2 : List T) (W : World) (hl0 : l0.length = n0) (hl1 : l1.length = n1) (hl2 : l2.length = n2) (hp0 : TagsT W W.heap.size a0 l0) (hp1 : TagsT W W.heap.size a1 l1) (hp2 : TagsT W W.heap.size a2 l2) (hc0 : n0 ≤ c0) (hc1 : n1 ≤ c1) (hc2 : n2 ≤ c2) :
    Calls Try.prog 6 #[.slice a0 n0 c0, .slice a1 n1 c1, .slice a2 n2 c2] W fun e w' => e = .returned (.bool true) ∧ Below W.heap.size W w' := by
  have HL0 := Lib.hid hl0
  have HL1 := Lib.hid hl1
  have HL2 := Lib.hid hl2
  have P0 := Lib.hid hp0
  have P1 := Lib.hid hp1
  have P2 := Lib.hid hp2
  have C0 := Lib.hid hc0
  have C1 := Lib.hid hc1
  have C2 := Lib.hid hc2
  obtain ⟨Z, hZ⟩ : ∃ Z, W.heap.size = Z := ⟨_, rfl⟩
  clear hl0 hl1 hl2 hp0 hp1 hp2 hc0 hc1 hc2
  have HH := Lib.hid (head_any W)
  rw [hZ]
  go_enter Try.func6, Try.ntmps6
  go_upto_region 2 with ((with_reducible refine HH.out.mono ?_); rintro e w1 ⟨rfl, b1⟩)
  obtain ⟨w2, hw2, b2, r2⟩ : ∃ w2, w1.alloc (.cells #[.slice a0 n0 c0, .slice a1 n1 c1, .slice a2 n2 c2] 22) = w2 ∧ Below w1.heap.size w1 w2 ∧ IsRow w2 w1.heap.size 22 #[.slice a0 n0 c0, .slice a1 n1 c1, .slice a2 n2 c2] := ⟨_, rfl, alloc1 _ _, IsRow.made _ _ _⟩
  have B2 := Lib.hid (b1.trans (b2.mono b1.size))
  have HW2 := Lib.hid hw2
  have S2 : Hid (Sls w2 w1.heap.size [(a0, n0, c0, l0), (a1, n1, c1, l1), (a2, n2, c2, l2)]) := Lib.hid ⟨r2, fun s hs => by
    simp only [List.mem_cons, List.not_mem_nil, or_false] at hs
    rcases hs with rfl | rfl | rfl
    · exact ⟨HL0.out, P0.out.later B2.out, C0.out⟩
    · exact ⟨HL1.out, P1.out.later B2.out, C1.out⟩
    · exact ⟨HL2.out, P2.out.later B2.out, C2.out⟩⟩
  have KF := Lib.hid (few_any w1.heap.size 3 _ w2 S2.out rfl (by decide))
  obtain ⟨F, hF⟩ : ∃ F, (List.all [(a0, n0, c0, l0), (a1, n1, c1, l1), (a2, n2, c2, l2)] fun s => fewB 70 s.2.2.2) = F := ⟨_, rfl⟩
  rw [hF] at KF
  have HF := Lib.hid hF
  clear hw2 b2 r2 b1 HH hF S2
  go_wp2_with fail
  generalize hg : World.alloc w1 _ = w2'
  obtain rfl : w2' = w2 := hg.symm.trans HW2.out
  clear hg
  refine KF.out.mono ?_
  rintro e w3 ⟨rfl, rfl⟩
  cases F with
  | false =>
    go_wp2
    go_ret
    exact ⟨rfl, hZ ▸ B2.out⟩
  | true =>
  have hff := HF.out
  simp only [List.all_cons, List.all_nil, Bool.and_true, Bool.and_eq_true] at hff
  have Z0 := Lib.hid (few_siz hff.1)
  have Z1 := Lib.hid (few_siz hff.2.1)
  have Z2 := Lib.hid (few_siz hff.2.2)
  clear hff KF HF
  obtain ⟨R, hR⟩ : ∃ R, mergeR l0 l1 l2 = R := ⟨_, rfl⟩
  have RL := Lib.hid (merge_len l0 l1 l2)
  rw [hR] at RL
  have KM := Lib.hid (merge_any a0 a1 a2 n0 n1 n2 c0 c1 c2 l0 l1 l2 w2' HL0.out HL1.out HL2.out (P0.out.later B2.out) (P1.out.later B2.out) (P2.out.later B2.out) C0.out C1.out C2.out Z0.out.2 Z1.out.2 Z2.out.2)
  rw [hR] at KM
  go_wp2_with fail
  refine KM.out.mono ?_
  rintro e w4 ⟨⟨v4, u4, rfl, hx, hc⟩, b4⟩
  obtain ⟨ax, cx, rfl, hcx, _, tx⟩ := hx.tags
  obtain ⟨ac, cc, rfl, hcc, tc⟩ := hc.strs
  have B4 := Lib.hid (B2.out.trans (b4.mono B2.out.size))
  have X4 := Lib.hid tx
  have D4 := Lib.hid tc
  have CX := Lib.hid hcx
  have CC := Lib.hid hcc
  have KM2 := Lib.hid (merge_any a0 a2 a1 n0 n2 n1 c0 c2 c1 l0 l2 l1 w4 HL0.out HL2.out HL1.out (P0.out.later B4.out) (P2.out.later B4.out) (P1.out.later B4.out) C0.out C2.out C1.out Z0.out.2 Z2.out.2 Z1.out.2)
  rw [mergeR_swap l0 l2 l1, hR] at KM2
  clear hx hc hcx hcc tx tc b4 KM B2
  go_wp2_with fail
  refine KM2.out.mono ?_
  rintro e w5 ⟨⟨v5, u5, rfl, hx, hc⟩, b5⟩
  obtain ⟨ay, cy, rfl, hcy, _, ty⟩ := hx.tags
  obtain ⟨ad, cd, rfl, hcd, td⟩ := hc.strs
  have B5 := Lib.hid (B4.out.trans (b5.mono B4.out.size))
  have D5 := Lib.hid (D4.out.later b5)
  have E5 := Lib.hid td
  have CD := Lib.hid hcd
  have KS := Lib.hid (same_any ax ay R.1.length R.1.length cx cy R.1 R.1 w5 rfl rfl (X4.out.later b5) ty CX.out hcy (Nat.le_trans RL.out.1 (by decide)))
  rw [decide_eq_true rfl] at KS
  clear hx hc hcy hcd ty td b5 KM2 B4 D4 X4
  go_wp2_with fail
  refine KS.out.mono ?_
  rintro e w6 ⟨rfl, b6⟩
  have B6 := Lib.hid (B5.out.trans (b6.mono B5.out.size))
  have KT := Lib.hid (strs_any ac ad R.2.length R.2.length cc cd R.2 R.2 w6 rfl rfl (D5.out.later b6) (E5.out.later b6) CC.out CD.out (Nat.le_trans RL.out.2 (by decide)))
  rw [decide_eq_true rfl] at KT
  clear b6 KS B5 D5 E5
  go_wp2_with fail
  refine KT.out.mono ?_
  rintro e w7 ⟨rfl, b7⟩
  have B7 := Lib.hid (B6.out.trans (b7.mono B6.out.size))
  obtain ⟨V0, hV0⟩ : ∃ v, vld l0 = v := ⟨_, rfl⟩
  obtain ⟨V1, hV1⟩ : ∃ v, vld l1 = v := ⟨_, rfl⟩
  have KV := Lib.hid (valid_any a0 n0 c0 l0 w7 HL0.out (P0.out.later B7.out) C0.out Z0.out.2)
  rw [hV0] at KV
  have HR := Lib.hid hR
  have HV0 := Lib.hid hV0
  have HV1 := Lib.hid hV1
  clear b7 KT B6 hR hV0 hV1
  go_wp2_with fail
  refine KV.out.mono ?_
  rintro e w8 ⟨rfl, b8⟩
  have B8 := Lib.hid (B7.out.trans (b8.mono B7.out.size))
  clear b8 KV B7
  cases V0 with
  | false =>
    obtain rfl : ([], []) = R := (merge_bad (.inl HV0.out)).symm.trans HR.out
    go_wp2
    go_ret
    exact ⟨rfl, hZ ▸ B8.out⟩
  | true =>
  have KV := Lib.hid (valid_any a1 n1 c1 l1 w8 HL1.out (P1.out.later B8.out) C1.out Z1.out.2)
  rw [HV1.out] at KV
  go_wp2_with fail
  refine KV.out.mono ?_
  rintro e w9 ⟨rfl, b9⟩
  have B9 := Lib.hid (B8.out.trans (b9.mono B8.out.size))
  clear b9 KV B8
  cases V1 with
  | false =>
    obtain rfl : ([], []) = R := (merge_bad (.inr HV1.out)).symm.trans HR.out
    go_wp2
    go_ret
    exact ⟨rfl, hZ ▸ B9.out⟩
  | true =>
  have KM := Lib.hid (merge_any a0 a1 a0 n0 n1 n0 c0 c1 c0 l0 l1 l0 w9 HL0.out HL1.out HL0.out (P0.out.later B9.out) (P1.out.later B9.out) (P0.out.later B9.out) C0.out C1.out C0.out Z0.out.2 Z1.out.2 Z0.out.2)
  rw [mergeR_one HV0.out HV1.out (.inl rfl)] at KM
  go_wp2_with fail
  refine KM.out.mono ?_
  rintro e w10 ⟨⟨v10, u10, rfl, hx, hc⟩, b10⟩
  obtain ⟨af, cf, rfl, hcf, _, tf⟩ := hx.tags
  obtain ⟨ah, ch, he, _, _⟩ := hc.strs
  obtain rfl : u10 = .slice ah 0 ch := he
  have B10 := Lib.hid (B9.out.trans (b10.mono B9.out.size))
  have F10 := Lib.hid tf
  have CF := Lib.hid hcf
  have KM2 := Lib.hid (merge_any a0 a1 a1 n0 n1 n1 c0 c1 c1 l0 l1 l1 w10 HL0.out HL1.out HL1.out (P0.out.later B10.out) (P1.out.later B10.out) (P1.out.later B10.out) C0.out C1.out C1.out Z0.out.2 Z1.out.2 Z1.out.2)
  rw [mergeR_one HV0.out HV1.out (.inr rfl)] at KM2
  clear hx hc b10 KM B9 tf hcf
  go_wp2_with fail
  refine KM2.out.mono ?_
  rintro e w11 ⟨⟨v11, u11, rfl, hx, hc⟩, b11⟩
  obtain ⟨ai, ci, rfl, hci, _, ti⟩ := hx.tags
  obtain ⟨aj, cj, he, _, _⟩ := hc.strs
  obtain rfl : u11 = .slice aj 0 cj := he
  have B11 := Lib.hid (B10.out.trans (b11.mono B10.out.size))
  have I11 := Lib.hid ti
  have CI := Lib.hid hci
  have KS := Lib.hid (same_any af a1 l1.length n1 cf c1 l1 l1 w11 rfl HL1.out (F10.out.later b11) (P1.out.later B11.out) CF.out C1.out (Nat.le_trans (vld_few HV1.out) (by decide)))
  rw [decide_eq_true rfl] at KS
  clear hx hc b11 KM2 B10 ti hci F10
  go_wp2_with fail
  refine KS.out.mono ?_
  rintro e w12 ⟨rfl, b12⟩
  have B12 := Lib.hid (B11.out.trans (b12.mono B11.out.size))
  have KS2 := Lib.hid (same_any ai a1 l1.length n1 ci c1 l1 l1 w12 rfl HL1.out (I11.out.later b12) (P1.out.later B12.out) CI.out C1.out (Nat.le_trans (vld_few HV1.out) (by decide)))
  rw [decide_eq_true rfl] at KS2
  clear b12 KS B11 I11
  go_wp2_with fail
  refine KS2.out.mono ?_
  rintro e w13 ⟨rfl, b13⟩
  have B13 := Lib.hid (B12.out.trans (b13.mono B12.out.size))
  clear b13 KS2 B12
  go_wp2
  go_ret
  exact ⟨rfl, hZ ▸ B13.out⟩
end Go.Proofs.Ytnepfifcjjjjjaa.Tg
