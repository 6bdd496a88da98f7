/- tag: TagConflicts (the end's cases by wip/tools/gen-conf-end.py). -/
import Derived.Test.YtlknbjaippfemaaTgSetsWalk
import Derived.Test.YtlknbjaippfemaaTgMergesWalk
import Derived.Test.YtlknbjaippfemaaTgConMath
import Derived.BigQuiet
namespace Go.Proofs.Ytlknbjaippfemaa.Tg
open Go.RowKit
open Lx (IsRow alloc1 drew_below nmB)
theorem vld_siz {l : List T} (h : vld l = true) : Siz l := fun t ht => by
  have h1 := okT_iff.1 ((vld_iff.1 h).2.1 t ht)
  refine ⟨?_, by omega⟩
  have := h1.1
  unfold Lx.nmB at this
  simp only [Bool.and_eq_true, decide_eq_true_eq] at this
  omega
/-- o = b; o ≠ b and t = b; all different; o = t, not b. -/
theorem oneR_is (b o t : B) : (o = b ∧ oneR b o t = (t, false)) ∨ (o ≠ b ∧ t = b ∧ oneR b o t = (o, false)) ∨ (o ≠ b ∧ t ≠ b ∧ o ≠ t ∧ oneR b o t = (b, true)) ∨ (o ≠ b ∧ o = t ∧ oneR b o t = (o, false)) := by
  unfold oneR
  by_cases h1 : o = b
  · subst h1
    by_cases h2 : o = t ∨ t = o
    · have : o = t := h2.elim id Eq.symm
      subst this
      exact .inl ⟨rfl, by simp⟩
    · exact .inl ⟨rfl, by rw [if_neg h2, if_pos rfl]⟩
  · by_cases h2 : t = b
    · exact .inr (.inl ⟨h1, h2, if_pos (.inr h2)⟩)
    · by_cases h3 : o = t
      · exact .inr (.inr (.inr ⟨h1, h3, if_pos (.inl h3)⟩))
      · exact .inr (.inr (.inl ⟨h1, h2, h3, by rw [if_neg (fun h => h.elim h3 h2), if_neg h1]⟩))
set_option maxRecDepth 100000 in
set_option maxHeartbeats 8000000 in
theorem conflicts_any (a0 a1 a2 : Option Addr) (n0 n1 n2 c0 c1 c2 : Nat) (l0 l1 l2 : List T) (x : B) (W : World) (hl0 : l0.length = n0) (hl1 : l1.length = n1) (hl2 : l2.length = n2) (hp0 : TagsT W W.heap.size a0 l0) (hp1 : TagsT W W.heap.size a1 l1) (hp2 : TagsT W W.heap.size a2 l2) (hc0 : n0 ≤ c0) (hc1 : n1 ≤ c1) (hc2 : n2 ≤ c2) :
    Calls Try.prog 5 #[.slice a0 n0 c0, .slice a1 n1 c1, .slice a2 n2 c2, .string ⟨x.toArray⟩] W fun e w' => e = .returned (.bool true) ∧ Below W.heap.size W w' := by
  have HL0 := Lib.hid hl0
  have HL1 := Lib.hid hl1
  have HL2 := Lib.hid hl2
  have P0 := Lib.hid hp0
  have P1 := Lib.hid hp1
  have P2 := Lib.hid hp2
  have C0 := Lib.hid hc0
  have C1 := Lib.hid hc1
  have C2 := Lib.hid hc2
  obtain ⟨Z, hZ⟩ : ∃ Z, W.heap.size = Z := ⟨_, rfl⟩
  clear hl0 hl1 hl2 hp0 hp1 hp2 hc0 hc1 hc2
  have HH := Lib.hid (head_any W)
  rw [hZ]
  go_enter Try.func5, Try.ntmps5
  go_upto_region 2 with ((with_reducible refine HH.out.mono ?_); rintro e w1 ⟨rfl, b1⟩)
  obtain ⟨w2, hw2, b2, r2⟩ : ∃ w2, w1.alloc (.cells #[.slice a0 n0 c0, .slice a1 n1 c1, .slice a2 n2 c2] 22) = w2 ∧ Below w1.heap.size w1 w2 ∧ IsRow w2 w1.heap.size 22 #[.slice a0 n0 c0, .slice a1 n1 c1, .slice a2 n2 c2] := ⟨_, rfl, alloc1 _ _, IsRow.made _ _ _⟩
  have B2 := Lib.hid (b1.trans (b2.mono b1.size))
  have HW2 := Lib.hid hw2
  have S2 : Hid (Sls w2 w1.heap.size [(a0, n0, c0, l0), (a1, n1, c1, l1), (a2, n2, c2, l2)]) := Lib.hid ⟨r2, fun s hs => by
    simp only [List.mem_cons, List.not_mem_nil, or_false] at hs
    rcases hs with rfl | rfl | rfl
    · exact ⟨HL0.out, P0.out.later B2.out, C0.out⟩
    · exact ⟨HL1.out, P1.out.later B2.out, C1.out⟩
    · exact ⟨HL2.out, P2.out.later B2.out, C2.out⟩⟩
  have KF := Lib.hid (few_any w1.heap.size 3 _ w2 S2.out rfl (by decide))
  obtain ⟨F, hF⟩ : ∃ F, (List.all [(a0, n0, c0, l0), (a1, n1, c1, l1), (a2, n2, c2, l2)] fun s => fewB 70 s.2.2.2) = F := ⟨_, rfl⟩
  rw [hF] at KF
  have HF := Lib.hid hF
  clear hw2 b2 r2 b1 HH hF S2
  go_wp2_with fail
  generalize hg : World.alloc w1 _ = w2'
  obtain rfl : w2' = w2 := hg.symm.trans HW2.out
  clear hg
  refine KF.out.mono ?_
  rintro e w3 ⟨rfl, rfl⟩
  cases F with
  | false =>
    go_wp2
    go_ret
    exact ⟨rfl, hZ ▸ B2.out⟩
  | true =>
  have hff := HF.out
  simp only [List.all_cons, List.all_nil, Bool.and_true, Bool.and_eq_true] at hff
  have Z0 := Lib.hid (few_siz hff.1)
  have Z1 := Lib.hid (few_siz hff.2.1)
  have Z2 := Lib.hid (few_siz hff.2.2)
  clear hff KF HF
  by_cases k0 : 20 < n0
  · have k0' : (20 : Int) < (n0 : Int) := by omega
    go_wp2
    go_ret
    exact ⟨rfl, hZ ▸ B2.out⟩
  have k0' : ¬ (20 : Int) < (n0 : Int) := by omega
  by_cases k1 : 20 < n1
  · have k1' : (20 : Int) < (n1 : Int) := by omega
    go_wp2
    go_ret
    exact ⟨rfl, hZ ▸ B2.out⟩
  have k1' : ¬ (20 : Int) < (n1 : Int) := by omega
  by_cases k2 : 20 < n2
  · have k2' : (20 : Int) < (n2 : Int) := by omega
    go_wp2
    go_ret
    exact ⟨rfl, hZ ▸ B2.out⟩
  have k2' : ¬ (20 : Int) < (n2 : Int) := by omega
  obtain ⟨V0, hV0⟩ : ∃ v, vld l0 = v := ⟨_, rfl⟩
  have KV := Lib.hid (valid_any a0 n0 c0 l0 w2' HL0.out (P0.out.later B2.out) C0.out Z0.out.2)
  rw [hV0] at KV
  have HV0 := Lib.hid hV0
  clear hV0
  go_wp2_with fail
  refine KV.out.mono ?_
  rintro e w3 ⟨rfl, bb⟩
  have B3 := Lib.hid (B2.out.trans (bb.mono B2.out.size))
  clear bb KV B2
  cases V0 with
  | false =>
    go_wp2
    go_ret
    exact ⟨rfl, hZ ▸ B3.out⟩
  | true =>
  obtain ⟨V1, hV1⟩ : ∃ v, vld l1 = v := ⟨_, rfl⟩
  have KV := Lib.hid (valid_any a1 n1 c1 l1 w3 HL1.out (P1.out.later B3.out) C1.out Z1.out.2)
  rw [hV1] at KV
  have HV1 := Lib.hid hV1
  clear hV1
  go_wp2_with fail
  refine KV.out.mono ?_
  rintro e w4 ⟨rfl, bb⟩
  have B4 := Lib.hid (B3.out.trans (bb.mono B3.out.size))
  clear bb KV B3
  cases V1 with
  | false =>
    go_wp2
    go_ret
    exact ⟨rfl, hZ ▸ B4.out⟩
  | true =>
  obtain ⟨V2, hV2⟩ : ∃ v, vld l2 = v := ⟨_, rfl⟩
  have KV := Lib.hid (valid_any a2 n2 c2 l2 w4 HL2.out (P2.out.later B4.out) C2.out Z2.out.2)
  rw [hV2] at KV
  have HV2 := Lib.hid hV2
  clear hV2
  go_wp2_with fail
  refine KV.out.mono ?_
  rintro e w5 ⟨rfl, bb⟩
  have B5 := Lib.hid (B4.out.trans (bb.mono B4.out.size))
  clear bb KV B4
  cases V2 with
  | false =>
    go_wp2
    go_ret
    exact ⟨rfl, hZ ▸ B5.out⟩
  | true =>
  obtain ⟨MV, MP, MX⟩ := merge_few HV0.out HV1.out HV2.out (by have := HL0.out; omega) (by have := HL1.out; omega) (by have := HL2.out; omega)
  obtain ⟨R, hR⟩ : ∃ R, mergeR l0 l1 l2 = R := ⟨_, rfl⟩
  have RL := Lib.hid (merge_len l0 l1 l2)
  rw [hR] at RL MV MP MX
  have HMV := Lib.hid MV
  have HMP := Lib.hid MP
  have HMX := Lib.hid (MX x)
  clear MV MP MX
  have KM := Lib.hid (merge_any a0 a1 a2 n0 n1 n2 c0 c1 c2 l0 l1 l2 w5 HL0.out HL1.out HL2.out (P0.out.later B5.out) (P1.out.later B5.out) (P2.out.later B5.out) C0.out C1.out C2.out Z0.out.2 Z1.out.2 Z2.out.2)
  rw [hR] at KM
  clear hR
  go_wp2_with fail
  refine KM.out.mono ?_
  rintro e w6 ⟨⟨v6, u6, rfl, hx, hc⟩, b6⟩
  obtain ⟨ax, cx, rfl, hcx, _, tx⟩ := hx.tags
  obtain ⟨ac, cc, rfl, hcc, tc⟩ := hc.strs
  have B6 := Lib.hid (B5.out.trans (b6.mono B5.out.size))
  have X6 := Lib.hid tx
  have D6 := Lib.hid tc
  have CX := Lib.hid hcx
  have CC := Lib.hid hcc
  clear hx hc hcx hcc tx tc b6 KM B5
  have KG := Lib.hid (get_any a0 n0 c0 l0 x w6 HL0.out (P0.out.later B6.out) C0.out (by omega))
  go_wp2_with fail
  refine KG.out.mono ?_
  rintro e w7 ⟨rfl, bb⟩
  have B7 := Lib.hid (B6.out.trans (bb.mono B6.out.size))
  have X7 := Lib.hid (X6.out.later bb)
  have D7 := Lib.hid (D6.out.later bb)
  clear bb KG B6 X6 D6
  have KG := Lib.hid (get_any a1 n1 c1 l1 x w7 HL1.out (P1.out.later B7.out) C1.out (by omega))
  go_wp2_with fail
  refine KG.out.mono ?_
  rintro e w8 ⟨rfl, bb⟩
  have B8 := Lib.hid (B7.out.trans (bb.mono B7.out.size))
  have X8 := Lib.hid (X7.out.later bb)
  have D8 := Lib.hid (D7.out.later bb)
  clear bb KG B7 X7 D7
  have KG := Lib.hid (get_any a2 n2 c2 l2 x w8 HL2.out (P2.out.later B8.out) C2.out (by omega))
  go_wp2_with fail
  refine KG.out.mono ?_
  rintro e w9 ⟨rfl, bb⟩
  have B9 := Lib.hid (B8.out.trans (bb.mono B8.out.size))
  have X9 := Lib.hid (X8.out.later bb)
  have D9 := Lib.hid (D8.out.later bb)
  clear bb KG B8 X8 D8
  have KG := Lib.hid (get_any ax R.1.length cx R.1 x w9 rfl X9.out CX.out (Nat.le_trans RL.out.1 (by decide)))
  rw [HMX.out.1, HMX.out.2.1] at KG
  go_wp2_with fail
  refine KG.out.mono ?_
  rintro e w10 ⟨rfl, bb⟩
  have B10 := Lib.hid (B9.out.trans (bb.mono B9.out.size))
  have X10 := Lib.hid (X9.out.later bb)
  have D10 := Lib.hid (D9.out.later bb)
  clear bb KG B9 X9 D9
  obtain ⟨C, hC⟩ : ∃ C, R.2 = C := ⟨_, rfl⟩
  obtain ⟨m, hm⟩ : ∃ m, R.2.length = m := ⟨_, rfl⟩
  have RM := Lib.hid (show m ≤ 100000 from hm ▸ RL.out.2)
  have hm' : (m : Int) ≤ 100000 := by have := RM.out; omega
  have HCM := Lib.hid (show C.length = m by rw [← hC, hm])
  rw [hm] at CC ⊢
  rw [hC] at D10 HMP HMX
  have hcc' : (m : Int) ≤ (cc : Int) := by have := CC.out; omega
  clear hC hm
  obtain ⟨gb, hgb⟩ : ∃ v, getV l0 x = v := ⟨_, rfl⟩
  obtain ⟨go, hgo⟩ : ∃ v, getV l1 x = v := ⟨_, rfl⟩
  obtain ⟨gt, hgt⟩ : ∃ v, getV l2 x = v := ⟨_, rfl⟩
  rw [hgb, hgo, hgt] at HMX ⊢
  have CON := Lib.hid HMX.out.2.2
  clear HMX hgb hgo hgt
  go_wp2
  go_loopw [20, 21] (fun f i wr => ∃ k : Nat, k ≤ m ∧ i = .int .i64 k ∧ f = .bool (decide (x ∈ C.take k)) ∧ Hid (Below w10.heap.size w10 wr)) (fun _ i _ => m - (Lx.intOf i).toNat)
  case atStart => exact ⟨0, by omega, rfl, by simp, Lib.hid (Below.refl _ _)⟩
  case round =>
    obtain ⟨k, hk, rfl, rfl, HK⟩ := hrel
    by_cases hlt : k < m
    · have hlt2 : (k : Int) < (m : Int) := by omega
      have hkl : k < C.length := by rw [HCM.out]; exact hlt
      have hA := D10.out.below HK.out (Nat.le_refl _)
      obtain ⟨g, off, rfl, hg, z1⟩ := hA.at_ hkl
      have PRE := Lib.hid (show 0 < k → ∃ p : B, wr.cell? ⟨g, off + (k - 1), none⟩ = some (.string ⟨p.toArray⟩) ∧ p < C[k] from fun h0 => by
        obtain ⟨g2, o2, e2, _, x2⟩ := hA.at_ (k := k - 1) (by omega)
        injection e2 with e2
        injection e2 with e3 e4
        exact ⟨(C[k - 1]'(by omega)), by rw [e3, e4]; exact x2, List.pairwise_iff_getElem.1 HMP.out (k - 1) k (by omega) hkl (by omega)⟩)
      have HS := Lib.hid (show decide (x ∈ C.take (k + 1)) = (decide (x ∈ C.take k) || (C[k] == x)) from by
        rw [List.take_succ_eq_append_getElem hkl, Bool.eq_iff_iff]
        simp only [decide_eq_true_eq, List.mem_append, List.mem_singleton, Bool.or_eq_true, beq_iff_eq]
        constructor
        · rintro (h | h)
          · exact .inl h
          · exact .inr h.symm
        · rintro (h | h)
          · exact .inl h
          · exact .inr h.symm)
      generalize C[k] = y at *
      obtain ⟨d, hd⟩ : ∃ d, decide (x ∈ C.take k) = d := ⟨_, rfl⟩
      rw [hd] at HS ⊢
      clear hkl hA hd
      have hkm : (k : Int) < (cc : Int) := by omega
      by_cases h0 : k = 0
      · have hd0 : decide ((0 : Int) < (k : Int)) = false := decide_eq_false (by omega)
        have hd1 : ¬ (0 : Int) < (k : Int) := by omega
        have hd2 : decide (0 < k) = false := decide_eq_false (by omega)
        have hd3 : ¬ 0 < k := by omega
        clear h0 PRE
        cases d with
        | false =>
          go_upto_region 14 with fail
          go_quiet (fail)
          have H12 := Lib.hid (fun j => (show Below wr.heap.size wr (wr.drewN j) from ⟨rfl, rfl, rfl, Nat.le_refl _, fun _ _ => rfl⟩))
          go_wp2
          go_roundw
          case rel => exact ⟨k + 1, by omega, by go_num, by rw [HS.out]; simp, Lib.hid (HK.out.trans ((H12.out _).mono HK.out.size))⟩
          case measure => simp [Lx.intOf]; omega
        | true =>
          go_upto_region 14 with fail
          go_quiet (fail)
          have H12 := Lib.hid (fun j => (show Below wr.heap.size wr (wr.drewN j) from ⟨rfl, rfl, rfl, Nat.le_refl _, fun _ _ => rfl⟩))
          go_wp2
          go_roundw
          case rel => exact ⟨k + 1, by omega, by go_num, by rw [HS.out]; simp, Lib.hid (HK.out.trans ((H12.out _).mono HK.out.size))⟩
          case measure => simp [Lx.intOf]; omega
      · obtain ⟨p, z0, hp⟩ := PRE.out (by omega)
        have hp2 : Op.bytesLess p y = true := by rw [bytesLess_eq, decide_eq_true_iff]; exact hp
        have hd0 : decide ((0 : Int) < (k : Int)) = true := decide_eq_true (by omega)
        have hd1 : (0 : Int) < (k : Int) := by omega
        have hd2 : decide (0 < k) = true := decide_eq_true (by omega)
        have hd3 : 0 < k := by omega
        have hk1 : IntKind.i64.wrap ((k : Int) - 1) = ((k - 1 : Nat) : Int) := by
          rw [IntWalk.i64_in _ (by omega)]
          omega
        have hk2 : ((k - 1 : Nat) : Int) < (m : Int) := by omega
        clear hp PRE h0
        cases d with
        | false =>
          go_upto_region 14 with fail
          go_quiet (fail)
          have H12 := Lib.hid (fun j => (show Below wr.heap.size wr (wr.drewN j) from ⟨rfl, rfl, rfl, Nat.le_refl _, fun _ _ => rfl⟩))
          go_wp2
          go_roundw
          case rel => exact ⟨k + 1, by omega, by go_num, by rw [HS.out]; simp, Lib.hid (HK.out.trans ((H12.out _).mono HK.out.size))⟩
          case measure => simp [Lx.intOf]; omega
        | true =>
          go_upto_region 14 with fail
          go_quiet (fail)
          have H12 := Lib.hid (fun j => (show Below wr.heap.size wr (wr.drewN j) from ⟨rfl, rfl, rfl, Nat.le_refl _, fun _ _ => rfl⟩))
          go_wp2
          go_roundw
          case rel => exact ⟨k + 1, by omega, by go_num, by rw [HS.out]; simp, Lib.hid (HK.out.trans ((H12.out _).mono HK.out.size))⟩
          case measure => simp [Lx.intOf]; omega
    · obtain rfl : m = k := by omega
      have B11 := Lib.hid (B10.out.trans (HK.out.mono B10.out.size))
      have KV := Lib.hid (valid_any ax R.1.length cx R.1 wr rfl (X10.out.later HK.out) CX.out (vld_siz HMV.out))
      rw [HMV.out] at KV
      obtain ⟨cf, hcf⟩ : ∃ cf, decide (x ∈ C.take m) = cf := ⟨_, rfl⟩
      have CF := Lib.hid (show cf = (oneR gb go gt).2 from by
        rw [← hcf, ← HCM.out, List.take_length, Bool.eq_iff_iff, decide_eq_true_iff]
        exact CON.out)
      rw [hcf]
      clear hcf CON HK D10
      have BX := Lib.hid (show ∀ p, oneR gb go gt = p → (oneR gb go gt).1 = p.1 ∧ cf = p.2 from fun p hp => ⟨by rw [hp], by rw [CF.out, hp]⟩)
      obtain ⟨on, hon⟩ : ∃ o, (oneR gb go gt).1 = o := ⟨_, rfl⟩
      rw [hon] at BX ⊢
      clear hon CF
      rcases oneR_is gb go gt with ⟨h1, e⟩ | ⟨h1, h2, e⟩ | ⟨h1, h2, h3, e⟩ | ⟨h1, h2, e⟩
      · obtain ⟨q1, q2⟩ := BX.out _ e
        dsimp only at q1 q2
        replace q1 := q1.symm
        subst q1 q2
        clear BX e
        subst h1
        by_cases h2 : gt = go
        · subst h2
          by_cases hu : gt = []
          · subst hu
            go_wp2_with fail
            refine KV.out.mono ?_
            rintro e w11 ⟨rfl, b11⟩
            have B12 := Lib.hid (B11.out.trans (b11.mono B11.out.size))
            clear b11 KV
            go_wp2
            go_ret
            exact ⟨rfl, hZ ▸ B12.out⟩
          · have hu1 : (gt == []) = false := by rw [beq_eq_false_iff_ne]; exact hu
            have hu2 : gt.isEmpty = false := by cases hv : gt with | nil => exact absurd hv hu | cons => rfl
            have hu3 : decide (gt = []) = false := decide_eq_false hu
            clear hu
            go_wp2_with fail
            refine KV.out.mono ?_
            rintro e w11 ⟨rfl, b11⟩
            have B12 := Lib.hid (B11.out.trans (b11.mono B11.out.size))
            clear b11 KV
            go_wp2
            go_ret
            exact ⟨rfl, hZ ▸ B12.out⟩
        · have e1 : (gt == go) = false := by rw [beq_eq_false_iff_ne]; exact h2
          clear h2
          by_cases hu : gt = []
          · subst hu
            go_wp2_with fail
            refine KV.out.mono ?_
            rintro e w11 ⟨rfl, b11⟩
            have B12 := Lib.hid (B11.out.trans (b11.mono B11.out.size))
            clear b11 KV
            go_wp2
            go_ret
            exact ⟨rfl, hZ ▸ B12.out⟩
          · have hu1 : (gt == []) = false := by rw [beq_eq_false_iff_ne]; exact hu
            have hu2 : gt.isEmpty = false := by cases hv : gt with | nil => exact absurd hv hu | cons => rfl
            have hu3 : decide (gt = []) = false := decide_eq_false hu
            clear hu
            go_wp2_with fail
            refine KV.out.mono ?_
            rintro e w11 ⟨rfl, b11⟩
            have B12 := Lib.hid (B11.out.trans (b11.mono B11.out.size))
            clear b11 KV
            go_wp2
            go_ret
            exact ⟨rfl, hZ ▸ B12.out⟩
      · obtain ⟨q1, q2⟩ := BX.out _ e
        dsimp only at q1 q2
        replace q1 := q1.symm
        subst q1 q2
        clear BX e
        subst h2
        have e1 : (go == gt) = false := by rw [beq_eq_false_iff_ne]; exact h1
        clear h1
        by_cases hu : go = []
        · subst hu
          go_wp2_with fail
          refine KV.out.mono ?_
          rintro e w11 ⟨rfl, b11⟩
          have B12 := Lib.hid (B11.out.trans (b11.mono B11.out.size))
          clear b11 KV
          go_wp2
          go_ret
          exact ⟨rfl, hZ ▸ B12.out⟩
        · have hu1 : (go == []) = false := by rw [beq_eq_false_iff_ne]; exact hu
          have hu2 : go.isEmpty = false := by cases hv : go with | nil => exact absurd hv hu | cons => rfl
          have hu3 : decide (go = []) = false := decide_eq_false hu
          clear hu
          go_wp2_with fail
          refine KV.out.mono ?_
          rintro e w11 ⟨rfl, b11⟩
          have B12 := Lib.hid (B11.out.trans (b11.mono B11.out.size))
          clear b11 KV
          go_wp2
          go_ret
          exact ⟨rfl, hZ ▸ B12.out⟩
      · obtain ⟨q1, q2⟩ := BX.out _ e
        dsimp only at q1 q2
        replace q1 := q1.symm
        subst q1 q2
        clear BX e
        have e1 : (go == gb) = false := by rw [beq_eq_false_iff_ne]; exact h1
        have e2 : (gt == gb) = false := by rw [beq_eq_false_iff_ne]; exact h2
        have e3 : (go == gt) = false := by rw [beq_eq_false_iff_ne]; exact h3
        clear h1 h2 h3
        by_cases hu : gb = []
        · subst hu
          go_wp2_with fail
          refine KV.out.mono ?_
          rintro e w11 ⟨rfl, b11⟩
          have B12 := Lib.hid (B11.out.trans (b11.mono B11.out.size))
          clear b11 KV
          go_wp2
          go_ret
          exact ⟨rfl, hZ ▸ B12.out⟩
        · have hu1 : (gb == []) = false := by rw [beq_eq_false_iff_ne]; exact hu
          have hu2 : gb.isEmpty = false := by cases hv : gb with | nil => exact absurd hv hu | cons => rfl
          have hu3 : decide (gb = []) = false := decide_eq_false hu
          clear hu
          go_wp2_with fail
          refine KV.out.mono ?_
          rintro e w11 ⟨rfl, b11⟩
          have B12 := Lib.hid (B11.out.trans (b11.mono B11.out.size))
          clear b11 KV
          go_wp2
          go_ret
          exact ⟨rfl, hZ ▸ B12.out⟩
      · obtain ⟨q1, q2⟩ := BX.out _ e
        dsimp only at q1 q2
        replace q1 := q1.symm
        subst q1 q2
        clear BX e
        subst h2
        have e1 : (go == gb) = false := by rw [beq_eq_false_iff_ne]; exact h1
        clear h1
        by_cases hu : go = []
        · subst hu
          go_wp2_with fail
          refine KV.out.mono ?_
          rintro e w11 ⟨rfl, b11⟩
          have B12 := Lib.hid (B11.out.trans (b11.mono B11.out.size))
          clear b11 KV
          go_wp2
          go_ret
          exact ⟨rfl, hZ ▸ B12.out⟩
        · have hu1 : (go == []) = false := by rw [beq_eq_false_iff_ne]; exact hu
          have hu2 : go.isEmpty = false := by cases hv : go with | nil => exact absurd hv hu | cons => rfl
          have hu3 : decide (go = []) = false := decide_eq_false hu
          clear hu
          go_wp2_with fail
          refine KV.out.mono ?_
          rintro e w11 ⟨rfl, b11⟩
          have B12 := Lib.hid (B11.out.trans (b11.mono B11.out.size))
          clear b11 KV
          go_wp2
          go_ret
          exact ⟨rfl, hZ ▸ B12.out⟩
theorem conflicts_str (a0 a1 a2 : Option Addr) (n0 n1 n2 c0 c1 c2 : Nat) (l0 l1 l2 : List T) (s : ByteArray) (W : World) (hl0 : l0.length = n0) (hl1 : l1.length = n1) (hl2 : l2.length = n2) (hp0 : TagsT W W.heap.size a0 l0) (hp1 : TagsT W W.heap.size a1 l1) (hp2 : TagsT W W.heap.size a2 l2) (hc0 : n0 ≤ c0) (hc1 : n1 ≤ c1) (hc2 : n2 ≤ c2) :
    Calls Try.prog 5 #[.slice a0 n0 c0, .slice a1 n1 c1, .slice a2 n2 c2, .string s] W fun e w' => e = .returned (.bool true) ∧ Below W.heap.size W w' := by
  have h := conflicts_any a0 a1 a2 n0 n1 n2 c0 c1 c2 l0 l1 l2 s.data.toList W hl0 hl1 hl2 hp0 hp1 hp2 hc0 hc1 hc2
  rw [show (⟨s.data.toList.toArray⟩ : ByteArray) = s from by simp] at h
  exact h
end Go.Proofs.Ytlknbjaippfemaa.Tg
