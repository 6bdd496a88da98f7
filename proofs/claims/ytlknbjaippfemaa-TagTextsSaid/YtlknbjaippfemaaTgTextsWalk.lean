/- tag: TagTexts. -/
import Derived.Test.YtlknbjaippfemaaTgHead
import Derived.Test.YtlknbjaippfemaaTgTxtMath
namespace Go.Proofs.Ytlknbjaippfemaa.Tg
open Go.RowKit
open Lx (IsRow alloc1 drew_below nmB)
theorem siz_vld {l : List T} (h : vld l = true) : Siz l := fun t ht => by
  have h1 := okT_iff.1 ((vld_iff.1 h).2.1 t ht)
  refine ⟨?_, by omega⟩
  have := h1.1
  unfold Lx.nmB at this
  simp only [Bool.and_eq_true, decide_eq_true_eq] at this
  omega
theorem len_vld {l : List T} (h : vld l = true) : l.length ≤ 1000000 := Nat.le_trans (vld_iff.1 h).1 (by decide)
set_option maxRecDepth 100000 in
set_option maxHeartbeats 8000000 in
theorem texts_any (a0 a1 : Option Addr) (n0 n1 c0 c1 : Nat) (l0 l1 : List T) (x : B) (W : World) (hl0 : l0.length = n0) (hl1 : l1.length = n1) (hp0 : TagsT W W.heap.size a0 l0) (hp1 : TagsT W W.heap.size a1 l1) (hc0 : n0 ≤ c0) (hc1 : n1 ≤ c1) :
    Calls Try.prog 4 #[.slice a0 n0 c0, .slice a1 n1 c1, .string ⟨x.toArray⟩] W fun e w' => e = .returned (.bool true) ∧ Below W.heap.size W w' := by
  have HL0 := Lib.hid hl0
  have HL1 := Lib.hid hl1
  have P0 := Lib.hid hp0
  have P1 := Lib.hid hp1
  have C0 := Lib.hid hc0
  have C1 := Lib.hid hc1
  obtain ⟨Z, hZ⟩ : ∃ Z, W.heap.size = Z := ⟨_, rfl⟩
  clear hl0 hl1 hp0 hp1 hc0 hc1
  have HH := Lib.hid (head_any W)
  rw [hZ]
  go_enter Try.func4, Try.ntmps4
  go_upto_region 2 with ((with_reducible refine HH.out.mono ?_); rintro e w1 ⟨rfl, b1⟩)
  obtain ⟨w2, hw2, b2, r2⟩ : ∃ w2, w1.alloc (.cells #[.slice a0 n0 c0, .slice a1 n1 c1] 22) = w2 ∧ Below w1.heap.size w1 w2 ∧ IsRow w2 w1.heap.size 22 #[.slice a0 n0 c0, .slice a1 n1 c1] := ⟨_, rfl, alloc1 _ _, IsRow.made _ _ _⟩
  have B2 := Lib.hid (b1.trans (b2.mono b1.size))
  have HW2 := Lib.hid hw2
  have S2 : Hid (Sls w2 w1.heap.size [(a0, n0, c0, l0), (a1, n1, c1, l1)]) := Lib.hid ⟨r2, fun s hs => by
    simp only [List.mem_cons, List.not_mem_nil, or_false] at hs
    rcases hs with rfl | rfl
    · exact ⟨HL0.out, P0.out.later B2.out, C0.out⟩
    · exact ⟨HL1.out, P1.out.later B2.out, C1.out⟩⟩
  have KF := Lib.hid (few_any w1.heap.size 2 _ w2 S2.out rfl (by decide))
  obtain ⟨F, hF⟩ : ∃ F, (List.all [(a0, n0, c0, l0), (a1, n1, c1, l1)] fun s => fewB 70 s.2.2.2) = F := ⟨_, rfl⟩
  rw [hF] at KF
  have HF := Lib.hid hF
  clear hw2 b2 r2 b1 HH hF S2
  go_wp2_with fail
  generalize hg : World.alloc w1 _ = w2'
  obtain rfl : w2' = w2 := hg.symm.trans HW2.out
  clear hg
  refine KF.out.mono ?_
  rintro e w3 ⟨rfl, rfl⟩
  cases F with
  | false =>
    go_wp2
    go_ret
    exact ⟨rfl, hZ ▸ B2.out⟩
  | true =>
  have hff := HF.out
  simp only [List.all_cons, List.all_nil, Bool.and_true, Bool.and_eq_true] at hff
  have Z0 := Lib.hid (few_siz hff.1)
  have Z1 := Lib.hid (few_siz hff.2)
  clear hff KF HF
  by_cases k3 : 5000 < x.length
  · have k3' : (5000 : Int) < (x.length : Int) := by omega
    go_wp2
    go_ret
    exact ⟨rfl, hZ ▸ B2.out⟩
  have k3' : ¬ (5000 : Int) < (x.length : Int) := by omega
  have HX := Lib.hid (par_cases (s := x) (by omega))
  have TA := Lib.hid (text_arg l0)
  have TI := Lib.hid (fun h1 h2 => text_inj (a := l0) (b := l1) h1 h2)
  have TP := Lib.hid (text_par (l := l0))
  have TV := Lib.hid (text_vld (l := l0))
  have KT0 := Lib.hid (text_any a0 n0 c0 l0 w2' HL0.out (P0.out.later B2.out) C0.out Z0.out.2)
  obtain ⟨⟨s, es⟩, hs⟩ : ∃ r, textR l0 = r := ⟨_, rfl⟩
  obtain ⟨⟨t, et⟩, ht⟩ : ∃ r, textR l1 = r := ⟨_, rfl⟩
  rw [hs] at KT0
  have HS := Lib.hid hs
  have HT := Lib.hid ht
  clear hs ht
  go_wp2_with fail
  refine KT0.out.mono ?_
  rintro e w3 ⟨rfl, bb⟩
  have B3 := Lib.hid (B2.out.trans (bb.mono B2.out.size))
  have KT1 := Lib.hid (text_any a1 n1 c1 l1 w3 HL1.out (P1.out.later B3.out) C1.out Z1.out.2)
  rw [HT.out] at KT1
  clear bb B2 KT0
  go_wp2_with fail
  refine KT1.out.mono ?_
  rintro e w4 ⟨rfl, bb⟩
  have B4 := Lib.hid (B3.out.trans (bb.mono B3.out.size))
  clear bb B3 KT1
  have KV := Lib.hid (valid_any a0 n0 c0 l0 w4 HL0.out (P0.out.later B4.out) C0.out Z0.out.2)
  have ECS := Lib.hid (show (es = 1 ∧ s = [] ∧ vld l0 = false) ∨ (es = 2 ∧ s = [] ∧ vld l0 = true) ∨ (es = 0 ∧ vld l0 = true) from by
    have h := TA.out
    rw [HS.out] at h
    obtain ⟨h1, h2, h3⟩ := h
    dsimp only at h1 h2 h3
    rcases h3 with h3 | h3 | h3
    · refine .inr (.inr ⟨h3, ?_⟩)
      cases hv : vld l0 with
      | true => rfl
      | false => have := h1.2 hv; omega
    · exact .inl ⟨h3, h2 (by omega), h1.1 h3⟩
    · refine .inr (.inl ⟨h3, h2 (by omega), ?_⟩)
      cases hv : vld l0 with
      | true => rfl
      | false => have := h1.2 hv; omega)
  rcases ECS.out with ⟨q1, q2, q3⟩ | ⟨q1, q2, q3⟩ | ⟨q1, q3⟩

  · subst q1 q2
    rw [q3] at KV
    go_wp2_with fail
    refine KV.out.mono ?_
    rintro e w5 ⟨rfl, bb⟩
    have B5 := Lib.hid (B4.out.trans (bb.mono B4.out.size))
    clear bb KV B4 q3 ECS TA TI TP TV
    have KP := Lib.hid (parse_any ⟨x.toArray⟩ w5)
    rcases HX.out with hx | ⟨y, hx, hy, hv⟩
    · rw [show parR (ByteArray.mk x.toArray).data.toList = ([], 5) from by simpa using hx] at KP
      go_wp2_with fail
      refine KP.out.mono ?_
      rintro e w8 ⟨⟨v8, rfl, hz⟩, b8⟩
      obtain ⟨ay, cy, he, _, _, _⟩ := hz.tags
      obtain rfl : v8 = .slice ay 0 cy := he
      have B8 := Lib.hid (B5.out.trans (b8.mono B5.out.size))
      clear hz b8 KP
      go_wp2
      go_ret
      exact ⟨rfl, hZ ▸ B8.out⟩
    · rw [show parR (ByteArray.mk x.toArray).data.toList = (y, 0) from by simpa using hx] at KP
      have HY := Lib.hid hy
      have HV := Lib.hid hv
      clear hx hy hv
      go_wp2_with fail
      refine KP.out.mono ?_
      rintro e w8 ⟨⟨v8, rfl, hz⟩, b8⟩
      obtain ⟨ay, cy, he, hcy, _, ty⟩ := hz.tags
      obtain ⟨m, hm⟩ : ∃ m, y.length = m := ⟨_, rfl⟩
      have he2 : v8 = .slice ay m cy := by rw [← hm]; exact he
      subst he2
      have CY := Lib.hid (show m ≤ cy from hm ▸ hcy)
      have HM := Lib.hid hm
      have B8 := Lib.hid (B5.out.trans (b8.mono B5.out.size))
      have Y8 := Lib.hid (show TagsT w8 w8.heap.size ay y from ty)
      clear hz b8 KP he hcy ty hm
      have KT := Lib.hid (text_any ay m cy y w8 HM.out Y8.out CY.out (siz_vld HV.out))
      rw [HY.out] at KT
      go_wp2_with fail
      refine KT.out.mono ?_
      rintro e w9 ⟨rfl, b9⟩
      have B9 := Lib.hid (B8.out.trans (b9.mono B8.out.size))
      have KV := Lib.hid (valid_any ay m cy y w9 HM.out (Y8.out.later b9) CY.out (siz_vld HV.out))
      rw [HV.out] at KV
      clear b9 KT Y8
      go_wp2_with fail
      refine KV.out.mono ?_
      rintro e w10 ⟨rfl, b10⟩
      have B10 := Lib.hid (B9.out.trans (b10.mono B9.out.size))
      clear b10 KV
      go_wp2
      go_ret
      exact ⟨rfl, hZ ▸ B10.out⟩
  · subst q1 q2
    rw [q3] at KV
    go_wp2_with fail
    refine KV.out.mono ?_
    rintro e w5 ⟨rfl, bb⟩
    have B5 := Lib.hid (B4.out.trans (bb.mono B4.out.size))
    clear bb KV B4 q3 ECS TA TI TP TV
    have KP := Lib.hid (parse_any ⟨x.toArray⟩ w5)
    rcases HX.out with hx | ⟨y, hx, hy, hv⟩
    · rw [show parR (ByteArray.mk x.toArray).data.toList = ([], 5) from by simpa using hx] at KP
      go_wp2_with fail
      refine KP.out.mono ?_
      rintro e w8 ⟨⟨v8, rfl, hz⟩, b8⟩
      obtain ⟨ay, cy, he, _, _, _⟩ := hz.tags
      obtain rfl : v8 = .slice ay 0 cy := he
      have B8 := Lib.hid (B5.out.trans (b8.mono B5.out.size))
      clear hz b8 KP
      go_wp2
      go_ret
      exact ⟨rfl, hZ ▸ B8.out⟩
    · rw [show parR (ByteArray.mk x.toArray).data.toList = (y, 0) from by simpa using hx] at KP
      have HY := Lib.hid hy
      have HV := Lib.hid hv
      clear hx hy hv
      go_wp2_with fail
      refine KP.out.mono ?_
      rintro e w8 ⟨⟨v8, rfl, hz⟩, b8⟩
      obtain ⟨ay, cy, he, hcy, _, ty⟩ := hz.tags
      obtain ⟨m, hm⟩ : ∃ m, y.length = m := ⟨_, rfl⟩
      have he2 : v8 = .slice ay m cy := by rw [← hm]; exact he
      subst he2
      have CY := Lib.hid (show m ≤ cy from hm ▸ hcy)
      have HM := Lib.hid hm
      have B8 := Lib.hid (B5.out.trans (b8.mono B5.out.size))
      have Y8 := Lib.hid (show TagsT w8 w8.heap.size ay y from ty)
      clear hz b8 KP he hcy ty hm
      have KT := Lib.hid (text_any ay m cy y w8 HM.out Y8.out CY.out (siz_vld HV.out))
      rw [HY.out] at KT
      go_wp2_with fail
      refine KT.out.mono ?_
      rintro e w9 ⟨rfl, b9⟩
      have B9 := Lib.hid (B8.out.trans (b9.mono B8.out.size))
      have KV := Lib.hid (valid_any ay m cy y w9 HM.out (Y8.out.later b9) CY.out (siz_vld HV.out))
      rw [HV.out] at KV
      clear b9 KT Y8
      go_wp2_with fail
      refine KV.out.mono ?_
      rintro e w10 ⟨rfl, b10⟩
      have B10 := Lib.hid (B9.out.trans (b10.mono B9.out.size))
      clear b10 KV
      go_wp2
      go_ret
      exact ⟨rfl, hZ ▸ B10.out⟩
  · subst q1
    have QV := Lib.hid q3
    rw [q3] at KV
    have HP := Lib.hid (show parR s = (l0, 0) from by
      have := TP.out (by rw [HS.out])
      rw [HS.out] at this
      exact this)
    have HI := Lib.hid (show et = 0 → (s = t ↔ l0 = l1) from fun h => by
      have := TI.out (by rw [HS.out]) (by rw [HT.out]; exact h)
      rw [HS.out, HT.out] at this
      exact this)
    clear q3 ECS TA TI TP TV
    go_wp2_with fail
    refine KV.out.mono ?_
    rintro e w5 ⟨rfl, bb⟩
    have B5 := Lib.hid (B4.out.trans (bb.mono B4.out.size))
    clear bb KV B4
    have KQ := Lib.hid (parse_any ⟨s.toArray⟩ w5)
    rw [show parR (ByteArray.mk s.toArray).data.toList = (l0, 0) from by simpa using HP.out] at KQ
    go_wp2_with fail
    refine KQ.out.mono ?_
    rintro e w6 ⟨⟨v6, rfl, hz⟩, b6⟩
    obtain ⟨az, cz, he, hcz, _, tz⟩ := hz.tags
    have he2 : v6 = .slice az n0 cz := by rw [← HL0.out]; exact he
    subst he2
    have CZ := Lib.hid (show n0 ≤ cz from HL0.out ▸ hcz)
    have B6 := Lib.hid (B5.out.trans (b6.mono B5.out.size))
    have Z6 := Lib.hid (show TagsT w6 w6.heap.size az l0 from tz)
    clear hz b6 KQ he hcz tz B5
    have KS := Lib.hid (same_any az a0 n0 n0 cz c0 l0 l0 w6 HL0.out HL0.out Z6.out (P0.out.later B6.out) CZ.out C0.out (HL0.out ▸ len_vld QV.out))
    rw [decide_eq_true rfl] at KS
    go_wp2_with fail
    refine KS.out.mono ?_
    rintro e w7 ⟨rfl, bb⟩
    have B7 := Lib.hid (B6.out.trans (bb.mono B6.out.size))
    clear bb KS B6 Z6
    by_cases hf : et = 0
    · subst hf
      have KS := Lib.hid (same_any a0 a1 n0 n1 c0 c1 l0 l1 w7 HL0.out HL1.out (P0.out.later B7.out) (P1.out.later B7.out) C0.out C1.out (HL0.out ▸ len_vld QV.out))
      by_cases hq : l0 = l1
      · have hst := (HI.out rfl).2 hq
        rw [decide_eq_true hq] at KS
        subst hst
        have HQ := Lib.hid hq
        clear hq
        go_wp2_with fail
        refine KS.out.mono ?_
        rintro e w8a ⟨rfl, bb⟩
        have B8a := Lib.hid (B7.out.trans (bb.mono B7.out.size))
        clear bb KS B7
        have KP := Lib.hid (parse_any ⟨x.toArray⟩ w8a)
        rcases HX.out with hx | ⟨y, hx, hy, hv⟩
        · rw [show parR (ByteArray.mk x.toArray).data.toList = ([], 5) from by simpa using hx] at KP
          go_wp2_with fail
          refine KP.out.mono ?_
          rintro e w8 ⟨⟨v8, rfl, hz⟩, b8⟩
          obtain ⟨ay, cy, he, _, _, _⟩ := hz.tags
          obtain rfl : v8 = .slice ay 0 cy := he
          have B8 := Lib.hid (B8a.out.trans (b8.mono B8a.out.size))
          clear hz b8 KP
          go_wp2
          go_ret
          exact ⟨rfl, hZ ▸ B8.out⟩
        · rw [show parR (ByteArray.mk x.toArray).data.toList = (y, 0) from by simpa using hx] at KP
          have HY := Lib.hid hy
          have HV := Lib.hid hv
          clear hx hy hv
          go_wp2_with fail
          refine KP.out.mono ?_
          rintro e w8 ⟨⟨v8, rfl, hz⟩, b8⟩
          obtain ⟨ay, cy, he, hcy, _, ty⟩ := hz.tags
          obtain ⟨m, hm⟩ : ∃ m, y.length = m := ⟨_, rfl⟩
          have he2 : v8 = .slice ay m cy := by rw [← hm]; exact he
          subst he2
          have CY := Lib.hid (show m ≤ cy from hm ▸ hcy)
          have HM := Lib.hid hm
          have B8 := Lib.hid (B8a.out.trans (b8.mono B8a.out.size))
          have Y8 := Lib.hid (show TagsT w8 w8.heap.size ay y from ty)
          clear hz b8 KP he hcy ty hm
          have KT := Lib.hid (text_any ay m cy y w8 HM.out Y8.out CY.out (siz_vld HV.out))
          rw [HY.out] at KT
          go_wp2_with fail
          refine KT.out.mono ?_
          rintro e w9 ⟨rfl, b9⟩
          have B9 := Lib.hid (B8.out.trans (b9.mono B8.out.size))
          have KV := Lib.hid (valid_any ay m cy y w9 HM.out (Y8.out.later b9) CY.out (siz_vld HV.out))
          rw [HV.out] at KV
          clear b9 KT Y8
          go_wp2_with fail
          refine KV.out.mono ?_
          rintro e w10 ⟨rfl, b10⟩
          have B10 := Lib.hid (B9.out.trans (b10.mono B9.out.size))
          clear b10 KV
          go_wp2
          go_ret
          exact ⟨rfl, hZ ▸ B10.out⟩
      · have hst : (s == t) = false := by
          rw [beq_eq_false_iff_ne]
          exact fun h => hq ((HI.out rfl).1 h)
        rw [decide_eq_false hq] at KS
        clear hq
        go_wp2_with fail
        refine KS.out.mono ?_
        rintro e w8a ⟨rfl, bb⟩
        have B8a := Lib.hid (B7.out.trans (bb.mono B7.out.size))
        clear bb KS B7
        have KP := Lib.hid (parse_any ⟨x.toArray⟩ w8a)
        rcases HX.out with hx | ⟨y, hx, hy, hv⟩
        · rw [show parR (ByteArray.mk x.toArray).data.toList = ([], 5) from by simpa using hx] at KP
          go_wp2_with fail
          refine KP.out.mono ?_
          rintro e w8 ⟨⟨v8, rfl, hz⟩, b8⟩
          obtain ⟨ay, cy, he, _, _, _⟩ := hz.tags
          obtain rfl : v8 = .slice ay 0 cy := he
          have B8 := Lib.hid (B8a.out.trans (b8.mono B8a.out.size))
          clear hz b8 KP
          go_wp2
          go_ret
          exact ⟨rfl, hZ ▸ B8.out⟩
        · rw [show parR (ByteArray.mk x.toArray).data.toList = (y, 0) from by simpa using hx] at KP
          have HY := Lib.hid hy
          have HV := Lib.hid hv
          clear hx hy hv
          go_wp2_with fail
          refine KP.out.mono ?_
          rintro e w8 ⟨⟨v8, rfl, hz⟩, b8⟩
          obtain ⟨ay, cy, he, hcy, _, ty⟩ := hz.tags
          obtain ⟨m, hm⟩ : ∃ m, y.length = m := ⟨_, rfl⟩
          have he2 : v8 = .slice ay m cy := by rw [← hm]; exact he
          subst he2
          have CY := Lib.hid (show m ≤ cy from hm ▸ hcy)
          have HM := Lib.hid hm
          have B8 := Lib.hid (B8a.out.trans (b8.mono B8a.out.size))
          have Y8 := Lib.hid (show TagsT w8 w8.heap.size ay y from ty)
          clear hz b8 KP he hcy ty hm
          have KT := Lib.hid (text_any ay m cy y w8 HM.out Y8.out CY.out (siz_vld HV.out))
          rw [HY.out] at KT
          go_wp2_with fail
          refine KT.out.mono ?_
          rintro e w9 ⟨rfl, b9⟩
          have B9 := Lib.hid (B8.out.trans (b9.mono B8.out.size))
          have KV := Lib.hid (valid_any ay m cy y w9 HM.out (Y8.out.later b9) CY.out (siz_vld HV.out))
          rw [HV.out] at KV
          clear b9 KT Y8
          go_wp2_with fail
          refine KV.out.mono ?_
          rintro e w10 ⟨rfl, b10⟩
          have B10 := Lib.hid (B9.out.trans (b10.mono B9.out.size))
          clear b10 KV
          go_wp2
          go_ret
          exact ⟨rfl, hZ ▸ B10.out⟩
    · have hf2 : (et == 0) = false := by rw [beq_eq_false_iff_ne]; exact hf
      have KP := Lib.hid (parse_any ⟨x.toArray⟩ w7)
      rcases HX.out with hx | ⟨y, hx, hy, hv⟩
      · rw [show parR (ByteArray.mk x.toArray).data.toList = ([], 5) from by simpa using hx] at KP
        go_wp2_with fail
        refine KP.out.mono ?_
        rintro e w8 ⟨⟨v8, rfl, hz⟩, b8⟩
        obtain ⟨ay, cy, he, _, _, _⟩ := hz.tags
        obtain rfl : v8 = .slice ay 0 cy := he
        have B8 := Lib.hid (B7.out.trans (b8.mono B7.out.size))
        clear hz b8 KP
        go_wp2
        go_ret
        exact ⟨rfl, hZ ▸ B8.out⟩
      · rw [show parR (ByteArray.mk x.toArray).data.toList = (y, 0) from by simpa using hx] at KP
        have HY := Lib.hid hy
        have HV := Lib.hid hv
        clear hx hy hv
        go_wp2_with fail
        refine KP.out.mono ?_
        rintro e w8 ⟨⟨v8, rfl, hz⟩, b8⟩
        obtain ⟨ay, cy, he, hcy, _, ty⟩ := hz.tags
        obtain ⟨m, hm⟩ : ∃ m, y.length = m := ⟨_, rfl⟩
        have he2 : v8 = .slice ay m cy := by rw [← hm]; exact he
        subst he2
        have CY := Lib.hid (show m ≤ cy from hm ▸ hcy)
        have HM := Lib.hid hm
        have B8 := Lib.hid (B7.out.trans (b8.mono B7.out.size))
        have Y8 := Lib.hid (show TagsT w8 w8.heap.size ay y from ty)
        clear hz b8 KP he hcy ty hm
        have KT := Lib.hid (text_any ay m cy y w8 HM.out Y8.out CY.out (siz_vld HV.out))
        rw [HY.out] at KT
        go_wp2_with fail
        refine KT.out.mono ?_
        rintro e w9 ⟨rfl, b9⟩
        have B9 := Lib.hid (B8.out.trans (b9.mono B8.out.size))
        have KV := Lib.hid (valid_any ay m cy y w9 HM.out (Y8.out.later b9) CY.out (siz_vld HV.out))
        rw [HV.out] at KV
        clear b9 KT Y8
        go_wp2_with fail
        refine KV.out.mono ?_
        rintro e w10 ⟨rfl, b10⟩
        have B10 := Lib.hid (B9.out.trans (b10.mono B9.out.size))
        clear b10 KV
        go_wp2
        go_ret
        exact ⟨rfl, hZ ▸ B10.out⟩
theorem texts_str (a0 a1 : Option Addr) (n0 n1 c0 c1 : Nat) (l0 l1 : List T) (s : ByteArray) (W : World) (hl0 : l0.length = n0) (hl1 : l1.length = n1) (hp0 : TagsT W W.heap.size a0 l0) (hp1 : TagsT W W.heap.size a1 l1) (hc0 : n0 ≤ c0) (hc1 : n1 ≤ c1) :
    Calls Try.prog 4 #[.slice a0 n0 c0, .slice a1 n1 c1, .string s] W fun e w' => e = .returned (.bool true) ∧ Below W.heap.size W w' := by
  have h := texts_any a0 a1 n0 n1 c0 c1 l0 l1 s.data.toList W hl0 hl1 hp0 hp1 hc0 hc1
  rw [show (⟨s.data.toList.toArray⟩ : ByteArray) = s from by simp] at h
  exact h
end Go.Proofs.Ytlknbjaippfemaa.Tg
