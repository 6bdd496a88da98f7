/- tag: TagCommutes. -/
import Derived.Test.YtnepfifcjjjjjaaTgSetsWalk
import Derived.Test.YtnepfifcjjjjjaaTgComMath
namespace Go.Proofs.Ytnepfifcjjjjjaa.Tg
open Go.RowKit
open Lx (IsRow alloc1 drew_below nmB)
set_option maxRecDepth 100000 in
set_option maxHeartbeats 8000000 in
theorem commutes_any (a0 : Option Addr) (n0 c0 : Nat) (l0 : List T) (k o v s : B) (W : World) (hl0 : l0.length = n0) (hp0 : TagsT W W.heap.size a0 l0) (hc0 : n0 ≤ c0) :
    Calls Try.prog 8 #[.slice a0 n0 c0, .string ⟨k.toArray⟩, .string ⟨o.toArray⟩, .string ⟨v.toArray⟩, .string ⟨s.toArray⟩] W fun e w' => e = .returned (.bool true) ∧ Below W.heap.size W w' := by
  have HL0 := Lib.hid hl0
  have P0 := Lib.hid hp0
  have C0 := Lib.hid hc0
  obtain ⟨Z, hZ⟩ : ∃ Z, W.heap.size = Z := ⟨_, rfl⟩
  clear hl0 hp0 hc0
  have HH := Lib.hid (head_any W)
  rw [hZ]
  go_enter Try.func8, Try.ntmps8
  go_upto_region 2 with ((with_reducible refine HH.out.mono ?_); rintro e w1 ⟨rfl, b1⟩)
  obtain ⟨w2, hw2, b2, r2⟩ : ∃ w2, w1.alloc (.cells #[.slice a0 n0 c0] 22) = w2 ∧ Below w1.heap.size w1 w2 ∧ IsRow w2 w1.heap.size 22 #[.slice a0 n0 c0] := ⟨_, rfl, alloc1 _ _, IsRow.made _ _ _⟩
  have B2 := Lib.hid (b1.trans (b2.mono b1.size))
  have HW2 := Lib.hid hw2
  have S2 : Hid (Sls w2 w1.heap.size [(a0, n0, c0, l0)]) := Lib.hid ⟨r2, fun x hx => by
    rw [List.mem_singleton] at hx
    subst hx
    exact ⟨HL0.out, P0.out.later B2.out, C0.out⟩⟩
  have KF := Lib.hid (few_any w1.heap.size 1 _ w2 S2.out rfl (by decide))
  obtain ⟨F, hF⟩ : ∃ F, (List.all [(a0, n0, c0, l0)] fun x => fewB 70 x.2.2.2) = F := ⟨_, rfl⟩
  rw [hF] at KF
  have HF := Lib.hid hF
  clear hw2 b2 r2 b1 HH hF S2
  go_wp2_with fail
  generalize hg : World.alloc w1 _ = w2'
  obtain rfl : w2' = w2 := hg.symm.trans HW2.out
  clear hg
  refine KF.out.mono ?_
  rintro e w3 ⟨rfl, rfl⟩
  cases F with
  | false =>
    go_wp2
    go_ret
    exact ⟨rfl, hZ ▸ B2.out⟩
  | true =>
  have hff := HF.out
  simp only [List.all_cons, List.all_nil, Bool.and_true] at hff
  have Z0 := Lib.hid (few_siz hff)
  clear hff KF HF
  by_cases n5 : 50 < n0
  · have n5' : (50 : Int) < (n0 : Int) := by omega
    go_wp2
    go_ret
    exact ⟨rfl, hZ ▸ B2.out⟩
  have n5' : ¬ (50 : Int) < (n0 : Int) := by omega
  by_cases k3 : 300 < k.length
  · have k3' : (300 : Int) < (k.length : Int) := by omega
    go_wp2
    go_ret
    exact ⟨rfl, hZ ▸ B2.out⟩
  have k3' : ¬ (300 : Int) < (k.length : Int) := by omega
  by_cases o3 : 300 < o.length
  · have o3' : (300 : Int) < (o.length : Int) := by omega
    go_wp2
    go_ret
    exact ⟨rfl, hZ ▸ B2.out⟩
  have o3' : ¬ (300 : Int) < (o.length : Int) := by omega
  by_cases v3 : 300 < v.length
  · have v3' : (300 : Int) < (v.length : Int) := by omega
    go_wp2
    go_ret
    exact ⟨rfl, hZ ▸ B2.out⟩
  have v3' : ¬ (300 : Int) < (v.length : Int) := by omega
  by_cases s3 : 300 < s.length
  · have s3' : (300 : Int) < (s.length : Int) := by omega
    go_wp2
    go_ret
    exact ⟨rfl, hZ ▸ B2.out⟩
  have s3' : ¬ (300 : Int) < (s.length : Int) := by omega
  by_cases hko : k = o
  · subst hko
    go_wp2
    go_ret
    exact ⟨rfl, hZ ▸ B2.out⟩
  have hko2 : (k == o) = false := by rw [beq_eq_false_iff_ne]; exact hko
  obtain ⟨ra, hra⟩ : ∃ r, setR l0 k v = r := ⟨_, rfl⟩
  obtain ⟨rb, hrb⟩ : ∃ r, setR l0 o s = r := ⟨_, rfl⟩
  obtain ⟨rc, hrc⟩ : ∃ r, setR ra.1 o s = r := ⟨_, rfl⟩
  obtain ⟨rd, hrd⟩ : ∃ r, setR rb.1 k v = r := ⟨_, rfl⟩
  have SA : Hid (Siz ra.1) := Lib.hid (hra ▸ setR_siz Z0.out.2 (by omega) (by omega))
  have SB : Hid (Siz rb.1) := Lib.hid (hrb ▸ setR_siz Z0.out.2 (by omega) (by omega))
  have KS := Lib.hid (set_any a0 n0 c0 l0 k v w2' HL0.out (P0.out.later B2.out) C0.out Z0.out.2 (by omega) (by omega))
  rw [hra] at KS
  have HRA := Lib.hid hra
  have HRB := Lib.hid hrb
  have HRC := Lib.hid hrc
  have HRD := Lib.hid hrd
  clear hra hrb hrc hrd
  go_wp2_with fail
  refine KS.out.mono ?_
  rintro e w4 ⟨⟨v4, rfl, hx⟩, b4⟩
  obtain ⟨ax, cx, rfl, hcx, _, tx⟩ := hx.tags
  have B4 := Lib.hid (B2.out.trans (b4.mono B2.out.size))
  have X4 := Lib.hid tx
  have CX := Lib.hid hcx
  have KS2 := Lib.hid (set_any a0 n0 c0 l0 o s w4 HL0.out (P0.out.later B4.out) C0.out Z0.out.2 (by omega) (by omega))
  rw [HRB.out] at KS2
  clear hx tx hcx b4 KS B2
  go_wp2_with fail
  refine KS2.out.mono ?_
  rintro e w5 ⟨⟨v5, rfl, hx⟩, b5⟩
  obtain ⟨ay, cy, rfl, hcy, _, ty⟩ := hx.tags
  have B5 := Lib.hid (B4.out.trans (b5.mono B4.out.size))
  have X5 := Lib.hid (X4.out.later b5)
  have Y5 := Lib.hid ty
  have CY := Lib.hid hcy
  have KS := Lib.hid (set_any ax ra.1.length cx ra.1 o s w5 rfl X5.out CX.out SA.out (by omega) (by omega))
  rw [HRC.out] at KS
  clear hx ty hcy b5 KS2 B4 X4
  go_wp2_with fail
  refine KS.out.mono ?_
  rintro e w6 ⟨⟨v6, rfl, hx⟩, b6⟩
  obtain ⟨az, cz, rfl, hcz, _, tz⟩ := hx.tags
  have B6 := Lib.hid (B5.out.trans (b6.mono B5.out.size))
  have X6 := Lib.hid (X5.out.later b6)
  have Y6 := Lib.hid (Y5.out.later b6)
  have T6 := Lib.hid tz
  have CZ := Lib.hid hcz
  have KS2 := Lib.hid (set_any ay rb.1.length cy rb.1 k v w6 rfl Y6.out CY.out SB.out (by omega) (by omega))
  rw [HRD.out] at KS2
  clear hx tz hcz b6 KS B5 X5 Y5
  go_wp2_with fail
  refine KS2.out.mono ?_
  rintro e w7 ⟨⟨v7, rfl, hx⟩, b7⟩
  obtain ⟨au, cu, rfl, hcu, _, tu⟩ := hx.tags
  have B7 := Lib.hid (B6.out.trans (b7.mono B6.out.size))
  have X7 := Lib.hid (X6.out.later b7)
  have Y7 := Lib.hid (Y6.out.later b7)
  have T7 := Lib.hid (T6.out.later b7)
  have U7 := Lib.hid tu
  have CU := Lib.hid hcu
  clear hx tu hcu b7 KS2 B6 X6 Y6 T6
  rcases setR_cases l0 k v with h | ⟨h, _, _⟩ | ⟨h, h1, h2, h3, h4⟩
  · obtain rfl : (([], 1) : List T × Int) = ra := h.symm.trans HRA.out
    go_wp2
    go_ret
    exact ⟨rfl, hZ ▸ B7.out⟩
  · obtain rfl : (([], 2) : List T × Int) = ra := h.symm.trans HRA.out
    go_wp2
    go_ret
    exact ⟨rfl, hZ ▸ B7.out⟩
  obtain rfl : ((setL l0 k v, 0) : List T × Int) = ra := h.symm.trans HRA.out
  rcases setR_cases l0 o s with h | ⟨h, _, _⟩ | ⟨h, _, g2, g3, g4⟩
  · obtain rfl : (([], 1) : List T × Int) = rb := h.symm.trans HRB.out
    go_wp2
    go_ret
    exact ⟨rfl, hZ ▸ B7.out⟩
  · obtain rfl : (([], 2) : List T × Int) = rb := h.symm.trans HRB.out
    go_wp2
    go_ret
    exact ⟨rfl, hZ ▸ B7.out⟩
  obtain rfl : ((setL l0 o s, 0) : List T × Int) = rb := h.symm.trans HRB.out
  have hn50 : l0.length ≤ 50 := by have := HL0.out; omega
  have q1 := set_len (setL l0 k v) o s
  have q2 := set_len l0 k v
  have q3 := set_len (setL l0 o s) k v
  have q4 := set_len l0 o s
  obtain rfl : ((setL (setL l0 k v) o s, 0) : List T × Int) = rc := (setR_ok (set_vld h1 h2 h3 h4) g2 g3 (by omega)).symm.trans HRC.out
  obtain rfl : ((setL (setL l0 o s) k v, 0) : List T × Int) = rd := (setR_ok (set_vld h1 g2 g3 g4) h2 h3 (by omega)).symm.trans HRD.out
  have SW := Lib.hid (set_swap v s (vld_inc h1) hko)
  have CM := Lib.hid (commute_merge h1 h2 g2 h3 g3 hn50 hko)
  have RL := Lib.hid (show (setL (setL l0 k v) o s).length ≤ 1000000 from by omega)
  rw [← SW.out] at U7 CU ⊢
  obtain ⟨R, hR⟩ : ∃ R, setL (setL l0 k v) o s = R := ⟨_, rfl⟩
  dsimp only at X7 Y7 T7 U7 CX CY CZ CU SA SB ⊢
  rw [hR] at CM RL T7 U7 CZ CU ⊢
  have KM := Lib.hid (merge_any a0 ax ay n0 (setL l0 k v).length (setL l0 o s).length c0 cx cy l0 (setL l0 k v) (setL l0 o s) w7 HL0.out rfl rfl (P0.out.later B7.out) X7.out Y7.out C0.out CX.out CY.out Z0.out.2 SA.out SB.out)
  rw [CM.out] at KM
  clear hR SW HRA HRB HRC HRD h q1 q2 q3 q4
  go_wp2_with fail
  refine KM.out.mono ?_
  rintro e w8 ⟨⟨v8, u8, rfl, hx, hc⟩, b8⟩
  obtain ⟨ar, cr, rfl, hcr, _, tr⟩ := hx.tags
  obtain ⟨ac, cc, he, _, _⟩ := hc.strs
  obtain rfl : u8 = .slice ac 0 cc := he
  have B8 := Lib.hid (B7.out.trans (b8.mono B7.out.size))
  have T8 := Lib.hid (T7.out.later b8)
  have R8 := Lib.hid (show TagsT w8 w8.heap.size ar R from tr)
  have CR := Lib.hid (show R.length ≤ cr from hcr)
  have KA := Lib.hid (same_any az au R.length R.length cz cu R R w8 rfl rfl T8.out (U7.out.later b8) CZ.out CU.out RL.out)
  rw [decide_eq_true rfl] at KA
  clear hx hc b8 tr hcr KM B7 T7 U7
  go_wp2_with fail
  refine KA.out.mono ?_
  rintro e w9 ⟨rfl, b9⟩
  have B9 := Lib.hid (B8.out.trans (b9.mono B8.out.size))
  have KA2 := Lib.hid (same_any ar az R.length R.length cr cz R R w9 rfl rfl (R8.out.later b9) (T8.out.later b9) CR.out CZ.out RL.out)
  rw [decide_eq_true rfl] at KA2
  clear b9 KA B8 T8 R8
  go_wp2_with fail
  refine KA2.out.mono ?_
  rintro e w10 ⟨rfl, b10⟩
  have B10 := Lib.hid (B9.out.trans (b10.mono B9.out.size))
  clear b10 KA2 B9
  go_wp2
  go_ret
  exact ⟨rfl, hZ ▸ B10.out⟩
theorem commutes_str (a0 : Option Addr) (n0 c0 : Nat) (l0 : List T) (s1 s2 s3 s4 : ByteArray) (W : World) (hl0 : l0.length = n0) (hp0 : TagsT W W.heap.size a0 l0) (hc0 : n0 ≤ c0) :
    Calls Try.prog 8 #[.slice a0 n0 c0, .string s1, .string s2, .string s3, .string s4] W fun e w' => e = .returned (.bool true) ∧ Below W.heap.size W w' := by
  have h := commutes_any a0 n0 c0 l0 s1.data.toList s2.data.toList s3.data.toList s4.data.toList W hl0 hp0 hc0
  rw [str_is, str_is, str_is, str_is] at h
  exact h
end Go.Proofs.Ytnepfifcjjjjjaa.Tg
