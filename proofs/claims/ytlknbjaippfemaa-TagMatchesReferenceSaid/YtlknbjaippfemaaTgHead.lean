/- tag: the laws' head. -/
import Derived.Test.YtlknbjaippfemaaTgParse
namespace Go.Proofs.Ytlknbjaippfemaa.Tg
open Go.RowKit
open Lx (IsRow alloc1 drew_below)
def kC : B := [99, 108, 97, 115, 115]
def kN : B := [110, 97, 109, 101]
def vC : B := [99, 97, 102, 101]
def vN : B := [65, 32, 34, 66, 34]
def sT : B := [99, 108, 97, 115, 115, 61, 34, 99, 97, 102, 101, 34, 32, 110, 97, 109, 101, 61, 34, 65, 32, 92, 34, 66, 92, 34, 34]
def hL : List T := [(kC, vC), (kN, vN)]
theorem h_text : textR hL = (sT, 0) := by decide +kernel
theorem h_parse : parR sT = (hL, 0) := by decide +kernel
theorem h_m1 : mergeR [(kC, [97])] [(kC, [98])] [(kC, [97]), (kN, [110])] = ([(kC, [98]), (kN, [110])], []) := by decide +kernel
theorem h_m2 : mergeR [(kC, [97])] [(kC, [98])] [(kC, [99])] = ([(kC, [97])], [kC]) := by decide +kernel
theorem h_s1 : setR hL kC [] = ([(kN, vN)], 0) := by decide +kernel
theorem h_s2 : setR hL [55] [120] = ([], 1) := by decide +kernel
theorem h_g : getO hL kC = some vC := by decide +kernel
theorem h_v : vld hL = true := by decide +kernel
theorem h_z : Siz hL := by
  intro t ht
  simp only [hL, List.mem_cons, List.not_mem_nil, or_false] at ht
  rcases ht with rfl | rfl <;> exact ⟨by decide, by decide⟩
theorem siz_one (a b : B) (h : a.length ≤ 100000 ∧ b.length ≤ 100000) : Siz [(a, b)] := by
  intro t ht
  rw [List.mem_singleton] at ht
  subst ht
  exact h
theorem siz_two (a b c d : B) (h : a.length ≤ 100000 ∧ b.length ≤ 100000) (h' : c.length ≤ 100000 ∧ d.length ≤ 100000) : Siz [(a, b), (c, d)] := by
  intro t ht
  simp only [List.mem_cons, List.not_mem_nil, or_false] at ht
  rcases ht with rfl | rfl
  · exact h
  · exact h'
theorem tags_two (w : World) (a b c d : B) : TagsT (w.alloc (.cells #[.string ⟨a.toArray⟩, .string ⟨b.toArray⟩, .string ⟨c.toArray⟩, .string ⟨d.toArray⟩] 43)) (w.alloc (.cells #[.string ⟨a.toArray⟩, .string ⟨b.toArray⟩, .string ⟨c.toArray⟩, .string ⟨d.toArray⟩] 43)).heap.size (some ⟨w.heap.size, 0, none⟩) [(a, b), (c, d)] := fun _ => by
  have hr := IsRow.made w 43 #[.string ⟨a.toArray⟩, .string ⟨b.toArray⟩, .string ⟨c.toArray⟩, .string ⟨d.toArray⟩]
  refine ⟨w.heap.size, 0, rfl, hr.inside, fun k t hk => ?_⟩
  rcases k with _ | _ | k
  · injection hk with hk
    subst hk
    exact ⟨hr.get 0, hr.get 1⟩
  · injection hk with hk
    subst hk
    exact ⟨hr.get 2, hr.get 3⟩
  · cases hk
theorem made_one (w : World) (a b : B) : ∃ w', w.alloc (.cells #[.string ⟨a.toArray⟩, .string ⟨b.toArray⟩] 43) = w' ∧ Below w.heap.size w w' ∧ TagsT w' w'.heap.size (some ⟨w.heap.size, 0, none⟩) [(a, b)] := ⟨_, rfl, alloc1 _ _, tags_one w a b⟩
theorem made_two (w : World) (a b c d : B) : ∃ w', w.alloc (.cells #[.string ⟨a.toArray⟩, .string ⟨b.toArray⟩, .string ⟨c.toArray⟩, .string ⟨d.toArray⟩] 43) = w' ∧ Below w.heap.size w w' ∧ TagsT w' w'.heap.size (some ⟨w.heap.size, 0, none⟩) [(a, b), (c, d)] := ⟨_, rfl, alloc1 _ _, tags_two w a b c d⟩
theorem strs_one (w : World) (a : B) : StrT (w.alloc (.cells #[.string ⟨a.toArray⟩] 9)) (w.alloc (.cells #[.string ⟨a.toArray⟩] 9)).heap.size (some ⟨w.heap.size, 0, none⟩) [a] := fun _ => by
  have hr := IsRow.made w 9 #[.string ⟨a.toArray⟩]
  refine ⟨w.heap.size, 0, rfl, hr.inside, fun k y hk => ?_⟩
  rcases k with _ | k
  · injection hk with hk
    subst hk
    exact hr.get 0
  · cases hk
theorem made_str (w : World) (a : B) : ∃ w', w.alloc (.cells #[.string ⟨a.toArray⟩] 9) = w' ∧ Below w.heap.size w w' ∧ StrT w' w'.heap.size (some ⟨w.heap.size, 0, none⟩) [a] := ⟨_, rfl, alloc1 _ _, strs_one w a⟩
theorem st {Z : Nat} {w a b : World} (hZ : w.heap.size = Z) (h : Below Z w a) (k : Below a.heap.size a b) : Below Z w b := h.trans (k.mono (hZ ▸ h.size))
set_option maxRecDepth 100000 in
set_option maxHeartbeats 8000000 in
theorem head_any (w : World) : Calls Try.prog 6 #[] w fun e w' => e = .returned (.bool true) ∧ Below w.heap.size w w' := by
  go_enter Try.func6, Try.ntmps6
  go_upto_region 2 with fail
  generalize hw : World.alloc w _ = w1
  have B1 : Hid (Below w.heap.size w w1) := Lib.hid (hw ▸ alloc1 w _)
  have L1 : Hid (TagsT w1 w1.heap.size (some ⟨w.heap.size, 0, none⟩) hL) := Lib.hid (hw ▸ tags_two w kC vC kN vN)
  have KT := Lib.hid (text_any (some ⟨w.heap.size, 0, none⟩) 2 2 hL w1 rfl L1.out (by decide) h_z)
  rw [h_text] at KT
  dsimp only [sT] at KT
  obtain ⟨Z, hZ⟩ : ∃ Z, w.heap.size = Z := ⟨_, rfl⟩
  rw [hZ] at B1 L1 KT ⊢
  clear hw
  go_upto_region 3 with ((with_reducible refine KT.out.mono ?_); rintro e w2 ⟨rfl, b2⟩)
  have B2 := Lib.hid (st hZ B1.out b2)
  have L2 := Lib.hid (L1.out.later b2)
  have KP := Lib.hid (parse_any ⟨sT.toArray⟩ w2)
  rw [show parR (ByteArray.mk sT.toArray).data.toList = (hL, 0) from h_parse] at KP
  dsimp only [sT] at KP
  clear b2 KT B1 L1
  go_upto_region 4 with ((with_reducible refine KP.out.mono ?_); rintro e w3 ⟨⟨v, rfl, hv⟩, b3⟩)
  obtain ⟨am, cm, he, hcm, _, tm⟩ := hv.tags
  obtain rfl : v = .slice am 2 cm := he
  have CM := Lib.hid (show 2 ≤ cm from hcm)
  have B3 := Lib.hid (st hZ B2.out b3)
  have L3 := Lib.hid (L2.out.later b3)
  have M3 := Lib.hid (show TagsT w3 w3.heap.size am hL from tm)
  clear hcm tm b3 hv KP B2 L2
  obtain ⟨w4, hw4, b4, t4⟩ := made_one w3 kC [97]
  have HW4 := Lib.hid hw4
  have B4 := Lib.hid (st hZ B3.out b4)
  have L4 := Lib.hid (L3.out.later b4)
  have M4 := Lib.hid (M3.out.later b4)
  have BS4 := Lib.hid t4
  clear hw4 b4 t4 B3 L3 M3
  go_upto_region 5 with fail
  generalize hg : World.alloc w3 _ = w4'
  obtain rfl : w4' = w4 := hg.symm.trans HW4.out
  clear hg
  obtain ⟨w5, hw5, b5, t5⟩ := made_one w4' kC [98]
  have HW5 := Lib.hid hw5
  have B5 := Lib.hid (st hZ B4.out b5)
  have L5 := Lib.hid (L4.out.later b5)
  have M5 := Lib.hid (M4.out.later b5)
  have BS5 := Lib.hid (BS4.out.later b5)
  have OU5 := Lib.hid t5
  clear hw5 b5 t5 B4 L4 M4 BS4
  go_upto_region 6 with fail
  generalize hg : World.alloc w4' _ = w5'
  obtain rfl : w5' = w5 := hg.symm.trans HW5.out
  clear hg
  obtain ⟨w6, hw6, b6, t6⟩ := made_two w5' kC [97] kN [110]
  have HW6 := Lib.hid hw6
  have B6 := Lib.hid (st hZ B5.out b6)
  have L6 := Lib.hid (L5.out.later b6)
  have M6 := Lib.hid (M5.out.later b6)
  have BS6 := Lib.hid (BS5.out.later b6)
  have OU6 := Lib.hid (OU5.out.later b6)
  have KM := Lib.hid (merge_any _ _ _ 1 1 2 1 1 2 _ _ _ w6 rfl rfl rfl BS6.out OU6.out t6 (by decide) (by decide) (by decide) (siz_one _ _ (by decide)) (siz_one _ _ (by decide)) (siz_two _ _ _ _ (by decide) (by decide)))
  rw [h_m1] at KM
  clear hw6 b6 t6 B5 L5 M5 BS5 OU5
  go_wp2_with fail
  generalize hg : World.alloc w5' _ = w6'
  obtain rfl : w6' = w6 := hg.symm.trans HW6.out
  clear hg
  refine KM.out.mono ?_
  rintro e w7 ⟨⟨v7, u7, rfl, hx, hc⟩, b7⟩
  obtain ⟨ax, cx, he, hcx, _, tx⟩ := hx.tags
  obtain rfl : v7 = .slice ax 2 cx := he
  obtain ⟨ac, cc, he, _, _⟩ := hc.strs
  obtain rfl : u7 = .slice ac 0 cc := he
  have CX := Lib.hid (show 2 ≤ cx from hcx)
  have X7 := Lib.hid (show TagsT w7 w7.heap.size ax [(kC, [98]), (kN, [110])] from tx)
  have B7 := Lib.hid (st hZ B6.out b7)
  have L7 := Lib.hid (L6.out.later b7)
  have M7 := Lib.hid (M6.out.later b7)
  have BS7 := Lib.hid (BS6.out.later b7)
  have OU7 := Lib.hid (OU6.out.later b7)
  clear hcx tx b7 hx hc KM B6 L6 M6 BS6 OU6
  obtain ⟨w8, hw8, b8, t8⟩ := made_one w7 kC [99]
  have HW8 := Lib.hid hw8
  have B8 := Lib.hid (st hZ B7.out b8)
  have L8 := Lib.hid (L7.out.later b8)
  have M8 := Lib.hid (M7.out.later b8)
  have BS8 := Lib.hid (BS7.out.later b8)
  have X8 := Lib.hid (X7.out.later b8)
  have KM := Lib.hid (merge_any _ _ _ 1 1 1 1 1 1 _ _ _ w8 rfl rfl rfl BS8.out (OU7.out.later b8) t8 (by decide) (by decide) (by decide) (siz_one _ _ (by decide)) (siz_one _ _ (by decide)) (siz_one _ _ (by decide)))
  rw [h_m2] at KM
  clear hw8 b8 t8 B7 L7 M7 BS7 OU7 X7
  go_wp2_with fail
  generalize hg : World.alloc w7 _ = w8'
  obtain rfl : w8' = w8 := hg.symm.trans HW8.out
  clear hg
  refine KM.out.mono ?_
  rintro e w9 ⟨⟨v9, u9, rfl, hx, hc⟩, b9⟩
  obtain ⟨ay, cy, he, hcy, _, ty⟩ := hx.tags
  obtain rfl : v9 = .slice ay 1 cy := he
  obtain ⟨ad, cd, he, hcd, td⟩ := hc.strs
  obtain rfl : u9 = .slice ad 1 cd := he
  have CY := Lib.hid (show 1 ≤ cy from hcy)
  have CD := Lib.hid (show 1 ≤ cd from hcd)
  have Y9 := Lib.hid (show TagsT w9 w9.heap.size ay [(kC, [97])] from ty)
  have D9 := Lib.hid (show StrT w9 w9.heap.size ad [kC] from td)
  have B9 := Lib.hid (st hZ B8.out b9)
  have L9 := Lib.hid (L8.out.later b9)
  have M9 := Lib.hid (M8.out.later b9)
  have BS9 := Lib.hid (BS8.out.later b9)
  have X9 := Lib.hid (X8.out.later b9)
  have KS := Lib.hid (set_any _ 2 2 hL kC [] w9 rfl L9.out (by decide) h_z (by decide) (by decide))
  rw [h_s1] at KS
  clear hcy hcd ty td b9 hx hc KM B8 L8 M8 BS8 X8
  go_wp2_with fail
  refine KS.out.mono ?_
  rintro e w10 ⟨⟨v10, rfl, hx⟩, b10⟩
  obtain ⟨az, cz, he, _, _, _⟩ := hx.tags
  obtain rfl : v10 = .slice az 1 cz := he
  have B10 := Lib.hid (st hZ B9.out b10)
  have L10 := Lib.hid (L9.out.later b10)
  have M10 := Lib.hid (M9.out.later b10)
  have BS10 := Lib.hid (BS9.out.later b10)
  have X10 := Lib.hid (X9.out.later b10)
  have Y10 := Lib.hid (Y9.out.later b10)
  have D10 := Lib.hid (D9.out.later b10)
  have KS2 := Lib.hid (set_any _ 2 2 hL [55] [120] w10 rfl L10.out (by decide) h_z (by decide) (by decide))
  rw [h_s2] at KS2
  clear b10 hx KS B9 L9 M9 BS9 X9 Y9 D9
  go_wp2_with fail
  refine KS2.out.mono ?_
  rintro e w11 ⟨⟨v11, rfl, hx⟩, b11⟩
  have B11 := Lib.hid (st hZ B10.out b11)
  have L11 := Lib.hid (L10.out.later b11)
  have M11 := Lib.hid (M10.out.later b11)
  have BS11 := Lib.hid (BS10.out.later b11)
  have X11 := Lib.hid (X10.out.later b11)
  have Y11 := Lib.hid (Y10.out.later b11)
  have D11 := Lib.hid (D10.out.later b11)
  have KG := Lib.hid (get_any _ 2 2 hL kC w11 rfl L11.out (by decide) (by decide))
  rw [show getV hL kC = vC from by rw [getV, h_g]; rfl, h_g] at KG
  dsimp only [vC] at KG
  clear b11 hx KS2 B10 L10 M10 BS10 X10 Y10 D10
  go_wp2_with fail
  refine KG.out.mono ?_
  rintro e w12 ⟨rfl, b12⟩
  have B12 := Lib.hid (st hZ B11.out b12)
  have L12 := Lib.hid (L11.out.later b12)
  have M12 := Lib.hid (M11.out.later b12)
  have BS12 := Lib.hid (BS11.out.later b12)
  have X12 := Lib.hid (X11.out.later b12)
  have Y12 := Lib.hid (Y11.out.later b12)
  have D12 := Lib.hid (D11.out.later b12)
  have KA := Lib.hid (same_any _ _ 2 2 2 cm hL hL w12 rfl rfl L12.out M12.out (by decide) CM.out (by decide))
  rw [decide_eq_true rfl] at KA
  clear b12 KG B11 L11 M11 BS11 X11 Y11 D11
  go_wp2_with fail
  refine KA.out.mono ?_
  rintro e w13 ⟨rfl, b13⟩
  have B13 := Lib.hid (st hZ B12.out b13)
  have L13 := Lib.hid (L12.out.later b13)
  have BS13 := Lib.hid (BS12.out.later b13)
  have X13 := Lib.hid (X12.out.later b13)
  have Y13 := Lib.hid (Y12.out.later b13)
  have D13 := Lib.hid (D12.out.later b13)
  clear b13 KA B12 L12 M12 BS12 X12 Y12 D12
  obtain ⟨w14, hw14, b14, t14⟩ := made_two w13 kC [98] kN [110]
  have HW14 := Lib.hid hw14
  have B14 := Lib.hid (st hZ B13.out b14)
  have L14 := Lib.hid (L13.out.later b14)
  have BS14 := Lib.hid (BS13.out.later b14)
  have Y14 := Lib.hid (Y13.out.later b14)
  have D14 := Lib.hid (D13.out.later b14)
  have KA := Lib.hid (same_any _ _ 2 2 cx 2 _ _ w14 rfl rfl (X13.out.later b14) t14 CX.out (by decide) (by decide))
  rw [decide_eq_true rfl] at KA
  clear hw14 b14 t14 B13 L13 BS13 X13 Y13 D13
  go_wp2_with fail
  generalize hg : World.alloc w13 _ = w14'
  obtain rfl : w14' = w14 := hg.symm.trans HW14.out
  clear hg
  refine KA.out.mono ?_
  rintro e w15 ⟨rfl, b15⟩
  have B15 := Lib.hid (st hZ B14.out b15)
  have L15 := Lib.hid (L14.out.later b15)
  have Y15 := Lib.hid (Y14.out.later b15)
  have D15 := Lib.hid (D14.out.later b15)
  have KA := Lib.hid (same_any _ _ 1 1 cy 1 _ _ w15 rfl rfl Y15.out (BS14.out.later b15) CY.out (by decide) (by decide))
  rw [decide_eq_true rfl] at KA
  clear b15 B14 L14 Y14 D14 BS14
  go_wp2_with fail
  refine KA.out.mono ?_
  rintro e w16 ⟨rfl, b16⟩
  have B16 := Lib.hid (st hZ B15.out b16)
  have L16 := Lib.hid (L15.out.later b16)
  have D16 := Lib.hid (D15.out.later b16)
  clear b16 KA B15 L15 D15 Y15
  obtain ⟨w17, hw17, b17, t17⟩ := made_str w16 kC
  have HW17 := Lib.hid hw17
  have B17 := Lib.hid (st hZ B16.out b17)
  have L17 := Lib.hid (L16.out.later b17)
  have KA := Lib.hid (strs_any _ _ 1 1 cd 1 _ _ w17 rfl rfl (D16.out.later b17) t17 CD.out (by decide) (by decide))
  rw [decide_eq_true rfl] at KA
  clear hw17 b17 t17 B16 L16 D16
  go_wp2_with fail
  generalize hg : World.alloc w16 _ = w17'
  obtain rfl : w17' = w17 := hg.symm.trans HW17.out
  clear hg
  refine KA.out.mono ?_
  rintro e w18 ⟨rfl, b18⟩
  have B18 := Lib.hid (st hZ B17.out b18)
  have KV := Lib.hid (valid_any _ 2 2 hL w18 rfl (L17.out.later b18) (by decide) h_z)
  rw [h_v] at KV
  clear b18 KA B17 L17
  go_wp2_with fail
  refine KV.out.mono ?_
  rintro e w19 ⟨rfl, b19⟩
  have B19 := Lib.hid (st hZ B18.out b19)
  clear b19 KV B18
  go_wp2
  go_ret
  rw [hZ]
  exact ⟨rfl, B19.out⟩
end Go.Proofs.Ytlknbjaippfemaa.Tg
