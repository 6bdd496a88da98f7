/- index: IndexNearest. -/
import Derived.Test.YteghhfkllclghaaIxExactWalk
import Derived.Test.YteghhfkllclghaaIxWhatNear
namespace Go.Proofs.Yteghhfkllclghaa.Ix
open Go.RowKit Go.Sort
/-- what an index holds after operations. -/
theorem opR_inv {P : It → Prop} {o : Opn} {S : List It} (h : ∀ z ∈ S, P z) (ho : validB o.box = true → P (o.id, o.box)) : ∀ z ∈ opR o S, P z := by
  intro z hz
  unfold opR at hz
  split at hz
  · exact h z (List.mem_filter.1 hz).1
  · unfold putR at hz
    split at hz
    · rename_i hv
      rw [Bool.and_eq_true] at hv
      rcases List.mem_cons.1 ((putS_perm _ _ S).mem_iff.1 hz) with rfl | h2
      · exact ho hv.1
      · exact h z h2
    · exact h z hz
theorem opsR_inv {P : It → Prop} : ∀ (l : List Opn) (S : List It), (∀ z ∈ S, P z) → (∀ o ∈ l, validB o.box = true → P (o.id, o.box)) → ∀ z ∈ opsR l S, P z
  | [], _, h, _ => h
  | o :: l, S, h, ho => opsR_inv l (opR o S) (opR_inv h (ho o (List.mem_cons_self ..))) fun q hq => ho q (List.mem_cons_of_mem _ hq)
theorem opsR_valid (l : List Opn) : ∀ z ∈ opsR l [], validB z.2 = true := opsR_inv l [] (fun z h => by cases h) fun _ _ h => h
theorem IdsT.take {w : World} {B : Nat} {ao : Option Addr} {l : List Id} (h : IdsT w B ao l) (k : Nat) : IdsT w B ao (l.take k) := fun h0 => by
  obtain ⟨g, off, e, hg, hc⟩ := h (by rw [List.length_take] at h0; omega)
  refine ⟨g, off, e, hg, fun j y hj => hc j y ?_⟩
  rw [List.getElem?_take] at hj
  split at hj
  · exact hj
  · cases hj
theorem nearR_ok {x y k : Int} {S : List It} (h : nearP x y = true) : nearR x y k S = nearS x y k.toNat S := by
  unfold nearR
  by_cases hk : 0 < k
  · rw [if_pos ⟨hk, h⟩]
  · rw [if_neg (fun g => hk g.1)]
    have : k.toNat = 0 := by omega
    rw [this]
    unfold nearS
    simp
set_option maxRecDepth 100000 in
set_option maxHeartbeats 16000000 in
theorem nearest_any (ao : Option Addr) (n cap : Nat) (l : List Opn) (px py i1 i2 : Int) (w : World) (hn : l.length = n) (ha : OpsT w w.heap.size ao l) (hc : n ≤ cap) :
    Calls Try.prog 5 #[.slice ao n cap, vP px py, .int .i64 i1, .int .i64 i2] w fun e w' => e = .returned (.bool true) ∧ Below w.heap.size w w' := by
  obtain ⟨sh, hsh⟩ : ∃ p, (decide (n ≤ 80) && shortB l) = p := ⟨_, rfl⟩
  obtain ⟨vp, hvp⟩ : ∃ p, nearP px py = p := ⟨_, rfl⟩
  obtain ⟨W, hW, hB, r1⟩ : ∃ w', w.alloc (.cells #[.int .i64 px, .int .i64 py] 24) = w' ∧ Below w.heap.size w w' ∧ IsRow w' w.heap.size 24 #[.int .i64 px, .int .i64 py] := ⟨_, rfl, alloc1 _ _, IsRow.made _ _ _⟩
  have HW := Lib.hid hW
  have B0 := Lib.hid hB
  have RP := Lib.hid r1
  have HN := Lib.hid hn
  have HA := Lib.hid (ha.below hB (Nat.le_refl _))
  have hsz : w.heap.size ≤ W.heap.size := hB.size
  have SH := Lib.hid hsh
  have VP := Lib.hid hvp
  have HCC := Lib.hid hc
  have hc' : (n : Int) ≤ (cap : Int) := by omega
  clear hW hB r1 hn ha hsh hvp hc
  unfold vP
  go_enter Try.func5, Try.ntmps5
  go_upto_region 1 with fail
  rw [HW.out]
  go_wp2_with fail
  refine (head_any W).mono ?_
  rintro e w0 ⟨rfl, hb0⟩
  have B1 := Lib.hid (B0.out.trans (hb0.mono hsz))
  have RP1 := Lib.hid (RP.out.below hb0 RP.out.inside)
  have HA1 := Lib.hid ((HA.out.more hsz).below hb0 (Nat.le_refl _))
  have HZ1 := Lib.hid (show W.heap.size ≤ w0.heap.size from hb0.size)
  clear hb0 HW B0 RP HA
  have KS := Lib.hid (short_any ao n cap 80 l w0 HN.out (HA1.out.more HZ1.out) HCC.out (by omega))
  rw [SH.out] at KS
  have p0 := RP1.out.get 0
  have p1 := RP1.out.get 1
  have KV := Lib.hid (refPoint_any px py w0)
  rw [VP.out] at KV
  unfold vP at KV
  go_wp2_with fail
  refine KS.out.mono ?_
  rintro e w' ⟨rfl, rfl⟩
  clear KS
  cases sh with
  | false =>
    go_wp2
    go_ret
    exact ⟨rfl, B1.out⟩
  | true =>
    go_wp2_with fail
    refine KV.out.mono ?_
    rintro e w1 ⟨rfl, bb⟩
    have B2 := Lib.hid (B1.out.trans (bb.mono B1.out.size))
    have RP2 := Lib.hid (RP1.out.below bb RP1.out.inside)
    have HA2 := Lib.hid ((HA1.out.more HZ1.out).below bb (Nat.le_refl _))
    have HZ2 := Lib.hid (show w0.heap.size ≤ w1.heap.size from bb.size)
    clear bb B1 RP1 HA1 KV p0 p1
    cases vp with
    | false =>
      go_wp2
      go_ret
      exact ⟨rfl, B2.out⟩
    | true =>
      obtain ⟨s1, s2⟩ : n ≤ 80 ∧ shortB l = true := by
        have := SH.out
        rw [Bool.and_eq_true, decide_eq_true_iff] at this
        exact this
      have N80 := Lib.hid s1
      have IDS := Lib.hid (short_ids s2)
      clear s1 s2
      have KB := Lib.hid (built_any ao n cap l w1 HN.out (HA2.out.more HZ2.out) HCC.out (by have := N80.out; omega) (fun o ho => by have := IDS.out o ho; omega))
      unfold ptr at KB
      go_wp2_with fail
      refine KB.out.mono ?_
      rintro e w3 ⟨x, rfl, h3, bb⟩
      have SV := Lib.hid (opsR_valid l)
      generalize opsR l [] = S at h3 SV
      have B4 := Lib.hid (B2.out.trans (bb.mono B2.out.size))
      have RP4 := Lib.hid (RP2.out.below bb RP2.out.inside)
      have HA4 := Lib.hid ((HA2.out.more HZ2.out).below bb (Nat.le_refl _))
      have HZ4 := Lib.hid (show w1.heap.size ≤ w3.heap.size from bb.size)
      have H3 := Lib.hid h3
      clear bb h3 B2 RP2 HA2 KB
      obtain ⟨a, hA⟩ : ∃ a, min i1 i2 = a := ⟨_, rfl⟩
      obtain ⟨b, hB⟩ : ∃ b, max i1 i2 = b := ⟨_, rfl⟩
      have hm1 : ∀ ts t w, (Builtin.min_ ts t #[.int .i64 i1, .int .i64 i2]).run Try.prog w = .ok (.int .i64 a) w := fun ts t w => by rw [run_min_int2]; congr 2; omega
      have hm2 : ∀ ts t w, (Builtin.max_ ts t #[.int .i64 i1, .int .i64 i2]).run Try.prog w = .ok (.int .i64 b) w := fun ts t w => by rw [run_max_int2]; congr 2; omega
      have hm3 : ∀ ts t w, (Builtin.max_ ts t #[.int .i64 a, .int .i64 0]).run Try.prog w = .ok (.int .i64 (a.toNat : Int)) w := fun ts t w => by rw [run_max_int2]; congr 2; omega
      have AB := Lib.hid (show a.toNat ≤ b.toNat by omega)
      obtain ⟨ka, hka⟩ : ∃ k, a.toNat = k := ⟨_, rfl⟩
      rw [hka] at hm3
      have KA := Lib.hid hka
      clear hA hB hka
      obtain ⟨L1, hL1⟩ : ∃ L, nearR px py a S = L := ⟨_, rfl⟩
      obtain ⟨L2, hL2⟩ : ∃ L, nearR px py b S = L := ⟨_, rfl⟩
      obtain ⟨n1, hn1⟩ : ∃ k, L1.length = k := ⟨_, rfl⟩
      obtain ⟨n2, hn2⟩ : ∃ k, L2.length = k := ⟨_, rfl⟩
      have K1 := fun (w' : World) (hb : Below w3.heap.size w3 w') => nearA_any (H3.out.below hb) px py a (by have := N80.out; omega)
      have K2 := fun (w' : World) (hb : Below w3.heap.size w3 w') => nearA_any (H3.out.below hb) px py b (by have := N80.out; omega)
      rw [hL1, hn1] at K1
      rw [hL2, hn2] at K2
      unfold ptr vP at K1 K2
      have E1 := Lib.hid (hL1.symm.trans (nearR_ok VP.out))
      have E2 := Lib.hid (hL2.symm.trans (nearR_ok VP.out))
      have HN1 := Lib.hid hn1
      have HN2 := Lib.hid hn2
      clear hL1 hL2 hn1 hn2
      have T1 := Lib.hid (show L1 = L2.take n1 by
        rw [← HN1.out, E1.out, E2.out]
        exact near_take px py AB.out S)
      have L80 := Lib.hid (show n1 ≤ n2 ∧ n2 ≤ 80 ∧ n1 ≤ ka by
        rw [← KA.out]
        have e1 := H3.out.srt.2
        have e2 := N80.out
        have e3 := near_mono px py AB.out S
        have e4 := near_len_le px py a.toNat S
        have e5 : (nearS px py b.toNat S).length ≤ S.length := by
          unfold nearS
          rw [List.length_map, List.length_take, near_len]
          omega
        rw [← E1.out, HN1.out] at e3 e4
        rw [← E2.out, HN2.out] at e3 e5
        omega)
      have NA := Lib.hid (show ∀ k (hk : k < L2.length), ∃ q, boxS L2[k] S = some q ∧ validB q = true from (show ∀ L, L = nearS px py b.toNat S → ∀ k (hk : k < L.length), ∃ q, boxS L[k] S = some q ∧ validB q = true from by
        rintro _ rfl k hk
        obtain ⟨q, h1, h2, _⟩ := near_at H3.out.srt.1 hk
        exact ⟨q, h1, SV.out _ h2⟩) L2 E2.out)
      have NO := Lib.hid (show ∀ k (h0 : 0 < k) (hk : k < L2.length) p q, boxS (L2[k - 1]'(by omega)) S = some p → boxS L2[k] S = some q → sqN p px py < sqN q px py ∨ sqN p px py = sqN q px py ∧ Op.bytesLess (L2[k - 1]'(by omega)) L2[k] = true from
        (show ∀ L, L = nearS px py b.toNat S → ∀ k (h0 : 0 < k) (hk : k < L.length) p q, boxS (L[k - 1]'(by omega)) S = some p → boxS L[k] S = some q → sqN p px py < sqN q px py ∨ sqN p px py = sqN q px py ∧ Op.bytesLess (L[k - 1]'(by omega)) L[k] = true from by
        rintro _ rfl k h0 hk p q h1 h2
        rw [bytesLess_eq, decide_eq_true_iff]
        exact near_order H3.out.srt.1 h0 hk h1 h2) L2 E2.out)
      have NU := Lib.hid (show ∀ i q, boxS i S = some q → i ∉ L2 → L2.length = b.toNat ∧ ∀ (h0 : 0 < L2.length) p, boxS (L2[L2.length - 1]'(by omega)) S = some p → sqN p px py ≤ sqN q px py from
        (show ∀ L, L = nearS px py b.toNat S → ∀ i q, boxS i S = some q → i ∉ L → L.length = b.toNat ∧ ∀ (h0 : 0 < L.length) p, boxS (L[L.length - 1]'(by omega)) S = some p → sqN p px py ≤ sqN q px py from by
        rintro _ rfl i q h1 h2
        exact near_out H3.out.srt.1 h1 h2) L2 E2.out)
      have NV := Lib.hid (show ∀ i q, boxS i S = some q → validB q = true from fun i q h => SV.out _ ((box_some H3.out.srt.1.nodup).1 h))
      have KG := Lib.hid (fun (w' : World) (hb : Below w3.heap.size w3 w') => (show w'.cell? ⟨w.heap.size, 0, none⟩ = some (.int .i64 px) ∧ w'.cell? ⟨w.heap.size, 1, none⟩ = some (.int .i64 py) from ⟨(RP4.out.below hb RP4.out.inside).get 0, (RP4.out.below hb RP4.out.inside).get 1⟩))
      have KS := KG.out w3.drew (drew_below _)
      obtain ⟨p0, p1⟩ := KG.out w3 (Below.refl _ _)
      go_upto_region 5 with fail
      go_cut [11, 12] from 37 to 48 (fun s11 s12 wx => ∃ ao1 c1 ao2 c2, s11 = .slice ao1 n1 c1 ∧ s12 = .slice ao2 n2 c2 ∧ n1 ≤ c1 ∧ n2 ≤ c2 ∧ Hid (IdsT wx wx.heap.size ao1 L1) ∧ Hid (IdsT wx wx.heap.size ao2 L2) ∧ Hid (Below w3.heap.size w3 wx))
      case first =>
        go_region_held3 (fun w' => w'.cell? ⟨w.heap.size, 0, none⟩ = some (.int .i64 px) ∧ w'.cell? ⟨w.heap.size, 1, none⟩ = some (.int .i64 py)) (first | exact KS | go_keep)
          (first
            | (go_at_call 21; (with_reducible refine (K2 _ B5.out).mono ?_); rintro e w5 ⟨⟨ao2, c2, rfl, hc2, i2'⟩, bb5⟩; have B6 := Lib.hid (B5.out.trans (bb5.mono B5.out.size)); have KS := KG.out w5 B6.out)
            | (go_at_call 21; (with_reducible refine (K1 _ (drew_below _)).mono ?_); rintro e w4 ⟨⟨ao1, c1, rfl, hc1, i1'⟩, bb4⟩; have B5 := Lib.hid ((drew_below w3).trans bb4); have KS := KG.out w4 B5.out))
        all_goals
          go_wp2_with fail
          go_meet
          exact ⟨ao1, c1, ao2, c2, rfl, rfl, hc1, hc2, Lib.hid ((i1'.below bb5 (Nat.le_refl _)).more bb5.size), Lib.hid i2', B6⟩
      case rest =>
        obtain ⟨ao1, c1, ao2, c2, rfl, rfl, hc1, hc2, I1, I2, B6⟩ := hcut
        clear KS K1 K2 KG p0 p1
        have HX := Lib.hid (H3.out.below B6.out)
        have RP5 := Lib.hid (RP4.out.below B6.out RP4.out.inside)
        have HA5 := Lib.hid (((HA4.out.more HZ4.out).below B6.out (Nat.le_refl _)).more B6.out.size)
        have B7 := Lib.hid (B4.out.trans (B6.out.mono B4.out.size))
        have KM := Lib.hid (same_any ao1 ao2 n1 c1 c2 L1 wc HN1.out I1.out (by rw [T1.out]; exact I2.out.take n1) hc1 (by have := L80.out; omega) (by have := L80.out; omega))
        have d1 : decide (ka < n1) = false := decide_eq_false (by have := L80.out; omega)
        have d2 : decide (n2 < n1) = false := decide_eq_false (by have := L80.out; omega)
        have d3 : ¬ (ka : Int) < (n1 : Int) := by have := L80.out; omega
        have d4 : ¬ (n2 : Int) < (n1 : Int) := by have := L80.out; omega
        have d5 : (n1 : Int) ≤ (c2 : Int) := by have := L80.out; omega
        have hc1' : (n1 : Int) ≤ (c1 : Int) := by omega
        have hc2' : (n2 : Int) ≤ (c2 : Int) := by omega
        have C2 := Lib.hid hc2
        clear hc1 hc2 H3 RP4 HA4 B4 B6
        go_wp2_with fail
        refine KM.out.mono ?_
        rintro e w6 ⟨rfl, bb⟩
        have HX6 := Lib.hid (HX.out.below bb)
        have RP6 := Lib.hid (RP5.out.below bb RP5.out.inside)
        have HA6 := Lib.hid ((HA5.out.below bb (Nat.le_refl _)).more bb.size)
        have B8 := Lib.hid (B7.out.trans (bb.mono B7.out.size))
        have I6 := Lib.hid ((I2.out.below bb (Nat.le_refl _)).more bb.size)
        have n2le : (n2 : Int) ≤ 80 := by have := L80.out; omega
        clear bb KM HX RP5 HA5 B7 I1 I2 d1 d2 d3 d4 d5 hm1 hm3
        go_wp2_with fail
        go_loopw [13] (fun i wr => ∃ k : Nat, k ≤ n2 ∧ i = .int .i64 k ∧ Hid (Below w6.heap.size w6 wr)) (fun i _ => n2 - (intOf i).toNat)
        case atStart => exact ⟨0, by omega, rfl, Lib.hid (Below.refl _ _)⟩
        case round =>
          obtain ⟨k, hk, rfl, HK⟩ := hrel
          by_cases hlt : k < n2
          · have hkl : k < L2.length := by rw [HN2.out]; exact hlt
            have hlt2 : (k : Int) < (n2 : Int) := by omega
            have hI := I6.out.below HK.out (Nat.le_refl _)
            obtain ⟨g1, o1, rfl, hg1, x0⟩ := hI.at_ hkl
            obtain ⟨own, hw1, hw2⟩ := NA.out k hkl
            have hlen : ∀ i q, boxS i S = some q → i.length ≤ 1000 := fun i q h => by
              obtain ⟨z, hz, e⟩ := box_id h
              rw [← e]
              exact HX6.out.ids z hz
            have KX := Lib.hid (boxA (HX6.out.below HK.out) L2[k] (hlen _ _ hw1))
            rw [hw1] at KX
            unfold vB ptr at KX
            dsimp only [Option.getD_some, Option.isSome_some] at KX
            have PRE := Lib.hid (show 0 < k → ∃ (p : Id) (own2 : Bx), wr.cell? ⟨g1, o1 + (k - 1), none⟩ = some (.string ⟨p.toArray⟩) ∧ boxS p S = some own2 ∧ validB own2 = true ∧ p.length ≤ 1000 ∧ (sqN own2 px py < sqN own px py ∨ sqN own2 px py = sqN own px py ∧ Op.bytesLess p L2[k] = true) from fun h0 => by
              obtain ⟨g2, o2, e2, hg2, x2⟩ := hI.at_ (k := k - 1) (by omega)
              injection e2 with e2
              injection e2 with e3 e4
              obtain ⟨own2, h1, h2⟩ := NA.out (k - 1) (by omega)
              exact ⟨L2[k - 1], own2, by rw [e3, e4]; exact x2, h1, h2, hlen _ _ h1, NO.out k h0 hkl own2 own h1 hw1⟩)
            have VO := Lib.hid hw2
            generalize L2[k] = y at *
            clear hI hkl hw1 hw2 hlen
            go_wp2_with fail
            refine KX.out.mono ?_
            rintro e w7 ⟨rfl, b7⟩
            go_upto_region 12 with fail
            obtain ⟨w8, hw8, b8, r8⟩ := box_made w7 26 own
            rw [hw8]
            have H8 := Lib.hid ((HK.out.trans (b7.mono HK.out.size)).trans (b8.mono (Nat.le_trans HK.out.size b7.size)))
            have LT := Lib.hid (show ∀ i v, wr.cell? ⟨g1, i, none⟩ = some v → w8.cell? ⟨g1, i, none⟩ = some v from fun i v h => (b8.cell (p := ⟨g1, _, none⟩) (Nat.lt_of_lt_of_le hg1 (Nat.le_trans HK.out.size b7.size))).trans ((b7.cell (p := ⟨g1, _, none⟩) (Nat.lt_of_lt_of_le hg1 HK.out.size)).trans h))
            have hg8 := Nat.lt_of_lt_of_le hg1 H8.out.size
            have x1 := LT.out _ _ x0
            have R8 := Lib.hid r8
            clear x0 r8 b8 b7 KX hw8
            by_cases h0 : 0 < k
            · have hz : ((k : Int) == 0) = false := by rw [beq_eq_false_iff_ne]; omega
              obtain ⟨p, own2, xp, hb2, hv2, hlp, hord⟩ := PRE.out h0
              have xp8 := LT.out _ _ xp
              have HO := Lib.hid hord
              have KX := Lib.hid (boxA (HX6.out.below H8.out) p hlp)
              rw [hb2] at KX
              unfold vB ptr at KX
              dsimp only [Option.getD_some, Option.isSome_some] at KX
              have V2 := Lib.hid hv2
              have hk3 : wrap64 ((k : Int) - 1) = ((k - 1 : Nat) : Int) := by unfold wrap64; omega
              have hk1 : IntKind.i64.wrap ((k : Int) - 1) = ((k - 1 : Nat) : Int) := by
                rw [IntWalk.i64_in _ (by omega)]
                omega
              have hk2 : ((k - 1 : Nat) : Int) < (n2 : Int) := by omega
              clear PRE LT xp hb2 hv2 hlp hord HK
              go_wp2_with fail
              refine KX.out.mono ?_
              rintro e w9 ⟨rfl, b9⟩
              go_upto_region 16 with fail
              obtain ⟨w10, hw10, b10, r10⟩ := box_made w9 26 own2
              rw [hw10]
              have H10 := Lib.hid ((H8.out.trans (b9.mono H8.out.size)).trans (b10.mono (Nat.le_trans H8.out.size b9.size)))
              have R10 := Lib.hid ((R8.out.below b9 R8.out.inside).below b10 (R8.out.below b9 R8.out.inside).inside)
              have later : ∀ i v, w8.cell? ⟨g1, i, none⟩ = some v → w10.cell? ⟨g1, i, none⟩ = some v := fun i v h => (b10.cell (p := ⟨g1, _, none⟩) (Nat.lt_of_lt_of_le hg8 b9.size)).trans ((b9.cell (p := ⟨g1, _, none⟩) hg8).trans h)
              have x2 := later _ _ x1
              have xp2 := later _ _ xp8
              obtain ⟨d0, d1, d2, d3⟩ := box_facts R10.out
              obtain ⟨e0, e1, e2, e3⟩ := box_facts r10
              have RPX := Lib.hid (RP6.out.below H10.out RP6.out.inside)
              have p0 := cell_regrown (RPX.out.get 0)
              have p1 := cell_regrown (RPX.out.get 1)
              have y0 := cell_regrown d0
              have y1 := cell_regrown d1
              have y2 := cell_regrown d2
              have y3 := cell_regrown d3
              have z0 := cell_regrown e0
              have z1 := cell_regrown e1
              have z2 := cell_regrown e2
              have z3 := cell_regrown e3
              have X2 := Lib.hid (cell_regrown x2)
              have XP2 := Lib.hid (cell_regrown xp2)
              obtain ⟨da, hda⟩ : ∃ v, sqN own2 px py = v := ⟨_, rfl⟩
              obtain ⟨db, hdb⟩ : ∃ v, sqN own px py = v := ⟨_, rfl⟩
              have q1 := (refDistance_any V2.out VP.out).quiet w10
              have q2 := (refDistance_any VO.out VP.out).quiet w10
              rw [hda] at HO q1
              rw [hdb] at HO q2
              unfold vB vP at q1 q2
              clear d0 d1 d2 d3 e0 e1 e2 e3 x1 xp8 x2 xp2 r10 b10 b9 KX hw10 later R8 R10 hda hdb
              refine wp_region_quiet_below (by kernel_rfl) (by kernel_rfl) ?_
              repeat (go_big_quiet_step (first | with_reducible exact q1 _ _ | with_reducible exact q2 _ _))
              refine wpQuiet_nil ?_
              intro _ hw'
              obtain ⟨⟨dq, osq⟩, hw''⟩ := hw'
              subst hw''
              have H11 := Lib.hid (H10.out.trans ((below_regrown w10 dq osq).mono H10.out.size))
              have xa := X2.out dq osq
              have xb := XP2.out dq osq
              clear q1 q2 y0 y1 y2 y3 z0 z1 z2 z3 p0 p1 X2 XP2
              generalize grow (redrawn w10 dq) osq = w11 at *
              go_upto_region 17 with fail
              by_cases hab : da < db
              · have e1 : decide (db < da) = false := decide_eq_false (by omega)
                have e2 : (da == db) = false := by rw [beq_eq_false_iff_ne]; omega
                clear HO hab
                go_quiet (fail)
                have H12 := Lib.hid (fun j => H11.out.trans (Below.mono (show Below w11.heap.size w11 (w11.drewN j) from ⟨rfl, rfl, rfl, Nat.le_refl _, fun _ _ => rfl⟩) H11.out.size))
                go_wp2
                go_roundw
                case rel => exact ⟨k + 1, by omega, by go_num, Lib.hid (H12.out _)⟩
                case measure => simp [intOf]; omega
              · obtain ⟨rfl, hle⟩ : da = db ∧ Op.bytesLess p y = true := by
                  rcases HO.out with h | h
                  · exact absurd h hab
                  · exact h
                have e1 : decide (da < da) = false := decide_eq_false (by omega)
                have e2 : (da == da) = true := by simp
                clear HO hab
                go_quiet (fail)
                have H12 := Lib.hid (fun j => H11.out.trans (Below.mono (show Below w11.heap.size w11 (w11.drewN j) from ⟨rfl, rfl, rfl, Nat.le_refl _, fun _ _ => rfl⟩) H11.out.size))
                go_wp2
                go_roundw
                case rel => exact ⟨k + 1, by omega, by go_num, Lib.hid (H12.out _)⟩
                case measure => simp [intOf]; omega
            · have hz : ((k : Int) == 0) = true := by rw [beq_iff_eq]; omega
              clear PRE LT
              go_wp2
              go_roundw
              case rel => exact ⟨k + 1, by omega, by go_num, H8⟩
              case measure => simp [intOf]; omega
          · obtain rfl : n2 = k := by omega
            have HX7 := Lib.hid (HX6.out.below HK.out)
            have RP7 := Lib.hid (RP6.out.below HK.out RP6.out.inside)
            have B9 := Lib.hid (B8.out.trans (HK.out.mono B8.out.size))
            have I7 := Lib.hid ((I6.out.below HK.out (Nat.le_refl _)).more HK.out.size)
            have HA7 := Lib.hid ((HA6.out.below HK.out (Nat.le_refl _)).more HK.out.size)
            have hn80 : (n : Int) ≤ 80 := by have := N80.out; omega
            clear I6 HX6 RP6 B8 HK HA6
            obtain ⟨v0, rfl⟩ : ∃ v, v = wr := ⟨_, rfl⟩
            go_wp2_with fail
            go_loopw [20] (fun i wz => ∃ j : Nat, j ≤ n ∧ i = .int .i64 j ∧ Hid (Below v0.heap.size v0 wz)) (fun i _ => n - (intOf i).toNat)
            case atStart => exact ⟨0, by omega, rfl, Lib.hid (Below.refl _ _)⟩
            case round =>
              obtain ⟨j, hj, rfl, HK⟩ := hrel
              by_cases hlj : j < n
              · have hkl : j < l.length := by rw [HN.out]; exact hlj
                have hlt2 : (j : Int) < (n : Int) := by omega
                obtain ⟨g1, o1, rfl, hg1, e0, x0, e2, e3, e4, e5⟩ := (HA7.out.below HK.out (Nat.le_refl _)).at_ hkl
                have hy := IDS.out _ (List.getElem_mem hkl)
                clear e0 e2 e3 e4 e5
                have KX := Lib.hid (boxA (HX7.out.below HK.out) l[j].id (by omega))
                generalize l[j].id = y at *
                obtain ⟨hs, hhs⟩ : ∃ p, decide (y ∈ L2) = p := ⟨_, rfl⟩
                have KH := Lib.hid (fun (w' : World) (hb : Below v0.heap.size v0 w') => has_any ao2 n2 c2 L2 y w' HN2.out ((I7.out.below hb (Nat.le_refl _)).more hb.size) C2.out (by have := L80.out; omega))
                rw [hhs] at KH
                have HS := Lib.hid hhs
                clear hkl hy hhs
                cases hbo : boxS y S with
                | none =>
                  rw [hbo] at KX
                  unfold vB ptr at KX
                  dsimp only [Option.getD_none, Option.isSome_none, zB] at KX
                  go_wp2_with fail
                  refine KX.out.mono ?_
                  rintro e w7 ⟨rfl, b7⟩
                  go_upto_region 23 with fail
                  have H8 := Lib.hid (((HK.out.trans (b7.mono HK.out.size)).alloc (Nat.le_trans HK.out.size b7.size) (.cells #[.int .i64 0, .int .i64 0, .int .i64 0, .int .i64 0] 26)))
                  clear KX b7 hbo
                  go_wp2
                  go_roundw
                  case rel => exact ⟨j + 1, by omega, by go_num, H8⟩
                  case measure => simp [intOf]; omega
                | some own =>
                  rw [hbo] at KX
                  unfold vB ptr at KX
                  dsimp only [Option.getD_some, Option.isSome_some] at KX
                  have HBO := Lib.hid hbo
                  clear hbo
                  go_wp2_with fail
                  refine KX.out.mono ?_
                  rintro e w7 ⟨rfl, b7⟩
                  go_upto_region 23 with fail
                  obtain ⟨w8, hw8, b8, r8⟩ := box_made w7 26 own
                  rw [hw8]
                  have H8 := Lib.hid ((HK.out.trans (b7.mono HK.out.size)).trans (b8.mono (Nat.le_trans HK.out.size b7.size)))
                  have R8 := Lib.hid r8
                  have x1 : w8.cell? ⟨g1, o1 + j * 6 + 1, none⟩ = some (.string ⟨y.toArray⟩) := (b8.cell (p := ⟨g1, _, none⟩) (Nat.lt_of_lt_of_le hg1 (Nat.le_trans HK.out.size b7.size))).trans ((b7.cell (p := ⟨g1, _, none⟩) (Nat.lt_of_lt_of_le hg1 HK.out.size)).trans x0)
                  have KH8 := Lib.hid (KH.out w8 H8.out)
                  clear x0 r8 b8 b7 KX hw8 KH
                  go_wp2_with fail
                  refine KH8.out.mono ?_
                  rintro e w9 ⟨rfl, b9⟩
                  have H9 := Lib.hid (H8.out.trans (b9.mono H8.out.size))
                  have R9 := Lib.hid (R8.out.below b9 R8.out.inside)
                  clear KH8 b9 R8 x1
                  cases hs with
                  | true =>
                    go_wp2
                    go_roundw
                    case rel => exact ⟨j + 1, by omega, by go_num, H9⟩
                    case measure => simp [intOf]; omega
                  | false =>
                    obtain ⟨u1, u2⟩ := NU.out y own HBO.out (of_decide_eq_false HS.out)
                    have d1 : decide ((n2 : Int) < b) = false := decide_eq_false (by rw [HN2.out] at u1; omega)
                    have d1' : ¬ (n2 : Int) < b := of_decide_eq_false d1
                    have U2 := Lib.hid u2
                    clear u1 u2
                    by_cases hz0 : 0 < n2
                    · have hz1 : (0 : Int) < (n2 : Int) := by omega
                      have hlast : L2.length - 1 < L2.length := by rw [HN2.out]; omega
                      obtain ⟨own2, hb2, hv2⟩ := NA.out (L2.length - 1) hlast
                      have hord := U2.out (by rw [HN2.out]; exact hz0) own2 hb2
                      obtain ⟨g2, o2, rfl, hg2, x2⟩ := (I7.out.below H9.out (Nat.le_refl _)).at_ hlast
                      have hlen : (L2[L2.length - 1]'hlast).length ≤ 1000 := by
                        obtain ⟨z, hz, e⟩ := box_id hb2
                        rw [← e]
                        exact HX7.out.ids z hz
                      have KX := Lib.hid (boxA (HX7.out.below H9.out) (L2[L2.length - 1]'hlast) hlen)
                      rw [hb2] at KX
                      unfold vB ptr at KX
                      dsimp only [Option.getD_some, Option.isSome_some] at KX
                      rw [show o2 + (L2.length - 1) = o2 + (n2 - 1) by rw [HN2.out]] at x2
                      generalize L2[L2.length - 1]'hlast = y2 at *
                      have hk3 : wrap64 ((n2 : Int) - 1) = ((n2 - 1 : Nat) : Int) := by unfold wrap64; omega
                      have hk1 : IntKind.i64.wrap ((n2 : Int) - 1) = ((n2 - 1 : Nat) : Int) := by
                        rw [IntWalk.i64_in _ (by omega)]
                        omega
                      have hk2 : ((n2 - 1 : Nat) : Int) < (n2 : Int) := by omega
                      have V1 := Lib.hid (NV.out _ _ HBO.out)
                      have V2 := Lib.hid hv2
                      have HO := Lib.hid hord
                      clear hb2 hv2 hord hlen hlast U2 H8 HK
                      go_wp2_with fail
                      refine KX.out.mono ?_
                      rintro e w11 ⟨rfl, b11⟩
                      go_upto_region 28 with fail
                      obtain ⟨w12, hw12, b12, r12⟩ := box_made w11 26 own2
                      rw [hw12]
                      have H12 := Lib.hid ((H9.out.trans (b11.mono H9.out.size)).trans (b12.mono (Nat.le_trans H9.out.size b11.size)))
                      have R12 := Lib.hid ((R9.out.below b11 R9.out.inside).below b12 (R9.out.below b11 R9.out.inside).inside)
                      have RPX := Lib.hid (RP7.out.below H12.out RP7.out.inside)
                      obtain ⟨d0, d1a, d2, d3⟩ := box_facts R12.out
                      obtain ⟨e0, e1, e2, e3⟩ := box_facts r12
                      have p0 := cell_regrown (RPX.out.get 0)
                      have p1 := cell_regrown (RPX.out.get 1)
                      have y0 := cell_regrown d0
                      have y1 := cell_regrown d1a
                      have y2a := cell_regrown d2
                      have y3 := cell_regrown d3
                      have z0 := cell_regrown e0
                      have z1 := cell_regrown e1
                      have z2 := cell_regrown e2
                      have z3 := cell_regrown e3
                      obtain ⟨da, hda⟩ : ∃ v, sqN own2 px py = v := ⟨_, rfl⟩
                      obtain ⟨db, hdb⟩ : ∃ v, sqN own px py = v := ⟨_, rfl⟩
                      have q1 := (refDistance_any V2.out VP.out).quiet w12
                      have q2 := (refDistance_any V1.out VP.out).quiet w12
                      rw [hda] at HO q1
                      rw [hdb] at HO q2
                      unfold vB vP at q1 q2
                      have dd : decide (db < da) = false := decide_eq_false (by have := HO.out; omega)
                      clear d0 d1a d2 d3 e0 e1 e2 e3 r12 b11 b12 KX hw12 R9 R12 hda hdb x2 HO
                      refine wp_region_quiet_below (by kernel_rfl) (by kernel_rfl) ?_
                      repeat (go_big_quiet_step (first | with_reducible exact q1 _ _ | with_reducible exact q2 _ _))
                      refine wpQuiet_nil ?_
                      intro _ hw'
                      obtain ⟨⟨dq, osq⟩, hw''⟩ := hw'
                      subst hw''
                      have H13 := Lib.hid (H12.out.trans ((below_regrown w12 dq osq).mono H12.out.size))
                      clear q1 q2 y0 y1 y2a y3 z0 z1 z2 z3 p0 p1
                      go_wp2
                      go_roundw
                      case rel => exact ⟨j + 1, by omega, by go_num, H13⟩
                      case measure => simp [intOf]; omega
                    · have hz1 : ¬ (0 : Int) < (n2 : Int) := by omega
                      go_wp2
                      go_roundw
                      case rel => exact ⟨j + 1, by omega, by go_num, H9⟩
                      case measure => simp [intOf]; omega
              · obtain rfl : n = j := by omega
                go_wp2
                go_ret
                exact ⟨rfl, B9.out.trans (HK.out.mono B9.out.size)⟩
end Go.Proofs.Yteghhfkllclghaa.Ix
