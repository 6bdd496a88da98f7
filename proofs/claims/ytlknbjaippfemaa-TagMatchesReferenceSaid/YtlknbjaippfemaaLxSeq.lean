/- lexer: the range function tokens: its contract. -/
import Derived.Test.YtlknbjaippfemaaLxSeqA
namespace Go.Proofs.Ytlknbjaippfemaa.Lx
open Go.RowKit Go.Sort Go.Shelf
attribute [local go_sem] Oper.semAt_some
set_option maxRecDepth 100000 in
set_option maxHeartbeats 600000 in
theorem tokens_stops (m : Nat) (hm1 : 1 ≤ m) (b1 : Nat) (s : ByteArray) (w : World) (h1 : IsRow w b1 9 #[.string s]) (hm : s.size ≤ 20000) :
    Rule.SeqT Fence.wide m Try.prog 103 62 #[.pointer (some ⟨b1, 0, none⟩)] encE KpR (fun xs => xs = evL s.data.toList) (fun pre => pre <+: evL s.data.toList) (evL s.data.toList).length w := fun y J Jx W hW hJ hJx hY h0 => by
  have R1 : IsRow W b1 9 #[.string s] := h1.below hW h1.inside
  have HR1 := Lib.hid R1
  have hb1 := R1.inside
  have c0 : W.cell? ⟨b1, 0, none⟩ = some (.string s) := R1.get 0
  have HJ := Lib.hid hJ
  have HJx := Lib.hid hJx
  have HY := Lib.hid hY
  have H0 := Lib.hid h0
  clear h1 hW R1 hJ hJx hY h0
  have hz := zero_rd
  have TA := fun W' (h : Below W.heap.size W W') => classes_any W'
  have HI := Lib.hid (show (Try.prog.info? 103).map (·.size) = some (rowR s 0).size by rw [rowR_size]; exact rd_info)
  have HO := Lib.hid (rowR_one s 0)
  have HZ := Lib.hid (show zerR.size = (rowR s 0).size by rw [rowR_size, zerR_size])
  have KG := Lib.hid (show ∀ W', Below W.heap.size W W' → W'.cell? ⟨b1, 0, none⟩ = some (.string s) from fun W' h => (h.cell (p := ⟨b1, 0, none⟩) hb1).trans c0)
  refine callsIn_of_wp Try.func62 rfl trivial ?_ rfl
  simp only [Try.ntmps62, List.size_toArray, List.length_cons, List.length_nil, Nat.reduceAdd, Nat.reduceSub, Array.replicate_succ, Array.replicate_zero, List.push_toArray, List.append_toArray, List.nil_append, List.cons_append]
  gi_wp2_with fail
  rename_i K1 hK1
  have FIN : Hid (∀ (X : World) (g : Nat), Hid (Below W.heap.size W X) → Hid (Rdr X g s 0) → Hid (W.heap.size ≤ g) → K1 { tmps := #[.func (.yield y) #[] #[], .pointer (some ⟨b1, 0, none⟩), undef, .pointer (some ⟨g, 0, none⟩), undef, undef, .string s, .agg tabC, .agg (rowR s 0), undef, undef, undef, undef, undef, undef, undef, undef, undef, undef, undef, undef, undef, undef, undef, undef, undef, undef, undef, undef], defers := [] } X) := by
    refine Lib.hid fun X g BX RX hge => ?_
    refine hK1 _ _ ?_
    clear hK1 c0 hz TA HI HO HZ KG
    have bx := hge.out
    have X1 := Lib.hid (HR1.out.below BX.out HR1.out.inside)
    have J1 := Lib.hid (lets_none HJ.out H0.out (grown_of_below BX.out none))
    have LE := Lib.hid (gp_le false s.data.toList)
    have EL : Hid (([] : List (Tk × Int)) ++ evs (gp false s.data.toList) (s.data.toList.drop (gp false s.data.toList)) = evL s.data.toList) := Lib.hid rfl
    obtain ⟨L, hL⟩ : ∃ L, evL s.data.toList = L := ⟨_, rfl⟩
    rw [hL] at HY EL
    have HL := Lib.hid hL
    clear hL H0
    gi_wp2_with ((refine ⟨trivial, ?_⟩; gi_at_call 64; refine (callsIn_wide.2 (gaps_any g s 0 _ RX.out (by omega) hm)).mono ?_; rintro e X2 ⟨rfl, hg2, R2⟩))
    have B2 := Lib.hid (BX.out.trans (below_grown hg2 hge.out BX.out.size))
    have hX2 := RX.out.inside
    have X2b : Hid (IsRow X2 b1 9 #[.string s]) := Lib.hid (HR1.out.below B2.out HR1.out.inside)
    have J2 := Lib.hid (lets_row HJ.out J1.out hg2 hge.out RX.out)
    rw [List.drop_zero, Nat.zero_add] at R2
    have HR2 := Lib.hid R2
    clear hg2 R2 J1 X1 RX BX B2
    gi_loopw [] (fun wr => ∃ (i : Nat) (pre : List (Tk × Int)), i ≤ s.size ∧ Hid (Rdr wr g s i) ∧ Hid (IsRow wr b1 9 #[.string s]) ∧ Hid (J pre wr) ∧ Hid (pre ++ evs i (s.data.toList.drop i) = L)) (fun wr => s.size - (intOf ((wr.cell? ⟨g, 1, none⟩).getD undef)).toNat)
    case atStart => exact ⟨gp false s.data.toList, [], by have := LE.out; rw [len_data] at this; exact this, HR2, X2b, J2, EL⟩
    case round =>
      clear HR2 X2b J2 EL LE HR1
      obtain ⟨i, pre, hi, HR, HB, HP, HE⟩ := hrel
      have c1 := HR.out.at_
      have HC1 := Lib.hid c1
      have cb : wr.cell? ⟨b1, 0, none⟩ = some (.string s) := HB.out.get 0
      by_cases hlt : i < s.size
      · have hne : s.data.toList.drop i ≠ [] := by rw [drop_at s i hlt]; simp
        have KT := token_any g s i
        cases ho : nx (s.data.toList.drop i) with
        | tok k t n =>
          have hw := nx_wr ho
          have hwl : n ≤ s.size - i := by have := hw.2.1; rw [List.length_drop, len_data] at this; exact this
          have hw1 := hw.1
          have HE2 := Lib.hid (show pre ++ (⟨k, t, i⟩, 0) :: evs (i + n + gp false (s.data.toList.drop (i + n))) (s.data.toList.drop (i + n + gp false (s.data.toList.drop (i + n)))) = L by
            have := HE.out; rw [evs_tok ho, List.drop_drop, List.drop_drop] at this; exact this)
          have hgl := gp_le false (s.data.toList.drop (i + n))
          rw [List.length_drop, len_data] at hgl
          have KT2 : ∀ w, Rdr w g s i → Calls Try.prog 65 #[.pointer (some ⟨g, 0, none⟩)] w fun e w' => e = .returned (.tuple #[.agg #[.int .i64 k, .string ⟨t.toArray⟩, .int .i64 (i : Int)], .int .i64 0]) ∧ w.grownBy w' (some g) ∧ Rdr w' g s (i + n) := fun w h => by
            have := KT w h hlt hm
            rw [ho] at this
            exact this
          have hlen : pre.length < L.length := by rw [← HE2.out]; simp
          have HE3 : Hid ((pre ++ [((⟨k, t, i⟩ : Tk), (0 : Int))]) ++ evs (i + n + gp false (s.data.toList.drop (i + n))) (s.data.toList.drop (i + n + gp false (s.data.toList.drop (i + n)))) = L) := Lib.hid (by rw [← HE2.out]; simp)
          clear KT ho hw hne HE HE2
          gi_wp2_with ((refine ⟨trivial, ?_⟩; gi_at_call 65; refine (callsIn_wide.2 (KT2 _ HR.out)).mono ?_; rintro e W2 ⟨rfl, hg2, R2⟩; have J2 := lets_row HJ.out HP.out hg2 bx HR.out; have J3 := lets_none HJ.out J2 (grown_of_below (alloc1 W2 (.cells #[.int .i64 k, .string ⟨t.toArray⟩, .int .i64 (i : Int)] 75)) none); obtain ⟨fn, tmps, assign, body, hy, hR⟩ := HY.out pre (⟨k, t, i⟩, 0) (W2.alloc (.cells #[.int .i64 k, .string ⟨t.toArray⟩, .int .i64 (i : Int)] 75)) J3 hlen; dsimp only [encE] at hy))
          have R3 := Lib.hid (Rdr.below R2 (alloc1 W2 (.cells #[.int .i64 k, .string ⟨t.toArray⟩, .int .i64 (i : Int)] 75)))
          have B3 := Lib.hid ((HB.out.grown hg2 (fun e => by injection e with e; omega)).later (.cells #[.int .i64 k, .string ⟨t.toArray⟩, .int .i64 (i : Int)] 75))
          clear c1 cb HR HB HP J2 J3 R2 hg2 KT2 hlen hy
          refine hR.mono ?_
          clear hR
          rintro e W3 (⟨rfl, hJ3, hK3⟩ | ⟨rfl, hJx3⟩)
          · have R4 := Lib.hid (show Rdr W3 g s (i + n) from hK3.row R3.out (.inl rfl))
            have B4 := Lib.hid (hK3.row B3.out (.inr rfl))
            have J4 := Lib.hid hJ3
            clear hJ3 hK3 R3 B3
            gi_wp2_with ((refine ⟨trivial, ?_⟩; gi_at_call 64; refine (callsIn_wide.2 (gaps_any g s (i + n) _ R4.out (by omega) hm)).mono ?_; rintro e W5 ⟨rfl, hg5, R5⟩))
            have J5 := Lib.hid (lets_row HJ.out J4.out hg5 bx R4.out)
            have B5 := Lib.hid (B4.out.grown hg5 (fun e => by injection e with e; omega))
            have R5h := Lib.hid R5
            have d1 := R5.at_
            clear hg5 R5 J4 B4 R4
            go_roundw
            case rel => exact ⟨i + n + gp false (s.data.toList.drop (i + n)), _, by omega, R5h, B5, J5, HE3⟩
            case measure => rw [d1, HC1.out]; simp [intOf]; omega
          · clear R3 B3
            gi_wp2
            refine bodyPost_ret (results_none rfl _ _ _) rfl ?_
            exact ⟨⟨_, rfl⟩, .inr ⟨_, ⟨_, HE3.out.trans HL.out.symm⟩, hJx3⟩⟩
        | bad e =>
          have HE2 := Lib.hid (show pre ++ [((⟨0, [], i⟩ : Tk), e)] = L by
            have := HE.out; rw [evs_bad hne ho] at this; exact this)
          have he := nx_err hne ho
          have he0 : (e == 0) = false := by rw [beq_eq_false_iff_ne]; omega
          have he1 : (e != 0) = true := by simp [bne, he0]
          have KT2 : ∀ w, Rdr w g s i → Calls Try.prog 65 #[.pointer (some ⟨g, 0, none⟩)] w fun x w' => x = .returned (.tuple #[.agg #[.int .i64 0, .string ⟨([] : List UInt8).toArray⟩, .int .i64 (i : Int)], .int .i64 e]) ∧ w.grownBy w' (some g) := fun w h => by
            have := KT w h hlt hm
            rw [ho] at this
            exact this
          have hlen : pre.length < L.length := by rw [← HE2.out]; simp
          clear KT ho hne HE he he0
          gi_wp2_with ((refine ⟨trivial, ?_⟩; gi_at_call 65; refine (callsIn_wide.2 (KT2 _ HR.out)).mono ?_; rintro x W2 ⟨rfl, hg2⟩; have J2 := lets_row HJ.out HP.out hg2 bx HR.out; have J3 := lets_none HJ.out J2 (grown_of_below (alloc1 W2 (.cells #[.int .i64 0, .string ⟨([] : List UInt8).toArray⟩, .int .i64 (i : Int)] 75)) none); obtain ⟨fn, tmps, assign, body, hy, hR⟩ := HY.out pre (⟨0, [], i⟩, e) (W2.alloc (.cells #[.int .i64 0, .string ⟨([] : List UInt8).toArray⟩, .int .i64 (i : Int)] 75)) J3 hlen; dsimp only [encE] at hy))
          clear c1 cb HR HB HP J2 J3 hg2 KT2 hlen hy
          refine hR.mono ?_
          clear hR
          rintro x W3 (⟨rfl, hJ3, hK3⟩ | ⟨rfl, hJx3⟩)
          · have J4 := Lib.hid hJ3
            rw [HE2.out] at J4
            clear hJ3 hK3
            gi_wp2
            refine bodyPost_ret (results_none rfl _ _ _) rfl ?_
            exact ⟨⟨_, rfl⟩, .inl ⟨_, HL.out.symm, J4.out⟩⟩
          · gi_wp2
            refine bodyPost_ret (results_none rfl _ _ _) rfl ?_
            exact ⟨⟨_, rfl⟩, .inr ⟨_, ⟨[], by rw [List.append_nil, HE2.out, HL.out]⟩, hJx3⟩⟩
      · obtain rfl : i = s.size := by omega
        have HE2 := HE.out
        rw [List.drop_of_length_le (by rw [len_data]; exact Nat.le_refl _), evs_nil, List.append_nil] at HE2
        have HP2 := Lib.hid HP.out
        rw [HE2] at HP2
        clear HE HE2 HP HR HB
        gi_wp2
        go_end0
        exact ⟨⟨_, rfl⟩, .inl ⟨_, HL.out.symm, HP2.out⟩⟩
  clear hK1
  refine wpIn_wide.2 ?_
  refine wp_region_held_drew (S := fun w' => w'.cell? ⟨b1, 0, none⟩ = some (.string s)) (by kernel_rfl) c0 (fun hHeld => ?_)
  refine wpAnyH_take (i := 0) (oi := _) (v := .string s) rfl (by kernel_rfl) (by kernel_rfl) (by kernel_rfl) (fun _ _ _ h => h) (Or.inl ⟨by rfl, ?_⟩) hHeld ?_
  · intro w hSw
    go_simp
  try simp only [Act.put, List.setIfInBounds_toArray]
  refine wpAnyH_ready (rs := [1, 3]) (by kernel_rfl) (by simp) ?_
  refine AllReadyH.cons (o := _) rfl (fun K hK => ?_) (AllReadyH.cons (o := _) rfl (fun K hK => ?_) AllReadyH.nil)
  · go_simp
    refine (TA _ (drew_below W)).mono ?_
    rintro e X1 ⟨rfl, ha⟩
    have B1 := (drew_below W).trans (ha.mono (drew_below W).size)
    have KS := KG.out X1 B1
    dsimp only
    refine hK.out _ _ KS (fun hHeld => ?_)
    clear hK K
    try simp only [Act.put, List.setIfInBounds_toArray]
    refine wpAnyH_take (i := 2) (oi := _) (v := .agg (rowR s 0)) rfl (by kernel_rfl) (by kernel_rfl) (by kernel_rfl) (fun _ _ _ h => h) (Or.inl ⟨wanted_free rfl, fun w _ => exec_build _ _ _ _ _ _ _ _ _ w [(0, .string s), (2, .agg tabC)] (by simp [Act.eval]) (built_rd s)⟩) hHeld ?_
    try simp only [Act.put, List.setIfInBounds_toArray]
    refine wpAnyH_ready (rs := [3]) (by kernel_rfl) (by simp) ?_
    refine AllReadyH.cons (o := _) rfl (fun K hK => ?_) AllReadyH.nil
    go_simp
    obtain ⟨X2, hX2⟩ : ∃ X2, X1.alloc (.cells zerR 103) = X2 := ⟨_, rfl⟩
    obtain ⟨g, hg⟩ : ∃ g, X1.heap.size = g := ⟨_, rfl⟩
    have R2 : Hid (IsRow X2 g 103 zerR) := Lib.hid (by rw [← hX2, ← hg]; exact IsRow.made _ _ _)
    have B2 : Hid (Below W.heap.size W X2) := Lib.hid (by rw [← hX2]; exact B1.alloc B1.size _)
    have hge : Hid (W.heap.size ≤ g) := Lib.hid (by rw [← hg]; exact B1.size)
    have KS2 := KG.out _ B2.out
    rw [hX2, hg]
    clear hX2 hg
    refine hK.out _ _ KS2 (fun hHeld => ?_)
    clear hK K hHeld KS2
    try simp only [Act.put, List.setIfInBounds_toArray]
    refine wpAnyH_ready (rs := [4]) (by kernel_rfl) (by simp) ?_
    refine AllReadyH.cons (o := _) rfl (fun K hK => ?_) AllReadyH.nil
    have hst := store_rd (s := s) R2.out
    have hsz := rowR_size s 0
    go_simp
    have R3 : Hid (Rdr (X2.setRow g (rowR s 0)) g s 0) := Lib.hid (show IsRow (X2.setRow g (rowR s 0)) g 103 (rowR s 0) from setRow_heap _ _ _ _ _ _ R2.out)
    have B3 := Lib.hid (below_setRow B2.out hge.out (rowR s 0))
    have KS3 := KG.out _ B3.out
    refine hK.out _ _ KS3 (fun hHeld => ?_)
    clear hK K
    refine wpAnyH_done (by kernel_rfl) ?_ _
    exact FIN.out _ _ B3 R3 hge
  · go_simp
    obtain ⟨X1, hX1⟩ : ∃ X1, (W.alloc (.cells zerR 103)).drew = X1 := ⟨_, rfl⟩
    obtain ⟨g, hg⟩ : ∃ g, W.heap.size = g := ⟨_, rfl⟩
    have B1 : Hid (Below W.heap.size W X1) := Lib.hid (by rw [← hX1]; exact (alloc1 W _).trans ((drew_below _).mono (by simp)))
    have R1 : Hid (IsRow X1 g 103 zerR) := Lib.hid (by rw [← hX1, ← hg]; exact IsRow.made _ _ _)
    have hge : Hid (W.heap.size ≤ g) := Lib.hid (by rw [← hg]; exact Nat.le_refl _)
    have KS1 := KG.out _ B1.out
    rw [hX1, hg]
    clear hX1 hg
    refine hK.out _ _ KS1 (fun hHeld => ?_)
    clear hK K
    try simp only [Act.put, List.setIfInBounds_toArray]
    refine wpAnyH_ready (rs := [1]) (by kernel_rfl) (by simp) ?_
    refine AllReadyH.cons (o := _) rfl (fun K hK => ?_) AllReadyH.nil
    go_simp
    refine (TA _ B1.out).mono ?_
    rintro e X2 ⟨rfl, ha⟩
    have B2 := Lib.hid (B1.out.trans (ha.mono B1.out.size))
    have R2 := Lib.hid (R1.out.below ha R1.out.inside)
    have KS2 := KG.out _ B2.out
    dsimp only
    refine hK.out _ _ KS2 (fun hHeld => ?_)
    clear hK K ha
    try simp only [Act.put, List.setIfInBounds_toArray]
    refine wpAnyH_take (i := 2) (oi := _) (v := .agg (rowR s 0)) rfl (by kernel_rfl) (by kernel_rfl) (by kernel_rfl) (fun _ _ _ h => h) (Or.inl ⟨wanted_free rfl, fun w _ => exec_build _ _ _ _ _ _ _ _ _ w [(0, .string s), (2, .agg tabC)] (by simp [Act.eval]) (built_rd s)⟩) hHeld ?_
    try simp only [Act.put, List.setIfInBounds_toArray]
    refine wpAnyH_ready (rs := [4]) (by kernel_rfl) (by simp) ?_
    refine AllReadyH.cons (o := _) rfl (fun K hK => ?_) AllReadyH.nil
    have hst := store_rd (s := s) R2.out
    have hsz := rowR_size s 0
    go_simp
    have R3 : Hid (Rdr (X2.setRow g (rowR s 0)) g s 0) := Lib.hid (show IsRow (X2.setRow g (rowR s 0)) g 103 (rowR s 0) from setRow_heap _ _ _ _ _ _ R2.out)
    have B3 := Lib.hid (below_setRow B2.out hge.out (rowR s 0))
    have KS3 := KG.out _ B3.out
    refine hK.out _ _ KS3 (fun hHeld => ?_)
    clear hK K
    refine wpAnyH_done (by kernel_rfl) ?_ _
    exact FIN.out _ _ B3 R3 hge
end Go.Proofs.Ytlknbjaippfemaa.Lx
