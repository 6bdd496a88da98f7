/- Merged: LxSeq, LxOwn, HrMarks. -/
import Derived.Test.YtgbkjdpjilldmaaGreatDoorHz7
import Derived.Deep.AppendLies
import Derived.Deep.AppendSrc
import Derived.RangeFuncLeaves
import Derived.RangeFuncNested
import Derived.RangeFuncRecord
/- lexer: the range function tokens: its contract. -/
namespace Go.Proofs.YtgbkjdpjilldmaaGreatDoor.Lx
open Go.RowKit Go.Sort Go.Shelf
attribute [local go_sem] Oper.semAt_some
set_option maxRecDepth 100000 in
set_option maxHeartbeats 600000 in
theorem tokens_stops (m : Nat) (hm1 : 1 ≤ m) (b1 : Nat) (s : ByteArray) (w : World) (h1 : IsRow w b1 9 #[.string s]) (hm : s.size ≤ 20000) :
    Rule.SeqT Fence.wide m Tryz.prog 143 88 #[.pointer (some ⟨b1, 0, none⟩)] encE KpR (fun xs => xs = evL s.data.toList) (fun pre => pre <+: evL s.data.toList) (evL s.data.toList).length w := fun y J Jx W hW hJ hJx hY h0 => by
  have R1 : IsRow W b1 9 #[.string s] := h1.below hW h1.inside
  have HR1 := Lib.hid R1
  have hb1 := R1.inside
  have c0 : W.cell? ⟨b1, 0, none⟩ = some (.string s) := R1.get 0
  have HJ := Lib.hid hJ
  have HJx := Lib.hid hJx
  have HY := Lib.hid hY
  have H0 := Lib.hid h0
  clear h1 hW R1 hJ hJx hY h0
  have hz := zero_rd
  have TA := fun W' (h : Below W.heap.size W W') => classes_any W'
  have HI := Lib.hid (show (Tryz.prog.info? 143).map (·.size) = some (rowR s 0).size by rw [rowR_size]; exact rd_info)
  have HO := Lib.hid (rowR_one s 0)
  have HZ := Lib.hid (show zerR.size = (rowR s 0).size by rw [rowR_size, zerR_size])
  have KG := Lib.hid (show ∀ W', Below W.heap.size W W' → W'.cell? ⟨b1, 0, none⟩ = some (.string s) from fun W' h => (h.cell (p := ⟨b1, 0, none⟩) hb1).trans c0)
  refine callsIn_of_wp Tryz.func88 rfl trivial ?_ rfl
  simp only [Tryz.ntmps88, List.size_toArray, List.length_cons, List.length_nil, Nat.reduceAdd, Nat.reduceSub, Array.replicate_succ, Array.replicate_zero, List.push_toArray, List.append_toArray, List.nil_append, List.cons_append]
  gi_wp2_with fail
  rename_i K1 hK1
  have FIN : Hid (∀ (X : World) (g : Nat), Hid (Below W.heap.size W X) → Hid (Rdr X g s 0) → Hid (W.heap.size ≤ g) → K1 { tmps := #[.func (.yield y) #[] #[], .pointer (some ⟨b1, 0, none⟩), undef, .pointer (some ⟨g, 0, none⟩), undef, undef, .string s, .agg tabC, .agg (rowR s 0), undef, undef, undef, undef, undef, undef, undef, undef, undef, undef, undef, undef, undef, undef, undef, undef, undef, undef, undef, undef], defers := [] } X) := by
    refine Lib.hid fun X g BX RX hge => ?_
    refine hK1 _ _ ?_
    clear hK1 c0 hz TA HI HO HZ KG
    have bx := hge.out
    have X1 := Lib.hid (HR1.out.below BX.out HR1.out.inside)
    have J1 := Lib.hid (lets_none HJ.out H0.out (grown_of_below BX.out none))
    have LE := Lib.hid (gp_le false s.data.toList)
    have EL : Hid (([] : List (Tk × Int)) ++ evs (gp false s.data.toList) (s.data.toList.drop (gp false s.data.toList)) = evL s.data.toList) := Lib.hid rfl
    obtain ⟨L, hL⟩ : ∃ L, evL s.data.toList = L := ⟨_, rfl⟩
    rw [hL] at HY EL
    have HL := Lib.hid hL
    clear hL H0
    gi_wp2_with ((refine ⟨trivial, ?_⟩; gi_at_call 90; refine (callsIn_wide.2 (gaps_any g s 0 _ RX.out (by omega) hm)).mono ?_; rintro e X2 ⟨rfl, hg2, R2⟩))
    have B2 := Lib.hid (BX.out.trans (below_grown hg2 hge.out BX.out.size))
    have hX2 := RX.out.inside
    have X2b : Hid (IsRow X2 b1 9 #[.string s]) := Lib.hid (HR1.out.below B2.out HR1.out.inside)
    have J2 := Lib.hid (lets_row HJ.out J1.out hg2 hge.out RX.out)
    rw [List.drop_zero, Nat.zero_add] at R2
    have HR2 := Lib.hid R2
    clear hg2 R2 J1 X1 RX BX B2
    gi_loopw [] (fun wr => ∃ (i : Nat) (pre : List (Tk × Int)), i ≤ s.size ∧ Hid (Rdr wr g s i) ∧ Hid (IsRow wr b1 9 #[.string s]) ∧ Hid (J pre wr) ∧ Hid (pre ++ evs i (s.data.toList.drop i) = L)) (fun wr => s.size - (intOf ((wr.cell? ⟨g, 1, none⟩).getD undef)).toNat)
    case atStart => exact ⟨gp false s.data.toList, [], by have := LE.out; rw [len_data] at this; exact this, HR2, X2b, J2, EL⟩
    case round =>
      clear HR2 X2b J2 EL LE HR1
      obtain ⟨i, pre, hi, HR, HB, HP, HE⟩ := hrel
      have c1 := HR.out.at_
      have HC1 := Lib.hid c1
      have cb : wr.cell? ⟨b1, 0, none⟩ = some (.string s) := HB.out.get 0
      by_cases hlt : i < s.size
      · have hne : s.data.toList.drop i ≠ [] := by rw [drop_at s i hlt]; simp
        have KT := token_any g s i
        cases ho : nx (s.data.toList.drop i) with
        | tok k t n =>
          have hw := nx_wr ho
          have hwl : n ≤ s.size - i := by have := hw.2.1; rw [List.length_drop, len_data] at this; exact this
          have hw1 := hw.1
          have HE2 := Lib.hid (show pre ++ (⟨k, t, i⟩, 0) :: evs (i + n + gp false (s.data.toList.drop (i + n))) (s.data.toList.drop (i + n + gp false (s.data.toList.drop (i + n)))) = L by
            have := HE.out; rw [evs_tok ho, List.drop_drop, List.drop_drop] at this; exact this)
          have hgl := gp_le false (s.data.toList.drop (i + n))
          rw [List.length_drop, len_data] at hgl
          have KT2 : ∀ w, Rdr w g s i → Calls Tryz.prog 91 #[.pointer (some ⟨g, 0, none⟩)] w fun e w' => e = .returned (.tuple #[.agg #[.int .i64 k, .string ⟨t.toArray⟩, .int .i64 (i : Int)], .int .i64 0]) ∧ w.grownBy w' (some g) ∧ Rdr w' g s (i + n) := fun w h => by
            have := KT w h hlt hm
            rw [ho] at this
            exact this
          have hlen : pre.length < L.length := by rw [← HE2.out]; simp
          have HE3 : Hid ((pre ++ [((⟨k, t, i⟩ : Tk), (0 : Int))]) ++ evs (i + n + gp false (s.data.toList.drop (i + n))) (s.data.toList.drop (i + n + gp false (s.data.toList.drop (i + n)))) = L) := Lib.hid (by rw [← HE2.out]; simp)
          clear KT ho hw hne HE HE2
          gi_wp2_with ((refine ⟨trivial, ?_⟩; gi_at_call 91; refine (callsIn_wide.2 (KT2 _ HR.out)).mono ?_; rintro e W2 ⟨rfl, hg2, R2⟩; have J2 := lets_row HJ.out HP.out hg2 bx HR.out; have J3 := lets_none HJ.out J2 (grown_of_below (alloc1 W2 (.cells #[.int .i64 k, .string ⟨t.toArray⟩, .int .i64 (i : Int)] 108)) none); obtain ⟨fn, tmps, assign, body, hy, hR⟩ := HY.out pre (⟨k, t, i⟩, 0) (W2.alloc (.cells #[.int .i64 k, .string ⟨t.toArray⟩, .int .i64 (i : Int)] 108)) J3 hlen; dsimp only [encE] at hy))
          have R3 := Lib.hid (Rdr.below R2 (alloc1 W2 (.cells #[.int .i64 k, .string ⟨t.toArray⟩, .int .i64 (i : Int)] 108)))
          have B3 := Lib.hid ((HB.out.grown hg2 (fun e => by injection e with e; omega)).later (.cells #[.int .i64 k, .string ⟨t.toArray⟩, .int .i64 (i : Int)] 108))
          clear c1 cb HR HB HP J2 J3 R2 hg2 KT2 hlen hy
          refine hR.mono ?_
          clear hR
          rintro e W3 (⟨rfl, hJ3, hK3⟩ | ⟨rfl, hJx3⟩)
          · have R4 := Lib.hid (show Rdr W3 g s (i + n) from hK3.row R3.out (.inl rfl))
            have B4 := Lib.hid (hK3.row B3.out (.inr rfl))
            have J4 := Lib.hid hJ3
            clear hJ3 hK3 R3 B3
            gi_wp2_with ((refine ⟨trivial, ?_⟩; gi_at_call 90; refine (callsIn_wide.2 (gaps_any g s (i + n) _ R4.out (by omega) hm)).mono ?_; rintro e W5 ⟨rfl, hg5, R5⟩))
            have J5 := Lib.hid (lets_row HJ.out J4.out hg5 bx R4.out)
            have B5 := Lib.hid (B4.out.grown hg5 (fun e => by injection e with e; omega))
            have R5h := Lib.hid R5
            have d1 := R5.at_
            clear hg5 R5 J4 B4 R4
            go_roundw
            case rel => exact ⟨i + n + gp false (s.data.toList.drop (i + n)), _, by omega, R5h, B5, J5, HE3⟩
            case measure => rw [d1, HC1.out]; simp [intOf]; omega
          · clear R3 B3
            gi_wp2
            refine bodyPost_ret (results_none rfl _ _ _) rfl ?_
            exact ⟨⟨_, rfl⟩, .inr ⟨_, ⟨_, HE3.out.trans HL.out.symm⟩, hJx3⟩⟩
        | bad e =>
          have HE2 := Lib.hid (show pre ++ [((⟨0, [], i⟩ : Tk), e)] = L by
            have := HE.out; rw [evs_bad hne ho] at this; exact this)
          have he := nx_err hne ho
          have he0 : (e == 0) = false := by rw [beq_eq_false_iff_ne]; omega
          have he1 : (e != 0) = true := by simp [bne, he0]
          have KT2 : ∀ w, Rdr w g s i → Calls Tryz.prog 91 #[.pointer (some ⟨g, 0, none⟩)] w fun x w' => x = .returned (.tuple #[.agg #[.int .i64 0, .string ⟨([] : List UInt8).toArray⟩, .int .i64 (i : Int)], .int .i64 e]) ∧ w.grownBy w' (some g) := fun w h => by
            have := KT w h hlt hm
            rw [ho] at this
            exact this
          have hlen : pre.length < L.length := by rw [← HE2.out]; simp
          clear KT ho hne HE he he0
          gi_wp2_with ((refine ⟨trivial, ?_⟩; gi_at_call 91; refine (callsIn_wide.2 (KT2 _ HR.out)).mono ?_; rintro x W2 ⟨rfl, hg2⟩; have J2 := lets_row HJ.out HP.out hg2 bx HR.out; have J3 := lets_none HJ.out J2 (grown_of_below (alloc1 W2 (.cells #[.int .i64 0, .string ⟨([] : List UInt8).toArray⟩, .int .i64 (i : Int)] 108)) none); obtain ⟨fn, tmps, assign, body, hy, hR⟩ := HY.out pre (⟨0, [], i⟩, e) (W2.alloc (.cells #[.int .i64 0, .string ⟨([] : List UInt8).toArray⟩, .int .i64 (i : Int)] 108)) J3 hlen; dsimp only [encE] at hy))
          clear c1 cb HR HB HP J2 J3 hg2 KT2 hlen hy
          refine hR.mono ?_
          clear hR
          rintro x W3 (⟨rfl, hJ3, hK3⟩ | ⟨rfl, hJx3⟩)
          · have J4 := Lib.hid hJ3
            rw [HE2.out] at J4
            clear hJ3 hK3
            gi_wp2
            refine bodyPost_ret (results_none rfl _ _ _) rfl ?_
            exact ⟨⟨_, rfl⟩, .inl ⟨_, HL.out.symm, J4.out⟩⟩
          · gi_wp2
            refine bodyPost_ret (results_none rfl _ _ _) rfl ?_
            exact ⟨⟨_, rfl⟩, .inr ⟨_, ⟨[], by rw [List.append_nil, HE2.out, HL.out]⟩, hJx3⟩⟩
      · obtain rfl : i = s.size := by omega
        have HE2 := HE.out
        rw [List.drop_of_length_le (by rw [len_data]; exact Nat.le_refl _), evs_nil, List.append_nil] at HE2
        have HP2 := Lib.hid HP.out
        rw [HE2] at HP2
        clear HE HE2 HP HR HB
        gi_wp2
        go_end0
        exact ⟨⟨_, rfl⟩, .inl ⟨_, HL.out.symm, HP2.out⟩⟩
  clear hK1
  refine wpIn_wide.2 ?_
  refine wp_region_held_drew (S := fun w' => w'.cell? ⟨b1, 0, none⟩ = some (.string s)) (by kernel_rfl) c0 (fun hHeld => ?_)
  refine wpAnyH_take (i := 0) (oi := _) (v := .string s) rfl (by kernel_rfl) (by kernel_rfl) (by kernel_rfl) (fun _ _ _ h => h) (Or.inl ⟨by rfl, ?_⟩) hHeld ?_
  · intro w hSw
    go_simp
  try simp only [Act.put, List.setIfInBounds_toArray]
  refine wpAnyH_ready (rs := [1, 3]) (by kernel_rfl) (by simp) ?_
  refine AllReadyH.cons (o := _) rfl (fun K hK => ?_) (AllReadyH.cons (o := _) rfl (fun K hK => ?_) AllReadyH.nil)
  · go_simp
    refine (TA _ (drew_below W)).mono ?_
    rintro e X1 ⟨rfl, ha⟩
    have B1 := (drew_below W).trans (ha.mono (drew_below W).size)
    have KS := KG.out X1 B1
    dsimp only
    refine hK.out _ _ KS (fun hHeld => ?_)
    clear hK K
    try simp only [Act.put, List.setIfInBounds_toArray]
    refine wpAnyH_take (i := 2) (oi := _) (v := .agg (rowR s 0)) rfl (by kernel_rfl) (by kernel_rfl) (by kernel_rfl) (fun _ _ _ h => h) (Or.inl ⟨wanted_free rfl, fun w _ => exec_build _ _ _ _ _ _ _ _ _ w [(0, .string s), (2, .agg tabC)] (by simp [Act.eval]) (built_rd s)⟩) hHeld ?_
    try simp only [Act.put, List.setIfInBounds_toArray]
    refine wpAnyH_ready (rs := [3]) (by kernel_rfl) (by simp) ?_
    refine AllReadyH.cons (o := _) rfl (fun K hK => ?_) AllReadyH.nil
    go_simp
    obtain ⟨X2, hX2⟩ : ∃ X2, X1.alloc (.cells zerR 143) = X2 := ⟨_, rfl⟩
    obtain ⟨g, hg⟩ : ∃ g, X1.heap.size = g := ⟨_, rfl⟩
    have R2 : Hid (IsRow X2 g 143 zerR) := Lib.hid (by rw [← hX2, ← hg]; exact IsRow.made _ _ _)
    have B2 : Hid (Below W.heap.size W X2) := Lib.hid (by rw [← hX2]; exact B1.alloc B1.size _)
    have hge : Hid (W.heap.size ≤ g) := Lib.hid (by rw [← hg]; exact B1.size)
    have KS2 := KG.out _ B2.out
    rw [hX2, hg]
    clear hX2 hg
    refine hK.out _ _ KS2 (fun hHeld => ?_)
    clear hK K hHeld KS2
    try simp only [Act.put, List.setIfInBounds_toArray]
    refine wpAnyH_ready (rs := [4]) (by kernel_rfl) (by simp) ?_
    refine AllReadyH.cons (o := _) rfl (fun K hK => ?_) AllReadyH.nil
    have hst := store_rd (s := s) R2.out
    have hsz := rowR_size s 0
    go_simp
    have R3 : Hid (Rdr (X2.setRow g (rowR s 0)) g s 0) := Lib.hid (show IsRow (X2.setRow g (rowR s 0)) g 143 (rowR s 0) from setRow_heap _ _ _ _ _ _ R2.out)
    have B3 := Lib.hid (below_setRow B2.out hge.out (rowR s 0))
    have KS3 := KG.out _ B3.out
    refine hK.out _ _ KS3 (fun hHeld => ?_)
    clear hK K
    refine wpAnyH_done (by kernel_rfl) ?_ _
    exact FIN.out _ _ B3 R3 hge
  · go_simp
    obtain ⟨X1, hX1⟩ : ∃ X1, (W.alloc (.cells zerR 143)).drew = X1 := ⟨_, rfl⟩
    obtain ⟨g, hg⟩ : ∃ g, W.heap.size = g := ⟨_, rfl⟩
    have B1 : Hid (Below W.heap.size W X1) := Lib.hid (by rw [← hX1]; exact (alloc1 W _).trans ((drew_below _).mono (by simp)))
    have R1 : Hid (IsRow X1 g 143 zerR) := Lib.hid (by rw [← hX1, ← hg]; exact IsRow.made _ _ _)
    have hge : Hid (W.heap.size ≤ g) := Lib.hid (by rw [← hg]; exact Nat.le_refl _)
    have KS1 := KG.out _ B1.out
    rw [hX1, hg]
    clear hX1 hg
    refine hK.out _ _ KS1 (fun hHeld => ?_)
    clear hK K
    try simp only [Act.put, List.setIfInBounds_toArray]
    refine wpAnyH_ready (rs := [1]) (by kernel_rfl) (by simp) ?_
    refine AllReadyH.cons (o := _) rfl (fun K hK => ?_) AllReadyH.nil
    go_simp
    refine (TA _ B1.out).mono ?_
    rintro e X2 ⟨rfl, ha⟩
    have B2 := Lib.hid (B1.out.trans (ha.mono B1.out.size))
    have R2 := Lib.hid (R1.out.below ha R1.out.inside)
    have KS2 := KG.out _ B2.out
    dsimp only
    refine hK.out _ _ KS2 (fun hHeld => ?_)
    clear hK K ha
    try simp only [Act.put, List.setIfInBounds_toArray]
    refine wpAnyH_take (i := 2) (oi := _) (v := .agg (rowR s 0)) rfl (by kernel_rfl) (by kernel_rfl) (by kernel_rfl) (fun _ _ _ h => h) (Or.inl ⟨wanted_free rfl, fun w _ => exec_build _ _ _ _ _ _ _ _ _ w [(0, .string s), (2, .agg tabC)] (by simp [Act.eval]) (built_rd s)⟩) hHeld ?_
    try simp only [Act.put, List.setIfInBounds_toArray]
    refine wpAnyH_ready (rs := [4]) (by kernel_rfl) (by simp) ?_
    refine AllReadyH.cons (o := _) rfl (fun K hK => ?_) AllReadyH.nil
    have hst := store_rd (s := s) R2.out
    have hsz := rowR_size s 0
    go_simp
    have R3 : Hid (Rdr (X2.setRow g (rowR s 0)) g s 0) := Lib.hid (show IsRow (X2.setRow g (rowR s 0)) g 143 (rowR s 0) from setRow_heap _ _ _ _ _ _ R2.out)
    have B3 := Lib.hid (below_setRow B2.out hge.out (rowR s 0))
    have KS3 := KG.out _ B3.out
    refine hK.out _ _ KS3 (fun hHeld => ?_)
    clear hK K
    refine wpAnyH_done (by kernel_rfl) ?_ _
    exact FIN.out _ _ B3 R3 hge
end Go.Proofs.YtgbkjdpjilldmaaGreatDoor.Lx
/- lexer: owned slices of tokens; what stands between two rounds of a loop over the tokens. -/
namespace Go.Proofs.YtgbkjdpjilldmaaGreatDoor.Lx
open Go.RowKit Go.Sort Go.Shelf
attribute [local go_sem] Oper.semAt_some
theorem info_of {P : Program} {t : TypeId} {n b : Nat} {z : Value} (h : (P.info? t).map (fun i => (i.size, i.bytes, i.zero)) = some (n, b, some z)) : ∃ i, P.info? t = some i ∧ i.size = n ∧ i.bytes = b ∧ i.zero = some z := by
  cases hi : P.info? t with
  | none => rw [hi] at h; cases h
  | some i =>
    rw [hi] at h
    simp only [Option.map_some, Option.some.injEq, Prod.mk.injEq] at h
    exact ⟨i, rfl, h.1, h.2.1, h.2.2⟩
def encK (t : Tk) : List Value := [.int .i64 t.k, .string ⟨t.t.toArray⟩, .int .i64 (t.a : Int)]
def flatK (l : List Tk) : List Value := l.flatMap encK
/-- an owned slice of tokens. -/
def OwnK (w : World) (base : Nat) (v : Value) (l : List Tk) : Prop := w.ownsRow base 108 3 v l.length (flatK l)
theorem flatK_app (l m : List Tk) : flatK (l ++ m) = flatK l ++ flatK m := by unfold flatK; rw [List.flatMap_append]
theorem OwnK.row {w : World} {base : Nat} {v : Value} {l : List Tk} (h : OwnK w base v l) : ∀ k, v.ownBlock = some k → base ≤ k ∧ ∃ cs, IsRow w k 108 cs := by
  intro k hk
  obtain ⟨_, ⟨rfl, _⟩ | ⟨g, cap, cur, rfl, hb, hg, _⟩⟩ := h
  · cases hk
  · injection hk with hk
    subst hk
    exact ⟨hb, cur, hg⟩
theorem OwnK.ne {w : World} {base : Nat} {v : Value} {l : List Tk} (h : OwnK w base v l) {g : Nat} {t : TypeId} {cs : Array Value} (hr : IsRow w g t cs) (ht : t ≠ 108) : v.ownBlock ≠ some g := fun e => by
  obtain ⟨_, ds, hd⟩ := h.row g e
  have hd' : w.heap[g]? = some (.cells ds 108 (0, 0)) := hd
  rw [show w.heap[g]? = some (.cells cs t (0, 0)) from hr] at hd'
  injection hd' with hd'
  injection hd' with _ e2 _
  exact ht e2
theorem OwnK.kept {w w' : World} {base : Nat} {v : Value} {l : List Tk} {row : Option Nat} (h : OwnK w base v l) (hg : w.grownBy w' row) (hne : v.ownBlock = none ∨ v.ownBlock ≠ row) : OwnK w' base v l := World.ownsRow.kept h hg hne
theorem OwnK.below {w w' : World} {base : Nat} {v : Value} {l : List Tk} (h : OwnK w base v l) (hb : Below w.heap.size w w') : OwnK w' base v l :=
  h.kept (row := none) (grown_of_below hb none) (by cases hv : v.ownBlock <;> simp)
theorem tok_info : (Tryz.prog.info? 108).map (fun i => (i.size, i.bytes, i.zero)) = some (3, 32, some (.agg #[.int .i64 0, .string ⟨#[]⟩, .int .i64 0])) := by kernel_rfl
theorem OwnK.put {w : World} {base : Nat} {v : Value} {l : List Tk} (h : OwnK w base v l) {g : Nat} {t : TypeId} {cs : Array Value} (hr : IsRow w g t cs) (ht : t ≠ 108) (i : Nat) (u : Value) : OwnK (w.setCell ⟨g, i, none⟩ u) base v l :=
  h.kept (row := some g) (grown_put w g i u) (.inr (h.ne hr ht))
theorem ownK_snoc {w : World} {base : Nat} {v : Value} {L : List Tk} {s : Tk} (h : w.ownsRow base 108 3 v (L.length + 1) (flatK L ++ encK s)) : OwnK w base v (L ++ [s]) := by
  unfold OwnK
  rw [List.length_append, flatK_app]
  unfold flatK at h ⊢
  simpa using h
theorem ownK_nil (w : World) (base : Nat) : OwnK w base (.slice none 0 0) [] := World.ownsRow_nil w base _ _
theorem encK_one (s : Tk) : ∀ u ∈ encK s, u.oneCell' = true := by intro u hu; simp [encK] at hu; rcases hu with rfl | rfl | rfl <;> rfl
theorem keeps_grown {W W' : World} {row : Option Nat} (B : Nat) (hg : W.grownBy W' row) (hr : ∀ k, row = some k → ∃ cs t, IsRow W k t cs) : KeepsFrom B W W' :=
  (KeepsOthers.of_grownBy hg (fun j o e ho => by
    obtain ⟨cs, t, h⟩ := hr j e
    rw [show W.heap[j]? = some (.cells cs t (0, 0)) from h] at ho
    injection ho with ho
    subst ho
    rfl)).from _
theorem keeps_of_below {W W' : World} (B : Nat) (h : Below W.heap.size W W') : KeepsFrom B W W' := ⟨h.size, fun _ _ _ hk _ => (h.block _ (Array.getElem?_eq_some_iff.1 hk).1).trans hk⟩
/-- a change at the iterator's hand. -/
def Away (B : Nat) (W W' : World) : Prop := ∃ row, W.grownBy W' row ∧ ∀ r, row = some r → B ≤ r ∧ ∃ o : Obj, W.heap[r]? = some o ∧ (o.isCells = false ∨ ∃ cs, o = .cells cs 143 (0, 0))
theorem IsRow.away {B : Nat} {W W' : World} {g : Nat} {t : TypeId} {cs : Array Value} (h : IsRow W g t cs) (ht : t ≠ 143) (ha : Away B W W') : IsRow W' g t cs := by
  obtain ⟨row, hg, hr⟩ := ha
  refine (hg.block g h.inside fun e => ?_).trans h
  obtain ⟨_, o, ho, hc⟩ := hr g e.symm
  rw [show W.heap[g]? = some (.cells cs t (0, 0)) from h] at ho
  injection ho with ho
  subst ho
  rcases hc with hc | ⟨ds, hc⟩
  · cases hc
  · injection hc with _ e2 _
    exact ht e2
theorem OwnK.away {B : Nat} {W W' : World} {base : Nat} {v : Value} {l : List Tk} (h : OwnK W base v l) (ha : Away B W W') : OwnK W' base v l := by
  obtain ⟨row, hg, hr⟩ := ha
  refine h.kept hg ?_
  cases hv : v.ownBlock with
  | none => exact .inl rfl
  | some g =>
    refine .inr fun e => ?_
    obtain ⟨_, o, ho, hc⟩ := hr g e.symm
    obtain ⟨_, ds, hd⟩ := h.row g hv
    rw [show W.heap[g]? = some (.cells ds 108 (0, 0)) from hd] at ho
    injection ho with ho
    subst ho
    rcases hc with hc | ⟨es, hc⟩
    · cases hc
    · injection hc with _ e2 _
      exact absurd e2 (by decide)
theorem below_away {B b : Nat} {w W W' : World} (h : Below b w W) (hw : b ≤ W.heap.size) (hB : b ≤ B) (ha : Away B W W') : Below b w W' := by
  obtain ⟨row, hg, hr⟩ := ha
  exact h.grown hg hw (fun k e => Nat.le_trans hB (hr k e).1)
theorem own_of_away {β : Type} {B : Nat} {I : β → World → Prop} (h : ∀ s W W', I s W → Away B W W' → I s W') : OwnFrom B I := fun s W W' row hs hg hr =>
  h s W W' hs ⟨row, hg, fun r e => ⟨(hr r e).1, by obtain ⟨_, o, ho, hc⟩ := hr r e; exact ⟨o, ho, .inl hc⟩⟩⟩
theorem lets_of_away {α : Type} {B : Nat} {I : List α → World → Prop} (h : ∀ s W W', I s W → Away B W W' → I s W') : Rule.Lets 143 B I := fun s W W' hs ha => by
  obtain ⟨row, hg, hr⟩ := ha
  refine h s W W' hs ⟨row, hg, fun r e => ⟨(hr r e).1, ?_⟩⟩
  obtain ⟨_, o, ho, hc⟩ := hr r e
  exact ⟨o, ho, hc.imp Obj.not_cells_of_walk id⟩
/-- what stands between two rounds of Lex. -/
structure InvL (w : World) (N0 b : Nat) (pre : List (Tk × Int)) (W : World) : Prop where
  list : ∃ v, IsRow W (b + 3) 56 #[v] ∧ OwnK W b v (pre.map (·.1))
  r2 : IsRow W b 56 #[.slice none 0 0]
  r3 : IsRow W (b + 1) 25 #[.int .i64 0]
  r4 : IsRow W (b + 2) 3 #[.int .i64 0]
  lo : Below b w W
  sz : N0 ≤ W.heap.size
  ok : ∀ x ∈ pre, x.2 = 0
  few : pre.length ≤ 5000
theorem InvL.lo_size {w W : World} {N0 b : Nat} {pre : List (Tk × Int)} (h : InvL w N0 b pre W) : b ≤ W.heap.size := Nat.le_of_lt h.r2.inside
theorem InvL.away {w : World} {N0 b : Nat} (hb : b ≤ N0) (s : List (Tk × Int)) (W W' : World) (h : InvL w N0 b s W) (ha : Away N0 W W') : InvL w N0 b s W' := by
  obtain ⟨⟨v, h1, h2⟩, h3, h4, h5, h6, h7, h8, h9⟩ := h
  refine ⟨⟨v, h1.away (by decide) ha, h2.away ha⟩, h3.away (by decide) ha, h4.away (by decide) ha, h5.away (by decide) ha, below_away h6 (Nat.le_trans hb h7) hb ha, ?_, h8, h9⟩
  obtain ⟨row, hg, _⟩ := ha
  exact Nat.le_trans h7 hg.size
/-- how a round of Lex ends the loop. -/
def Ends (pre : List (Tk × Int)) (e a : Int) : Prop :=
  ∃ p x, pre = p ++ [x] ∧ (∀ y ∈ p, y.2 = 0) ∧ p.length ≤ 5000 ∧ ((x.2 = 0 ∧ p.length = 5000 ∧ e = 2) ∨ (x.2 ≠ 0 ∧ e = x.2)) ∧ a = (x.1.a : Int)
structure EndL (w : World) (N0 b : Nat) (c : Code) (pre : List (Tk × Int)) (W : World) : Prop where
  c : c = .ret
  ea : ∃ e a, IsRow W b 56 #[.slice none 0 0] ∧ IsRow W (b + 1) 25 #[.int .i64 e] ∧ IsRow W (b + 2) 3 #[.int .i64 a] ∧ Ends pre e a
  lo : Below b w W
  sz : N0 ≤ W.heap.size
theorem EndL.away {w : World} {N0 b : Nat} (hb : b ≤ N0) (c : Code) (s : List (Tk × Int)) (W W' : World) (h : EndL w N0 b c s W) (ha : Away N0 W W') : EndL w N0 b c s W' := by
  obtain ⟨h1, ⟨e, a, h2, h3, h4, h5⟩, h6, h7⟩ := h
  refine ⟨h1, ⟨e, a, h2.away (by decide) ha, h3.away (by decide) ha, h4.away (by decide) ha, h5⟩, below_away h6 (Nat.le_trans hb h7) hb ha, ?_⟩
  obtain ⟨row, hg, _⟩ := ha
  exact Nat.le_trans h7 hg.size
theorem scan_ok : ∀ (L : List (Tk × Int)) (acc : List Tk), (∀ x ∈ L, x.2 = 0) → acc.length + L.length ≤ 5000 → scan acc L = (acc ++ L.map (·.1), 0, 0)
  | [], acc, _, _ => by simp [scan]
  | (t, e) :: L, acc, h, hl => by
    have he : e = 0 := h (t, e) (by simp)
    subst he
    simp only [List.length_cons] at hl
    rw [scan, if_neg (by omega), if_neg (by omega), scan_ok L (acc ++ [t]) (fun x hx => h x (by simp [hx])) (by simp; omega)]
    simp
theorem scan_end : ∀ (p : List (Tk × Int)) (acc : List Tk) (x : Tk × Int) (r : List (Tk × Int)) (e : Int), (∀ y ∈ p, y.2 = 0) → acc.length + p.length ≤ 5000 →
    ((x.2 = 0 ∧ acc.length + p.length = 5000 ∧ e = 2) ∨ (x.2 ≠ 0 ∧ e = x.2)) → scan acc (p ++ x :: r) = ([], e, (x.1.a : Int))
  | [], acc, (t, e0), r, e, _, _, h => by
    show scan acc ((t, e0) :: r) = _
    rw [scan]
    rcases h with ⟨h1, h2, h3⟩ | ⟨h1, h2⟩
    · rw [if_pos ⟨h1, by simpa using h2⟩, h3]
    · have h1' : e0 ≠ 0 := h1
      rw [if_neg (fun h => h1' h.1), if_pos h1', h2]
  | (t, e0) :: p, acc, x, r, e, h, hl, hx => by
    have he : e0 = 0 := h (t, e0) (by simp)
    subst he
    simp only [List.length_cons] at hl hx
    show scan acc ((t, 0) :: (p ++ x :: r)) = _
    rw [scan, if_neg (by omega), if_neg (by omega)]
    exact scan_end p (acc ++ [t]) x r e (fun y hy => h y (by simp [hy])) (by simp; omega) (by simp; omega)
theorem scan_ends {pre L : List (Tk × Int)} {e a : Int} (h : Ends pre e a) (hp : pre <+: L) : scan [] L = ([], e, a) := by
  obtain ⟨p, x, rfl, h1, h2, h3, rfl⟩ := h
  obtain ⟨r, rfl⟩ := hp
  rw [List.append_assoc]
  exact scan_end p [] x r e h1 (by simpa using h2) (by simpa using h3)
end Go.Proofs.YtgbkjdpjilldmaaGreatDoor.Lx
/- A range over a function in each round of a plain loop: the marks that it leaves. No program is named here. -/
namespace Go.Proofs.YtgbkjdpjilldmaaGreatDoor.Hr
open Go.RowKit
def mk (D : Nat) : Deferred := { target := .collected D, args := #[] }
/-- the marks of loops that are done: their blocks lie apart. -/
def Mks (Z : Nat) (Ds : List Nat) (W : World) : Prop := (Ds.Pairwise fun a b => b < a) ∧ ∀ D ∈ Ds, Z ≤ D ∧ W.heap[D]? = some (.deferred (some []))
theorem Mks.nil (Z : Nat) (W : World) : Mks Z [] W := ⟨List.Pairwise.nil, fun _ h => (by cases h)⟩
theorem Mks.lt {Z : Nat} {Ds : List Nat} {W : World} (h : Mks Z Ds W) : ∀ D ∈ Ds, D < W.heap.size := fun D hD => (Array.getElem?_eq_some_iff.1 (h.2 D hD).2).1
theorem Mks.grown {Z : Nat} {Ds : List Nat} {W W' : World} {row : Option Nat} (h : Mks Z Ds W) (hg : W.grownBy W' row) (hr : ∀ D ∈ Ds, row ≠ some D) : Mks Z Ds W' :=
  ⟨h.1, fun D hD => ⟨(h.2 D hD).1, (hg.block D (h.lt D hD) (hr D hD).symm).trans (h.2 D hD).2⟩⟩
theorem Mks.below {Z : Nat} {Ds : List Nat} {W W' : World} (h : Mks Z Ds W) (hb : Below W.heap.size W W') : Mks Z Ds W' := h.grown (row := none) (Lx.grown_of_below hb none) (fun _ _ e => (by cases e))
theorem Mks.cells {Z : Nat} {Ds : List Nat} {W : World} (h : Mks Z Ds W) {k : Nat} {cs : Array Value} {t : TypeId} (hr : Lx.IsRow W k t cs) : ∀ D ∈ Ds, k ≠ D := fun D hD e => by
  subst e
  have := (h.2 _ hD).2
  rw [show W.heap[k]? = some (.cells cs t (0, 0)) from hr] at this
  cases this
theorem Mks.rows {Z : Nat} {Ds : List Nat} {W W' : World} {row : Option Nat} (h : Mks Z Ds W) (hg : W.grownBy W' row) (hr : ∀ k, row = some k → ∃ cs t, Lx.IsRow W k t cs) : Mks Z Ds W' :=
  h.grown hg fun D hD e => by
    obtain ⟨cs, t, h1⟩ := hr D e
    exact h.cells h1 D hD rfl
theorem Mks.cons {Z D : Nat} {Ds : List Nat} {W : World} (h : Mks Z Ds W) (hZ : Z ≤ D) (hD : W.heap[D]? = some (.deferred (some []))) (hl : ∀ D' ∈ Ds, D' < D) : Mks Z (D :: Ds) W :=
  ⟨List.pairwise_cons.2 ⟨hl, h.1⟩, fun D' h' => (List.mem_cons.1 h').elim (fun e => e ▸ ⟨hZ, hD⟩) (h.2 D')⟩
theorem leaves_marks {F : Fence} {n : Nat} {P : Program} {fn : Func} {tmps : Array Value} {R : Ending → World → Prop} {J : World → Prop} {Z : Nat}
    (hJ : ∀ W D, J W → Z ≤ D → W.heap[D]? = some (.deferred (some [])) → J (W.putObj D (.deferred none))) (hR : ∀ W, J W → LeavesInM F n P fn tmps R [] .returning W) :
    ∀ (Ds : List Nat) (W : World), Mks Z Ds W → J W → LeavesInM F n P fn tmps R (Ds.map mk) .returning W
  | [], W, _, h => hR W h
  | D :: Ds, W, hm, h => by
    have h0 := hm.2 D (by simp)
    refine ⟨by simp, .inl ⟨D, _, rfl, run_takeDeferred h0.2, leaves_marks hJ hR Ds _ ?_ (hJ W D h h0.1 h0.2)⟩⟩
    have hp := List.pairwise_cons.1 hm.1
    refine Mks.grown ⟨hp.2, fun D' h' => hm.2 D' (List.mem_cons_of_mem _ h')⟩ (grownBy_putObj' W D _) fun D' h' e => ?_
    injection e with e
    have := hp.1 D' h'
    omega
/-- a change at the iterator's hand. -/
def AwayH (B : Nat) (W W' : World) : Prop := ∃ row, W.grownBy W' row ∧ ∀ r, row = some r → B ≤ r ∧ ∃ o : Obj, W.heap[r]? = some o ∧ o.isCells = false
theorem own_awayH {β : Type} {B : Nat} {I : β → World → Prop} (h : ∀ s W W', I s W → AwayH B W W' → I s W') : OwnFrom B I := fun s W W' row hs hg hr => h s W W' hs ⟨row, hg, fun r e => hr r e⟩
section
variable {B : Nat} {W W' : World}
theorem row_awayH {g : Nat} {t : TypeId} {cs : Array Value} (h : Lx.IsRow W g t cs) (ha : AwayH B W W') : Lx.IsRow W' g t cs := by
  obtain ⟨row, hg, hr⟩ := ha
  refine (hg.block g h.inside fun e => ?_).trans h
  obtain ⟨_, o, ho, hc⟩ := hr g e.symm
  rw [show W.heap[g]? = some (.cells cs t (0, 0)) from h] at ho
  injection ho with ho
  subst ho
  cases hc
theorem below_awayH {b : Nat} {w : World} (h : Below b w W) (hw : b ≤ W.heap.size) (hB : b ≤ B) (ha : AwayH B W W') : Below b w W' := by
  obtain ⟨row, hg, hr⟩ := ha
  exact h.grown hg hw (fun k e => Nat.le_trans hB (hr k e).1)
theorem mks_awayH {Z : Nat} {Ds : List Nat} (h : Mks Z Ds W) (hB : ∀ D ∈ Ds, D < B) (ha : AwayH B W W') : Mks Z Ds W' := by
  obtain ⟨row, hg, hr⟩ := ha
  refine h.grown hg fun D hD e => ?_
  have := (hr D e).1
  have := hB D hD
  omega
end
end Go.Proofs.YtgbkjdpjilldmaaGreatDoor.Hr
