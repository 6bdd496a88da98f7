/- Merged: LxToken. -/
import Derived.Test.YtgbkjdpjilldmaaGreatDoorHz5
/- lexer: the reader's token. -/
namespace Go.Proofs.YtgbkjdpjilldmaaGreatDoor.Lx
open Go.RowKit
theorem results_rowU {fn : Func} {p u : Tmp} {ty : TypeId} (h : fn.results = #[.cell p ty, .tmp u]) (tmps : Array Value) (w : World) (g : Nat) (t : TypeId) (cs : Array Value) {fs : Array Field} (hp : tmps.getD p undef = .pointer (some ⟨g, 0, none⟩)) (hr : IsRow w g t cs)
    (hu : Tryz.prog.underlying ty = some (.struct fs)) (hi : (Tryz.prog.info? ty).map (·.size) = some cs.size) :
    (results fn tmps).run Tryz.prog w = .ok (.tuple #[.agg cs, tmps.getD u undef]) w := by
  rw [results_cell_tmp h, hp]
  have hl := run_loadVar_row (P := Tryz.prog) w g t ty cs (0, 0) _ hr hu rfl hi
  simp [asAddr, hl, Result.andThen]
theorem infoTok : (Tryz.prog.info? 108).map (·.size) = some 3 := by kernel_rfl
/-- a token as a value. -/
def cTok (k : Int) (t : B) (a : Nat) : Array Value := #[.int .i64 k, .string ⟨t.toArray⟩, .int .i64 (a : Int)]
def vTok (k : Int) (t : B) (a : Nat) : Value := .agg #[.int .i64 k, .string ⟨t.toArray⟩, .int .i64 (a : Int)]
/-- what token answers and leaves. -/
def TOut (w : World) (g : Nat) (s : ByteArray) (i : Nat) (o : Rd) (e : Ending) (w' : World) : Prop :=
  match o with
  | .tok k t n => e = .returned (.tuple #[vTok k t i, .int .i64 0]) ∧ w.grownBy w' (some g) ∧ Rdr w' g s (i + n)
  | .bad x => e = .returned (.tuple #[vTok 0 [] i, .int .i64 x]) ∧ w.grownBy w' (some g)
theorem is_let : ∀ l : B, ((hdc l : Int) == 1) = hd isLet l
  | [] => rfl
  | c :: _ => (all_u8 (P := fun c => ((cls c : Int) == 1) = isLet c) (by decide +kernel)) c
theorem is_dig : ∀ l : B, ((hdc l : Int) == 2) = hd isDig l
  | [] => rfl
  | c :: _ => (all_u8 (P := fun c => ((cls c : Int) == 2) = isDig c) (by decide +kernel)) c
theorem is_quo : ∀ l : B, ((hdc l : Int) == 32) = hd (· == 34) l
  | [] => rfl
  | c :: _ => (all_u8 (P := fun c => ((cls c : Int) == 32) = (c == 34)) (by decide +kernel)) c
theorem is_sym : ∀ l : B, ((hdc l : Int) == 64) = hd isSym l
  | [] => rfl
  | c :: _ => (all_u8 (P := fun c => ((cls c : Int) == 64) = isSym c) (by decide +kernel)) c
theorem ext_run (s : ByteArray) (i n : Nat) : s.extract i (i + n) = ⟨((s.data.toList.drop i).take n).toArray⟩ := str_of (by rw [ext_list, Nat.add_sub_cancel_left])
theorem word_any' (g : Nat) (s : ByteArray) (i n : Nat) (t : B) (w : World) (h : Rdr w g s i) (hi : i ≤ s.size) (hm : s.size ≤ 20000) (hn : run isWord (s.data.toList.drop i) = n) (ht : (s.data.toList.drop i).take n = t) :
    Calls Tryz.prog 123 #[.pointer (some ⟨g, 0, none⟩), .int .u8 7] w fun e w' => e = .returned (.string ⟨t.toArray⟩) ∧ w.grownBy w' (some g) ∧ Rdr w' g s (i + n) := by
  have k := take_any g 7 isWord and_word s i w h hi hm
  rw [hn, ext_run, ht] at k
  exact k
theorem digs_any' (g : Nat) (s : ByteArray) (i n : Nat) (t : B) (w : World) (h : Rdr w g s i) (hi : i ≤ s.size) (hm : s.size ≤ 20000) (hn : run isDig (s.data.toList.drop i) = n) (ht : (s.data.toList.drop i).take n = t) :
    Calls Tryz.prog 123 #[.pointer (some ⟨g, 0, none⟩), .int .u8 2] w fun e w' => e = .returned (.string ⟨t.toArray⟩) ∧ w.grownBy w' (some g) ∧ Rdr w' g s (i + n) := by
  have k := take_any g 2 isDig and_dig s i w h hi hm
  rw [hn, ext_run, ht] at k
  exact k
set_option maxRecDepth 100000 in
set_option maxHeartbeats 1000000 in
theorem token_let (g : Nat) (s : ByteArray) (i : Nat) (w : World) (h : Rdr w g s i) (hi : i < s.size) (hm : s.size ≤ 20000) (hlet : hd isLet (s.data.toList.drop i) = true) :
    Calls Tryz.prog 91 #[.pointer (some ⟨g, 0, none⟩)] w fun e w' => TOut w g s i (nx (s.data.toList.drop i)) e w' := by
  have hgs := h.inside
  obtain ⟨W, hW⟩ : ∃ W, w.alloc (.cells #[.int .i64 0, .string ⟨#[]⟩, .int .i64 0] 108) = W := ⟨_, rfl⟩
  have B0 : Below w.heap.size w W := hW ▸ alloc1 w _
  have T0 : IsRow W w.heap.size 108 #[.int .i64 0, .string ⟨#[]⟩, .int .i64 0] := hW ▸ IsRow.made w _ _
  have R0 : Rdr W g s i := h.below B0
  have HB := Lib.hid B0
  have HT := Lib.hid T0
  have HR := Lib.hid R0
  have HW := Lib.hid hW
  have c1 := h.at_
  clear B0 T0 R0 hW h
  have K0 := class_any g s i W HR.out (by omega)
  have q1 := is_let (s.data.toList.drop i)
  rw [hlet] at q1
  obtain ⟨n, hn⟩ : ∃ n, run isWord (s.data.toList.drop i) = n := ⟨_, rfl⟩
  obtain ⟨t, ht⟩ : ∃ t, (s.data.toList.drop i).take n = t := ⟨_, rfl⟩
  have K1 := fun W hR => word_any' g s i n t W hR (by omega) hm hn ht
  have hlen : t.length = n := by
    rw [← ht, List.length_take, ← hn]
    exact Nat.min_eq_left (run_le _ _)
  have hsz : (ByteArray.mk t.toArray).size = n := by rw [str_size, hlen]
  have hnl : n ≤ s.size := by
    have := run_le isWord (s.data.toList.drop i)
    rw [hn, List.length_drop, len_data] at this
    omega
  have HO : Hid (nx (s.data.toList.drop i) = if 24 < n then .bad 2 else .tok 1 t n) := by
    rw [← ht, ← hn]
    cases hl : s.data.toList.drop i with
    | nil => rw [hl] at hlet; cases hlet
    | cons c l => rw [hl] at hlet; exact Lib.hid (nx_let hlet)
  obtain ⟨N, hN⟩ : ∃ N, hdc (s.data.toList.drop i) = N := ⟨_, rfl⟩
  rw [hN] at K0 q1
  clear hN
  clear hn ht hlen hlet
  by_cases h24 : 24 < n
  · have hz : (24 : Int) < ((ByteArray.mk t.toArray).size : Int) := by rw [hsz]; omega
    have HO2 : Hid (nx (s.data.toList.drop i) = .bad 2) := by rw [HO.out, if_pos h24]; exact Lib.hid rfl
    clear HO hsz
    generalize ByteArray.mk t.toArray = tt at *
    go_enter Tryz.func91, Tryz.ntmps91
    go_wp2_with fail
    rw [HW.out]
    go_wp2_with (first | ((with_reducible refine K0.mono ?_); rintro e w2 ⟨rfl, hb2⟩; have R2 := Lib.hid (HR.out.below hb2); have T2 := Lib.hid (HT.out.below hb2 HT.out.inside); have B2 := Lib.hid (HB.out.trans (hb2.mono HB.out.size)); clear hb2) | ((with_reducible refine (K1 _ R2.out).mono ?_); rintro e w3 ⟨rfl, hg3, R3⟩; have HR3 := Lib.hid R3; have T3 := Lib.hid (T2.out.grown hg3 (fun e => by injection e with e; omega)); have G3 := Lib.hid (grown_trans (grown_of_below B2.out _) hg3); clear hg3 R3; obtain ⟨d0, d1, d2, f0, f1, f2⟩ := facts3 T3.out))
    have hr := set3 T3.out (.int .i64 0) (.string ⟨#[]⟩) (.int .i64 i)
    have hg := grown_b G3.out (below3 (Below.refl _ w3) (Nat.le_refl w.heap.size) (.int .i64 0) (.string ⟨#[]⟩) (.int .i64 i))
    refine bodyPost_ret (results_rowU rfl _ _ w.heap.size _ _ rfl hr Tryz.underlying108 infoTok) rfl ?_
    rw [HO2.out]
    exact ⟨rfl, hg⟩
  · have hz : ¬ (24 : Int) < ((ByteArray.mk t.toArray).size : Int) := by rw [hsz]; omega
    have HO2 : Hid (nx (s.data.toList.drop i) = .tok 1 t n) := by rw [HO.out, if_neg h24]; exact Lib.hid rfl
    clear HO hsz
    obtain ⟨tt, htt⟩ : ∃ tt, ByteArray.mk t.toArray = tt := ⟨_, rfl⟩
    have HT2 := Lib.hid htt
    rw [htt] at K1 hz
    clear htt
    go_enter Tryz.func91, Tryz.ntmps91
    go_wp2_with fail
    rw [HW.out]
    go_wp2_with (first | ((with_reducible refine K0.mono ?_); rintro e w2 ⟨rfl, hb2⟩; have R2 := Lib.hid (HR.out.below hb2); have T2 := Lib.hid (HT.out.below hb2 HT.out.inside); have B2 := Lib.hid (HB.out.trans (hb2.mono HB.out.size)); clear hb2) | ((with_reducible refine (K1 _ R2.out).mono ?_); rintro e w3 ⟨rfl, hg3, R3⟩; have HR3 := Lib.hid R3; have T3 := Lib.hid (T2.out.grown hg3 (fun e => by injection e with e; omega)); have G3 := Lib.hid (grown_trans (grown_of_below B2.out _) hg3); clear hg3 R3; obtain ⟨d0, d1, d2, f0, f1, f2⟩ := facts3 T3.out))
    have hr := set3 T3.out (.int .i64 1) (.string tt) (.int .i64 i)
    have hg := grown_b G3.out (below3 (Below.refl _ w3) (Nat.le_refl w.heap.size) (.int .i64 1) (.string tt) (.int .i64 i))
    have hq := HR3.out.belowB (below3 (Below.refl _ w3) (Nat.le_refl w.heap.size) (.int .i64 1) (.string tt) (.int .i64 i)) hgs
    refine bodyPost_ret (results_rowU rfl _ _ w.heap.size _ _ rfl hr Tryz.underlying108 infoTok) rfl ?_
    rw [HO2.out]
    exact ⟨by unfold vTok; rw [HT2.out]; rfl, hg, hq⟩
set_option maxRecDepth 100000 in
set_option maxHeartbeats 1000000 in
theorem token_dig (g : Nat) (s : ByteArray) (i : Nat) (w : World) (h : Rdr w g s i) (hi : i < s.size) (hm : s.size ≤ 20000) (hlet : hd isLet (s.data.toList.drop i) = false) (hdig : hd isDig (s.data.toList.drop i) = true) :
    Calls Tryz.prog 91 #[.pointer (some ⟨g, 0, none⟩)] w fun e w' => TOut w g s i (nx (s.data.toList.drop i)) e w' := by
  have hgs := h.inside
  obtain ⟨W, hW⟩ : ∃ W, w.alloc (.cells #[.int .i64 0, .string ⟨#[]⟩, .int .i64 0] 108) = W := ⟨_, rfl⟩
  have B0 : Below w.heap.size w W := hW ▸ alloc1 w _
  have T0 : IsRow W w.heap.size 108 #[.int .i64 0, .string ⟨#[]⟩, .int .i64 0] := hW ▸ IsRow.made w _ _
  have R0 : Rdr W g s i := h.below B0
  have HB := Lib.hid B0
  have HT := Lib.hid T0
  have HR := Lib.hid R0
  have HW := Lib.hid hW
  have c1 := h.at_
  clear B0 T0 R0 hW h
  have K0 := class_any g s i W HR.out (by omega)
  have q1 := is_let (s.data.toList.drop i)
  rw [hlet] at q1
  have q2 := is_dig (s.data.toList.drop i)
  rw [hdig] at q2
  obtain ⟨n, hn⟩ : ∃ n, run isDig (s.data.toList.drop i) = n := ⟨_, rfl⟩
  obtain ⟨t, ht⟩ : ∃ t, (s.data.toList.drop i).take n = t := ⟨_, rfl⟩
  have K1 := fun W hR => digs_any' g s i n t W hR (by omega) hm hn ht
  have hlen : t.length = n := by
    rw [← ht, List.length_take, ← hn]
    exact Nat.min_eq_left (run_le _ _)
  have hsz : (ByteArray.mk t.toArray).size = n := by rw [str_size, hlen]
  have hnl : i + n ≤ s.size := by
    have := run_le isDig (s.data.toList.drop i)
    rw [hn, List.length_drop, len_data] at this
    omega
  have K2 := fun W hR => class_any g s (i + n) W hR hnl
  have q3 : (bits .and .u8 (hdc (s.data.toList.drop (i + n)) : Int) 7 != 0) = hd isWord (s.data.toList.drop (i + n)) := and_word _
  have HO : Hid (nx (s.data.toList.drop i) = if 7 < n ∨ hd isWord (s.data.toList.drop (i + n)) = true then .bad 4 else .tok 2 t n) := by
    rw [← List.drop_drop, ← ht, ← hn]
    cases hl : s.data.toList.drop i with
    | nil => rw [hl] at hdig; cases hdig
    | cons c l => rw [hl] at hdig hlet; exact Lib.hid (nx_dig hlet hdig)
  obtain ⟨N, hN⟩ : ∃ N, hdc (s.data.toList.drop i) = N := ⟨_, rfl⟩
  rw [hN] at K0 q1 q2
  clear hN
  obtain ⟨M, hM⟩ : ∃ M, hdc (s.data.toList.drop (i + n)) = M := ⟨_, rfl⟩
  rw [hM] at K2 q3
  clear hM hn ht hlen hlet hdig
  by_cases h7 : 7 < n
  · have hz : (7 : Int) < ((ByteArray.mk t.toArray).size : Int) := by rw [hsz]; omega
    have HO2 : Hid (nx (s.data.toList.drop i) = .bad 4) := by rw [HO.out, if_pos (.inl h7)]; exact Lib.hid rfl
    clear HO hsz q3 K2
    generalize ByteArray.mk t.toArray = tt at *
    go_enter Tryz.func91, Tryz.ntmps91
    go_wp2_with fail
    rw [HW.out]
    go_wp2_with (first | ((with_reducible refine K0.mono ?_); rintro e w2 ⟨rfl, hb2⟩; have R2 := Lib.hid (HR.out.below hb2); have T2 := Lib.hid (HT.out.below hb2 HT.out.inside); have B2 := Lib.hid (HB.out.trans (hb2.mono HB.out.size)); clear hb2) | ((with_reducible refine (K1 _ R2.out).mono ?_); rintro e w3 ⟨rfl, hg3, R3⟩; have HR3 := Lib.hid R3; have T3 := Lib.hid (T2.out.grown hg3 (fun e => by injection e with e; omega)); have G3 := Lib.hid (grown_trans (grown_of_below B2.out _) hg3); clear hg3 R3; obtain ⟨d0, d1, d2, f0, f1, f2⟩ := facts3 T3.out))
    have hr := set3 T3.out (.int .i64 0) (.string ⟨#[]⟩) (.int .i64 i)
    have hg := grown_b G3.out (below3 (Below.refl _ w3) (Nat.le_refl w.heap.size) (.int .i64 0) (.string ⟨#[]⟩) (.int .i64 i))
    refine bodyPost_ret (results_rowU rfl _ _ w.heap.size _ _ rfl hr Tryz.underlying108 infoTok) rfl ?_
    rw [HO2.out]
    exact ⟨rfl, hg⟩
  · have hz : ¬ (7 : Int) < ((ByteArray.mk t.toArray).size : Int) := by rw [hsz]; omega
    cases hw : hd isWord (s.data.toList.drop (i + n)) with
    | true =>
      rw [hw] at q3
      have HO2 : Hid (nx (s.data.toList.drop i) = .bad 4) := by rw [HO.out, if_pos (.inr hw)]; exact Lib.hid rfl
      clear HO hsz hw
      generalize ByteArray.mk t.toArray = tt at *
      go_enter Tryz.func91, Tryz.ntmps91
      go_wp2_with fail
      rw [HW.out]
      go_wp2_with (first | ((with_reducible refine K0.mono ?_); rintro e w2 ⟨rfl, hb2⟩; have R2 := Lib.hid (HR.out.below hb2); have T2 := Lib.hid (HT.out.below hb2 HT.out.inside); have B2 := Lib.hid (HB.out.trans (hb2.mono HB.out.size)); clear hb2) | ((with_reducible refine (K1 _ R2.out).mono ?_); rintro e w3 ⟨rfl, hg3, R3⟩; have HR3 := Lib.hid R3; have T3 := Lib.hid (T2.out.grown hg3 (fun e => by injection e with e; omega)); have G3 := Lib.hid (grown_trans (grown_of_below B2.out _) hg3); clear hg3 R3; obtain ⟨d0, d1, d2, f0, f1, f2⟩ := facts3 T3.out) | ((with_reducible refine (K2 _ HR3.out).mono ?_); rintro e w4 ⟨rfl, hb4⟩; have HR4 := Lib.hid (HR3.out.below hb4); have T4 := Lib.hid (T3.out.below hb4 T3.out.inside); have G4 := Lib.hid (grown_trans G3.out (grown_of_below hb4 _)); clear hb4 d0 d1 d2 f0 f1 f2; obtain ⟨d0, d1, d2, f0, f1, f2⟩ := facts3 T4.out))
      have hr := set3 T4.out (.int .i64 0) (.string ⟨#[]⟩) (.int .i64 i)
      have hg := grown_b G4.out (below3 (Below.refl _ w4) (Nat.le_refl w.heap.size) (.int .i64 0) (.string ⟨#[]⟩) (.int .i64 i))
      refine bodyPost_ret (results_rowU rfl _ _ w.heap.size _ _ rfl hr Tryz.underlying108 infoTok) rfl ?_
      rw [HO2.out]
      exact ⟨rfl, hg⟩
    | false =>
      rw [hw] at q3
      have HO2 : Hid (nx (s.data.toList.drop i) = .tok 2 t n) := by rw [HO.out, if_neg (by rintro (e | e); exact h7 e; rw [hw] at e; cases e)]; exact Lib.hid rfl
      clear HO hsz hw
      obtain ⟨tt, htt⟩ : ∃ tt, ByteArray.mk t.toArray = tt := ⟨_, rfl⟩
      have HT2 := Lib.hid htt
      rw [htt] at K1 hz
      clear htt
      go_enter Tryz.func91, Tryz.ntmps91
      go_wp2_with fail
      rw [HW.out]
      go_wp2_with (first | ((with_reducible refine K0.mono ?_); rintro e w2 ⟨rfl, hb2⟩; have R2 := Lib.hid (HR.out.below hb2); have T2 := Lib.hid (HT.out.below hb2 HT.out.inside); have B2 := Lib.hid (HB.out.trans (hb2.mono HB.out.size)); clear hb2) | ((with_reducible refine (K1 _ R2.out).mono ?_); rintro e w3 ⟨rfl, hg3, R3⟩; have HR3 := Lib.hid R3; have T3 := Lib.hid (T2.out.grown hg3 (fun e => by injection e with e; omega)); have G3 := Lib.hid (grown_trans (grown_of_below B2.out _) hg3); clear hg3 R3; obtain ⟨d0, d1, d2, f0, f1, f2⟩ := facts3 T3.out) | ((with_reducible refine (K2 _ HR3.out).mono ?_); rintro e w4 ⟨rfl, hb4⟩; have HR4 := Lib.hid (HR3.out.below hb4); have T4 := Lib.hid (T3.out.below hb4 T3.out.inside); have G4 := Lib.hid (grown_trans G3.out (grown_of_below hb4 _)); clear hb4 d0 d1 d2 f0 f1 f2; obtain ⟨d0, d1, d2, f0, f1, f2⟩ := facts3 T4.out))
      have hr := set3 T4.out (.int .i64 2) (.string tt) (.int .i64 i)
      have hg := grown_b G4.out (below3 (Below.refl _ w4) (Nat.le_refl w.heap.size) (.int .i64 2) (.string tt) (.int .i64 i))
      have hq := HR4.out.belowB (below3 (Below.refl _ w4) (Nat.le_refl w.heap.size) (.int .i64 2) (.string tt) (.int .i64 i)) hgs
      refine bodyPost_ret (results_rowU rfl _ _ w.heap.size _ _ rfl hr Tryz.underlying108 infoTok) rfl ?_
      rw [HO2.out]
      exact ⟨by unfold vTok; rw [HT2.out]; rfl, hg, hq⟩
set_option maxRecDepth 100000 in
set_option maxHeartbeats 1000000 in
theorem token_quo (g : Nat) (s : ByteArray) (i : Nat) (w : World) (h : Rdr w g s i) (hi : i < s.size) (hm : s.size ≤ 20000) (hlet : hd isLet (s.data.toList.drop i) = false) (hdig : hd isDig (s.data.toList.drop i) = false) (hquo : hd (· == 34) (s.data.toList.drop i) = true) :
    Calls Tryz.prog 91 #[.pointer (some ⟨g, 0, none⟩)] w fun e w' => TOut w g s i (nx (s.data.toList.drop i)) e w' := by
  have hgs := h.inside
  obtain ⟨W, hW⟩ : ∃ W, w.alloc (.cells #[.int .i64 0, .string ⟨#[]⟩, .int .i64 0] 108) = W := ⟨_, rfl⟩
  have B0 : Below w.heap.size w W := hW ▸ alloc1 w _
  have T0 : IsRow W w.heap.size 108 #[.int .i64 0, .string ⟨#[]⟩, .int .i64 0] := hW ▸ IsRow.made w _ _
  have R0 : Rdr W g s i := h.below B0
  have HB := Lib.hid B0
  have HT := Lib.hid T0
  have HR := Lib.hid R0
  have HW := Lib.hid hW
  have c1 := h.at_
  clear B0 T0 R0 hW h
  have K0 := class_any g s i W HR.out (by omega)
  have q1 := is_let (s.data.toList.drop i)
  rw [hlet] at q1
  have q2 := is_dig (s.data.toList.drop i)
  rw [hdig] at q2
  have q3 := is_quo (s.data.toList.drop i)
  rw [hquo] at q3
  have K1 := fun W hR => quoted_any g s i W hR hi hm
  have HO : Hid (nx (s.data.toList.drop i) = match st false (s.data.toList.drop (i + 1)) with | none => .bad 3 | some r => .tok 3 r.1 (r.2 + 1)) := by
    rw [drop_at s i hi] at hquo ⊢
    have : s[i] = 34 := by simpa [hd] using hquo
    rw [this]
    exact Lib.hid nx_quo
  obtain ⟨N, hN⟩ : ∃ N, hdc (s.data.toList.drop i) = N := ⟨_, rfl⟩
  rw [hN] at K0 q1 q2 q3
  clear hN
  clear hlet hdig hquo
  cases ho : st false (s.data.toList.drop (i + 1)) with
  | none =>
    have HO2 : Hid (nx (s.data.toList.drop i) = .bad 3) := by rw [HO.out, ho]; exact Lib.hid rfl
    rw [ho] at K1
    clear HO ho
    go_enter Tryz.func91, Tryz.ntmps91
    go_wp2_with fail
    rw [HW.out]
    go_wp2_with (first | ((with_reducible refine K0.mono ?_); rintro e w2 ⟨rfl, hb2⟩; have R2 := Lib.hid (HR.out.below hb2); have T2 := Lib.hid (HT.out.below hb2 HT.out.inside); have B2 := Lib.hid (HB.out.trans (hb2.mono HB.out.size)); clear hb2) | ((with_reducible refine (K1 _ R2.out).mono ?_); rintro e w3 ⟨rfl, hg3⟩; have T3 := Lib.hid (T2.out.grown hg3 (fun e => by injection e with e; omega)); have G3 := Lib.hid (grown_trans (grown_of_below B2.out _) hg3); clear hg3; obtain ⟨d0, d1, d2, f0, f1, f2⟩ := facts3 T3.out))
    have hr := set3 T3.out (.int .i64 0) (.string ⟨#[]⟩) (.int .i64 i)
    have hg := grown_b G3.out (below3 (Below.refl _ w3) (Nat.le_refl w.heap.size) (.int .i64 0) (.string ⟨#[]⟩) (.int .i64 i))
    refine bodyPost_ret (results_rowU rfl _ _ w.heap.size _ _ rfl hr Tryz.underlying108 infoTok) rfl ?_
    rw [HO2.out]
    exact ⟨rfl, hg⟩
  | some r =>
    have HO2 : Hid (nx (s.data.toList.drop i) = .tok 3 r.1 (r.2 + 1)) := by rw [HO.out, ho]; exact Lib.hid rfl
    rw [ho] at K1
    clear HO ho
    obtain ⟨t, m⟩ := r
    dsimp only at HO2
    have K2 : ∀ W, Rdr W g s i → Calls Tryz.prog 125 #[.pointer (some ⟨g, 0, none⟩)] W fun e w' => e = .returned (.tuple #[.string ⟨t.toArray⟩, .int .i64 0]) ∧ W.grownBy w' (some g) ∧ Rdr w' g s (i + 1 + m) := fun W hR => K1 W hR
    clear K1
    have K1 := K2
    clear K2
    obtain ⟨tt, htt⟩ : ∃ tt, ByteArray.mk t.toArray = tt := ⟨_, rfl⟩
    have HT2 := Lib.hid htt
    rw [htt] at K1
    clear htt
    go_enter Tryz.func91, Tryz.ntmps91
    go_wp2_with fail
    rw [HW.out]
    go_wp2_with (first | ((with_reducible refine K0.mono ?_); rintro e w2 ⟨rfl, hb2⟩; have R2 := Lib.hid (HR.out.below hb2); have T2 := Lib.hid (HT.out.below hb2 HT.out.inside); have B2 := Lib.hid (HB.out.trans (hb2.mono HB.out.size)); clear hb2) | ((with_reducible refine (K1 _ R2.out).mono ?_); rintro e w3 ⟨rfl, hg3, R3⟩; have HR3 := Lib.hid R3; have T3 := Lib.hid (T2.out.grown hg3 (fun e => by injection e with e; omega)); have G3 := Lib.hid (grown_trans (grown_of_below B2.out _) hg3); clear hg3 R3; obtain ⟨d0, d1, d2, f0, f1, f2⟩ := facts3 T3.out))
    have hr := set3 T3.out (.int .i64 3) (.string tt) (.int .i64 i)
    have hg := grown_b G3.out (below3 (Below.refl _ w3) (Nat.le_refl w.heap.size) (.int .i64 3) (.string tt) (.int .i64 i))
    have hq := HR3.out.belowB (below3 (Below.refl _ w3) (Nat.le_refl w.heap.size) (.int .i64 3) (.string tt) (.int .i64 i)) hgs
    refine bodyPost_ret (results_rowU rfl _ _ w.heap.size _ _ rfl hr Tryz.underlying108 infoTok) rfl ?_
    rw [HO2.out]
    exact ⟨by unfold vTok; rw [HT2.out]; rfl, hg, by rw [show i + (m + 1) = i + 1 + m by omega]; exact hq⟩
set_option maxRecDepth 100000 in
set_option maxHeartbeats 1000000 in
theorem token_sym (g : Nat) (s : ByteArray) (i : Nat) (w : World) (h : Rdr w g s i) (hi : i < s.size) (_hm : s.size ≤ 20000) (hlet : hd isLet (s.data.toList.drop i) = false) (hdig : hd isDig (s.data.toList.drop i) = false) (hquo : hd (· == 34) (s.data.toList.drop i) = false) (hsym : hd isSym (s.data.toList.drop i) = true) :
    Calls Tryz.prog 91 #[.pointer (some ⟨g, 0, none⟩)] w fun e w' => TOut w g s i (nx (s.data.toList.drop i)) e w' := by
  have hgs := h.inside
  obtain ⟨W, hW⟩ : ∃ W, w.alloc (.cells #[.int .i64 0, .string ⟨#[]⟩, .int .i64 0] 108) = W := ⟨_, rfl⟩
  have B0 : Below w.heap.size w W := hW ▸ alloc1 w _
  have T0 : IsRow W w.heap.size 108 #[.int .i64 0, .string ⟨#[]⟩, .int .i64 0] := hW ▸ IsRow.made w _ _
  have R0 : Rdr W g s i := h.below B0
  have HB := Lib.hid B0
  have HT := Lib.hid T0
  have HR := Lib.hid R0
  have HW := Lib.hid hW
  have c1 := h.at_
  clear B0 T0 R0 hW h
  have K0 := class_any g s i W HR.out (by omega)
  have q1 := is_let (s.data.toList.drop i)
  rw [hlet] at q1
  have q2 := is_dig (s.data.toList.drop i)
  rw [hdig] at q2
  have q3 := is_quo (s.data.toList.drop i)
  rw [hquo] at q3
  have q4 := is_sym (s.data.toList.drop i)
  rw [hsym] at q4
  have HO2 : Hid (nx (s.data.toList.drop i) = .tok 4 [s[i]] 1) := by
    rw [drop_at s i hi] at hlet hdig hquo hsym ⊢
    exact Lib.hid ((nx_sym hlet hdig (by simpa [hd] using hquo)).trans (if_pos hsym))
  have htt : s.extract i (i + 1) = ⟨[s[i]].toArray⟩ := by rw [ext_run, drop_at s i hi]; rfl
  have HT2 := Lib.hid htt
  obtain ⟨N, hN⟩ : ∃ N, hdc (s.data.toList.drop i) = N := ⟨_, rfl⟩
  rw [hN] at K0 q1 q2 q3 q4
  clear hN
  clear hlet hdig hquo hsym htt
  have l1 : (i : Int) ≤ (i : Int) + 1 := by omega
  have l2 : (i : Int) + 1 ≤ (s.size : Int) := by omega
  have e1 : (i : Int) + 1 = ((i + 1 : Nat) : Int) := by omega
  have E1 := Lib.hid e1
  clear e1
  go_enter Tryz.func91, Tryz.ntmps91
  go_wp2_with fail
  rw [HW.out]
  go_wp2_with (first | ((with_reducible refine K0.mono ?_); rintro e w2 ⟨rfl, hb2⟩; have R2 := Lib.hid (HR.out.below hb2); have T2 := Lib.hid (HT.out.below hb2 HT.out.inside); have B2 := Lib.hid (HB.out.trans (hb2.mono HB.out.size)); clear hb2; have c0 := R2.out.text; have c2 := R2.out.at_; have c3 := R2.out.open_ 1; obtain ⟨d0, d1, d2, f0, f1, f2⟩ := facts3 T2.out))
  go_quiet (fail)
  go_wp2
  have T3 : ∀ n, IsRow ((w2.drewN n).setCell ⟨g, 1, none⟩ (.int .i64 ((i : Int) + 1))) w.heap.size 108 #[.int .i64 0, .string ⟨#[]⟩, .int .i64 0] := fun n =>
    IsRow.putOther (T2.out.below (below_drewN (Below.refl _ _) n) T2.out.inside) (p := ⟨g, 1, none⟩) (by show w.heap.size ≠ g; omega) _
  have R3 : ∀ n, Rdr ((w2.drewN n).setCell ⟨g, 1, none⟩ (.int .i64 ((i : Int) + 1))) g s (i + 1) := fun n => by rw [E1.out]; exact Rdr.put (R2.out.below (below_drewN (Below.refl _ _) n)) _
  have G3 : ∀ n, w.grownBy ((w2.drewN n).setCell ⟨g, 1, none⟩ (.int .i64 ((i : Int) + 1))) (some g) := fun n => grown_trans (grown_of_below (below_drewN B2.out n) _) (grown_put _ _ _ _)
  refine bodyPost_ret (results_rowU rfl _ _ w.heap.size _ _ rfl (set3 (T3 _) _ _ _) Tryz.underlying108 infoTok) rfl ?_
  rw [HO2.out]
  exact ⟨by unfold vTok; rw [← HT2.out]; rfl, grown_b (G3 _) (below3 (Below.refl _ _) (Nat.le_refl w.heap.size) _ _ _), (R3 _).belowB (below3 (Below.refl _ _) (Nat.le_refl w.heap.size) _ _ _) hgs⟩
set_option maxRecDepth 100000 in
set_option maxHeartbeats 1000000 in
theorem token_bad (g : Nat) (s : ByteArray) (i : Nat) (w : World) (h : Rdr w g s i) (hi : i < s.size) (_hm : s.size ≤ 20000) (hlet : hd isLet (s.data.toList.drop i) = false) (hdig : hd isDig (s.data.toList.drop i) = false) (hquo : hd (· == 34) (s.data.toList.drop i) = false) (hsym : hd isSym (s.data.toList.drop i) = false) :
    Calls Tryz.prog 91 #[.pointer (some ⟨g, 0, none⟩)] w fun e w' => TOut w g s i (nx (s.data.toList.drop i)) e w' := by
  have hgs := h.inside
  obtain ⟨W, hW⟩ : ∃ W, w.alloc (.cells #[.int .i64 0, .string ⟨#[]⟩, .int .i64 0] 108) = W := ⟨_, rfl⟩
  have B0 : Below w.heap.size w W := hW ▸ alloc1 w _
  have T0 : IsRow W w.heap.size 108 #[.int .i64 0, .string ⟨#[]⟩, .int .i64 0] := hW ▸ IsRow.made w _ _
  have R0 : Rdr W g s i := h.below B0
  have HB := Lib.hid B0
  have HT := Lib.hid T0
  have HR := Lib.hid R0
  have HW := Lib.hid hW
  have c1 := h.at_
  clear B0 T0 R0 hW h
  have K0 := class_any g s i W HR.out (by omega)
  have q1 := is_let (s.data.toList.drop i)
  rw [hlet] at q1
  have q2 := is_dig (s.data.toList.drop i)
  rw [hdig] at q2
  have q3 := is_quo (s.data.toList.drop i)
  rw [hquo] at q3
  have q4 := is_sym (s.data.toList.drop i)
  rw [hsym] at q4
  have HO2 : Hid (nx (s.data.toList.drop i) = .bad 3) := by
    rw [drop_at s i hi] at hlet hdig hquo hsym ⊢
    exact Lib.hid ((nx_sym hlet hdig (by simpa [hd] using hquo)).trans (if_neg (by rw [show isSym s[i] = false from hsym]; decide)))
  obtain ⟨N, hN⟩ : ∃ N, hdc (s.data.toList.drop i) = N := ⟨_, rfl⟩
  rw [hN] at K0 q1 q2 q3 q4
  clear hN
  clear hlet hdig hquo hsym
  go_enter Tryz.func91, Tryz.ntmps91
  go_wp2_with fail
  rw [HW.out]
  go_wp2_with (first | ((with_reducible refine K0.mono ?_); rintro e w2 ⟨rfl, hb2⟩; have R2 := Lib.hid (HR.out.below hb2); have T2 := Lib.hid (HT.out.below hb2 HT.out.inside); have B2 := Lib.hid (HB.out.trans (hb2.mono HB.out.size)); clear hb2; obtain ⟨d0, d1, d2, f0, f1, f2⟩ := facts3 T2.out; have G2 := Lib.hid (grown_of_below B2.out (some g))))
  have hr := set3 T2.out (.int .i64 0) (.string ⟨#[]⟩) (.int .i64 i)
  have hg := grown_b G2.out (below3 (Below.refl _ w2) (Nat.le_refl w.heap.size) (.int .i64 0) (.string ⟨#[]⟩) (.int .i64 i))
  refine bodyPost_ret (results_rowU rfl _ _ w.heap.size _ _ rfl hr Tryz.underlying108 infoTok) rfl ?_
  rw [HO2.out]
  exact ⟨rfl, hg⟩
theorem token_any (g : Nat) (s : ByteArray) (i : Nat) (w : World) (h : Rdr w g s i) (hi : i < s.size) (hm : s.size ≤ 20000) :
    Calls Tryz.prog 91 #[.pointer (some ⟨g, 0, none⟩)] w fun e w' => TOut w g s i (nx (s.data.toList.drop i)) e w' := by
  cases h1 : hd isLet (s.data.toList.drop i) with
  | true => exact token_let g s i w h hi hm h1
  | false =>
    cases h2 : hd isDig (s.data.toList.drop i) with
    | true => exact token_dig g s i w h hi hm h1 h2
    | false =>
      cases h3 : hd (· == 34) (s.data.toList.drop i) with
      | true => exact token_quo g s i w h hi hm h1 h2 h3
      | false =>
        cases h4 : hd isSym (s.data.toList.drop i) with
        | true => exact token_sym g s i w h hi hm h1 h2 h3 h4
        | false => exact token_bad g s i w h hi hm h1 h2 h3 h4
end Go.Proofs.YtgbkjdpjilldmaaGreatDoor.Lx
