/- LexerAgain, LexerPlaces: the walks. -/
import Derived.Test.YtclkolllflcmcaaLxRefC
namespace Go.Proofs.Ytclkolllflcmcaa.Lx
open Go.RowKit
theorem esc_ge : ∀ l : B, l.length ≤ (esc l).length
  | [] => Nat.le_refl _
  | c :: l => by
    have := esc_ge l
    rw [esc]
    (repeat' split) <;> simp <;> omega
theorem wr_ge (k : Int) (t : B) : t.length ≤ (wr k t).length := by
  unfold wr
  split
  · unfold quote; have := esc_ge t; simp; omega
  · exact Nat.le_refl _
theorem lx_txt {a : Nat} {l : B} {ts : List Tk} {r : Option (Int × Nat)} (h : Lx a l ts r) : ∀ t ∈ ts, t.t.length ≤ l.length := by
  induction h with
  | done _ => intro t h; cases h
  | bad _ _ _ => intro t h; cases h
  | @tok a l m k t n ts r h h0 hn _ ih =>
    intro u hu
    have hw := nx_wr hn
    have hm : m.length ≤ l.length := by rw [← h, List.length_drop]; omega
    rcases List.mem_cons.1 hu with rfl | hu
    · have h1 : (wr k t).length = n := by rw [← hw.2.2, List.length_take]; omega
      have := wr_ge k t
      show t.length ≤ _
      omega
    · have := ih u hu
      rw [List.length_drop] at this
      omega
set_option maxRecDepth 100000 in
set_option maxHeartbeats 1000000 in
theorem again_any (s : ByteArray) (w : World) : Calls Try.prog 5 #[.string s] w fun e w' => e = .returned (.bool true) ∧ Below w.heap.size w w' := by
  have KH := head_any w
  by_cases hbig : 2000 < s.size
  · have hz : (2000 : Int) < (s.size : Int) := by omega
    go_enter Try.func5, Try.ntmps5
    go_wp2_with ((with_reducible refine KH.mono ?_); rintro e w1 ⟨rfl, hb1⟩)
    go_ret
    exact ⟨rfl, hb1⟩
  · have hz : ¬ (2000 : Int) < (s.size : Int) := by omega
    have hz2 : (s.size : Int) ≤ 2000 := by omega
    rcases lex_cases s.data.toList (by rw [len_data]; omega) with ⟨ts, h1, r1, l1⟩ | ⟨ts, e0, x, h1, r1, he, hx⟩
    · obtain ⟨us, r2, hu⟩ := lex_again h1 (by rw [len_data]; omega)
      obtain ⟨n, hn⟩ : ∃ n, ts.length = n := ⟨_, rfl⟩
      have hn2 : us.length = n := by rw [← hn, ← List.length_map (f := kt), hu, List.length_map]
      have hwl := written_len h1
      have htx := lx_txt h1
      rw [len_data] at l1 hwl htx
      rw [hn] at l1
      have K1 := fun W => lex_n s W ts n 0 0 r1 hn
      have K3 := fun W => lex_n ⟨(written ts).toArray⟩ W us n 0 0 (by rw [str_eq]; exact r2) hn2
      have HU := Lib.hid hu
      have HN := Lib.hid hn
      have HX := Lib.hid (show ∀ t ∈ ts, t.t.length ≤ 100000 from fun t ht => by have := htx t ht; omega)
      have HWL := Lib.hid (show (written ts).length ≤ 100000 by omega)
      clear h1 r1 r2 hu hn hn2 hwl htx
      go_enter Try.func5, Try.ntmps5
      go_wp2_with (first
        | ((with_reducible refine KH.mono ?_); rintro e w1 ⟨rfl, hb1⟩)
        | ((with_reducible refine (K1 _).mono ?_); rintro e w2 ⟨⟨ao1, cap1, rfl, hc1, t1⟩, hb2⟩; have T1 := Lib.hid t1; have K2 := written_law ao1 n cap1 ts w2 HN.out T1.out hc1 (by omega) HWL.out HX.out)
        | ((with_reducible refine K2.mono ?_); rintro e w3 ⟨rfl, hb3⟩)
        | ((with_reducible refine (K3 _).mono ?_); rintro e w4 ⟨⟨ao2, cap2, rfl, hc2, t2⟩, hb4⟩; have T2 := Lib.hid t2; have B34 := Lib.hid (hb3.trans (hb4.mono hb3.size)); have K4 := alike_any ao1 ao2 n cap1 cap2 ts us w4 HN.out HU.out ((T1.out.below B34.out (Nat.le_refl _)).more B34.out.size) T2.out hc1 hc2 (by omega))
        | ((with_reducible refine K4.mono ?_); rintro e w5 ⟨rfl, hb5⟩))
      go_ret
      exact ⟨ret_bool (by first | rfl | simp), hb1.trans ((hb2.trans ((B34.out.trans (hb5.mono B34.out.size)).mono hb2.size)).mono hb1.size)⟩
    · have K1 := fun W => lex_of s W [] e0 x r1
      have he1 : (e0 == 0) = false := by rw [beq_eq_false_iff_ne]; omega
      have he3 : (e0 != 0) = true := by simp [bne, he1]
      clear h1 r1 he
      go_enter Try.func5, Try.ntmps5
      go_wp2_with (first
        | ((with_reducible refine KH.mono ?_); rintro e w1 ⟨rfl, hb1⟩)
        | ((with_reducible refine (K1 _).mono ?_); rintro e w2 ⟨⟨ao1, cap1, rfl, hc1, _⟩, hb2⟩))
      go_ret
      exact ⟨rfl, hb1.trans (hb2.mono hb1.size)⟩
set_option maxRecDepth 100000 in
set_option maxHeartbeats 2000000 in
theorem places_any (s : ByteArray) (w : World) : Calls Try.prog 4 #[.string s] w fun e w' => e = .returned (.bool true) ∧ Below w.heap.size w w' := by
  have KH := head_any w
  by_cases hbig : 3000 < s.size
  · have hz : (3000 : Int) < (s.size : Int) := by omega
    go_enter Try.func4, Try.ntmps4
    go_wp2_with ((with_reducible refine KH.mono ?_); rintro e w1 ⟨rfl, hb1⟩)
    go_ret
    exact ⟨rfl, hb1⟩
  · have hz : ¬ (3000 : Int) < (s.size : Int) := by omega
    have hz2 : (s.size : Int) ≤ 3000 := by omega
    rcases lex_cases s.data.toList (by rw [len_data]; omega) with ⟨ts, h1, r1, l1⟩ | ⟨ts, e0, x, h1, r1, he, hx⟩
    · obtain ⟨n, hn⟩ : ∃ n, ts.length = n := ⟨_, rfl⟩
      have htx := lx_txt h1
      rw [len_data] at l1 htx
      have K1 := fun W => lex_n s W ts n 0 0 r1 hn
      have HN := Lib.hid hn
      have HX := Lib.hid htx
      have H1 := Lib.hid h1
      rw [hn] at l1
      clear h1 r1 hn htx
      go_enter Try.func4, Try.ntmps4
      go_wp2_with (first
        | ((with_reducible refine KH.mono ?_); rintro e w1 ⟨rfl, hb1⟩)
        | ((with_reducible refine (K1 _).mono ?_); rintro e w2 ⟨⟨ao1, cap1, rfl, hc1, t1⟩, hb2⟩; have T1 := Lib.hid t1; have B2 := Lib.hid (hb1.trans (hb2.mono hb1.size)); clear t1 hb1 hb2))
      have hc' : (n : Int) ≤ (cap1 : Int) := by omega
      go_loopw [7, 8] (fun en i wr => ∃ (k x : Nat), k ≤ n ∧ x ≤ s.size ∧ en = .int .i64 x ∧ i = .int .i64 k ∧ Hid (Lx x (s.data.toList.drop x) (ts.drop k) none) ∧ Hid (Below w2.heap.size w2 wr)) (fun _ i _ => n - (intOf i).toNat)
      case atStart => exact ⟨0, 0, by omega, by omega, rfl, rfl, H1, Lib.hid (Below.refl _ _)⟩
      case round =>
        clear H1
        obtain ⟨k, x, hk, hx, rfl, rfl, HL, HW⟩ := hrel
        by_cases hlt : k < n
        · have hkl : k < ts.length := by rw [HN.out]; exact hlt
          obtain ⟨g1, o1, rfl, hg1, a0, a1, a2⟩ := (T1.out.below HW.out (Nat.le_refl _)).at_ hkl
          have htl := HX.out _ (List.getElem_mem hkl)
          have hdr : ts.drop k = ts[k] :: ts.drop (k + 1) := List.drop_eq_getElem_cons hkl
          have HL2 := HL.out
          rw [hdr] at HL2
          obtain ⟨y, hy, hw1, hsl, hgy, hnext⟩ : ∃ y, ts[k].a = x + y ∧ 1 ≤ (Lx.wr ts[k].k ts[k].t).length ∧ ((s.data.toList.drop (x + y)).take (Lx.wr ts[k].k ts[k].t).length = Lx.wr ts[k].k ts[k].t ∧ x + y + (Lx.wr ts[k].k ts[k].t).length ≤ s.size) ∧ gpsB ((s.data.toList.drop x).take y) = true ∧ Lx (x + y + (Lx.wr ts[k].k ts[k].t).length) (s.data.toList.drop (x + y + (Lx.wr ts[k].k ts[k].t).length)) (ts.drop (k + 1)) none := by
            generalize ts.drop (k + 1) = rest at *
            generalize ts[k] = tk at *
            cases HL2 with
            | @tok _ _ m k' t' n' _ _ hm h0 hnx hr =>
              have hw := nx_wr hnx
              have hlen : (Lx.wr k' t').length = n' := by rw [← hw.2.2, List.length_take]; omega
              have hg := gp_le false (s.data.toList.drop x)
              rw [List.length_drop, len_data] at hg
              have hml : m.length = s.size - x - gp false (s.data.toList.drop x) := by rw [← hm, List.length_drop, List.length_drop, len_data]
              rw [List.drop_drop] at hm
              refine ⟨gp false (s.data.toList.drop x), rfl, by rw [hlen]; exact hw.1, ⟨?_, by rw [hlen]; omega⟩, ?_, ?_⟩
              · rw [hm, hlen]; exact hw.2.2
              · unfold gpsB
                rw [gp_self, beq_iff_eq, List.length_take, List.length_drop, len_data]; omega
              · rw [hlen]
                rw [← hm, List.drop_drop] at hr
                exact hr
          obtain ⟨q, hq⟩ : ∃ q : ByteArray, (⟨(Lx.wr ts[k].k ts[k].t).toArray⟩ : ByteArray) = q := ⟨_, rfl⟩
          have hqs : (Lx.wr ts[k].k ts[k].t).length = q.size := by rw [← hq, str_size]
          have HE : s.extract (x + y) (x + y + q.size) = q := by
            rw [← hq]
            refine str_of ?_
            rw [ext_list, Nat.add_sub_cancel_left, hq, ← hqs]; exact hsl.1
          rw [hqs] at hw1 hsl hnext
          have KG := fun W => gaps_ref (s.extract x (x + y)) W (by rw [ByteArray.size_extract]; omega)
          rw [ext_list, Nat.add_sub_cancel_left, hgy] at KG
          rw [hy] at a2
          have HL3 := Lib.hid hnext
          have hb := hsl.2
          have KQ : ∀ W, ts[k].k = 3 → Calls Try.prog 17 #[.string ⟨ts[k].t.toArray⟩] W fun e w' => e = .returned (.string q) ∧ Below W.heap.size W w' := fun W h3 => by
            have := quote_any ⟨ts[k].t.toArray⟩ W (by rw [str_size]; omega)
            rw [str_eq] at this
            rw [← hq]
            unfold Lx.wr
            rw [if_pos h3]
            exact this
          have HQ2 : ts[k].k ≠ 3 → (⟨ts[k].t.toArray⟩ : ByteArray) = q := fun h3 => by rw [← hq]; unfold Lx.wr; rw [if_neg h3]
          have z1 : ((x + y : Nat) : Int) = (x : Int) + (y : Int) := by omega
          have z2 : ¬ (x : Int) + (y : Int) < (x : Int) := by omega
          have z3 : ((q.size : Int) == 0) = false := by rw [beq_eq_false_iff_ne]; omega
          have z4 : ¬ (s.size : Int) < (x : Int) + (y : Int) + (q.size : Int) := by omega
          clear hdr HL2 HL hy hsl hgy hnext hq hqs htl
          generalize ts[k].k = k0 at *
          generalize ts[k].t = t0 at *
          by_cases h3 : k0 = 3
          · subst h3
            have KQ2 := fun W => KQ W rfl
            clear KQ HQ2
            go_wp2_with (first
              | ((with_reducible refine (KQ2 _).mono ?_); rintro e w3 ⟨rfl, hb3⟩)
              | ((with_reducible refine (KG _).mono ?_); rintro e w4 ⟨rfl, rfl⟩))
            have HW2 := Lib.hid (HW.out.trans (hb3.mono HW.out.size))
            go_roundw
            case rel => exact ⟨k + 1, x + y + q.size, by omega, by omega, by go_num, by go_num, HL3, HW2⟩
            case measure => simp [intOf]; omega
          · have h3' : (k0 == 3) = false := by rw [beq_eq_false_iff_ne]; exact h3
            have HQ3 := HQ2 h3
            rw [HQ3] at a1
            clear KQ HQ2 HQ3 h3
            go_wp2_with ((with_reducible refine (KG _).mono ?_); rintro e w4 ⟨rfl, rfl⟩)
            go_roundw
            case rel => exact ⟨k + 1, x + y + q.size, by omega, by omega, by go_num, by go_num, HL3, HW⟩
            case measure => simp [intOf]; omega
        · obtain rfl : k = n := by omega
          have HL2 := HL.out
          have hd0 : ts.drop k = [] := List.drop_of_length_le (by rw [HN.out]; exact Nat.le_refl _)
          rw [hd0] at HL2
          clear hd0
          have hg : gpsB (s.data.toList.drop x) = true := by
            cases HL2 with
            | done h =>
              unfold gpsB
              have := congrArg List.length h
              have h2 := gp_le false (s.data.toList.drop x)
              rw [List.length_drop] at this
              rw [beq_iff_eq]
              simp at this h2 ⊢
              omega
          have KG := fun W => gaps_ref (s.extract x s.size) W (by rw [ByteArray.size_extract]; omega)
          rw [ext_end, hg] at KG
          have hxs : (x : Int) ≤ (s.size : Int) := by omega
          clear HL2 HL hg
          go_wp2_with ((with_reducible refine (KG _).mono ?_); rintro e w3 ⟨rfl, rfl⟩)
          go_ret
          exact ⟨ret_bool (by first | rfl | simp), B2.out.trans (HW.out.mono B2.out.size)⟩
    · have K1 := fun W => lex_of s W [] e0 x r1
      rw [len_data] at hx
      have he1 : (e0 == 0) = false := by rw [beq_eq_false_iff_ne]; omega
      have he3 : (e0 != 0) = true := by simp [bne, he1]
      have hx1 : (x : Int) < (s.size : Int) := by omega
      clear h1 r1 he
      go_enter Try.func4, Try.ntmps4
      go_wp2_with (first
        | ((with_reducible refine KH.mono ?_); rintro e w1 ⟨rfl, hb1⟩)
        | ((with_reducible refine (K1 _).mono ?_); rintro e w2 ⟨⟨ao1, cap1, rfl, hc1, _⟩, hb2⟩))
      go_ret
      exact ⟨ret_bool (by first | rfl | simp; omega), hb1.trans (hb2.mono hb1.size)⟩
end Go.Proofs.Ytclkolllflcmcaa.Lx
