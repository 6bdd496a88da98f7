/- LexerGaps: the walk. -/
import Derived.Test.YtclkolllflcmcaaLxAgainWalk
import Derived.Test.YtclkolllflcmcaaLxLaws2
namespace Go.Proofs.Ytclkolllflcmcaa.Lx
open Go.RowKit
theorem cat_run (a b : ByteArray) (h : a.size + b.size ≤ 1000000) (w : World) : Sem.run Try.prog (binOp .add 9 (.string a) (.string b)) w = .ok (.string (a ++ b)) w := by
  have h2 : a.size + b.size ≤ 9223372036854775807 := by omega
  simp [binOp, go_sem]
  exact h2
/-- the strings of the law, one behind the other. -/
theorem cats (g p q : ByteArray) (hg : g.size ≤ 300) (hp : p.size ≤ 1500) (hq : q.size ≤ 1500) :
    (∀ w, Sem.run Try.prog (binOp .add 9 (.string (g ++ ⟨#[10]⟩)) (.string p)) w = .ok (.string (g ++ ⟨#[10]⟩ ++ p)) w) ∧
    (∀ w, Sem.run Try.prog (binOp .add 9 (.string (g ++ ⟨#[10]⟩ ++ p)) (.string (g ++ ⟨#[10]⟩))) w = .ok (.string (g ++ ⟨#[10]⟩ ++ p ++ (g ++ ⟨#[10]⟩))) w) ∧
    (∀ w, Sem.run Try.prog (binOp .add 9 (.string (g ++ ⟨#[10]⟩ ++ p ++ (g ++ ⟨#[10]⟩))) (.string q)) w = .ok (.string (g ++ ⟨#[10]⟩ ++ p ++ (g ++ ⟨#[10]⟩) ++ q)) w) ∧
    (∀ w, Sem.run Try.prog (binOp .add 9 (.string (g ++ ⟨#[10]⟩ ++ p ++ (g ++ ⟨#[10]⟩) ++ q)) (.string ⟨#[10]⟩)) w = .ok (.string (g ++ ⟨#[10]⟩ ++ p ++ (g ++ ⟨#[10]⟩) ++ q ++ ⟨#[10]⟩)) w) ∧
    (∀ w, Sem.run Try.prog (binOp .add 9 (.string (g ++ ⟨#[10]⟩ ++ p ++ (g ++ ⟨#[10]⟩) ++ q ++ ⟨#[10]⟩)) (.string g)) w = .ok (.string (g ++ ⟨#[10]⟩ ++ p ++ (g ++ ⟨#[10]⟩) ++ q ++ ⟨#[10]⟩ ++ g)) w) := by
  have e : (⟨#[10]⟩ : ByteArray).size = 1 := rfl
  refine ⟨cat_run _ _ ?_, cat_run _ _ ?_, cat_run _ _ ?_, cat_run _ _ ?_, cat_run _ _ ?_⟩
  all_goals
    simp only [ByteArray.size_append, e]
    omega
theorem cats0 (g q : ByteArray) (hg : g.size ≤ 300) (hq : q.size ≤ 1500) :
    (∀ w, Sem.run Try.prog (binOp .add 9 (.string (g ++ ⟨#[10]⟩)) (.string ByteArray.empty)) w = .ok (.string (g ++ ⟨#[10]⟩)) w) ∧
    (∀ w, Sem.run Try.prog (binOp .add 9 (.string (g ++ ⟨#[10]⟩)) (.string (g ++ ⟨#[10]⟩))) w = .ok (.string (g ++ ⟨#[10]⟩ ++ (g ++ ⟨#[10]⟩))) w) ∧
    (∀ w, Sem.run Try.prog (binOp .add 9 (.string (g ++ ⟨#[10]⟩ ++ (g ++ ⟨#[10]⟩))) (.string q)) w = .ok (.string (g ++ ⟨#[10]⟩ ++ (g ++ ⟨#[10]⟩) ++ q)) w) ∧
    (∀ w, Sem.run Try.prog (binOp .add 9 (.string (g ++ ⟨#[10]⟩ ++ (g ++ ⟨#[10]⟩) ++ q)) (.string ⟨#[10]⟩)) w = .ok (.string (g ++ ⟨#[10]⟩ ++ (g ++ ⟨#[10]⟩) ++ q ++ ⟨#[10]⟩)) w) ∧
    (∀ w, Sem.run Try.prog (binOp .add 9 (.string (g ++ ⟨#[10]⟩ ++ (g ++ ⟨#[10]⟩) ++ q ++ ⟨#[10]⟩)) (.string g)) w = .ok (.string (g ++ ⟨#[10]⟩ ++ (g ++ ⟨#[10]⟩) ++ q ++ ⟨#[10]⟩ ++ g)) w) := by
  have e : (⟨#[10]⟩ : ByteArray).size = 1 := rfl
  refine ⟨fun w => ?_, cat_run _ _ ?_, cat_run _ _ ?_, cat_run _ _ ?_, cat_run _ _ ?_⟩
  · have := cat_run (g ++ ⟨#[10]⟩) ByteArray.empty (by simp only [ByteArray.size_append, e]; simp; omega) w
    simpa using this
  all_goals
    simp only [ByteArray.size_append, e]
    omega
theorem ext_none (s g : ByteArray) : g ++ ⟨#[10]⟩ ++ s.extract 0 0 ++ (g ++ ⟨#[10]⟩) ++ s.extract 0 s.size ++ ⟨#[10]⟩ ++ g = g ++ ⟨#[10]⟩ ++ (g ++ ⟨#[10]⟩) ++ s ++ ⟨#[10]⟩ ++ g := by simp
/-- what is known of the cut. -/
structure Cut (s : ByteArray) (ts : List Tk) (mid : Nat) : Prop where
  le : mid ≤ s.size
  one : ∃ t1 t2 b, ts = t1 ++ t2 ∧ Lx 0 (s.data.toList.take mid) t1 none ∧ Lx b (s.data.toList.drop mid) t2 none
set_option maxRecDepth 100000 in
set_option maxHeartbeats 2000000 in
theorem gapsLaw_any (s g : ByteArray) (m : Int) (w : World) (hms : s.size ≤ maxLen) (hmg : g.size ≤ maxLen) (hm : 0 ≤ m ∧ m ≤ 65535) : Calls Try.prog 8 #[.string s, .string g, .int .u16 m] w fun e w' => e = .returned (.bool true) ∧ Below w.heap.size w w' := by
  have KH := head_any w
  unfold maxLen at hms hmg
  obtain ⟨hm0, hm1⟩ := hm
  by_cases hbig : 1500 < s.size
  · have hz : (1500 : Int) < (s.size : Int) := by omega
    go_enter Try.func8, Try.ntmps8
    go_wp2_with ((with_reducible refine KH.mono ?_); rintro e w1 ⟨rfl, hb1⟩)
    go_ret
    exact ⟨rfl, hb1⟩
  · have hz : ¬ (1500 : Int) < (s.size : Int) := by omega
    have hz2 : (s.size : Int) ≤ 1500 := by omega
    by_cases hbig2 : 300 < g.size
    · have hy : (300 : Int) < (g.size : Int) := by omega
      go_enter Try.func8, Try.ntmps8
      go_wp2_with ((with_reducible refine KH.mono ?_); rintro e w1 ⟨rfl, hb1⟩)
      go_ret
      exact ⟨rfl, hb1⟩
    · have hy : ¬ (300 : Int) < (g.size : Int) := by omega
      have hy2 : (g.size : Int) ≤ 300 := by omega
      have KG := fun W => gaps_ref g W (by omega)
      cases hgp : gpsB g.data.toList with
      | false =>
        rw [hgp] at KG
        clear hgp
        go_enter Try.func8, Try.ntmps8
        go_wp2_with (first | ((with_reducible refine KH.mono ?_); rintro e w1 ⟨rfl, hb1⟩) | ((with_reducible refine (KG _).mono ?_); rintro e w2 ⟨rfl, rfl⟩))
        go_ret
        exact ⟨rfl, hb1⟩
      | true =>
        rw [hgp] at KG
        have HG : Hid (gp false g.data.toList = g.data.toList.length) := Lib.hid (by unfold gpsB at hgp; simpa using hgp)
        clear hgp
        rcases lex_cases s.data.toList (by rw [len_data]; omega) with ⟨ts, h1, r1, l1⟩ | ⟨ts, e0, x, h1, r1, he, hx⟩
        · obtain ⟨n, hn⟩ : ∃ n, ts.length = n := ⟨_, rfl⟩
          have htx := lx_txt h1
          rw [len_data] at l1 htx
          have K1 := fun W => lex_n s W ts n 0 0 r1 hn
          have HN := Lib.hid hn
          have HX := Lib.hid htx
          have H1 := Lib.hid h1
          rw [hn] at l1
          -- behind the cut
          have FIN : Hid (∀ mid, Cut s ts mid → ∃ us, us.length = n ∧ us.map kt = ts.map kt ∧ lexR (g ++ ⟨#[10]⟩ ++ s.extract 0 mid ++ (g ++ ⟨#[10]⟩) ++ s.extract mid s.size ++ ⟨#[10]⟩ ++ g).data.toList = (us, 0, 0)) := Lib.hid fun mid hc => by
            obtain ⟨t1, t2, b, e1, e2, e3⟩ := hc.one
            have hle := hc.le
            obtain ⟨us, u1, u2⟩ := lex_gaps HG.out e2 e3 (by rw [List.length_take, List.length_drop, len_data, len_data]; omega)
            refine ⟨us, ?_, by rw [u2, e1], ?_⟩
            · have := congrArg List.length u2
              rw [List.length_map, List.length_map, ← e1] at this
              rw [this, hn]
            · rw [app_list, app_list, app_list, app_list, app_list, app_list, ext_zero, ext_end]
              exact u1
          clear h1 r1 hn htx
          by_cases hn0 : n = 0
          · subst hn0
            have hc0 : Cut s ts 0 := ⟨Nat.zero_le _, [], ts, 0, rfl, .done rfl, by rw [List.drop_zero]; exact H1.out⟩
            obtain ⟨us, un, um, ur⟩ := FIN.out 0 hc0
            rw [ext_none] at ur
            have K3 := fun W => lex_n _ W us 0 0 0 ur un
            have HM := Lib.hid um
            clear ur un um
            go_enter Try.func8, Try.ntmps8
            go_wp2_with (first
              | ((with_reducible refine KH.mono ?_); rintro e w1 ⟨rfl, hb1⟩)
              | ((with_reducible refine (KG _).mono ?_); rintro e w2 ⟨rfl, rfl⟩)
              | ((with_reducible refine (K1 _).mono ?_); rintro e w2 ⟨⟨ao1, cap1, rfl, hc1, t1⟩, hb2⟩; have T1 := Lib.hid t1; clear t1))
            have s1 : g.size ≤ 9223372036854775806 := by omega
            have s2 : g.size + 1 + (g.size + 1) ≤ 9223372036854775807 := by omega
            have s3 : g.size + 1 + (g.size + 1) + s.size ≤ 9223372036854775807 := by omega
            have s4 : g.size + 1 + (g.size + 1) + s.size ≤ 9223372036854775806 := by omega
            have s5 : g.size + 1 + (g.size + 1) + s.size + 1 + g.size ≤ 9223372036854775807 := by omega
            go_region_with (go_at_call 12; (with_reducible refine (K3 _).mono ?_); rintro e w4 ⟨⟨ao2, cap2, rfl, hc2, t2⟩, hb4⟩)
            have B4 := Lib.hid ((drew_below w2).trans (hb4.mono (drew_below w2).size))
            have T2 := Lib.hid t2
            have K4 := alike_any ao1 ao2 0 cap1 cap2 ts us w4 HN.out HM.out ((T1.out.below B4.out (Nat.le_refl _)).more B4.out.size) T2.out (Nat.zero_le _) (Nat.zero_le _) (by omega)
            clear t2 hb4 s1 s2 s3 s4 s5
            go_wp2_with ((with_reducible refine K4.mono ?_); rintro e w5 ⟨rfl, hb5⟩)
            go_ret
            exact ⟨ret_bool (by first | rfl | simp), hb1.trans ((hb2.trans ((B4.out.trans (hb5.mono B4.out.size)).mono hb2.size)).mono hb1.size)⟩
          · have hnpos : 0 < n := Nat.pos_of_ne_zero hn0
            obtain ⟨m', rfl⟩ := Int.eq_ofNat_of_zero_le hm0
            obtain ⟨k, hk⟩ : ∃ k, m' % n = k := ⟨_, rfl⟩
            have hkn : k < n := by rw [← hk]; exact Nat.mod_lt _ hnpos
            have hkl : k < ts.length := by rw [HN.out]; exact hkn
            obtain ⟨mid, e1, e2, e3, e4⟩ := lx_cut H1.out rfl k hkl
            rw [Nat.zero_add] at e1 e4
            rw [len_data] at e2
            have hc : Cut s ts mid := ⟨e2, ts.take (k + 1), ts.drop (k + 1), mid, (List.take_append_drop _ _).symm, e3, e4⟩
            obtain ⟨us, un, um, ur⟩ := FIN.out mid hc
            have K3 := fun W => lex_n _ W us n 0 0 ur un
            have HM := Lib.hid um
            have htl := HX.out _ (List.getElem_mem hkl)
            have KW := fun W => written_ref ts[k].k (ts[k].a : Int) ts[k].t W (by omega)
            have hsum : ((ts[k].a : Int) + ((ByteArray.mk (Lx.wr ts[k].k ts[k].t).toArray).size : Int)) = (mid : Int) := by rw [str_size]; omega
            have hta : ts[k].a ≤ mid := by omega
            have hmk2 : (m' : Int) % (n : Int) = (k : Int) := by rw [← hk]; rfl
            have hmk1 : Int.tmod (m' : Int) (n : Int) = (k : Int) := by rw [Int.tmod_eq_emod_of_nonneg (by omega)]; exact hmk2
            have hw16 : IntKind.i64.wrap (m' : Int) = (m' : Int) := IntWalk.i64_in _ (by omega)
            have hkn' : (k : Int) < (n : Int) := by omega
            have hnz : ((n : Int) == 0) = false := by rw [beq_eq_false_iff_ne]; omega
            have hnp : (0 : Int) < (n : Int) := by omega
            clear ur un um e1 e3 e4 hc FIN hk
            go_enter Try.func8, Try.ntmps8
            go_wp2_with (first
              | ((with_reducible refine KH.mono ?_); rintro e w1 ⟨rfl, hb1⟩)
              | ((with_reducible refine (KG _).mono ?_); rintro e w2 ⟨rfl, rfl⟩)
              | ((with_reducible refine (K1 _).mono ?_); rintro e w2 ⟨⟨ao1, cap1, rfl, hc1, t1⟩, hb2⟩; have T1 := Lib.hid t1; clear t1; obtain ⟨g1, o1, rfl, hg1, a0, a1, a2⟩ := T1.out.at_ hkl; have hc1' : (n : Int) ≤ (cap1 : Int) := (by omega)))
            obtain ⟨V, hV⟩ : ∃ V, w2.alloc (.cells #[.int .i64 ts[k].k, .string ⟨ts[k].t.toArray⟩, .int .i64 (ts[k].a : Int)] 31) = V := ⟨_, rfl⟩
            have bV : Below w2.heap.size w2 V := hV ▸ alloc1 w2 _
            have rV : IsRow V w2.heap.size 31 #[.int .i64 ts[k].k, .string ⟨ts[k].t.toArray⟩, .int .i64 (ts[k].a : Int)] := hV ▸ IsRow.made w2 _ _
            rw [hV]
            obtain ⟨c0, c1, c2, _, _, _⟩ := facts3 rV
            have hin := rV.inside
            have BV := Lib.hid bV
            have bvs := bV.size
            have HS := Lib.hid (show w.heap.size ≤ w2.heap.size from Nat.le_trans hb1.size hb2.size)
            have T2 := Lib.hid ((T1.out.below bV (Nat.le_refl _)).more bV.size)
            have wsum : IntKind.i64.wrap ((ts[k].a : Int) + ((ByteArray.mk (Lx.wr ts[k].k ts[k].t).toArray).size : Int)) = (mid : Int) := by rw [hsum]; exact IntWalk.i64_in _ (by omega)
            clear hV bV rV a0 a1 a2 T1 hmk1 hmk2 hw16 htl hta
            generalize ts[k].k = k0 at *
            generalize ts[k].t = t0 at *
            generalize ts[k].a = x0 at *
            generalize (ByteArray.mk (Lx.wr k0 t0).toArray) = q at *
            have hle := bvs
            clear bvs
            generalize w2.heap.size = h2 at *
            have HLE := Lib.hid hle
            clear hle
            have keep : ∀ W', Below V.drew.heap.size V.drew W' → (W'.cell? ⟨h2, 0, none⟩ = some (.int .i64 k0) ∧ W'.cell? ⟨h2, 1, none⟩ = some (.string ⟨t0.toArray⟩) ∧ W'.cell? ⟨h2, 2, none⟩ = some (.int .i64 (x0 : Int))) := fun W' h =>
              ⟨(h.cell (p := ⟨h2, 0, none⟩) hin).trans c0, (h.cell (p := ⟨h2, 1, none⟩) hin).trans c1, (h.cell (p := ⟨h2, 2, none⟩) hin).trans c2⟩
            have HK := Lib.hid keep
            clear keep
            go_region_held3 (fun w' => w'.cell? ⟨h2, 0, none⟩ = some (.int .i64 k0) ∧ w'.cell? ⟨h2, 1, none⟩ = some (.string ⟨t0.toArray⟩) ∧ w'.cell? ⟨h2, 2, none⟩ = some (.int .i64 (x0 : Int)))
              (first | with_reducible exact KS | go_keep)
              ((go_at_call 22; (with_reducible refine (KW _).mono ?_); rintro e w3 ⟨rfl, hb3⟩; have KS := HK.out w3 hb3))
            have B3 := Lib.hid ((BV.out.trans ((drew_below V).mono HLE.out)).trans (hb3.mono (Nat.le_trans HLE.out (drew_below V).size)))
            have T3 := Lib.hid ((T2.out.below ((drew_below V).trans (hb3.mono (drew_below V).size)) (Nat.le_refl _)).more (Nat.le_trans (drew_below V).size hb3.size))
            have hms2 : (mid : Int) ≤ (s.size : Int) := by omega
            have hms3 : ¬ (s.size : Int) < (mid : Int) := by omega
            have hms4 : ¬ (mid : Int) < 0 := by omega
            clear hb3 KS T2 c0 c1 c2 HK hin
            go_wp2
            have s1 : g.size + 1 + min mid s.size ≤ 9223372036854775807 := by omega
            have s2 : g.size + 1 + min mid s.size + (g.size + 1) ≤ 9223372036854775807 := by omega
            have s3 : g.size + 1 + min mid s.size + (g.size + 1) + (s.size - mid) ≤ 9223372036854775807 := by omega
            have s4 : g.size + 1 + min mid s.size + (g.size + 1) + (s.size - mid) ≤ 9223372036854775806 := by omega
            have s5 : g.size + 1 + min mid s.size + (g.size + 1) + (s.size - mid) + 1 + g.size ≤ 9223372036854775807 := by omega
            go_region_with (go_at_call 12; (with_reducible refine (K3 _).mono ?_); rintro e w4 ⟨⟨ao2, cap2, rfl, hc2, t2⟩, hb4⟩)
            have B4 := Lib.hid ((drew_below w3).trans (hb4.mono (drew_below w3).size))
            have T4 := Lib.hid t2
            have K4 := alike_any (some ⟨g1, o1, none⟩) ao2 n cap1 cap2 ts us w4 HN.out HM.out ((T3.out.below B4.out (Nat.le_refl _)).more B4.out.size) T4.out hc1 hc2 (by omega)
            clear t2 hb4 s1 s2 s3 s4 s5
            go_wp2_with ((with_reducible refine K4.mono ?_); rintro e w5 ⟨rfl, hb5⟩)
            go_ret
            have A := (hb1.trans (hb2.mono hb1.size)).trans (B3.out.mono HS.out)
            exact ⟨ret_bool (by first | rfl | simp), A.trans ((B4.out.trans (hb5.mono B4.out.size)).mono A.size)⟩
        · have K1 := fun W => lex_of s W [] e0 x r1
          have he1 : (e0 == 0) = false := by rw [beq_eq_false_iff_ne]; omega
          have he3 : (e0 != 0) = true := by simp [bne, he1]
          clear h1 r1 he
          go_enter Try.func8, Try.ntmps8
          go_wp2_with (first
            | ((with_reducible refine KH.mono ?_); rintro e w1 ⟨rfl, hb1⟩)
            | ((with_reducible refine (KG _).mono ?_); rintro e w2 ⟨rfl, rfl⟩)
            | ((with_reducible refine (K1 _).mono ?_); rintro e w2 ⟨⟨ao1, cap1, rfl, hc1, _⟩, hb2⟩))
          go_ret
          exact ⟨rfl, hb1.trans (hb2.mono hb1.size)⟩
end Go.Proofs.Ytclkolllflcmcaa.Lx
