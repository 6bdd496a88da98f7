/- Merged: LxLaws2. -/
import Derived.Test.YtgbkjdpjilldmaaDoorHm20
import Derived.Test.YtgbkjdpjilldmaaDoorHm14
/- Plain mathematics of the laws of tokens: gaps within a text; names. -/
namespace Go.Proofs.YtgbkjdpjilldmaaDoor.Lx
theorem gaps_hd {g : B} (h : gp false g = g.length) : hd isWord g = false := by
  cases g with
  | nil => rfl
  | cons c g =>
    show isWord c = false
    by_cases hb : isBlk c
    · exact (all_u8 (P := fun c => isBlk c = true → isWord c = false) (by decide +kernel)) c hb
    · rw [gp, if_neg hb] at h
      by_cases h2 : c = 35
      · subst h2; decide
      · rw [if_neg h2] at h; simp at h
theorem lx_gaps {a : Nat} {l : B} {ts : List Tk} {r : Option (Int × Nat)} (h : Lx a l ts r) {g : B} (hg : gp false g = g.length) : r = none → Lx a (l ++ g) ts none := by
  induction h with
  | @done a l h =>
    intro _
    have hl := gp_le false l
    have h2 : gp false l = l.length := by
      have := congrArg List.length h
      rw [List.length_drop] at this
      simp at this; omega
    exact .done (by rw [gp_gaps hg false l h2]; exact List.drop_of_length_le (by simp))
  | bad _ _ _ => intro h; cases h
  | @tok a l m k t n ts r h h0 hn _ ih =>
    intro hr
    have hw := nx_wr hn
    have hlt : gp false l < l.length := by
      refine Nat.lt_of_not_le fun hge => h0 (by rw [← h]; exact List.drop_of_length_le hge)
    have hgm := gp_more g false l hlt
    have hd0 : (l ++ g).drop (gp false l) = m ++ g := by rw [List.drop_append_of_le_length (by omega), h]
    have := Lx.tok (a := a) (l := l ++ g) (m := m ++ g) (by rw [hgm, hd0]) (by simp [h0]) (nx_app hn g (gaps_hd hg)) (ts := ts) (r := none) (by
      rw [hgm, List.drop_append_of_le_length hw.2.1]
      exact ih hr)
    rw [hgm] at this
    exact this
/-- cut behind a token. -/
theorem lx_cut {a : Nat} {l : B} {ts : List Tk} {r : Option (Int × Nat)} (h : Lx a l ts r) : r = none → ∀ (i : Nat) (hi : i < ts.length), ∃ mid, a + mid = ts[i].a + (wr ts[i].k ts[i].t).length ∧ mid ≤ l.length ∧
    Lx a (l.take mid) (ts.take (i + 1)) none ∧ Lx (a + mid) (l.drop mid) (ts.drop (i + 1)) none := by
  induction h with
  | done _ => intro _ i hi; simp at hi
  | bad _ _ _ => intro h; cases h
  | @tok a l m k t n ts r h h0 hn hrest ih =>
    intro hr i hi
    have hw := nx_wr hn
    have hlen : (wr k t).length = n := by rw [← hw.2.2, List.length_take]; omega
    have hg := gp_le false l
    have hm : m.length = l.length - gp false l := by rw [← h, List.length_drop]
    have hgt : ∀ mid', n + mid' ≤ m.length → gp false (l.take (gp false l + (n + mid'))) = gp false l := fun mid' _ => gp_take false l _ (by omega)
    have hdt : ∀ mid', (l.take (gp false l + (n + mid'))).drop (gp false l) = m.take (n + mid') := fun mid' => by rw [List.drop_take, h, Nat.add_sub_cancel_left]
    have hne : ∀ mid', m.take (n + mid') ≠ [] := fun mid' e => by
      have h3 := congrArg List.length e
      rw [List.length_take, List.length_nil] at h3
      have h4 : m.length ≠ 0 := fun e => h0 (List.eq_nil_of_length_eq_zero e)
      omega
    cases i with
    | zero =>
      refine ⟨gp false l + n, by show a + (gp false l + n) = a + gp false l + (wr k t).length; rw [hlen]; omega, by omega, ?_, ?_⟩
      · have := Lx.tok (a := a) (l := l.take (gp false l + (n + 0))) (m := m.take (n + 0)) (by rw [hgt 0 (by omega), hdt]) (hne 0) (nx_take hn _ (by omega)) (ts := []) (r := none) (.done (by
          rw [List.drop_take]; simp))
        rw [hgt 0 (by omega), Nat.add_zero] at this
        exact this
      · rw [← List.drop_drop, h, ← Nat.add_assoc]
        rw [hr] at hrest
        exact hrest
    | succ i =>
      obtain ⟨mid, e1, e2, e3, e4⟩ := ih hr i (by simpa using hi)
      rw [List.length_drop] at e2
      have hi' : i < ts.length := by simpa using hi
      refine ⟨gp false l + (n + mid), by show a + (gp false l + (n + mid)) = (ts[i]'hi').a + (wr (ts[i]'hi').k (ts[i]'hi').t).length; rw [← e1]; omega, by omega, ?_, ?_⟩
      · have := Lx.tok (a := a) (l := l.take (gp false l + (n + mid))) (m := m.take (n + mid)) (by rw [hgt mid (by omega), hdt]) (hne mid) (nx_take hn _ (by omega)) (ts := ts.take (i + 1)) (r := none) (by
          rw [hgt mid (by omega), List.drop_take, Nat.add_sub_cancel_left]
          exact e3)
        rw [hgt mid (by omega)] at this
        exact this
      · rw [← List.drop_drop, ← List.drop_drop, h, show a + (gp false l + (n + mid)) = a + gp false l + n + mid by omega]
        exact e4
/-- gaps before a text, behind it, and within it behind a token. -/
theorem lex_gaps {g pre post : B} {t1 t2 : List Tk} {a b : Nat} (hg : gp false g = g.length) (h1 : Lx a pre t1 none) (h2 : Lx b post t2 none) (hs : pre.length + post.length + 3 * g.length + 3 ≤ 5000) :
    ∃ us, lexR (g ++ [10] ++ pre ++ (g ++ [10]) ++ post ++ [10] ++ g) = (us, 0, 0) ∧ us.map kt = (t1 ++ t2).map kt := by
  have hd0 : g.drop (gp false g) = [] := by rw [hg]; exact List.drop_length
  have G : ∀ c, Lx c g [] none := fun c => .done hd0
  obtain ⟨u2, k2, m2⟩ := lx_at h2 (g.length + 1 + (pre ++ g).length + 1)
  have k3 := lx_line k2 rfl g [] none (G _)
  obtain ⟨u1, k1, m1⟩ := lx_at h1 (g.length + 1)
  have k4 := lx_line (lx_gaps k1 hg rfl) rfl _ _ _ k3
  have k5 := lx_line (G 0) rfl _ _ _ (show Lx (0 + g.length + 1) _ _ _ by rw [Nat.zero_add]; exact k4)
  refine ⟨[] ++ (u1 ++ (u2 ++ [])), ?_, ?_⟩
  · rw [show g ++ [10] ++ pre ++ (g ++ [10]) ++ post ++ [10] ++ g = g ++ 10 :: (pre ++ g ++ 10 :: (post ++ 10 :: g)) by simp]
    exact lex_lx k5 (by simp; omega)
  · rw [List.nil_append, List.append_nil, List.map_append, List.map_append, m1, m2]
/-- names. -/
theorem run_full {p : UInt8 → Bool} {l : B} (h : l.all p = true) : run p l = l.length := run_eq l l.length (Nat.le_refl _) (fun c hc => by rw [List.take_length] at hc; exact List.all_eq_true.1 h c hc) (by rw [List.drop_length]; rfl)
theorem lex_one {l : B} {k : Int} {t : B} {n : Nat} (hn : nx l = .tok k t n) (h0 : gp false l = 0) (hl : n = l.length) (hs : l.length ≤ 5000) : lexR l = ([⟨k, t, 0⟩], 0, 0) := by
  have hne : l ≠ [] := by intro e; rw [e] at hn; simp [nx] at hn
  have := Lx.tok (a := 0) (l := l) (m := l) (by rw [h0]; rfl) hne hn (ts := []) (r := none) (.done (by rw [hl, List.drop_length]; rfl))
  rw [h0] at this
  exact lex_lx this hs
theorem let_gap {c : UInt8} (h : isLet c = true) : isBlk c = false ∧ c ≠ 35 := (all_u8 (P := fun c => isLet c = true → isBlk c = false ∧ c ≠ 35) (by decide +kernel)) c h
theorem name_nx {l : B} (h : nmB l = true) (s : B) (hs : hd isWord s = false) : nx (l ++ s) = .tok 1 l l.length ∧ gp false (l ++ s) = 0 := by
  unfold nmB at h
  rw [Bool.and_eq_true, Bool.and_eq_true, decide_eq_true_eq] at h
  obtain ⟨⟨h1, h2⟩, h3⟩ := h
  cases l with
  | nil => cases h1
  | cons c l =>
    have hr : run isWord (c :: l ++ s) = (c :: l).length := by rw [run_app s hs, run_full h3]
    refine ⟨?_, gp_zero (let_gap h1).1 (let_gap h1).2⟩
    show nx (c :: (l ++ s)) = _
    rw [nx_let h1, ← List.cons_append, hr, if_neg (by omega), List.take_left']
    rfl
theorem name_lex {l : B} (h : nmB l = true) (hs : l.length ≤ 5000) : lexR l = ([⟨1, l, 0⟩], 0, 0) := by
  have h1 := name_nx h [] rfl
  rw [List.append_nil] at h1
  exact lex_one h1.1 h1.2 rfl hs
theorem lex_name {l : B} (hs : l.length ≤ 5000) (h : lexR l = ([⟨1, l, 0⟩], 0, 0)) : nmB l = true := by
  rcases lex_cases l hs with ⟨ts, h1, h2, _⟩ | ⟨ts, e, x, h1, h2, h3, _⟩
  · rw [h] at h2
    have hts : [⟨1, l, 0⟩] = ts := congrArg Prod.fst h2
    cases h1 with
    | done _ => cases hts
    | @tok _ _ m k t n ts' _ hm h0 hn hr =>
      have hk : (1 : Int) = k := congrArg Tk.k (List.cons.inj hts).1
      obtain rfl : l = t := congrArg Tk.t (List.cons.inj hts).1
      have hw := nx_wr hn
      have hwl : wr k l = l := by unfold wr; rw [if_neg (by omega)]
      have hml : m.length ≤ l.length := by rw [← hm, List.length_drop]; omega
      have hlen : l.length = n := by
        have := congrArg List.length hw.2.2
        rw [List.length_take, hwl] at this
        omega
      have hg0 : gp false l = 0 := by
        have : m.length = l.length - gp false l := by rw [← hm, List.length_drop]
        have := gp_le false l
        omega
      rw [hg0, List.drop_zero] at hm
      subst hm
      cases l with
      | nil => exact absurd rfl h0
      | cons c l =>
        by_cases c1 : isLet c
        · rw [nx_let c1] at hn
          split at hn
          · cases hn
          · rename_i h24
            injection hn with _ _ e3
            have hall := run_all isWord (c :: l)
            rw [e3, ← hlen, List.take_length] at hall
            unfold nmB
            rw [show hd isLet (c :: l) = true from c1, decide_eq_true (by omega), List.all_eq_true.2 hall]; rfl
        · have c1' : isLet c = false := by simpa using c1
          by_cases c2 : isDig c
          · rw [nx_dig c1' c2] at hn
            split at hn
            · cases hn
            · injection hn with e1 _ _; omega
          · have c2' : isDig c = false := by simpa using c2
            by_cases c3 : c = 34
            · subst c3
              rw [nx_quo] at hn
              cases hq : st false l with
              | none => rw [hq] at hn; cases hn
              | some r => rw [hq] at hn; injection hn with e1 _ _; omega
            · rw [nx_sym c1' c2' c3] at hn
              split at hn
              · injection hn with e1 _ _; omega
              · cases hn
  · rw [h] at h2
    have : (0 : Int) = e := congrArg (fun q => q.2.1) h2
    omega
/-- a name, a symbol and a number. -/
theorem lex_three {l d : B} {c : UInt8} (h : nmB l = true) (hc : isSym c = true) (hd1 : d ≠ []) (hd2 : d.all isDig = true) (hd3 : d.length ≤ 7) :
    lexR (l ++ [c] ++ d) = ([⟨1, l, 0⟩, ⟨4, [c], l.length⟩, ⟨2, d, l.length + 1⟩], 0, 0) := by
  have key : ∀ c : UInt8, isSym c = true → isLet c = false ∧ isDig c = false ∧ c ≠ 34 ∧ isWord c = false ∧ isBlk c = false ∧ c ≠ 35 := all_u8 (by decide +kernel)
  obtain ⟨s1, s2, s3, s4, s5, s6⟩ := key c hc
  have h1 := name_nx h (c :: d) (by exact s4)
  have hlen : l.length ≤ 24 := by
    unfold nmB at h
    rw [Bool.and_eq_true, Bool.and_eq_true, decide_eq_true_eq] at h
    exact h.1.2
  have h2 : nx (c :: d) = .tok 4 [c] 1 := (nx_sym s1 s2 s3).trans (if_pos hc)
  have g2 : gp false (c :: d) = 0 := gp_zero s5 s6
  cases d with
  | nil => exact absurd rfl hd1
  | cons x d =>
    have hx : isDig x = true := by rw [List.all_cons, Bool.and_eq_true] at hd2; exact hd2.1
    have keyd : ∀ c : UInt8, isDig c = true → isLet c = false ∧ isBlk c = false ∧ c ≠ 35 := all_u8 (by decide +kernel)
    obtain ⟨d1, d2, d3⟩ := keyd x hx
    have g3 : gp false (x :: d) = 0 := gp_zero d2 d3
    have h3 : nx (x :: d) = .tok 2 (x :: d) (x :: d).length := by
      rw [nx_dig d1 hx, run_full hd2, if_neg, List.take_length]
      rintro (e | e)
      · omega
      · rw [List.drop_length] at e; cases e
    have t3 := Lx.tok (a := 0 + 0 + l.length + 0 + 1) (l := x :: d) (m := x :: d) (by rw [g3]; rfl) (by simp) h3 (ts := []) (r := none) (.done (by rw [List.drop_length]; rfl))
    have t2 := Lx.tok (a := 0 + 0 + l.length) (l := c :: x :: d) (m := c :: x :: d) (by rw [g2]; rfl) (by simp) h2 (by rw [g2, List.drop_succ_cons, List.drop_zero]; exact t3)
    have t1 := Lx.tok (a := 0) (l := l ++ c :: x :: d) (m := l ++ c :: x :: d) (by rw [h1.2]; rfl) (by simp) h1.1 (by rw [h1.2, List.drop_left']; exact t2; rfl)
    rw [show l ++ [c] ++ (x :: d) = l ++ c :: x :: d by simp]
    have h9 : lexR (l ++ c :: x :: d) = (_, (0 : Int), (0 : Int)) := lex_lx t1 (by simp at hd3 ⊢; omega)
    rw [h9, h1.2, g2, g3]
    simp
end Go.Proofs.YtgbkjdpjilldmaaDoor.Lx
