/- Plain mathematics of tokens: what the range function hands on, what Lex makes of it; it is the relation of tokens. -/
import Derived.Test.YtlknbjaippfemaaLxNext
namespace Go.Proofs.Ytlknbjaippfemaa.Lx
/-- what is handed on from an offset on, behind gaps: tokens with 0, or an error. -/
def ev : Nat → Nat → B → List (Tk × Int)
  | 0, _, _ => []
  | _ + 1, _, [] => []
  | f + 1, a, c :: l => match nx (c :: l) with
    | .bad e => [(⟨0, [], a⟩, e)]
    | .tok k t n => (⟨k, t, a⟩, 0) :: ev f (a + n + gp false ((c :: l).drop n)) (((c :: l).drop n).drop (gp false ((c :: l).drop n)))
def evs (a : Nat) (m : B) : List (Tk × Int) := ev m.length a m
theorem ev_fuel : ∀ (f f' a : Nat) (m : B), m.length ≤ f → m.length ≤ f' → ev f a m = ev f' a m
  | 0, 0, _, _, _, _ => rfl
  | 0, f' + 1, a, m, h, _ => by
    obtain rfl : m = [] := List.eq_nil_of_length_eq_zero (by omega)
    rfl
  | f + 1, 0, a, m, _, h => by
    obtain rfl : m = [] := List.eq_nil_of_length_eq_zero (by omega)
    rfl
  | f + 1, f' + 1, a, [], _, _ => rfl
  | f + 1, f' + 1, a, c :: l, h, h' => by
    show (match nx (c :: l) with | .bad e => _ | .tok k t n => _) = (match nx (c :: l) with | .bad e => _ | .tok k t n => _)
    cases hn : nx (c :: l) with
    | bad e => rfl
    | tok k t n =>
      have hw := nx_wr hn
      have hl : (((c :: l).drop n).drop (gp false ((c :: l).drop n))).length ≤ l.length := by
        rw [List.length_drop, List.length_drop, List.length_cons]; omega
      simp only [List.length_cons] at h h'
      dsimp only
      rw [ev_fuel f f' _ _ (by omega) (by omega)]
theorem evs_nil (a : Nat) : evs a [] = [] := rfl
theorem evs_bad {a : Nat} {m : B} {e : Int} (h0 : m ≠ []) (h : nx m = .bad e) : evs a m = [(⟨0, [], a⟩, e)] := by
  cases m with
  | nil => exact absurd rfl h0
  | cons c l => show (match nx (c :: l) with | .bad e => _ | .tok k t n => _) = _; rw [h]
theorem evs_tok {a : Nat} {m : B} {k : Int} {t : B} {n : Nat} (h : nx m = .tok k t n) :
    evs a m = (⟨k, t, a⟩, 0) :: evs (a + n + gp false (m.drop n)) ((m.drop n).drop (gp false (m.drop n))) := by
  have hw := nx_wr h
  cases m with
  | nil => simp [nx] at h
  | cons c l =>
    show (match nx (c :: l) with | .bad e => _ | .tok k t n => _) = _
    rw [h]
    show _ :: _ = _ :: _
    congr 1
    exact ev_fuel _ _ _ _ (by rw [List.length_drop, List.length_drop, List.length_cons]; omega) (Nat.le_refl _)
theorem evs_len : ∀ (f a : Nat) (m : B), m.length ≤ f → (evs a m).length ≤ m.length
  | _, a, [], _ => Nat.le_refl _
  | 0, a, c :: l, h => by simp at h
  | f + 1, a, c :: l, h => by
    cases hn : nx (c :: l) with
    | bad e => rw [evs_bad (by simp) hn]; simp
    | tok k t n =>
      rw [evs_tok hn]
      have hw := nx_wr hn
      have hl : (((c :: l).drop n).drop (gp false ((c :: l).drop n))).length ≤ l.length := by
        rw [List.length_drop, List.length_drop, List.length_cons]; omega
      simp only [List.length_cons] at h ⊢
      have := evs_len f (a + n + gp false ((c :: l).drop n)) _ (Nat.le_trans hl (by omega))
      omega
/-- what Lex makes of it. -/
def scan (acc : List Tk) : List (Tk × Int) → List Tk × Int × Int
  | [] => (acc, 0, 0)
  | (t, e) :: r => if e = 0 ∧ acc.length = 5000 then ([], 2, t.a) else if e ≠ 0 then ([], e, t.a) else scan (acc ++ [t]) r
def evL (s : B) : List (Tk × Int) := evs (gp false s) (s.drop (gp false s))
def lexR (s : B) : List Tk × Int × Int := if 20000 < s.length then ([], 2, -1) else scan [] (evL s)
theorem nx_err {m : B} {e : Int} (h0 : m ≠ []) (h : nx m = .bad e) : e = 2 ∨ e = 3 ∨ e = 4 := by
  cases m with
  | nil => exact absurd rfl h0
  | cons c l =>
    by_cases h1 : isLet c
    · rw [nx_let h1] at h
      split at h
      · injection h with h; exact .inl h.symm
      · cases h
    · have h1' : isLet c = false := by simpa using h1
      by_cases h2 : isDig c
      · rw [nx_dig h1' h2] at h
        split at h
        · injection h with h; exact .inr (.inr h.symm)
        · cases h
      · have h2' : isDig c = false := by simpa using h2
        by_cases h3 : c = 34
        · subst h3
          rw [nx_quo] at h
          cases hq : st false l with
          | none => rw [hq] at h; injection h with h; exact .inr (.inl h.symm)
          | some r => rw [hq] at h; cases h
        · rw [nx_sym h1' h2' h3] at h
          split at h
          · cases h
          · injection h with h; exact .inr (.inl h.symm)
def tail : Option (Int × Nat) → List (Tk × Int)
  | none => []
  | some (e, x) => [(⟨0, [], x⟩, e)]
theorem evs_lx {a : Nat} {l : B} {ts : List Tk} {r : Option (Int × Nat)} (h : Lx a l ts r) : evs (a + gp false l) (l.drop (gp false l)) = ts.map (fun t => (t, 0)) ++ tail r := by
  induction h with
  | done h => rw [h]; rfl
  | bad h h0 hn => rw [h, evs_bad h0 hn]; rfl
  | tok h h0 hn _ ih => rw [h, evs_tok hn, ih]; rfl
theorem lx_any : ∀ (f a : Nat) (l : B), l.length ≤ f → ∃ ts r, Lx a l ts r ∧ ts.length ≤ l.length ∧ ∀ e x, r = some (e, x) → (e = 2 ∨ e = 3 ∨ e = 4) ∧ x < a + l.length ∧ a ≤ x := by
  intro f
  induction f with
  | zero =>
    intro a l h
    obtain rfl : l = [] := List.eq_nil_of_length_eq_zero (by omega)
    exact ⟨[], none, .done rfl, Nat.le_refl _, by intro e x h; cases h⟩
  | succ f ih =>
    intro a l h
    by_cases h0 : l.drop (gp false l) = []
    · exact ⟨[], none, .done h0, Nat.zero_le _, by intro e x h; cases h⟩
    · have hg := gp_le false l
      have hlt : gp false l < l.length := by
        refine Nat.lt_of_not_le fun hge => h0 (List.drop_of_length_le hge)
      cases hn : nx (l.drop (gp false l)) with
      | bad e => exact ⟨[], some (e, a + gp false l), .bad rfl h0 hn, Nat.zero_le _, by intro e' x h; cases h; exact ⟨nx_err h0 hn, by omega, by omega⟩⟩
      | tok k t n =>
        have hw := nx_wr hn
        rw [List.length_drop] at hw
        obtain ⟨ts, r, h1, h2, h3⟩ := ih (a + gp false l + n) ((l.drop (gp false l)).drop n) (by rw [List.length_drop, List.length_drop]; omega)
        rw [List.length_drop, List.length_drop] at h2 h3
        exact ⟨_, r, .tok rfl h0 hn h1, by simp; omega, fun e x hx => ⟨(h3 e x hx).1, by have := (h3 e x hx).2.1; omega, by have := (h3 e x hx).2.2; omega⟩⟩
theorem scan_map (r : Option (Int × Nat)) (hr : ∀ e x, r = some (e, x) → e = 2 ∨ e = 3 ∨ e = 4) : ∀ (ts acc : List Tk), acc.length + ts.length ≤ 5000 →
    scan acc (ts.map (fun t => (t, 0)) ++ tail r) = match r with | none => (acc ++ ts, 0, 0) | some (e, x) => ([], e, x)
  | [], acc, h => by
    cases r with
    | none => show (acc, (0 : Int), (0 : Int)) = _; rw [List.append_nil]
    | some ex =>
      obtain ⟨e, x⟩ := ex
      have := hr e x rfl
      show (if e = 0 ∧ acc.length = 5000 then _ else if e ≠ 0 then _ else _) = _
      rw [if_neg (by omega), if_pos (by omega)]
  | t :: ts, acc, h => by
    show (if (0 : Int) = 0 ∧ acc.length = 5000 then _ else if (0 : Int) ≠ 0 then _ else scan (acc ++ [t]) (ts.map (fun t => (t, 0)) ++ tail r)) = _
    simp only [List.length_cons] at h
    rw [if_neg (by omega), if_neg (by omega), scan_map r hr ts (acc ++ [t]) (by simp; omega)]
    cases r with
    | none => simp
    | some ex => rfl
theorem lx_det {a : Nat} {l : B} {ts ts' : List Tk} {r r' : Option (Int × Nat)} (h : Lx a l ts r) (h' : Lx a l ts' r') : ts = ts' ∧ r = r' := by
  induction h generalizing ts' r' with
  | done h =>
    cases h' with
    | done _ => exact ⟨rfl, rfl⟩
    | bad h2 h0 _ => exact absurd (h2.symm.trans h) h0
    | tok h2 h0 _ _ => exact absurd (h2.symm.trans h) h0
  | bad h h0 hn =>
    cases h' with
    | done h2 => exact absurd (h.symm.trans h2) h0
    | bad h2 _ hn2 => rw [← h2, h, hn] at hn2; cases hn2; exact ⟨rfl, rfl⟩
    | tok h2 _ hn2 _ => rw [← h2, h, hn] at hn2; cases hn2
  | tok h h0 hn _ ih =>
    cases h' with
    | done h2 => exact absurd (h.symm.trans h2) h0
    | bad h2 _ hn2 => rw [← h2, h, hn] at hn2; cases hn2
    | tok h2 _ hn2 hr2 =>
      have e := h2.symm.trans h
      rw [e, hn] at hn2
      cases hn2
      rw [e] at hr2
      obtain ⟨rfl, rfl⟩ := ih hr2
      exact ⟨rfl, rfl⟩
/-- a text of at most 5000 bytes: what Lex returns. -/
theorem lex_lx {s : B} {ts : List Tk} {r : Option (Int × Nat)} (h : Lx 0 s ts r) (hs : s.length ≤ 5000) : lexR s = match r with | none => (ts, 0, 0) | some (e, x) => ([], e, x) := by
  obtain ⟨ts', r', h', h2, h3⟩ := lx_any s.length 0 s (Nat.le_refl _)
  obtain ⟨rfl, rfl⟩ := lx_det h h'
  have e := evs_lx h
  rw [Nat.zero_add] at e
  unfold lexR evL
  rw [if_neg (by omega), e, scan_map r (fun e x hx => (h3 e x hx).1) ts [] (by simp; omega)]
  cases r <;> rfl
end Go.Proofs.Ytlknbjaippfemaa.Lx
