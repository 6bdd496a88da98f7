/- Plain mathematics of the text of tags: it is parsed as the tags. -/
import Derived.Test.YtlknbjaippfemaaTgParMath
import Derived.Test.YtlknbjaippfemaaLxLaws2
import Derived.Test.YtlknbjaippfemaaTgSetMath
namespace Go.Proofs.Ytlknbjaippfemaa.Tg
open Lx (Tk Lx nx gp hd esc quote kt isWord nmB)
/-- a text has these tokens, apart from offsets. -/
def LxK (l : B) (ks : List (Int × B)) : Prop := ∀ b, ∃ us, Lx.Lx b l us none ∧ us.map kt = ks
theorem lxk_nil : LxK [] [] := fun _ => ⟨[], .done rfl, rfl⟩
theorem lxk_cons {w rest : B} {k : Int} {t : B} {ks : List (Int × B)} (hn : nx (w ++ rest) = .tok k t w.length) (hg : gp false (w ++ rest) = 0) (h0 : w ≠ []) (h : LxK rest ks) : LxK (w ++ rest) ((k, t) :: ks) := by
  intro b
  obtain ⟨us, h1, h2⟩ := h (b + gp false (w ++ rest) + w.length)
  refine ⟨_, .tok (m := w ++ rest) (by rw [hg]; rfl) (by simp [h0]) hn (by rw [List.drop_left]; exact h1), ?_⟩
  rw [List.map_cons, h2]
  rfl
theorem lxk_blank {l : B} {ks : List (Int × B)} (h : LxK l ks) : LxK (32 :: l) ks := fun b => (h (b + 1)).elim fun us hu => ⟨us, Lx.lx_blank hu.1, hu.2⟩
theorem lxk_tag {t : T} {rest : B} {ks : List (Int × B)} (ht : nmB t.1 = true) (h : LxK rest ks) : LxK (txt1 t ++ rest) ((1, t.1) :: (4, [61]) :: (3, t.2) :: ks) := by
  have e : txt1 t ++ rest = t.1 ++ ([61] ++ (quote t.2 ++ rest)) := by simp [txt1]
  have h1 := Lx.name_nx ht ([61] ++ (quote t.2 ++ rest)) (by show isWord 61 = false; decide)
  have h2 : nx ([61] ++ (quote t.2 ++ rest)) = .tok 4 [61] 1 := (Lx.nx_sym (by decide) (by decide) (by decide)).trans (if_pos (by decide))
  have h3 : nx (quote t.2 ++ rest) = .tok 3 t.2 (quote t.2).length := by
    have : quote t.2 ++ rest = 34 :: (esc t.2 ++ 34 :: rest) := by simp [quote]
    rw [this, Lx.nx_quo, Lx.st_quote rest t.2]
    simp [quote]
  rw [e]
  refine lxk_cons h1.1 h1.2 (by intro h; rw [h] at ht; cases ht) ?_
  refine lxk_cons h2 (Lx.gp_zero (by decide) (by decide)) (by simp) ?_
  refine lxk_cons h3 (Lx.gp_zero (by decide) (by decide)) (by simp [quote]) h
def tks (l : List T) : List (Int × B) := l.flatMap fun t => [(1, t.1), (4, [61]), (3, t.2)]
theorem tks_cons (t : T) (l : List T) : tks (t :: l) = (1, t.1) :: (4, [61]) :: (3, t.2) :: tks l := rfl
theorem txt_lxk : ∀ {l : List T}, (∀ t ∈ l, nmB t.1 = true) → LxK (txtL l) (tks l)
  | [], _ => lxk_nil
  | [t], h => by
    have := lxk_tag (h t (List.mem_cons_self ..)) lxk_nil
    rw [List.append_nil] at this
    exact this
  | t :: u :: l, h => by
    rw [tks_cons]
    exact lxk_tag (rest := 32 :: txtL (u :: l)) (h t (List.mem_cons_self ..)) (lxk_blank (txt_lxk fun v hv => h v (List.mem_cons_of_mem _ hv)))
theorem lex_lx2 {s : B} {ts : List Tk} (h : Lx.Lx 0 s ts none) (hs : s.length ≤ 20000) (ht : ts.length ≤ 5000) : Lx.lexR s = (ts, 0, 0) := by
  have e := Lx.evs_lx h
  rw [Nat.zero_add] at e
  unfold Lx.lexR Lx.evL
  rw [if_neg (by omega), e, Lx.scan_map none (fun e x hx => by cases hx) ts [] (by simp; omega)]
  rfl
def tokK (ks : List (Int × B)) (i : Nat) : B := (ks[i]?.map Prod.snd).getD []
theorem tokT_k (ts : List Tk) (i : Nat) : tokT ts i = tokK (ts.map kt) i := by
  unfold tokT tokK
  rw [List.getElem?_map, Option.map_map]
  rfl
theorem trs_tks : ∀ l : List T, (List.range l.length).map (fun k => (tokK (tks l) (3 * k), tokK (tks l) (3 * k + 2))) = l
  | [] => rfl
  | t :: l => by
    rw [List.length_cons, List.range_succ_eq_map, List.map_cons, List.map_map]
    refine congr (congrArg List.cons rfl) ?_
    conv => rhs; rw [← trs_tks l]
    exact List.map_congr_left fun k _ => rfl
theorem tks_len (l : List T) : (tks l).length = 3 * l.length := by
  induction l with
  | nil => rfl
  | cons t l ih => rw [tks_cons]; simp only [List.length_cons, ih]; omega
theorem text_par {l : List T} (h : (textR l).2 = 0) : parR (textR l).1 = (l, 0) := by
  unfold textR at h ⊢
  by_cases hv : vld l = true
  · rw [if_pos hv] at h ⊢
    by_cases hl : 20000 < (txtL l).length
    · rw [if_pos hl] at h; cases h
    · rw [if_neg hl]
      have hv2 := vld_iff.1 hv
      obtain ⟨ts, h1, h2⟩ := txt_lxk (l := l) (fun t ht => (okT_iff.1 (hv2.2.1 t ht)).1) 0
      have hn : ts.length = 3 * l.length := by rw [← tks_len, ← h2, List.length_map]
      have hx := lex_lx2 h1 (by omega) (by have := hv2.1; omega)
      have ht : trs ts l.length = l := by
        conv => rhs; rw [← trs_tks l]
        unfold trs
        refine List.map_congr_left fun k _ => ?_
        rw [tokT_k, tokT_k, h2]
      unfold parR
      have hd3 : ts.length / 3 = l.length := by omega
      show (if 20000 < (txtL l).length then _ else _) = _
      rw [if_neg hl, hx, if_neg (by simp only []; omega)]
      simp only []
      rw [hd3, ht]
      have e : textR l = (txtL l, 0) := by unfold textR; rw [if_pos hv, if_neg hl]
      rw [e, if_neg (by simp)]
  · rw [if_neg hv] at h; cases h
theorem text_vld {l : List T} (h : (textR l).2 = 0) : vld l = true := by
  unfold textR at h
  by_cases hv : vld l = true
  · exact hv
  · rw [if_neg hv] at h; cases h
theorem text_arg (l : List T) : ((textR l).2 = 1 ↔ vld l = false) ∧ ((textR l).2 ≠ 0 → (textR l).1 = []) ∧ ((textR l).2 = 0 ∨ (textR l).2 = 1 ∨ (textR l).2 = 2) := by
  unfold textR
  cases hv : vld l with
  | false => exact ⟨⟨fun _ => rfl, fun _ => rfl⟩, fun _ => rfl, .inr (.inl rfl)⟩
  | true =>
    by_cases hl : 20000 < (txtL l).length
    · rw [if_pos rfl, if_pos hl]; exact ⟨⟨fun h => (by cases h), fun h => (by cases h)⟩, fun _ => rfl, .inr (.inr rfl)⟩
    · rw [if_pos rfl, if_neg hl]; exact ⟨⟨fun h => (by cases h), fun h => (by cases h)⟩, fun h => absurd rfl h, .inl rfl⟩
theorem text_inj {a b : List T} (ha : (textR a).2 = 0) (hb : (textR b).2 = 0) : (textR a).1 = (textR b).1 ↔ a = b := by
  constructor
  · intro h
    have h1 := text_par ha
    rw [h, text_par hb] at h1
    exact (congrArg Prod.fst h1).symm
  · rintro rfl; rfl
theorem par_cases {s : B} (hs : s.length ≤ 20000) : parR s = ([], 5) ∨ ∃ l, parR s = (l, 0) ∧ textR l = (s, 0) ∧ vld l = true := by
  unfold parR
  rw [if_neg (by omega)]
  split
  · exact .inl rfl
  · split
    · exact .inl rfl
    · rename_i h
      have h2 : (textR (trs (Lx.lexR s).1 ((Lx.lexR s).1.length / 3))).2 = 0 := Classical.byContradiction fun g => h (.inl g)
      have h3 : (textR (trs (Lx.lexR s).1 ((Lx.lexR s).1.length / 3))).1 = s := Classical.byContradiction fun g => h (.inr g)
      exact .inr ⟨_, rfl, Prod.ext h3 h2, text_vld h2⟩
end Go.Proofs.Ytlknbjaippfemaa.Tg
