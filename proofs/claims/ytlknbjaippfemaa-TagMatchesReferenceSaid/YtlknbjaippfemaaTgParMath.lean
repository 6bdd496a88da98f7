/- Plain mathematics of Parse of tags: what it answers; how long the tokens' texts are. -/
import Derived.Test.YtlknbjaippfemaaTgMath
import Derived.Test.YtlknbjaippfemaaLxEv
namespace Go.Proofs.Ytlknbjaippfemaa.Tg
open Lx (Tk nx evs evL lexR scan gp esc quote)
theorem esc_ge : ∀ l : B, l.length ≤ (esc l).length
  | [] => Nat.le_refl _
  | c :: l => by
    have := esc_ge l
    rw [esc]
    (repeat' split) <;> simp <;> omega
theorem wr_ge (k : Int) (t : B) : t.length ≤ (Lx.wr k t).length := by
  unfold Lx.wr
  split
  · unfold quote
    have := esc_ge t
    simp
    omega
  · exact Nat.le_refl _
theorem nx_text {m : B} {k : Int} {t : B} {n : Nat} (h : nx m = .tok k t n) : t.length ≤ m.length := by
  have hw := Lx.nx_wr h
  have := wr_ge k t
  rw [← hw.2.2, List.length_take] at this
  omega
theorem evs_text : ∀ (f a : Nat) (m : B), m.length ≤ f → ∀ x ∈ evs a m, x.1.t.length ≤ m.length
  | _, a, [], _, x, hx => by rw [Lx.evs_nil] at hx; cases hx
  | 0, a, c :: l, h, _, _ => by simp at h
  | f + 1, a, c :: l, h, x, hx => by
    cases hn : nx (c :: l) with
    | bad e =>
      rw [Lx.evs_bad (by simp) hn, List.mem_singleton] at hx
      subst hx
      exact Nat.zero_le _
    | tok k t n =>
      rw [Lx.evs_tok hn] at hx
      have hw := Lx.nx_wr hn
      have hl : (((c :: l).drop n).drop (gp false ((c :: l).drop n))).length ≤ l.length := by
        rw [List.length_drop, List.length_drop, List.length_cons]; omega
      simp only [List.length_cons] at h
      rcases List.mem_cons.1 hx with rfl | hx
      · exact nx_text hn
      · have := evs_text f _ _ (Nat.le_trans hl (by omega)) x hx
        rw [List.length_cons]
        omega
theorem scan_mem : ∀ (r : List (Tk × Int)) (acc : List Tk), ∀ t ∈ (scan acc r).1, t ∈ acc ∨ ∃ x ∈ r, x.1 = t
  | [], acc, t, ht => .inl ht
  | (u, e) :: r, acc, t, ht => by
    rw [scan] at ht
    split at ht
    · cases ht
    · split at ht
      · cases ht
      · rcases scan_mem r _ t ht with h | ⟨x, hx, rfl⟩
        · rcases List.mem_append.1 h with h | h
          · exact .inl h
          · rw [List.mem_singleton] at h
            exact .inr ⟨_, List.mem_cons_self .., h.symm⟩
        · exact .inr ⟨x, List.mem_cons_of_mem _ hx, rfl⟩
theorem lex_text {s : B} {t : Tk} (h : t ∈ (lexR s).1) : t.t.length ≤ s.length := by
  unfold lexR at h
  split at h
  · cases h
  · rcases scan_mem _ _ _ h with h | ⟨x, hx, rfl⟩
    · cases h
    · unfold evL at hx
      have := evs_text _ _ _ (Nat.le_refl _) x hx
      rw [List.length_drop] at this
      omega
def tokT (ts : List Tk) (i : Nat) : B := (ts[i]?.map (·.t)).getD []
/-- the tags of the first q threes of tokens. -/
def trs (ts : List Tk) (q : Nat) : List T := (List.range q).map fun k => (tokT ts (3 * k), tokT ts (3 * k + 2))
theorem trs_succ (ts : List Tk) (q : Nat) : trs ts (q + 1) = trs ts q ++ [(tokT ts (3 * q), tokT ts (3 * q + 2))] := by unfold trs; rw [List.range_succ, List.map_append]; rfl
theorem trs_len (ts : List Tk) (q : Nat) : (trs ts q).length = q := by unfold trs; simp
theorem tokT_len {s : B} (i : Nat) : (tokT (lexR s).1 i).length ≤ s.length := by
  unfold tokT
  cases h : (lexR s).1[i]? with
  | none => exact Nat.zero_le _
  | some t => exact lex_text (List.mem_of_getElem? h)
theorem tokT_at {ts : List Tk} {i : Nat} {t : Tk} (h : ts[i]? = some t) : tokT ts i = t.t := by unfold tokT; rw [h]; rfl
/-- what Parse answers. -/
def parR (s : B) : List T × Int :=
  if 20000 < s.length then ([], 2)
  else if (lexR s).2.1 ≠ 0 ∨ (lexR s).1.length % 3 ≠ 0 then ([], 5)
  else if (textR (trs (lexR s).1 ((lexR s).1.length / 3))).2 ≠ 0 ∨ (textR (trs (lexR s).1 ((lexR s).1.length / 3))).1 ≠ s then ([], 5)
  else (trs (lexR s).1 ((lexR s).1.length / 3), 0)
end Go.Proofs.Ytlknbjaippfemaa.Tg
