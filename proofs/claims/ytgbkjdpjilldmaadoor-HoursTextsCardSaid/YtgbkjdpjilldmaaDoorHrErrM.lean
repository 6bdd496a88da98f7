/- Plain: where the errors of reading are. -/
import Derived.Test.YtgbkjdpjilldmaaDoorHrTextL
namespace Go.Proofs.YtgbkjdpjilldmaaDoor.Hr
open Lx (Tk B lexR kt)
/-- an error is at the end, or at a token. -/
theorem textR_at {e : Nat} {ts : List Tk} {f : Fl} (h : textR e ts = .error f) : f.2 = (e : Int) ∨ ∃ t ∈ ts, f.2 = (t.a : Int) := by
  classical
  let P : Nat → Prop := fun x => x = e ∨ ∃ t ∈ ts, t.a = x
  let p : Nat → Nat := fun x => if P x then x else e
  have hp : ∀ x, P (p x) := fun x => by
    show P (if P x then x else e)
    split
    · assumption
    · exact .inl rfl
  have he : p e = e := if_pos (.inl rfl)
  have hts : rl p ts = ts := by
    refine (List.map_congr_left fun t ht => ?_).trans (List.map_id ts)
    show re p t = t
    unfold re
    rw [show p t.a = t.a from if_pos (.inr ⟨t, ht, rfl⟩)]
  have h1 := textR_re p e ts
  rw [he, hts, h] at h1
  injection h1 with h1
  have h2 : f.2 = (p f.2.toNat : Int) := congrArg Prod.snd h1
  rcases hp f.2.toNat with h3 | ⟨t, ht, h3⟩
  · left; rw [h2, h3]
  · right; exact ⟨t, ht, by rw [h2, ← h3]⟩
theorem lx_offs {a : Nat} {l : B} {ts : List Tk} {r : Option (Int × Nat)} (h : Lx.Lx a l ts r) : (∀ t ∈ ts, a ≤ t.a ∧ t.a < a + l.length) ∧ ts.Pairwise fun x y => x.a < y.a := by
  induction h with
  | done _ => exact ⟨fun t ht => (by cases ht), List.Pairwise.nil⟩
  | bad _ _ _ => exact ⟨fun t ht => (by cases ht), List.Pairwise.nil⟩
  | @tok a l m k t n ts r h h0 hn _ ih =>
    obtain ⟨ih1, ih2⟩ := ih
    have hw := Lx.nx_wr hn
    have hm : m.length = l.length - Lx.gp false l := by rw [← h, List.length_drop]
    have hl : 0 < m.length := List.length_pos_iff.2 h0
    refine ⟨fun u hu => ?_, List.pairwise_cons.2 ⟨fun u hu => ?_, ih2⟩⟩
    · rcases List.mem_cons.1 hu with rfl | hu
      · dsimp only; omega
      · have := ih1 u hu
        rw [List.length_drop] at this
        omega
    · have := (ih1 u hu).1
      dsimp only
      omega
theorem lex_toks {s : B} (hs : s.length ≤ 5000) (h : (lexR s).2.1 = 0) : Lx.Lx 0 s (lexR s).1 none := by
  rcases Lx.lex_cases s hs with ⟨ts, h1, h2, _⟩ | ⟨ts, e, x, h1, h2, h3, _⟩
  · rw [h2]; exact h1
  · rw [h2] at h
    have h : e = 0 := h
    omega
/-- what Parse answers with an error. -/
theorem parse_err {s : B} (hs : s.length ≤ 5000) (h : (parseR s).2.1 ≠ 0) : (parseR s).1 = [] ∧ 0 ≤ (parseR s).2.2 ∧ (parseR s).2.2 ≤ (s.length : Int) := by
  unfold parseR at h ⊢
  by_cases he : (lexR s).2.1 ≠ 0
  · rw [if_pos he]
    rcases Lx.lex_cases s hs with ⟨ts, h1, h2, _⟩ | ⟨ts, e, x, h1, h2, h3, h4⟩
    · rw [h2] at he; exact absurd rfl he
    · rw [h2]
      refine ⟨rfl, ?_, ?_⟩
      · show (0 : Int) ≤ (x : Int); omega
      · show (x : Int) ≤ (s.length : Int); omega
  · rw [if_neg he] at h ⊢
    have hl := lex_toks hs (Decidable.byContradiction he)
    have ho := (lx_offs hl).1
    cases hT : textR s.length (lexR s).1 with
    | error f =>
      refine ⟨rfl, ?_⟩
      show 0 ≤ f.2 ∧ f.2 ≤ (s.length : Int)
      rcases textR_at hT with h1 | ⟨t, ht, h1⟩
      · omega
      · have := ho t ht
        omega
    | ok L =>
      rw [hT] at h
      dsimp only at h ⊢
      by_cases h60 : 60 < (uni L).length
      · rw [if_pos h60]
        exact ⟨rfl, by dsimp only; omega, Int.le_refl _⟩
      · rw [if_neg h60] at h
        exact absurd rfl h
end Go.Proofs.YtgbkjdpjilldmaaDoor.Hr
