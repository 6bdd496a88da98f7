/- Plain: two texts of parts with a comma between them. -/
import Derived.Test.YtgbkjdpjilldmaaDoorHrErrM
namespace Go.Proofs.YtgbkjdpjilldmaaDoor.Hr
open Lx (Tk B lexR kt)
/-- a text consists of parts. -/
def firstB : List Tk → Bool
  | [] => false
  | t :: _ => !decide (t.t = alwaysB) && !decide (t.t = neverB)
def partB (s : B) : Bool := decide ((lexR s).2.1 = 0) && decide ((parseR s).2.1 = 0) && firstB (lexR s).1
theorem first_parts {ts : List Tk} (h : firstB ts = true) : IsParts ts ∧ ts ≠ [] := by
  cases ts with
  | nil => cases h
  | cons t q =>
    unfold firstB at h
    rw [Bool.and_eq_true, Bool.not_eq_true', Bool.not_eq_true', decide_eq_false_iff_not, decide_eq_false_iff_not] at h
    refine ⟨⟨?_, ?_⟩, by simp⟩
    · rw [acc, if_neg (fun q => h.1 q.2)]
    · rw [acc, if_neg (fun q => h.2 q.2)]
/-- what is read of a text of parts. -/
theorem part_read {s : B} (hs : s.length ≤ 5000) (h : partB s = true) : ∃ L, parseR s = (uni L, 0, 0) ∧ (∀ x ∈ L, okS x) ∧ (uni L).length ≤ 60 ∧ Lx.Lx 0 s (lexR s).1 none ∧ partsR 0 [] (mkT ((lexR s).1.map kt)) = .ok (L, []) ∧ IsParts (lexR s).1 ∧ (lexR s).1 ≠ [] := by
  unfold partB at h
  rw [Bool.and_eq_true, Bool.and_eq_true, decide_eq_true_iff, decide_eq_true_iff] at h
  obtain ⟨⟨h1, h2⟩, h3⟩ := h
  obtain ⟨hp, h0⟩ := first_parts h3
  unfold parseR at h2 ⊢
  rw [if_neg (by rw [h1]; simp)] at h2 ⊢
  cases hT : textR s.length (lexR s).1 with
  | error f =>
    rw [hT] at h2
    have h2 : f.1 = 0 := h2
    have ec := textR_ec hT
    unfold Ec at ec
    omega
  | ok L =>
    rw [hT] at h2
    dsimp only at h2 ⊢
    by_cases h60 : 60 < (uni L).length
    · rw [if_pos h60] at h2; cases h2
    · rw [if_neg h60]
      refine ⟨L, rfl, (textR_ok hT).1, by omega, lex_toks hs h1, ?_, hp, h0⟩
      have := partsR_re (fun _ => 0) s.length [] (lexR s).1
      rw [← mk_re rfl, textR_parts hp hT] at this
      exact this
theorem uni_app {L1 L2 : List Sq} (h1 : ∀ x ∈ L1, okS x) (h2 : ∀ x ∈ L2, okS x) : uni (L1 ++ L2) = orL (uni L1) (uni L2) := by
  obtain ⟨v1, e1⟩ := uni_val h1
  obtain ⟨v2, e2⟩ := uni_val h2
  obtain ⟨v3, e3⟩ := or_val v1 v2
  obtain ⟨v4, e4⟩ := uni_val (ok_app h1 h2)
  exact val_ext v4 v3 fun m => by rw [e4, e3, e1, e2, on_app]
theorem parts_both {one two : B} (l1 : one.length ≤ 1500) (l2 : two.length ≤ 1500) (h1 : partB one = true) (h2 : partB two = true) : ∃ a b, parseR one = (a, 0, 0) ∧ parseR two = (b, 0, 0) ∧ Val a ∧ Val b ∧ a.length ≤ 60 ∧ b.length ≤ 60 ∧
    parseR (one ++ 10 :: 44 :: 32 :: two) = if 60 < (orL a b).length then ([], 2, ((one ++ 10 :: 44 :: 32 :: two).length : Int)) else (orL a b, 0, 0) := by
  obtain ⟨L1, a1, a2, a3, a4, a5, a6, a7⟩ := part_read (by omega) h1
  obtain ⟨L2, b1, b2, b3, b4, b5, b6, b7⟩ := part_read (by omega) h2
  refine ⟨uni L1, uni L2, a1, b1, (uni_val a2).1, (uni_val b2).1, a3, b3, ?_⟩
  have lk2 : LxK two ((lexR two).1.map kt) := fun a => Lx.lx_at b4 a
  obtain ⟨us, u1, u2⟩ := (lk_sym (c := 44) (by rfl) (lk_blank lk2)) (0 + one.length + 1)
  have hL := Lx.lx_line a4 rfl _ _ _ u1
  have hlen : (one ++ 10 :: 44 :: 32 :: two).length ≤ 5000 := by simp; omega
  have hlex := Lx.lex_lx hL hlen
  dsimp only at hlex
  have hK : ((lexR one).1 ++ us).map kt = (lexR one).1.map kt ++ (4, [44]) :: (lexR two).1.map kt := by rw [List.map_append, u2]
  have hmk : mkT ((lexR one).1.map kt ++ (4, [44]) :: (lexR two).1.map kt) = mkT ((lexR one).1.map kt) ++ ⟨4, [44], 0⟩ :: mkT ((lexR two).1.map kt) := by rw [mkT_app]; rfl
  have hip : IsParts (mkT ((lexR one).1.map kt)) := by
    rw [mk_re rfl]
    exact ⟨by rw [acc_re, a6.1]; rfl, by rw [acc_re, a6.2]; rfl⟩
  have hne : mkT ((lexR one).1.map kt) ≠ [] := by
    rw [mk_re rfl]
    exact fun q => a7 ((rl_nil _).1 q)
  have hR : textR 0 (mkT ((lexR one).1.map kt ++ (4, [44]) :: (lexR two).1.map kt)) = .ok (L1 ++ L2) := by
    rw [hmk]
    exact parts_textR (hip.app hne _) (partsR_both ⟨rfl, rfl⟩ a5 b5)
  have hT := read_kt (one ++ 10 :: 44 :: 32 :: two).length hK hR
  rw [parseR, hlex]
  dsimp only
  rw [if_neg (by simp), hT]
  dsimp only
  rw [uni_app a2 b2]
end Go.Proofs.YtgbkjdpjilldmaaDoor.Hr
