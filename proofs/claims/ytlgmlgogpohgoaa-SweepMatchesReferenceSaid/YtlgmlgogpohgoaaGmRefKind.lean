/- What the reference answers for two segments is the kind by which they meet. -/
import Derived.Test.YtlgmlgogpohgoaaGmShare
namespace Go.Proofs.Ytlgmlgogpohgoaa.Geo
def comB (a b c d p : Pt) : Bool := holdsN a b p && holdsN c d p
def hasB (l : List Pt) (p : Pt) : Bool := l.any fun q => eqP q p
def addN (f : Pt → Bool) (l : List Pt) (p : Pt) : List Pt := if hasB l p then l else if f p then l ++ [p] else l
def foundN (f : Pt → Bool) (E : List Pt) : List Pt := E.foldl (addN f) []
theorem hasB_iff {l : List Pt} {p : Pt} : hasB l p = true ↔ p ∈ l := by
  unfold hasB
  rw [List.any_eq_true]
  constructor
  · rintro ⟨q, h1, h2⟩; exact eqP_iff.1 h2 ▸ h1
  · intro h; exact ⟨p, h, eqP_iff.2 rfl⟩
theorem mem_add {f : Pt → Bool} {l : List Pt} {p q : Pt} : q ∈ addN f l p ↔ q ∈ l ∨ (q = p ∧ f p = true) := by
  unfold addN
  by_cases h : hasB l p = true
  · rw [if_pos h]
    have hp := hasB_iff.1 h
    exact ⟨.inl, fun g => g.elim id fun ⟨e, _⟩ => e ▸ hp⟩
  · rw [if_neg h]
    by_cases g : f p = true
    · rw [if_pos g, List.mem_append, List.mem_singleton]; simp [g]
    · rw [if_neg g]; simp [g]
theorem nodup_add {f : Pt → Bool} {l : List Pt} {p : Pt} (h : l.Nodup) : (addN f l p).Nodup := by
  unfold addN
  by_cases g : hasB l p = true
  · rw [if_pos g]; exact h
  · rw [if_neg g]
    split
    · rw [List.nodup_append]
      refine ⟨h, by simp, fun x hx y hy e => ?_⟩
      rw [List.mem_singleton] at hy
      subst hy e
      exact g (hasB_iff.2 hx)
    · exact h
theorem found_go (f : Pt → Bool) : ∀ (E l : List Pt), (∀ x ∈ l, f x = true) → l.Nodup → (∀ q, q ∈ E.foldl (addN f) l ↔ q ∈ l ∨ (q ∈ E ∧ f q = true)) ∧ (E.foldl (addN f) l).Nodup := by
  intro E
  induction E with
  | nil => intro l _ hn; exact ⟨fun q => by simp, hn⟩
  | cons p E ih =>
    intro l hf hn
    have h1 : ∀ x ∈ addN f l p, f x = true := fun x hx => by
      rcases mem_add.1 hx with h | ⟨rfl, h⟩
      · exact hf x h
      · exact h
    obtain ⟨h2, h3⟩ := ih (addN f l p) h1 (nodup_add hn)
    refine ⟨fun q => ?_, h3⟩
    rw [List.foldl_cons, h2, mem_add, List.mem_cons]
    constructor
    · rintro ((h | ⟨rfl, h⟩) | ⟨h, g⟩)
      · exact .inl h
      · exact .inr ⟨.inl rfl, h⟩
      · exact .inr ⟨.inr h, g⟩
    · rintro (h | ⟨rfl | h, g⟩)
      · exact .inl (.inl h)
      · exact .inl (.inr ⟨rfl, g⟩)
      · exact .inr ⟨h, g⟩
theorem found_mem (f : Pt → Bool) (E : List Pt) (q : Pt) : q ∈ foundN f E ↔ q ∈ E ∧ f q = true := by
  have := (found_go f E [] (by simp) List.nodup_nil).1 q
  unfold foundN
  simpa using this
theorem found_nodup (f : Pt → Bool) (E : List Pt) : (foundN f E).Nodup := (found_go f E [] (by simp) List.nodup_nil).2
theorem add_len (f : Pt → Bool) (l : List Pt) (p : Pt) : (addN f l p).length ≤ l.length + 1 := by
  unfold addN
  split
  · omega
  · split
    · simp
    · omega
theorem found_len (f : Pt → Bool) : ∀ (E l : List Pt), (E.foldl (addN f) l).length ≤ l.length + E.length := by
  intro E
  induction E with
  | nil => intro l; simp
  | cons p E ih => intro l; have := ih (addN f l p); have := add_len f l p; simp only [List.foldl_cons, List.length_cons]; omega
theorem found_next {f : Pt → Bool} {E : List Pt} {k : Nat} {p : Pt} (h : E[k]? = some p) : foundN f (E.take (k + 1)) = addN f (foundN f (E.take k)) p := by
  obtain ⟨hk, rfl⟩ := List.getElem?_eq_some_iff.1 h
  unfold foundN
  rw [List.take_succ_eq_append_getElem hk, List.foldl_append]
  rfl
theorem has_next {l : List Pt} {m : Nat} {q p : Pt} (h : l[m]? = some q) : hasB (l.take (m + 1)) p = (hasB (l.take m) p || eqP q p) := by
  obtain ⟨hk, rfl⟩ := List.getElem?_eq_some_iff.1 h
  unfold hasB
  rw [List.take_succ_eq_append_getElem hk, List.any_append]
  simp
def smB (a b c d : Pt) : Bool := (eqP a c && eqP b d) || (eqP a d && eqP b c)
def restN (a b c d : Pt) (l : List Pt) : Int :=
  match l with
  | [] => if decide (sideN a b c * sideN a b d < 0) && decide (sideN c d a * sideN c d b < 0) then 3 else 0
  | [p] => atN a b c d p
  | _ :: _ :: _ => 5
def refN (a b c d : Pt) : Int := if smB a b c d then 4 else restN a b c d (foundN (comB a b c d) [a, b, c, d])
theorem comB_iff {a b c d p : Pt} : comB a b c d p = true ↔ Com a b c d p := by unfold comB Com; rw [Bool.and_eq_true]
theorem mem_ends {a b c d p : Pt} : p ∈ [a, b, c, d] ↔ End2 a b p ∨ End2 c d p := by simp [End2, or_assoc]
theorem ref_kind (a b c d : Pt) : Kind a b c d (refN a b c d) := by
  unfold refN
  by_cases hs : smB a b c d = true
  · rw [if_pos hs]
    refine .inl ⟨?_, rfl⟩
    unfold smB at hs
    simp only [Bool.or_eq_true, Bool.and_eq_true, eqP_iff] at hs
    exact hs
  · rw [if_neg hs]
    refine .inr ⟨fun h => hs ?_, ?_⟩
    · unfold smB
      simp only [Bool.or_eq_true, Bool.and_eq_true, eqP_iff]
      exact h
    · have hm := found_mem (comB a b c d) [a, b, c, d]
      have hn := found_nodup (comB a b c d) [a, b, c, d]
      generalize foundN (comB a b c d) [a, b, c, d] = l at *
      have hm' : ∀ q, q ∈ l ↔ (End2 a b q ∨ End2 c d q) ∧ Com a b c d q := fun q => by rw [hm q, mem_ends, comB_iff]
      match l, hn, hm' with
      | [], _, hm' =>
        have := apart_iff a b c d
        refine .inr (.inr ⟨fun p hp cp => by have := (hm' p).2 ⟨hp, cp⟩; simp at this, ?_⟩)
        unfold restN
        by_cases g : Apart a b c d
        · rw [if_pos (this.2 g)]; exact .inl ⟨g, rfl⟩
        · rw [if_neg (fun k => g (this.1 k))]; exact .inr ⟨g, rfl⟩
      | [p], _, hm' =>
        have hp := (hm' p).1 (by simp)
        exact .inr (.inl ⟨p, hp.1, hp.2, fun q hq cq => by have := (hm' q).2 ⟨hq, cq⟩; simpa using this, at_kind a b c d p⟩)
      | p :: q :: _, hn, hm' =>
        have hp := (hm' p).1 (by simp)
        have hq := (hm' q).1 (by simp)
        refine .inl ⟨⟨p, q, hp.1, hq.1, fun e => ?_, hp.2, hq.2⟩, rfl⟩
        subst e
        simp at hn
theorem ref_meets (a b c d : Pt) : refN a b c d = meetsN a b c d := (ref_kind a b c d).one (meets_kind a b c d)
end Go.Proofs.Ytlgmlgogpohgoaa.Geo
