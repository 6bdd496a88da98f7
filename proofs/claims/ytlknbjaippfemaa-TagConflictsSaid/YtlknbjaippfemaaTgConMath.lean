/- Plain mathematics of tags: what a merge of few tags has, and its conflicts. -/
import Derived.Test.YtlknbjaippfemaaTgComMath
namespace Go.Proofs.Ytlknbjaippfemaa.Tg
open Lx (nmB)
theorem mrg_few (f : B → B × Bool) : ∀ (K : List B) (acc : List T) (cs : List B), acc.length + K.length ≤ 60 →
    K.foldl (mrgS f) (acc, cs) = (acc ++ K.flatMap (fun k => midT k (f k).1), cs ++ K.filter fun k => (f k).2)
  | [], acc, cs, _ => by simp
  | k :: K, acc, cs, h => by
    rw [List.length_cons] at h
    have e : mrgS f (acc, cs) k = (acc ++ midT k (f k).1, cs ++ if (f k).2 then [k] else []) := by
      unfold mrgS
      rw [if_neg (fun q => by have := q.2; dsimp only at this; omega)]
    have hm : (midT k (f k).1).length ≤ 1 := by unfold midT; split <;> simp
    rw [List.foldl_cons, e, mrg_few f K _ _ (by rw [List.length_append]; omega), List.flatMap_cons, List.append_assoc, List.append_assoc, List.filter_cons]
    cases (f k).2 <;> simp
theorem mids_inc (g : B → B) : ∀ {K : List B}, K.Pairwise (· < ·) → Inc (K.flatMap fun k => midT k (g k))
  | [], _ => List.Pairwise.nil
  | k :: K, h => by
    obtain ⟨h1, h2⟩ := List.pairwise_cons.1 h
    show List.Pairwise _ _
    rw [List.flatMap_cons, List.pairwise_append]
    refine ⟨?_, mids_inc g h2, fun a ha b hb => ?_⟩
    · unfold midT
      split
      · exact List.Pairwise.nil
      · exact List.pairwise_singleton _ _
    · obtain ⟨k', hk', hb⟩ := List.mem_flatMap.1 hb
      rw [(mid_mem.1 ha).1, (mid_mem.1 hb).1]
      exact h1 k' hk'
theorem getV_no {l : List T} {k : B} (h : ∀ t ∈ l, t.1 ≠ k) : getV l k = [] := by unfold getV; rw [get_none.2 h]; rfl
theorem getV_has {l : List T} {k : B} (hi : Inc l) (h : getV l k ≠ []) : (k, getV l k) ∈ l := by
  unfold getV at h ⊢
  cases hg : getO l k with
  | none => rw [hg] at h; exact absurd rfl h
  | some v => exact (getO_some hi).1 hg
theorem one_of (b o t : B) : (oneR b o t).1 = b ∨ (oneR b o t).1 = o ∨ (oneR b o t).1 = t := by
  unfold oneR
  split
  · exact .inr (.inl rfl)
  · split
    · exact .inr (.inr rfl)
    · exact .inl rfl
/-- what a merge of at most 20 tags on each side has. -/
theorem merge_few {b o t : List T} (hb : vld b = true) (ho : vld o = true) (ht : vld t = true) (nb : b.length ≤ 20) (no : o.length ≤ 20) (nt : t.length ≤ 20) :
    vld (mergeR b o t).1 = true ∧ (mergeR b o t).2.Pairwise (· < ·) ∧ ∀ x, getV (mergeR b o t).1 x = (oneR (getV b x) (getV o x) (getV t x)).1 ∧
      (getO (mergeR b o t).1 x).isSome = decide ((oneR (getV b x) (getV o x) (getV t x)).1 ≠ []) ∧ (x ∈ (mergeR b o t).2 ↔ (oneR (getV b x) (getV o x) (getV t x)).2 = true) := by
  obtain ⟨f, hf⟩ : ∃ f : B → B × Bool, (fun k => oneR (getV b k) (getV o k) (getV t k)) = f := ⟨_, rfl⟩
  obtain ⟨K, hK⟩ : ∃ K, keysR [b, o, t] = K := ⟨_, rfl⟩
  have kl := keys_len [b, o, t]
  simp only [List.map_cons, List.map_nil, List.sum_cons, List.sum_nil] at kl
  have ki := keysR_inc [b, o, t]
  have hin : ∀ l ∈ [b, o, t], ∀ u ∈ l, u.1 ∈ K := fun l h1 u h2 => by
    rw [← hK]
    unfold keysR
    rw [sortK_mem, List.mem_flatMap]
    exact ⟨l, h1, List.mem_map.2 ⟨u, h2, rfl⟩⟩
  rw [hK] at kl ki
  have e : mergeR b o t = (K.flatMap (fun k => midT k (f k).1), K.filter fun k => (f k).2) := by
    unfold mergeR
    rw [hb, ho, ht, hf, hK]
    show mrgL f K = _
    unfold mrgL
    rw [mrg_few f K [] [] (by simp only [List.length_nil]; omega)]
    rfl
  have fx : ∀ x, f x = oneR (getV b x) (getV o x) (getV t x) := fun x => by rw [← hf]
  have off : ∀ x, x ∉ K → f x = ([], false) := fun x hx => by
    have hx' : ∀ l ∈ [b, o, t], ∀ u ∈ l, u.1 ≠ x := fun l hl u hu q => hx (by rw [← q]; exact hin l hl u hu)
    rw [fx, getV_no (hx' b (by simp)), getV_no (hx' o (by simp)), getV_no (hx' t (by simp))]
    rfl
  have pi := mids_inc (fun k => (f k).1) ki
  have go : ∀ x, getO (K.flatMap fun k => midT k (f k).1) x = if (f x).1 = [] then none else some (f x).1 := fun x => by
    split
    · rename_i h0
      rw [get_none]
      intro u hu q
      obtain ⟨k, hk, hu⟩ := List.mem_flatMap.1 hu
      obtain ⟨q1, q2, q3⟩ := mid_mem.1 hu
      have : k = x := q1.symm.trans q
      subst this
      exact q3 h0
    · rename_i h0
      rw [getO_some pi, List.mem_flatMap]
      refine ⟨x, Decidable.byContradiction fun hx => h0 (by rw [off x hx]), mid_mem.2 ⟨rfl, rfl, h0⟩⟩
  rw [e]
  refine ⟨vld_iff.2 ⟨?_, fun u hu => ?_, pi⟩, ki.sublist List.filter_sublist, fun x => ⟨?_, ?_, ?_⟩⟩
  · have : ∀ K : List B, (K.flatMap fun k => midT k (f k).1).length ≤ K.length := by
      intro K
      induction K with
      | nil => exact Nat.le_refl _
      | cons k K ih =>
        rw [List.flatMap_cons, List.length_append, List.length_cons]
        have : (midT k (f k).1).length ≤ 1 := by unfold midT; split <;> simp
        omega
    have := this K
    dsimp only
    omega
  · obtain ⟨k, hk, hu⟩ := List.mem_flatMap.1 hu
    obtain ⟨q1, q2, q3⟩ := mid_mem.1 hu
    have hm : ∀ l : List T, vld l = true → (f k).1 = getV l k → okT u = true := fun l hv q => by
      have := getV_has (vld_inc hv) (k := k) (q ▸ q3)
      have h2 := (vld_iff.1 hv).2.1 _ this
      obtain ⟨u1, u2⟩ := u
      dsimp only at q1 q2
      rw [q1, q2, q]
      exact h2
    have := one_of (getV b k) (getV o k) (getV t k)
    rw [← fx k] at this
    rcases this with q | q | q
    · exact hm b hb q
    · exact hm o ho q
    · exact hm t ht q
  · rw [← fx x]
    show (getO (K.flatMap fun k => midT k (f k).1) x).getD [] = _
    rw [go x]
    split
    · rename_i h0; exact h0.symm
    · rfl
  · dsimp only
    rw [go x, ← fx x]
    split
    · rename_i h0; simp [h0]
    · rename_i h0; simp [h0]
  · dsimp only
    rw [List.mem_filter, ← fx x]
    constructor
    · exact fun h => h.2
    · intro h
      exact ⟨Decidable.byContradiction (fun hx => (by rw [off x hx] at h; cases h)), h⟩
end Go.Proofs.Ytlknbjaippfemaa.Tg
