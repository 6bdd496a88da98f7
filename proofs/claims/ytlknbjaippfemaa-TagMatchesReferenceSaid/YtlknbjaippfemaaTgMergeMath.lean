/- Plain mathematics of tags: a merge does not depend on which side is which; with the base, or the same, as one side. -/
import Derived.Test.YtlknbjaippfemaaTgMath2
namespace Go.Proofs.Ytlknbjaippfemaa.Tg
theorem oneR_swap (b o t : B) : oneR b o t = oneR b t o := by
  unfold oneR
  by_cases h1 : o = t
  · subst h1; rfl
  · have h1' : ¬ t = o := fun e => h1 e.symm
    by_cases h2 : t = b
    · subst h2; simp [h1']
    · by_cases h3 : o = b
      · subst h3; simp [h1, h2]
      · simp [h1, h1', h2, h3]
theorem inc_eq {l m : List B} (hl : l.Pairwise (· < ·)) (hm : m.Pairwise (· < ·)) (h : ∀ x, x ∈ l ↔ x ∈ m) : l = m :=
  List.Perm.eq_of_pairwise (le := (· ≤ ·)) (fun _ _ _ _ h1 h2 => List.le_antisymm h1 h2) (inc_le hl) (inc_le hm) ((List.perm_ext_iff_of_nodup (inc_nodup hl) (inc_nodup hm)).2 h)
theorem keysR_inc (ls : List (List T)) : (keysR ls).Pairwise (· < ·) := sortK_inc _
theorem keysR_swap (b o t : List T) : keysR [b, o, t] = keysR [b, t, o] := by
  refine inc_eq (keysR_inc _) (keysR_inc _) fun x => ?_
  unfold keysR
  rw [sortK_mem, sortK_mem]
  simp only [List.flatMap_cons, List.flatMap_nil, List.mem_append, List.append_nil]
  constructor
  · rintro (h | h | h)
    · exact .inl h
    · exact .inr (.inr h)
    · exact .inr (.inl h)
  · rintro (h | h | h)
    · exact .inl h
    · exact .inr (.inr h)
    · exact .inr (.inl h)
theorem mergeR_swap (b o t : List T) : mergeR b o t = mergeR b t o := by
  unfold mergeR
  rw [keysR_swap b o t, show (fun k => oneR (getV b k) (getV o k) (getV t k)) = fun k => oneR (getV b k) (getV t k) (getV o k) from funext fun k => oneR_swap _ _ _]
  cases vld b <;> cases vld o <;> cases vld t <;> rfl
theorem inc_uniq : ∀ {l : List T} {a b : T}, Inc l → a ∈ l → b ∈ l → a.1 = b.1 → a = b
  | [], _, _, _, h, _, _ => by cases h
  | x :: l, a, b, hi, ha, hb, e => by
    obtain ⟨h1, h2⟩ := List.pairwise_cons.1 hi
    rcases List.mem_cons.1 ha with ha' | ha'
    · rcases List.mem_cons.1 hb with hb' | hb'
      · rw [ha', hb']
      · exact absurd (ha' ▸ e) (b_ne (h1 _ hb'))
    · rcases List.mem_cons.1 hb with hb' | hb'
      · exact absurd (hb' ▸ e).symm (b_ne (h1 _ ha'))
      · exact inc_uniq h2 ha' hb' e
theorem getO_some {l : List T} {k v : B} (hi : Inc l) : getO l k = some v ↔ (k, v) ∈ l := by
  unfold getO
  constructor
  · intro h
    obtain ⟨t, ht, e⟩ := Option.map_eq_some_iff.1 h
    have h1 := List.mem_of_find?_eq_some ht
    have h2 := List.find?_some ht
    rw [decide_eq_true_iff] at h2
    subst h2 e
    exact h1
  · intro h
    cases hf : l.find? fun t => decide (t.1 = k) with
    | none =>
      have := List.find?_eq_none.1 hf _ h
      simp at this
    | some u =>
      have h1 := List.mem_of_find?_eq_some hf
      have h2 := List.find?_some hf
      rw [decide_eq_true_iff] at h2
      rw [inc_uniq hi h1 h h2]
      rfl
theorem vld_inc {l : List T} (h : vld l = true) : Inc l := by
  unfold vld chk at h
  rw [Bool.and_eq_true, Bool.and_eq_true] at h
  exact asc_iff.1 h.2.2
theorem vld_few {l : List T} (h : vld l = true) : l.length ≤ 60 := by
  unfold vld at h
  rw [Bool.and_eq_true, decide_eq_true_iff] at h
  exact h.1
theorem vld_val {l : List T} (h : vld l = true) {t : T} (ht : t ∈ l) : t.2 ≠ [] := by
  unfold vld chk at h
  rw [Bool.and_eq_true, Bool.and_eq_true, List.all_eq_true] at h
  have := h.2.1 t ht
  unfold okT at this
  rw [Bool.and_eq_true, Bool.and_eq_true, decide_eq_true_iff] at this
  intro e
  rw [e] at this
  exact absurd this.1.2 (by simp)
theorem mrg_plain (g : B → B) : ∀ (K : List B) (acc : List T), (acc ++ K.flatMap fun k => midT k (g k)).length ≤ 60 →
    K.foldl (mrgS fun k => (g k, false)) (acc, []) = (acc ++ K.flatMap (fun k => midT k (g k)), [])
  | [], acc, _ => by simp
  | k :: K, acc, h => by
    rw [List.flatMap_cons] at h ⊢
    rw [List.foldl_cons]
    have e : mrgS (fun k => (g k, false)) (acc, []) k = (acc ++ midT k (g k), []) := by
      unfold mrgS
      rw [if_neg]
      · simp
      · rintro ⟨h1, h2⟩
        dsimp only at h1 h2
        have : midT k (g k) = [(k, g k)] := if_neg h1
        rw [this, List.length_append, List.length_append, h2, List.length_singleton] at h
        omega
    rw [e, mrg_plain g K (acc ++ midT k (g k)) (by rw [List.append_assoc]; exact h), List.append_assoc]
theorem mid_all {o : List T} {K : List B} (hv : vld o = true) (hK : K.Pairwise (· < ·)) (hsub : ∀ t ∈ o, t.1 ∈ K) : (K.flatMap fun k => midT k (getV o k)) = o := by
  have hi := vld_inc hv
  have hmem : ∀ t, t ∈ (K.flatMap fun k => midT k (getV o k)) ↔ t ∈ o := fun t => by
    rw [List.mem_flatMap]
    constructor
    · rintro ⟨k, hk, ht⟩
      unfold midT at ht
      split at ht
      · cases ht
      · rename_i h0
        rw [List.mem_singleton] at ht
        subst ht
        unfold getV at h0 ⊢
        cases ho : getO o k with
        | none => rw [ho] at h0; exact absurd rfl h0
        | some v => exact (getO_some hi).1 ho
    · intro ht
      have h1 : getO o t.1 = some t.2 := (getO_some hi).2 ht
      have h2 : getV o t.1 = t.2 := by unfold getV; rw [h1]; rfl
      refine ⟨t.1, hsub t ht, ?_⟩
      unfold midT
      rw [h2, if_neg (vld_val hv ht)]
      exact List.mem_singleton.2 rfl
  have hP : (K.flatMap fun k => midT k (getV o k)).Pairwise fun a b => a.1 < b.1 := by
    clear hmem hsub
    induction K with
    | nil => exact List.Pairwise.nil
    | cons k K ih =>
      obtain ⟨h1, h2⟩ := List.pairwise_cons.1 hK
      rw [List.flatMap_cons, List.pairwise_append]
      have hm : ∀ (k : B) (t : T), t ∈ midT k (getV o k) → t.1 = k := fun k t ht => by
        unfold midT at ht
        split at ht
        · cases ht
        · rw [List.mem_singleton] at ht; rw [ht]
      refine ⟨?_, ih h2, fun a ha b hb => ?_⟩
      · unfold midT
        split
        · exact List.Pairwise.nil
        · exact List.pairwise_singleton _ _
      · obtain ⟨k', hk', hb⟩ := List.mem_flatMap.1 hb
        rw [hm k a ha, hm k' b hb]
        exact h1 k' hk'
  have nd : ∀ {l : List T}, Inc l → l.Nodup := fun h => List.Pairwise.imp (S := fun a b => a ≠ b) (fun {a b} g e => by subst e; exact List.lt_irrefl _ g) h
  refine List.Perm.eq_of_pairwise (le := fun a b => a.1 ≤ b.1) (fun a b ha hb h1 h2 => inc_uniq hi ((hmem a).1 ha) hb (List.le_antisymm h1 h2)) ?_ ?_ ((List.perm_ext_iff_of_nodup (nd hP) (nd hi)).2 hmem)
  · exact hP.imp fun g => by rw [← List.not_lt]; exact b_not g
  · exact hi.imp fun g => by rw [← List.not_lt]; exact b_not g
theorem mergeR_one {b o t : List T} (hb : vld b = true) (ho : vld o = true) (h : t = b ∨ t = o) : mergeR b o t = (o, []) := by
  have ht : vld t = true := by rcases h with rfl | rfl <;> assumption
  unfold mergeR
  rw [hb, ho, ht, show (fun k => oneR (getV b k) (getV o k) (getV t k)) = fun k => (getV o k, false) from funext fun k => by
    unfold oneR
    rcases h with rfl | rfl <;> simp]
  show mrgL _ _ = _
  have hm := mid_all (K := keysR [b, o, t]) ho (keysR_inc _) fun x hx => by
    unfold keysR
    rw [sortK_mem]
    simp only [List.flatMap_cons, List.mem_append]
    exact .inr (.inl (List.mem_map.2 ⟨x, hx, rfl⟩))
  unfold mrgL
  rw [mrg_plain (getV o) _ [] (by rw [List.nil_append, hm]; exact vld_few ho), hm]
  rfl
end Go.Proofs.Ytlknbjaippfemaa.Tg
