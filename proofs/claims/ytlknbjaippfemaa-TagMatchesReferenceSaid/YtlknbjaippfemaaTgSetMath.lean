/- Plain mathematics of tags: what a setting does. -/
import Derived.Test.YtlknbjaippfemaaTgMergeMath
namespace Go.Proofs.Ytlknbjaippfemaa.Tg
open Lx (nmB)
theorem inc_nd {l : List T} (h : Inc l) : l.Nodup := List.Pairwise.imp (S := fun a b => a ≠ b) (fun {_ b} g e => by subst e; exact List.lt_irrefl _ g) h
theorem inc_ext {l m : List T} (hl : Inc l) (hm : Inc m) (h : ∀ t, t ∈ l ↔ t ∈ m) : l = m := by
  refine List.Perm.eq_of_pairwise (le := fun a b => a.1 ≤ b.1) (fun a b ha hb h1 h2 => inc_uniq hm ((h a).1 ha) hb (List.le_antisymm h1 h2)) ?_ ?_ ((List.perm_ext_iff_of_nodup (inc_nd hl) (inc_nd hm)).2 h)
  · exact hl.imp fun g => by rw [← List.not_lt]; exact b_not g
  · exact hm.imp fun g => by rw [← List.not_lt]; exact b_not g
theorem mid_mem {k v : B} {t : T} : t ∈ midT k v ↔ t.1 = k ∧ t.2 = v ∧ v ≠ [] := by
  unfold midT
  split
  · rename_i h; simp [h]
  · rename_i h
    rw [List.mem_singleton]
    constructor
    · rintro rfl; exact ⟨rfl, rfl, h⟩
    · rintro ⟨rfl, rfl, _⟩; rfl
theorem set_mem {l : List T} {k v : B} {t : T} : t ∈ setL l k v ↔ (t ∈ l ∧ t.1 ≠ k) ∨ (t.1 = k ∧ t.2 = v ∧ v ≠ []) := by
  unfold setL
  rw [List.mem_append, List.mem_append, mid_mem]
  unfold lowT upT
  rw [List.mem_filter, List.mem_filter, decide_eq_true_iff, decide_eq_true_iff]
  constructor
  · rintro ((⟨h1, h2⟩ | h) | ⟨h1, h2⟩)
    · exact .inl ⟨h1, b_ne h2⟩
    · exact .inr h
    · exact .inl ⟨h1, (b_ne h2).symm⟩
  · rintro (⟨h1, h2⟩ | h)
    · rcases b_lt_or t.1 k with h | h | h
      · exact .inl (.inl ⟨h1, h⟩)
      · exact absurd h h2
      · exact .inr ⟨h1, h⟩
    · exact .inl (.inr h)
theorem set_inc {l : List T} (k v : B) (h : Inc l) : Inc (setL l k v) := by
  unfold setL
  have hm : ∀ t ∈ midT k v, t.1 = k := fun t ht => (mid_mem.1 ht).1
  have hlo : ∀ t ∈ lowT l k, t.1 < k := fun t ht => by unfold lowT at ht; rw [List.mem_filter, decide_eq_true_iff] at ht; exact ht.2
  have hup : ∀ t ∈ upT l k, k < t.1 := fun t ht => by unfold upT at ht; rw [List.mem_filter, decide_eq_true_iff] at ht; exact ht.2
  show List.Pairwise _ _
  rw [List.pairwise_append, List.pairwise_append]
  refine ⟨⟨h.sublist List.filter_sublist, ?_, fun a ha b hb => ?_⟩, h.sublist List.filter_sublist, fun a ha b hb => ?_⟩
  · unfold midT
    split
    · exact List.Pairwise.nil
    · exact List.pairwise_singleton _ _
  · rw [hm b hb]; exact hlo a ha
  · rcases List.mem_append.1 ha with ha | ha
    · exact List.lt_trans (hlo a ha) (hup b hb)
    · rw [hm a ha]; exact hup b hb
theorem set_len (l : List T) (k v : B) : (setL l k v).length ≤ l.length + 1 := by
  have h : ∀ l : List T, (lowT l k).length + (upT l k).length ≤ l.length := by
    intro l
    induction l with
    | nil => exact Nat.le_refl _
    | cons a l ih =>
      unfold lowT upT at *
      rw [List.filter_cons, List.filter_cons]
      by_cases h1 : a.1 < k
      · rw [if_pos (by simpa using h1), if_neg (by simpa using b_not h1)]
        simp only [List.length_cons]; omega
      · rw [if_neg (by simpa using h1)]
        split <;> simp only [List.length_cons] <;> omega
  unfold setL
  rw [List.length_append, List.length_append]
  have h1 := h l
  have h2 : (midT k v).length ≤ 1 := by unfold midT; split <;> simp
  omega
theorem okT_iff {t : T} : okT t = true ↔ nmB t.1 = true ∧ t.2 ≠ [] ∧ t.2.length ≤ 200 := by
  unfold okT
  rw [Bool.and_eq_true, Bool.and_eq_true, decide_eq_true_iff, decide_eq_true_iff]
  constructor
  · rintro ⟨⟨h1, h2⟩, h3⟩
    exact ⟨h1, fun e => by rw [e] at h2; exact absurd h2 (by simp), h3⟩
  · rintro ⟨h1, h2, h3⟩
    exact ⟨⟨h1, List.length_pos_iff.2 h2⟩, h3⟩
theorem vld_iff {l : List T} : vld l = true ↔ l.length ≤ 60 ∧ (∀ t ∈ l, okT t = true) ∧ Inc l := by
  unfold vld chk
  rw [Bool.and_eq_true, Bool.and_eq_true, decide_eq_true_iff, List.all_eq_true, asc_iff]
theorem set_vld {l : List T} {k v : B} (h : vld l = true) (hk : nmB k = true) (hv : v.length ≤ 200) (hn : (setL l k v).length ≤ 60) : vld (setL l k v) = true := by
  have h1 := vld_iff.1 h
  refine vld_iff.2 ⟨hn, fun t ht => ?_, set_inc k v h1.2.2⟩
  rcases set_mem.1 ht with ⟨h2, _⟩ | ⟨h2, h3, h4⟩
  · exact h1.2.1 t h2
  · rw [okT_iff, h2, h3]
    exact ⟨hk, h4, hv⟩
theorem set_at {l : List T} (k v : B) (h : Inc l) : getO (setL l k v) k = if v = [] then none else some v := by
  split
  · rename_i hv
    rw [get_none]
    intro t ht e
    rcases set_mem.1 ht with ⟨_, h2⟩ | ⟨_, _, h4⟩
    · exact h2 e
    · exact h4 hv
  · rename_i hv
    rw [getO_some (set_inc k v h), set_mem]
    exact .inr ⟨rfl, rfl, hv⟩
theorem set_off {l : List T} {k o : B} (v : B) (h : Inc l) (hne : o ≠ k) : getO (setL l k v) o = getO l o := by
  refine Option.ext fun u => ?_
  show getO (setL l k v) o = some u ↔ getO l o = some u
  rw [getO_some (set_inc k v h), getO_some h, set_mem]
  constructor
  · rintro (⟨h1, _⟩ | ⟨h1, _⟩)
    · exact h1
    · exact absurd h1 hne
  · exact fun h1 => .inl ⟨h1, hne⟩
theorem val_len {l : List T} {k : B} (h : vld l = true) : (getV l k).length ≤ 200 := by
  unfold getV
  cases hg : getO l k with
  | none => exact Nat.zero_le _
  | some v => exact (okT_iff.1 ((vld_iff.1 h).2.1 _ ((getO_some (vld_inc h)).1 hg))).2.2
theorem set_back {l : List T} {k v : B} (h : vld l = true) : setL (setL l k v) k (getV l k) = l := by
  have hi := vld_inc h
  refine inc_ext (set_inc _ _ (set_inc _ _ hi)) hi fun t => ?_
  rw [set_mem, set_mem]
  constructor
  · rintro (⟨⟨h1, _⟩ | ⟨h1, _⟩, h2⟩ | ⟨h1, h2, h3⟩)
    · exact h1
    · exact absurd h1 h2
    · unfold getV at h2 h3
      cases hg : getO l k with
      | none => rw [hg] at h3; exact absurd rfl h3
      | some u =>
        rw [hg] at h2
        have := (getO_some hi).1 hg
        obtain ⟨a, b⟩ := t
        dsimp only at h1 h2
        subst h1
        rw [h2]; exact this
  · intro ht
    by_cases hk : t.1 = k
    · refine .inr ⟨hk, ?_, ?_⟩
      · unfold getV
        rw [(getO_some hi).2 (show (k, t.2) ∈ l from hk ▸ ht)]; rfl
      · unfold getV
        rw [(getO_some hi).2 (show (k, t.2) ∈ l from hk ▸ ht)]
        exact vld_val h ht
    · exact .inl ⟨.inl ⟨ht, hk⟩, hk⟩
end Go.Proofs.Ytlknbjaippfemaa.Tg
