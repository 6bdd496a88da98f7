/- Plain mathematics of tags: sorted keys. -/
import Derived.Test.YtlknbjaippfemaaTgMath
namespace Go.Proofs.Ytlknbjaippfemaa.Tg
theorem addK_mem {x k : B} : ∀ {l : List B}, x ∈ addK l k ↔ x = k ∨ x ∈ l
  | [] => by simp [addK]
  | a :: l => by
    unfold addK
    split
    · simp
    · split
      · rename_i h; subst h; simp
      · rw [List.mem_cons, addK_mem, List.mem_cons]
        constructor
        · rintro (h | h | h)
          · exact .inr (.inl h)
          · exact .inl h
          · exact .inr (.inr h)
        · rintro (h | h | h)
          · exact .inr (.inl h)
          · exact .inl h
          · exact .inr (.inr h)
theorem addK_inc {k : B} : ∀ {l : List B}, l.Pairwise (· < ·) → (addK l k).Pairwise (· < ·)
  | [], _ => by simp [addK]
  | a :: l, h => by
    obtain ⟨h1, h2⟩ := List.pairwise_cons.1 h
    unfold addK
    split
    · rename_i g
      refine List.pairwise_cons.2 ⟨fun x hx => ?_, h⟩
      rcases List.mem_cons.1 hx with rfl | hx
      · exact g
      · exact List.lt_trans g (h1 x hx)
    · split
      · exact h
      · rename_i g1 g2
        refine List.pairwise_cons.2 ⟨fun x hx => ?_, addK_inc h2⟩
        rcases addK_mem.1 hx with rfl | hx
        · rcases b_lt_or a x with g | g | g
          · exact g
          · exact absurd g g2
          · exact absurd g g1
        · exact h1 x hx
theorem foldK_mem {x : B} : ∀ (ks l : List B), x ∈ ks.foldl addK l ↔ x ∈ ks ∨ x ∈ l
  | [], l => by simp
  | k :: ks, l => by
    rw [List.foldl_cons, foldK_mem ks, addK_mem, List.mem_cons]
    constructor
    · rintro (h | h | h)
      · exact .inl (.inr h)
      · exact .inl (.inl h)
      · exact .inr h
    · rintro ((h | h) | h)
      · exact .inr (.inl h)
      · exact .inl h
      · exact .inr (.inr h)
theorem foldK_inc : ∀ (ks l : List B), l.Pairwise (· < ·) → (ks.foldl addK l).Pairwise (· < ·)
  | [], _, h => h
  | k :: ks, l, h => foldK_inc ks (addK l k) (addK_inc h)
theorem sortK_mem {x : B} {ks : List B} : x ∈ sortK ks ↔ x ∈ ks := by unfold sortK; rw [foldK_mem]; simp
theorem sortK_inc (ks : List B) : (sortK ks).Pairwise (· < ·) := foldK_inc ks [] List.Pairwise.nil
theorem inc_nodup {l : List B} (h : l.Pairwise (· < ·)) : l.Nodup := List.Pairwise.imp (S := fun a b => a ≠ b) (fun {a b} g e => by subst e; exact List.lt_irrefl _ g) h
theorem inc_le {l : List B} (h : l.Pairwise (· < ·)) : l.Pairwise (· ≤ ·) := h.imp fun g => by rw [← List.not_lt]; exact b_not g
theorem inc_sort {l m : List B} (hp : m.Perm l) (h : l.Pairwise (· < ·)) : m.mergeSort (fun x y => decide (x ≤ y)) = l := by
  refine List.Perm.eq_of_pairwise (le := (· ≤ ·)) (fun a b _ _ h1 h2 => List.le_antisymm h1 h2) ?_ (inc_le h) ((List.mergeSort_perm _ _).trans hp)
  have := List.pairwise_mergeSort (le := fun x y : B => decide (x ≤ y)) (fun a b c h1 h2 => by
    rw [decide_eq_true_iff] at *
    exact List.le_trans h1 h2) (fun a b => by
    rw [Bool.or_eq_true, decide_eq_true_iff, decide_eq_true_iff]
    exact List.le_total a b) m
  exact this.imp fun h => of_decide_eq_true h
theorem keys_mem {x : B} {ls : List (List T)} : x ∈ keysR ls ↔ ∃ l ∈ ls, ∃ t ∈ l, t.1 = x := by
  unfold keysR
  rw [sortK_mem, List.mem_flatMap]
  constructor
  · rintro ⟨l, hl, h⟩
    obtain ⟨t, ht, e⟩ := List.mem_map.1 h
    exact ⟨l, hl, t, ht, e⟩
  · rintro ⟨l, hl, t, ht, e⟩
    exact ⟨l, hl, List.mem_map.2 ⟨t, ht, e⟩⟩
theorem keys_len (ls : List (List T)) : (keysR ls).length ≤ (ls.map List.length).sum := by
  have : ∀ (ks l : List B), (ks.foldl addK l).length ≤ ks.length + l.length := by
    intro ks
    induction ks with
    | nil => intro l; simp
    | cons k ks ih =>
      intro l
      have h1 := ih (addK l k)
      have h2 : (addK l k).length ≤ l.length + 1 := by
        clear h1 ih
        induction l with
        | nil => simp [addK]
        | cons a l ih =>
          unfold addK
          split
          · simp
          · split
            · simp
            · simp only [List.length_cons]; omega
      rw [List.foldl_cons, List.length_cons]
      omega
  have h := this (ls.flatMap fun l => l.map Prod.fst) []
  unfold keysR sortK
  refine Nat.le_trans h ?_
  rw [List.length_flatMap]
  simp
end Go.Proofs.Ytlknbjaippfemaa.Tg
