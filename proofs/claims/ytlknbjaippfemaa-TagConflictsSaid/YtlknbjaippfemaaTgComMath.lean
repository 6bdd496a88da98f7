/- Plain mathematics of tags: settings of two keys, on two sides that are merged. -/
import Derived.Test.YtlknbjaippfemaaTgSetMath
namespace Go.Proofs.Ytlknbjaippfemaa.Tg
open Lx (nmB)
/-- where each key has on one side what a list has, the merge is this list. -/
theorem mergeR_is {b o t r : List T} (hb : vld b = true) (ho : vld o = true) (ht : vld t = true) (hr : vld r = true) (hf : ∀ x, oneR (getV b x) (getV o x) (getV t x) = (getV r x, false)) (hk : ∀ u ∈ r, ∃ l ∈ [b, o, t], u ∈ l) : mergeR b o t = (r, []) := by
  unfold mergeR
  rw [hb, ho, ht, show (fun k => oneR (getV b k) (getV o k) (getV t k)) = fun k => (getV r k, false) from funext hf]
  show mrgL _ _ = _
  have hm := mid_all (K := keysR [b, o, t]) hr (keysR_inc _) fun x hx => by
    unfold keysR
    rw [sortK_mem, List.mem_flatMap]
    obtain ⟨l, h1, h2⟩ := hk x hx
    exact ⟨l, h1, List.mem_map.2 ⟨x, h2, rfl⟩⟩
  unfold mrgL
  rw [mrg_plain (getV r) _ [] (by rw [List.nil_append, hm]; exact vld_few hr), hm]
  rfl
theorem set_swap {l : List T} {k o : B} (v s : B) (h : Inc l) (hne : k ≠ o) : setL (setL l k v) o s = setL (setL l o s) k v := by
  refine inc_ext (set_inc _ _ (set_inc _ _ h)) (set_inc _ _ (set_inc _ _ h)) fun t => ?_
  rw [set_mem, set_mem, set_mem, set_mem]
  constructor
  · rintro (⟨⟨h1, h2⟩ | ⟨h1, h2⟩, h3⟩ | ⟨h1, h2⟩)
    · exact .inl ⟨.inl ⟨h1, h3⟩, h2⟩
    · exact .inr ⟨h1, h2⟩
    · exact .inl ⟨.inr ⟨h1, h2⟩, fun e => hne (e.symm.trans h1)⟩
  · rintro (⟨⟨h1, h2⟩ | ⟨h1, h2⟩, h3⟩ | ⟨h1, h2⟩)
    · exact .inl ⟨.inl ⟨h1, h3⟩, h2⟩
    · exact .inr ⟨h1, h2⟩
    · exact .inl ⟨.inr ⟨h1, h2⟩, fun e => hne (h1.symm.trans e)⟩
theorem getV_at {l : List T} (k v : B) (h : Inc l) : getV (setL l k v) k = v := by
  unfold getV
  rw [set_at k v h]
  split
  · rename_i e; exact e.symm
  · rfl
theorem getV_off {l : List T} {k o : B} (v : B) (h : Inc l) (hne : o ≠ k) : getV (setL l k v) o = getV l o := by
  unfold getV
  rw [set_off v h hne]
theorem commute_merge {l : List T} {k o v s : B} (h : vld l = true) (hk : nmB k = true) (ho : nmB o = true) (hv : v.length ≤ 200) (hs : s.length ≤ 200) (hn : l.length ≤ 50) (hne : k ≠ o) :
    mergeR l (setL l k v) (setL l o s) = (setL (setL l k v) o s, []) := by
  have hi := vld_inc h
  have h1 := set_len l k v
  have h2 := set_len l o s
  have h3 := set_len (setL l k v) o s
  have va := set_vld h hk hv (by omega)
  have vb := set_vld h ho hs (by omega)
  have vc := set_vld va ho hs (by omega)
  refine mergeR_is h va vb vc (fun x => ?_) fun u hu => ?_
  · by_cases hx : x = o
    · subst hx
      rw [getV_at x s (set_inc k v hi), getV_off v hi (fun e => hne e.symm), getV_at x s hi]
      unfold oneR
      by_cases e : getV l x = s
      · rw [if_pos (.inl e), e]
      · rw [if_neg (fun q => q.elim e (fun q => e q.symm)), if_pos rfl]
    · rw [getV_off s (set_inc k v hi) hx, getV_off s hi hx]
      unfold oneR
      rw [if_pos (.inr rfl)]
  · rcases set_mem.1 hu with ⟨h4, _⟩ | h4
    · exact ⟨_, by simp, h4⟩
    · exact ⟨setL l o s, by simp, set_mem.2 (.inr h4)⟩
theorem setR_siz {l : List T} {k v : B} (h : ∀ t ∈ l, t.1.length ≤ 100000 ∧ t.2.length ≤ 100000) (hk : k.length ≤ 100000) (hv : v.length ≤ 100000) : ∀ t ∈ (setR l k v).1, t.1.length ≤ 100000 ∧ t.2.length ≤ 100000 := by
  intro t ht
  unfold setR at ht
  split at ht
  · cases ht
  · split at ht
    · cases ht
    · rcases set_mem.1 ht with ⟨h1, _⟩ | ⟨h1, h2, _⟩
      · exact h t h1
      · rw [h1, h2]; exact ⟨hk, hv⟩
end Go.Proofs.Ytlknbjaippfemaa.Tg
