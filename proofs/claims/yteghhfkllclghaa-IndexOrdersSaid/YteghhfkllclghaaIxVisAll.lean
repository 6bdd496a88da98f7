/- index: a visit of a whole tree; the sort of what was found. -/
import Derived.Test.YteghhfkllclghaaIxVisit
namespace Go.Proofs.Yteghhfkllclghaa.Ix
open Go.RowKit Go.Sort
theorem visit_any (q : Bx) (base qb c1 c2 : Nat) : ∀ (t : Tr Value) (w : World) (v : Value) (L : List Id), t.inT w → (∀ k ∈ t.fp, k < base) → base ≤ w.heap.size → Vis w base qb c1 c2 q v L → L.length + (visT q t).length ≤ 1000000 →
    Calls Try.prog 35 #[ptr t.blk, ptr qb, ptr c1, ptr c2] w (visQ base qb c1 c2 q (L ++ visT q t) w)
  | .leaf p b ids u, w, v, L, ht, hf, hb, hv, hl => by
    cases hm : meetB b q with
    | false =>
      have e : visT q (.leaf p b ids u) = [] := by unfold visT; rw [hm]; rfl
      rw [e, List.append_nil]
      refine (visit_off p qb c1 c2 b q 128 nilP nilP u w ht.1 hv.rowB hm).mono ?_
      rintro e w' ⟨rfl, h⟩
      exact ⟨rfl, ⟨v, hv.below h⟩, h.mono hb⟩
    | true =>
      have e : visT q (.leaf p b ids u) = ids := by unfold visT; rw [hm]; rfl
      rw [e] at hl ⊢
      have h := visit_node base p qb c1 c2 b q 128 none none u v L ids [] [] w ht.1 ht.2 (fun k hk => hf k (by show k ∈ p :: u.ownBlock.toList; rw [hk]; simp)) (hf p (List.mem_cons_self ..)) hv hb hm hl
      rw [List.append_nil, List.append_nil] at h
      refine h (fun w' v' hb' hv' => ?_) (fun w' v' hb' hv' => ?_)
      all_goals
        refine (visit_nil qb c1 c2 w').mono ?_
        rintro e w2 ⟨rfl, h2⟩
        exact ⟨rfl, ⟨v', hv'.below h2⟩, h2.mono (Nat.le_trans hb hb'.size)⟩
  | .fork p f l r, w, v, L, ht, hf, hb, hv, hl => by
    have hfl : ∀ k ∈ l.fp, k < base := fun k hk => hf k (by show k ∈ p :: (l.fp ++ r.fp); simp [hk])
    have hfr : ∀ k ∈ r.fp, k < base := fun k hk => hf k (by show k ∈ p :: (l.fp ++ r.fp); simp [hk])
    cases hm : meetB (hull l.box r.box) q with
    | false =>
      have e : visT q (.fork p f l r) = [] := by unfold visT; rw [hm]; rfl
      rw [e, List.append_nil]
      refine (visit_off p qb c1 c2 (hull l.box r.box) q f (ptr l.blk) (ptr r.blk) nilS w ht.1 hv.rowB hm).mono ?_
      rintro e w' ⟨rfl, h⟩
      exact ⟨rfl, ⟨v, hv.below h⟩, h.mono hb⟩
    | true =>
      have e : visT q (.fork p f l r) = visT q l ++ visT q r := by
        show (if meetB (hull l.box r.box) q = true then visT q l ++ visT q r else []) = _
        rw [hm, if_pos rfl]
      rw [e] at hl ⊢
      rw [List.length_append] at hl
      have h := visit_node base p qb c1 c2 (hull l.box r.box) q f (some ⟨l.blk, 0, none⟩) (some ⟨r.blk, 0, none⟩) nilS v L [] (visT q l) (visT q r) w ht.1 (OwnS.nil w) (fun k hk => by cases hk) (hf p (List.mem_cons_self ..)) hv hb hm (by simp; omega)
      rw [List.append_nil, List.append_assoc] at h
      refine h (fun w' v' hb' hv' => ?_) (fun w' v' hb' hv' => ?_)
      · exact visit_any q base qb c1 c2 l w' v' L (Tr.inT_keep ht.2.1 fun k hk => hb'.block k (hfl k hk)) hfl (Nat.le_trans hb hb'.size) hv' (by omega)
      · have h3 := visit_any q base qb c1 c2 r w' v' (L ++ visT q l) (Tr.inT_keep ht.2.2 fun k hk => hb'.block k (hfr k hk)) hfr (Nat.le_trans hb hb'.size) hv' (by rw [List.length_append]; omega)
        rw [List.append_assoc] at h3
        exact h3
/-- the sort of what was found. -/
theorem sort_any (w : World) (base : Nat) (v : Value) (L : List Id) (h : OwnB w base v L) (hbase : base ≤ w.heap.size) (hl : L.length ≤ 1000000) :
    Calls Try.prog 37 #[v] w fun e w' => e = .returned (.tuple #[]) ∧ OwnB w' base v (L.mergeSort fun x y => decide (x ≤ y)) ∧ w.grownBy w' v.ownBlock := by
  have hh := h
  obtain ⟨h1, ⟨rfl, h0⟩ | ⟨g, cap, cur, rfl, hb, hg, h2, h3, h4, h5⟩⟩ := hh
  · obtain rfl : L = [] := List.eq_nil_of_length_eq_zero h0
    refine (Try.slices_Sort_string_none none 0 w).mono ?_
    rintro e w' ⟨rfl, rfl⟩
    exact ⟨rfl, by simpa using h, World.grownBy.refl _ _⟩
  · have hH : Holds encStr w g 0 L.toArray := holds_of_block hg (by simpa [sv] using h5)
    refine (Try.slices_Sort_string g 0 cap L w hH (Array.getElem?_eq_some_iff.1 hg).1 (by omega)).mono ?_
    rintro e w' ⟨rfl, n, os, rfl⟩
    have hlen : (L.mergeSort fun x y => decide (x ≤ y)).length = L.length := List.length_mergeSort _
    refine ⟨rfl, ?_, grownBy_sorted _⟩
    have := ownsRow_sorted (w := w) (n := n) (os := os) (ss := L) (ts := L.mergeSort fun x y => decide (x ≤ y)) hlen hb hg h2 h3 h4
    show World.ownsRow _ _ _ _ _ (L.mergeSort fun x y => decide (x ≤ y)).length _
    rw [hlen]
    exact this
end Go.Proofs.Yteghhfkllclghaa.Ix
