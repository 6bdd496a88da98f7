/- sweep.visit. -/
import Derived.Test.YtlgmlgogpohgoaaSwNote
namespace Go.Proofs.Ytlgmlgogpohgoaa.Sw
open Go.RowKit Go.Sort Go.Shelf
open Go.Proofs.Ytlgmlgogpohgoaa.Geo hiding intOf
/-- the list while it is made shorter in place: its first elements are those that are kept of the first i, its last ones are as they were. -/
structure Comp (x : Ent) (O L : List Ent) (k i : Nat) : Prop where
  len : L.length = O.length
  kept : L.take k = keptN x (O.take i)
  num : k = (keptN x (O.take i)).length
  rest : ∀ j, i ≤ j → L[j]? = O[j]?
theorem keptN_le (x : Ent) (O : List Ent) : (keptN x O).length ≤ O.length := List.length_filter_le _ _
section
variable {x : Ent} {O L : List Ent} {k i : Nat}
theorem Comp.start (x : Ent) (O : List Ent) : Comp x O O 0 0 := ⟨rfl, by simp [keptN], by simp [keptN], fun _ _ => rfl⟩
theorem Comp.le (h : Comp x O L k i) (hi : i ≤ O.length) : k ≤ i := by
  have := keptN_le x (O.take i)
  rw [List.length_take] at this
  have := h.num
  omega
theorem take_one {O : List Ent} {i : Nat} {e : Ent} (he : O[i]? = some e) : O.take (i + 1) = O.take i ++ [e] := by
  obtain ⟨h1, rfl⟩ := List.getElem?_eq_some_iff.1 he
  rw [List.take_succ_eq_append_getElem h1]
theorem Comp.skip {e : Ent} (h : Comp x O L k i) (he : O[i]? = some e) (ha : alive x e = false) : Comp x O L k (i + 1) := by
  have ek : keptN x (O.take (i + 1)) = keptN x (O.take i) := by rw [take_one he, keptN_snoc, ha]; rfl
  exact ⟨h.len, by rw [ek]; exact h.kept, by rw [ek]; exact h.num, fun j hj => h.rest j (by omega)⟩
theorem Comp.keep {e : Ent} (h : Comp x O L k i) (he : O[i]? = some e) (ha : alive x e = true) : Comp x O (L.set k e) (k + 1) (i + 1) ∧ (L.set k e)[i]? = some e := by
  have hi := (List.getElem?_eq_some_iff.1 he).1
  have hki := h.le (by omega)
  have hkl : k < L.length := by rw [h.len]; omega
  have ek : keptN x (O.take (i + 1)) = keptN x (O.take i) ++ [e] := by rw [take_one he, keptN_snoc, ha]; rfl
  refine ⟨⟨by rw [List.length_set]; exact h.len, ?_, by rw [ek, List.length_append, ← h.num]; rfl, fun j hj => ?_⟩, ?_⟩
  · rw [take_one (e := e) (by rw [List.getElem?_set_self hkl]), List.take_set, List.set_eq_of_length_le (by rw [List.length_take]; omega), h.kept, ek]
  · rw [List.getElem?_set_ne (by omega)]
    exact h.rest j (by omega)
  · by_cases e1 : k = i
    · subst e1; rw [List.getElem?_set_self hkl]
    · rw [List.getElem?_set_ne e1, h.rest i (Nat.le_refl _), he]
theorem Comp.put_same {e : Ent} (h : Comp x O L k i) (he : O[i]? = some e) (hki : ¬ k < i) : L.set k e = L := by
  have hi := (List.getElem?_eq_some_iff.1 he).1
  have e1 : k = i := by have := h.le (by omega); omega
  subst e1
  have := (h.rest k (Nat.le_refl _)).trans he
  obtain ⟨h1, rfl⟩ := List.getElem?_eq_some_iff.1 this
  exact List.set_getElem_self h1
end
theorem notes_le (l : List Sg) (x : Ent) (O : List Ent) : (notesN l x O).length ≤ O.length := List.length_filterMap_le _ _
/-- what stands between two rounds. -/
def VI (w0 : World) (base lb fb : Nat) (a : Option Addr) (n cap : Nat) (l : List Sg) (F : List Met) (b2 : Nat) (ao : Option Addr) (no cO : Nat) (O : List Ent) (x : Ent) (xb : Nat) (V : World) (k i : Nat) (W : World) : Prop :=
  ∃ L, Comp x O L k i ∧ OwnE W b2 (.slice ao no cO) L ∧ St w0 base lb fb a n cap l (F ++ notesN l x (O.take i)) W ∧ IsRow W xb 85 (encE x).toArray ∧ Kp (ao.map Addr.block) V W
section
variable {w0 : World} {base lb fb : Nat} {a : Option Addr} {n cap : Nat} {l : List Sg} {F : List Met} {b2 : Nat} {ao : Option Addr} {no cO : Nat} {O : List Ent} {x : Ent} {xb : Nat} {V W W' : World} {k i : Nat}
theorem VI.skip {e : Ent} (h : VI w0 base lb fb a n cap l F b2 ao no cO O x xb V k i W) (he : O[i]? = some e) (ha : alive x e = false) : VI w0 base lb fb a n cap l F b2 ao no cO O x xb V k (i + 1) W := by
  obtain ⟨L, h1, h2, h3, h4, h5⟩ := h
  refine ⟨L, h1.skip he ha, h2, ?_, h4, h5⟩
  rw [take_one he, notesN_snoc, ha]
  simpa using h3
theorem VI.later (h : VI w0 base lb fb a n cap l F b2 ao no cO O x xb V k i W) (hb : Below W.heap.size W W') : VI w0 base lb fb a n cap l F b2 ao no cO O x xb V k i W' := by
  obtain ⟨L, h1, h2, h3, h4, h5⟩ := h
  exact ⟨L, h1, Own.below h2 hb, h3.later hb, h4.below hb h4.inside, h5.trans (Kp.of_below hb)⟩
end
/-- what stands in a round when the element is kept. -/
def VK (w0 : World) (base lb fb : Nat) (a : Option Addr) (n cap : Nat) (l : List Sg) (F : List Met) (b2 : Nat) (g no cO : Nat) (O : List Ent) (e x : Ent) (xb : Nat) (V : World) (k i : Nat) (W : World) : Prop :=
  ∃ L, Comp x O L (k + 1) (i + 1) ∧ L[i]? = some e ∧ OwnE W b2 (.slice (some ⟨g, 0, none⟩) no cO) L ∧ St w0 base lb fb a n cap l (F ++ notesN l x (O.take i)) W ∧ IsRow W xb 85 (encE x).toArray ∧ Kp (some g) V W
section
variable {w0 : World} {base lb fb : Nat} {a : Option Addr} {n cap : Nat} {l : List Sg} {F : List Met} {b2 : Nat} {g no cO : Nat} {O : List Ent} {e x : Ent} {xb : Nat} {V W W' : World} {k i : Nat}
theorem VI.same (h : VI w0 base lb fb a n cap l F b2 (some ⟨g, 0, none⟩) no cO O x xb V k i W) (he : O[i]? = some e) (ha : alive x e = true) (hki : ¬ k < i) : VK w0 base lb fb a n cap l F b2 g no cO O e x xb V k i W := by
  obtain ⟨L, h1, h2, h3, h4, h5⟩ := h
  have hs := h1.put_same he hki
  obtain ⟨g1, g2⟩ := h1.keep he ha
  rw [hs] at g1 g2
  exact ⟨L, g1, g2, h2, h3, h4, h5⟩
theorem VI.moved (h : VI w0 base lb fb a n cap l F b2 (some ⟨g, 0, none⟩) no cO O x xb V k i W) (he : O[i]? = some e) (ha : alive x e = true) (hb2 : base ≤ b2) (hx : xb ≠ g) : VK w0 base lb fb a n cap l F b2 g no cO O e x xb V k i (put5 W g (k * 5) e) := by
  obtain ⟨L, h1, h2, h3, h4, h5⟩ := h
  obtain ⟨g1, g2⟩ := h1.keep he ha
  have hi := (List.getElem?_eq_some_iff.1 he).1
  have hki := h1.le (by omega)
  obtain ⟨s1, s2⟩ := OwnE.store h2 (k := k) (by rw [h1.len]; omega) e
  refine ⟨_, g1, g2, s1, h3.grown s2 (fun q e => ?_), row_grown h4 s2 (fun e => hx (by injection e with e; exact e.symm)), h5.trans (Kp.of_grown s2 (fun q e => .inr (.inr rfl)))⟩
  obtain ⟨q1, q2⟩ := Own.row h2 q e
  exact ⟨Nat.le_trans hb2 q1, q2⟩
theorem VK.later (h : VK w0 base lb fb a n cap l F b2 g no cO O e x xb V k i W) (hb : Below W.heap.size W W') : VK w0 base lb fb a n cap l F b2 g no cO O e x xb V k i W' := by
  obtain ⟨L, h1, h2, h3, h4, h5, h6⟩ := h
  exact ⟨L, h1, h2, Own.below h3 hb, h4.later hb, h5.below hb h5.inside, h6.trans (Kp.of_below hb)⟩
/-- the round's end: nothing is noted, or the pair. -/
theorem VK.fin (h : VK w0 base lb fb a n cap l F b2 g no cO O e x xb V k i W) (he : O[i]? = some e) (ha : alive x e = true)
    (hs : St w0 base lb fb a n cap l (F ++ notesN l x (O.take i) ++ (if levelB x e then noteOf l e.i x.i else none).toList) W') (hk : Kp none W W') : VI w0 base lb fb a n cap l F b2 (some ⟨g, 0, none⟩) no cO O x xb V (k + 1) (i + 1) W' := by
  obtain ⟨L, h1, h2, h3, h4, h5, h6⟩ := h
  refine ⟨L, h1, Kp.ownE hk h3 (.inr (by simp [Value.ownBlock])), ?_, hk.keep _ _ _ h5 (by decide) (by decide) (by simp), h6.trans hk.more⟩
  rw [take_one he, notesN_snoc, ha, Bool.true_and, ← List.append_assoc]
  exact hs
theorem VK.facts (h : VK w0 base lb fb a n cap l F b2 g no cO O e x xb V k i W) :
    (W.cell? ⟨g, i * 5, none⟩ = some (.int .i64 e.i) ∧ W.cell? ⟨g, i * 5 + 1, none⟩ = some (.int .i64 e.lo.x) ∧ W.cell? ⟨g, i * 5 + 2, none⟩ = some (.int .i64 e.lo.y) ∧ W.cell? ⟨g, i * 5 + 3, none⟩ = some (.int .i64 e.hi.x) ∧ W.cell? ⟨g, i * 5 + 4, none⟩ = some (.int .i64 e.hi.y)) ∧
    (W.cell? ⟨xb, 0, none⟩ = some (.int .i64 x.i) ∧ W.cell? ⟨xb, 1, none⟩ = some (.int .i64 x.lo.x) ∧ W.cell? ⟨xb, 2, none⟩ = some (.int .i64 x.lo.y) ∧ W.cell? ⟨xb, 3, none⟩ = some (.int .i64 x.hi.x) ∧ W.cell? ⟨xb, 4, none⟩ = some (.int .i64 x.hi.y)) := by
  obtain ⟨L, h1, h2, h3, h4, h5, h6⟩ := h
  exact ⟨⟨Own.cells h3 encE_len (j := 0) h2 (by decide), Own.cells h3 encE_len (j := 1) h2 (by decide), Own.cells h3 encE_len (j := 2) h2 (by decide), Own.cells h3 encE_len (j := 3) h2 (by decide), Own.cells h3 encE_len (j := 4) h2 (by decide)⟩,
    h5.get 0, h5.get 1, h5.get 2, h5.get 3, h5.get 4⟩
theorem VI.facts (h : VI w0 base lb fb a n cap l F b2 (some ⟨g, 0, none⟩) no cO O x xb V k i W) (he : O[i]? = some e) :
    (W.cell? ⟨g, i * 5, none⟩ = some (.int .i64 e.i) ∧ W.cell? ⟨g, i * 5 + 1, none⟩ = some (.int .i64 e.lo.x) ∧ W.cell? ⟨g, i * 5 + 2, none⟩ = some (.int .i64 e.lo.y) ∧ W.cell? ⟨g, i * 5 + 3, none⟩ = some (.int .i64 e.hi.x) ∧ W.cell? ⟨g, i * 5 + 4, none⟩ = some (.int .i64 e.hi.y)) ∧
    (W.cell? ⟨xb, 0, none⟩ = some (.int .i64 x.i) ∧ W.cell? ⟨xb, 1, none⟩ = some (.int .i64 x.lo.x) ∧ W.cell? ⟨xb, 2, none⟩ = some (.int .i64 x.lo.y) ∧ W.cell? ⟨xb, 3, none⟩ = some (.int .i64 x.hi.x) ∧ W.cell? ⟨xb, 4, none⟩ = some (.int .i64 x.hi.y)) ∧
    ∃ o0 o1 o2 o3 o4, W.cell? ⟨g, k * 5, none⟩ = some o0 ∧ W.cell? ⟨g, k * 5 + 1, none⟩ = some o1 ∧ W.cell? ⟨g, k * 5 + 2, none⟩ = some o2 ∧ W.cell? ⟨g, k * 5 + 3, none⟩ = some o3 ∧ W.cell? ⟨g, k * 5 + 4, none⟩ = some o4 ∧
      W.frozen? ⟨g, k * 5, none⟩ = false ∧ W.frozen? ⟨g, k * 5 + 1, none⟩ = false ∧ W.frozen? ⟨g, k * 5 + 2, none⟩ = false ∧ W.frozen? ⟨g, k * 5 + 3, none⟩ = false ∧ W.frozen? ⟨g, k * 5 + 4, none⟩ = false := by
  obtain ⟨L, h1, h3, h4, h5, h6⟩ := h
  have hi := (List.getElem?_eq_some_iff.1 he).1
  have hki := h1.le (by omega)
  have h2 : L[i]? = some e := (h1.rest i (Nat.le_refl _)).trans he
  have hL : L[k]? = some (L[k]'(by rw [h1.len]; omega)) := List.getElem?_eq_getElem _
  exact ⟨⟨Own.cells h3 encE_len (j := 0) h2 (by decide), Own.cells h3 encE_len (j := 1) h2 (by decide), Own.cells h3 encE_len (j := 2) h2 (by decide), Own.cells h3 encE_len (j := 3) h2 (by decide), Own.cells h3 encE_len (j := 4) h2 (by decide)⟩,
    ⟨h5.get 0, h5.get 1, h5.get 2, h5.get 3, h5.get 4⟩, _, _, _, _, _, Own.cells h3 encE_len (j := 0) hL (by decide), Own.cells h3 encE_len (j := 1) hL (by decide), Own.cells h3 encE_len (j := 2) hL (by decide), Own.cells h3 encE_len (j := 3) hL (by decide), Own.cells h3 encE_len (j := 4) hL (by decide),
    Own.open_ h3 _, Own.open_ h3 _, Own.open_ h3 _, Own.open_ h3 _, Own.open_ h3 _⟩
end
end Go.Proofs.Ytlgmlgogpohgoaa.Sw
