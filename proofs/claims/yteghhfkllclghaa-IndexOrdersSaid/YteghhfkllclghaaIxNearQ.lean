/- index: the queue of Near: pushed, popped. -/
import Derived.Test.YteghhfkllclghaaIxHpop
import Derived.Test.YteghhfkllclghaaIxDown
import Derived.Test.YteghhfkllclghaaIxNearMath
namespace Go.Proofs.Yteghhfkllclghaa.Ix
open Go.RowKit Go.Sort
def partIn (w0 : World) (base : Nat) : Prt → Prop
  | .one _ => True
  | .sub u => u.inT w0 ∧ ∀ r ∈ u.fp, r < base
/-- the queue holds the parts P. -/
structure NQ (w0 wr : World) (base qb : Nat) (px py : Int) (P : List (Qi × Prt)) : Prop where
  q : ∃ v L, Qu wr base qb v L ∧ HeapL bfQ L L.length ∧ L.Perm (P.map Prod.fst)
  good : ∀ z ∈ P, z.2.good px py z.1 ∧ partIn w0 base z.2
  ge : base ≤ wr.heap.size
theorem NQ.push {w0 wr : World} {base qb : Nat} {px py : Int} {P : List (Qi × Prt)} (h : NQ w0 wr base qb px py P) (z : Qi × Prt) (hz : z.2.good px py z.1 ∧ partIn w0 base z.2) (hl : P.length ≤ 100000) :
    Calls Try.prog 40 #[qI qb, itV z.1] wr fun e w' => e = .returned (.tuple #[]) ∧ NQ w0 w' base qb px py (z :: P) ∧ Bq base qb wr w' := by
  obtain ⟨v, L, h1, h2, h3⟩ := h.q
  have hlen : L.length = P.length := by rw [h3.length_eq, List.length_map]
  refine (hpush_any wr base qb v L z.1 h1 h2 (by omega) h.ge).mono ?_
  rintro e w' ⟨rfl, ⟨v', L', k1, k2, k3⟩, hb⟩
  refine ⟨rfl, ⟨⟨v', L', k1, k3, k2.trans (h3.cons z.1)⟩, fun y hy => ?_, Nat.le_trans h.ge hb.size⟩, hb⟩
  rcases List.mem_cons.1 hy with rfl | hy
  · exact hz
  · exact h.good y hy
theorem NQ.pop {w0 wr : World} {base qb : Nat} {px py : Int} {P : List (Qi × Prt)} (h : NQ w0 wr base qb px py P) (h0 : 0 < P.length) (hl : P.length ≤ 100000) :
    ∃ r pt R, P.Perm ((r, pt) :: R) ∧ (∀ z ∈ R, bfQ z.1 r = false) ∧ pt.good px py r ∧ partIn w0 base pt ∧
    Calls Try.prog 43 #[qI qb] wr fun e w' => e = .returned (itV r) ∧ NQ w0 w' base qb px py R ∧ Bq base qb wr w' := by
  obtain ⟨v, L, h1, h2, h3⟩ := h.q
  have hlen : L.length = P.length := by rw [h3.length_eq, List.length_map]
  obtain ⟨r, hr⟩ : ∃ r, L[0]? = some r := ⟨_, List.getElem?_eq_getElem (by omega)⟩
  obtain ⟨M, hM⟩ : ∃ M, L = r :: M := by
    cases L with
    | nil => simp at hr
    | cons a M => simp at hr; exact ⟨M, by rw [hr]⟩
  have hmin : ∀ y ∈ L, bfQ y r = false := fun y hy => by
    obtain ⟨k, hk⟩ := List.getElem?_of_mem hy
    exact heap_min bf_weak h2 hr bf_irr (Nat.le_refl _) k (List.getElem?_eq_some_iff.1 hk).1 y hk
  obtain ⟨pt, R, p1, p2⟩ := part_of h3 (show L.Perm (r :: M) by rw [hM])
  have hin : ∀ z ∈ R, z ∈ P := fun z hz => p1.mem_iff.2 (List.mem_cons_of_mem _ hz)
  have hg := h.good _ (p1.mem_iff.2 (List.mem_cons_self ..))
  refine ⟨r, pt, R, p1, fun z hz => hmin z.1 (h3.mem_iff.2 (List.mem_map_of_mem (hin z hz))), hg.1, hg.2, ?_⟩
  refine (hpop_any wr base qb v L r h1 h2 hr (by omega) h.ge).mono ?_
  rintro e w' ⟨rfl, ⟨v', M', k1, k2, k3⟩, hb⟩
  refine ⟨rfl, ⟨⟨v', M', k1, k3, ?_⟩, fun z hz => h.good z (hin z hz), Nat.le_trans h.ge hb.size⟩, hb⟩
  rw [hM] at k2
  exact (k2.cons_inv.symm).trans p2
theorem NQ.below {w0 wr w' : World} {base qb : Nat} {px py : Int} {P : List (Qi × Prt)} (h : NQ w0 wr base qb px py P) (hb : Below wr.heap.size wr w') : NQ w0 w' base qb px py P := by
  obtain ⟨v, L, h1, h2, h3⟩ := h.q
  exact ⟨⟨v, L, h1.below hb, h2, h3⟩, h.good, Nat.le_trans h.ge hb.size⟩
end Go.Proofs.Yteghhfkllclghaa.Ix
