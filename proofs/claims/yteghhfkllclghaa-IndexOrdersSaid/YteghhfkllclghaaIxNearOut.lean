/- index: the Ids that are out. -/
import Derived.Test.YteghhfkllclghaaIxNearQ
import Derived.Test.YteghhfkllclghaaIxVisMath
namespace Go.Proofs.Yteghhfkllclghaa.Ix
open Go.RowKit Go.Sort
theorem OwnB.mono {w : World} {B base : Nat} {v : Value} {L : List Id} (h : OwnB w base v L) (hb : B ≤ base) : OwnB w B v L := by
  obtain ⟨h1, ⟨hv, h0⟩ | ⟨g, cap, cur, hv, hg, hr⟩⟩ := h
  · exact ⟨h1, .inl ⟨hv, h0⟩⟩
  · exact ⟨h1, .inr ⟨g, cap, cur, hv, Nat.le_trans hb hg, hr⟩⟩
theorem OwnB.bq {w w' : World} {B qb base : Nat} {v : Value} {L : List Id} (h : OwnB w base v L) (hb : Bq B qb w w') : OwnB w' base v L := by
  obtain ⟨h1, ⟨hv, h0⟩ | ⟨g, cap, cur, hv, hg, hr, h2⟩⟩ := h
  · exact ⟨h1, .inl ⟨hv, h0⟩⟩
  · exact ⟨h1, .inr ⟨g, cap, cur, hv, hg, (hb.s g cur _ hr).trans hr, h2⟩⟩
theorem wpList_appB1 {w : World} {ops : Array Oper} {rest : List Oper} {o : Oper} {a : Act} {Q : Exit → Act → World → Prop} (hgd : o.guard = none) (s x : Operand)
    (ho : o.op = .call { callee := .builtin .append, args := #[s, x], argTypes := #[42, 42] }) (base : Nat) (v : Value) (L : List Id) (y : Id) (H : Nat)
    (hs : a.eval s = v) (hown : OwnB w base v L) (hx : a.eval x = .slice (some ⟨H, 0, none⟩) 1 1) (hrow : w.heap[H]? = some (.cells #[.string ⟨y.toArray⟩] 9 (0, 0))) (hlen : L.length ≤ 1000000) (hbase : base ≤ w.heap.size)
    (h : ∀ g cap w', OwnB w' base (.slice (some ⟨g, 0, none⟩) (L.length + 1) cap) (L ++ [y]) → w.grownBy w' v.ownBlock → wpList Try.prog ops Q rest (a.put o.dst (.slice (some ⟨g, 0, none⟩) (L.length + 1) cap)) w') :
    wpList Try.prog ops Q (o :: rest) a w := by
  obtain ⟨i0, hi, h1, h2, h3⟩ : ∃ i0, Try.prog.info? 9 = some i0 ∧ i0.zero = some (.string ⟨#[]⟩) ∧ i0.size = 1 ∧ i0.bytes = 16 := by
    have e := string_info
    cases hh : Try.prog.info? 9 with
    | none => rw [hh] at e; cases e
    | some i0 =>
      rw [hh] at e
      injection e with e
      injection e with e1 e
      injection e with e2 e3
      exact ⟨i0, rfl, e1, e2, e3⟩
  refine wpList_append_lies (P := Try.prog) (w := w) hgd s x _ ho base 9 i0 _ 1 16 Try.underlying42 hi h1 h2 h3 rfl (by decide) v L.length (sv L) hs hown _ 1 1 [.string ⟨y.toArray⟩] hx rfl (World.news_of_block hrow) (by intro u hu; simp at hu; subst hu; rfl) (by decide) (by unfold maxLen; omega) (by omega) hbase _ rfl ?_
  intro g cap w1 k1 k2 k3 k4
  refine h g cap w1 ?_ k2
  have e : (L ++ [y]).length = L.length + 1 := by simp
  have e2 : sv (L ++ [y]) = sv L ++ [.string ⟨y.toArray⟩] := by unfold sv; rw [List.map_append]; rfl
  show World.ownsRow _ _ _ _ _ (L ++ [y]).length _
  rw [e, e2]
  exact k1
/-- the queue beside the growth of a row of strings. -/
theorem NQ.grown {w0 wr w' : World} {base qb : Nat} {px py : Int} {P : List (Qi × Prt)} {s : Value} {out : List Id} (h : NQ w0 wr base qb px py P) (ho : OwnB wr base s out) (hg : wr.grownBy w' s.ownBlock) : NQ w0 w' base qb px py P ∧ Below base wr w' := by
  obtain ⟨v, L, h1, h2, h3⟩ := h.q
  have hn : ∀ k, s.ownBlock = some k → ∃ cur, wr.heap[k]? = some (.cells cur 9 (0, 0)) := fun k hk => by
    obtain ⟨_, ⟨hv, _⟩ | ⟨g, cap, cur, hv, _, hr, _⟩⟩ := ho
    · rw [hv] at hk; cases hk
    · rw [hv] at hk
      have e : g = k := by injection hk
      exact ⟨cur, e ▸ hr⟩
  have nq : some qb ≠ s.ownBlock := fun e => by
    obtain ⟨cur, hc⟩ := hn qb e.symm
    have := h1.row
    unfold IsRow at this
    rw [this] at hc
    injection hc with hc
    injection hc with _ e' _
    exact absurd e' (by decide)
  have nv : v.ownBlock = none ∨ v.ownBlock ≠ s.ownBlock := by
    cases hv : v.ownBlock with
    | none => exact .inl rfl
    | some k =>
      right
      intro e
      obtain ⟨_, c1, t1, f1, e1, n1⟩ := h1.own.typed k hv
      obtain ⟨cur, hc⟩ := hn k e.symm
      rw [e1] at hc
      injection hc with hc
      injection hc with _ e' _
      exact n1 e'
  refine ⟨⟨⟨v, L, ⟨(hg.block qb h1.row.inside nq).trans h1.row, World.ownsRow.kept h1.own hg nv, h1.ge⟩, h2, h3⟩, h.good, Nat.le_trans h.ge hg.size⟩, (Below.refl base wr).grown hg h.ge fun k hk => (World.ownsRow.lt ho k hk).1⟩
end Go.Proofs.Yteghhfkllclghaa.Ix
