/- A list of points of the call's own, and append of one point. -/
import Derived.Test.YtlagolgmkmdhhaaGmAcross
import Derived.Laws.AppendOwn
namespace Go.Proofs.Ytlagolgmkmdhhaa.Geo
open Go.RowKit Go.Sort
theorem info_of {P : Program} {t : TypeId} {n b : Nat} {z : Value} (h : (P.info? t).map (fun i => (i.size, i.bytes, i.zero)) = some (n, b, some z)) : ∃ i, P.info? t = some i ∧ i.size = n ∧ i.bytes = b ∧ i.zero = some z := by
  cases hi : P.info? t with
  | none => rw [hi] at h; cases h
  | some i =>
    rw [hi] at h
    simp only [Option.map_some, Option.some.injEq, Prod.mk.injEq] at h
    exact ⟨i, rfl, h.1, h.2.1, h.2.2⟩
def OwnP (w : World) (base : Nat) (v : Value) (l : List Pt) : Prop := w.ownsRow base 24 2 v l.length (flat l)
theorem OwnP.nil (w : World) (base : Nat) : OwnP w base (.slice none 0 0) [] := World.ownsRow_nil w base _ _
theorem OwnP.shape {w : World} {base : Nat} {v : Value} {l : List Pt} (h : OwnP w base v l) : ∃ a cap, v = .slice a l.length cap ∧ (0 < l.length → ∃ g, a = some ⟨g, 0, none⟩ ∧ base ≤ g ∧ g < w.heap.size ∧
    ∀ k p, l[k]? = some p → w.cell? ⟨g, k * 2, none⟩ = some (.int .i64 p.x) ∧ w.cell? ⟨g, k * 2 + 1, none⟩ = some (.int .i64 p.y)) := by
  have hc := fun g (hg : v.ownBlock = some g) => World.ownsRow.cells h hg
  have hlt := h.lt
  obtain ⟨_, h2⟩ := h
  rcases h2 with ⟨rfl, h0⟩ | ⟨g, cap, cur, rfl, hb, hg, _, _, _, _⟩
  · exact ⟨none, 0, by rw [h0], fun hp => by omega⟩
  · refine ⟨some ⟨g, 0, none⟩, cap, rfl, fun _ => ⟨g, rfl, hb, (hlt g rfl).2, fun k p hk => ?_⟩⟩
    have e : ∀ j, (⟨g, 0, none⟩ : Addr).add j = ⟨g, j, none⟩ := fun j => by unfold Addr.add; split <;> simp_all
    have f := flat_get hk
    have c0 := hc g rfl (k * 2) _ f.1
    have c1 := hc g rfl (k * 2 + 1) _ f.2
    rw [e] at c0 c1
    exact ⟨c0, c1⟩
theorem OwnP.below {w w' : World} {base : Nat} {v : Value} {l : List Pt} (h : OwnP w base v l) (hb : Below w.heap.size w w') : OwnP w' base v l := by
  refine World.ownsRow.kept h (row := none) ⟨hb.os, hb.tape, hb.output, hb.size, fun k hk _ => hb.block k hk⟩ ?_
  cases hv : v.ownBlock with
  | none => exact .inl rfl
  | some g => exact .inr (by simp)
theorem flat_append (l : List Pt) (p : Pt) : flat (l ++ [p]) = flat l ++ [.int .i64 p.x, .int .i64 p.y] := by
  unfold flat; simp
theorem point_info : (Try.prog.info? 24).map (fun i => (i.size, i.bytes, i.zero)) = some (2, 16, some (.agg #[.int .i64 0, .int .i64 0])) := by kernel_rfl
section
variable {ops : Array Oper} {rest : List Oper} {o : Oper} {a : Act} {Q : Exit → Act → World → Prop} {w : World}
theorem wpList_appP (hgd : o.guard = none) (s x : Operand) (ho : o.op = .call { callee := .builtin .append, args := #[s, x], argTypes := #[22, 22] }) (base : Nat) (v : Value) (l : List Pt) (p : Pt) (g : Nat)
    (hs : a.eval s = v) (hown : OwnP w base v l) (hx : a.eval x = .slice (some ⟨g, 0, none⟩) 1 1) (hrow : Has w g p) (hlen : l.length ≤ 1000) (hbase : base ≤ w.heap.size)
    (h : ∀ v' w', OwnP w' base v' (l ++ [p]) → w.grownBy w' v.ownBlock → (∀ k, v.ownBlock = some k → base ≤ k ∧ k < w.heap.size) → wpList Try.prog ops Q rest (a.put o.dst v') w') : wpList Try.prog ops Q (o :: rest) a w := by
  obtain ⟨i0, hi, hz0, hz1, hz2⟩ := info_of point_info
  refine wpList_append_own w hgd s x _ ho base 24 i0 _ 2 16 Try.underlying22 hi hz2 hz0 hz1 (by decide) (by decide) v l.length (flat l) hs hown ⟨g, 0, none⟩ 1 1 [.int .i64 p.x, .int .i64 p.y] hx rfl ?_ ?_ (by unfold maxLen; omega) (by omega) hbase ?_
  · intro j u hj
    have e : (⟨g, 0, none⟩ : Addr).add j = ⟨g, j, none⟩ := by unfold Addr.add; split <;> simp_all
    rw [e]
    match j, hj with
    | 0, hj => simp at hj; subst hj; exact hrow.2.1
    | 1, hj => simp at hj; subst hj; exact hrow.2.2
  · intro u hu
    simp at hu
    rcases hu with rfl | rfl <;> rfl
  · intro v' w' h1 h2 _
    refine h v' w' ?_ h2 hown.lt
    unfold OwnP
    rw [flat_append, List.length_append]
    exact h1
end
end Go.Proofs.Ytlagolgmkmdhhaa.Geo
