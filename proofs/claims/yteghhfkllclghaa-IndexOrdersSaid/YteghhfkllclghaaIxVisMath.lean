/- index: what a visit finds; append of a leaf's Ids. -/
import Derived.Test.YteghhfkllclghaaIxDropEnd
import Derived.Deep.RegionLaw
import Derived.BigQuiet
namespace Go.Proofs.Yteghhfkllclghaa.Ix
open Go.RowKit Go.Sort
/-- the Ids that a visit finds, in its order. -/
def visT (q : Bx) : Tr Value → List Id
  | .leaf _ b ids _ => if meetB b q then ids else []
  | .fork _ _ l r => if meetB (hull l.box r.box) q then visT q l ++ visT q r else []
theorem vis_none {q : Bx} {t : Tr Value} (h : meetB t.box q = false) : (t.items.filter fun p => meetB p.2 q) = [] := by
  rw [List.filter_eq_nil_iff]
  intro p hp hm
  obtain ⟨z, hz, hp⟩ := List.mem_flatMap.1 hp
  obtain ⟨i, _, rfl⟩ := List.mem_map.1 hp
  have hs := Tr.box_sub (List.mem_map.2 ⟨z, hz, rfl⟩ : z.2.1 ∈ t.boxes)
  rw [meet_sub hs hm] at h
  cases h
theorem vis_is (q : Bx) : ∀ t : Tr Value, visT q t = (t.items.filter fun p => meetB p.2 q).map Prod.fst
  | .leaf p b ids v => by
    rw [Tr.items_leaf]
    unfold visT
    cases h : meetB b q with
    | true =>
      rw [if_pos rfl, List.filter_eq_self.2 (fun p hp => by obtain ⟨i, _, rfl⟩ := List.mem_map.1 hp; exact h), List.map_map]
      exact (List.map_id ids).symm
    | false =>
      rw [if_neg (by decide), List.filter_eq_nil_iff.2 (fun p hp => by obtain ⟨i, _, rfl⟩ := List.mem_map.1 hp; rw [h]; decide)]
      rfl
  | .fork p f l r => by
    unfold visT
    cases h : meetB (hull l.box r.box) q with
    | true => rw [if_pos rfl, vis_is q l, vis_is q r, Tr.items_fork, List.filter_append, List.map_append]
    | false => rw [if_neg (by decide), vis_none (t := .fork p f l r) h]; rfl
/-- a node's own Ids. -/
def ownI : Tr Value → List Id
  | .leaf _ _ ids _ => ids
  | .fork _ _ _ _ => []
def OwnB (w : World) (base : Nat) (v : Value) (L : List Id) : Prop := w.ownsRow base 9 1 v L.length (sv L)
theorem sv_app (L M : List Id) : sv (L ++ M) = sv L ++ sv M := by unfold sv; rw [List.map_append]
theorem append_nil_run (w : World) (ty : TypeId) (v : Value) (hv : v = .slice none 0 0 ∨ ∃ g k c, v = .slice (some ⟨g, 0, none⟩) k c ∧ k ≤ c) (p : Option Addr) (cp : Nat) :
    (Builtin.append_ #[42, 42] ty #[v, .slice p 0 cp]).run Try.prog w = .ok v w := by
  obtain ⟨i0, hi, h1, h2, h3⟩ : ∃ i0, Try.prog.info? 9 = some i0 ∧ i0.zero = some (.string ⟨#[]⟩) ∧ i0.size = 1 ∧ i0.bytes = 16 := by
    have e := string_info
    cases hh : Try.prog.info? 9 with
    | none => rw [hh] at e; cases e
    | some i0 =>
      rw [hh] at e
      injection e with e
      injection e with e1 e
      injection e with e2 e3
      exact ⟨i0, rfl, e1, e2, e3⟩
  rcases hv with rfl | ⟨g, k, c, rfl, hk⟩
  · cases p with
    | none => simp [Builtin.append_, run_underlying Try.underlying42, sizeOf, typeInfo, hi, Builtin.lenOf, Builtin.firstCells]
    | some q => simp [Builtin.append_, run_underlying Try.underlying42, sizeOf, typeInfo, hi, Builtin.lenOf, Builtin.firstCells, loadCells, loadCellsFrom]
  · cases p with
    | none => simp [Builtin.append_, run_underlying Try.underlying42, sizeOf, typeInfo, hi, Builtin.lenOf, Builtin.firstCells, storeCells, hk]
    | some q => simp [Builtin.append_, run_underlying Try.underlying42, sizeOf, typeInfo, hi, Builtin.lenOf, Builtin.firstCells, storeCells, loadCells, loadCellsFrom, hk]
/-- a leaf's Ids appended, at a step of a drawn region. -/
theorem step_appB {ops : Array Oper} {o : Oper} {a : Act} {w : World} {K : Act → World → Prop} {Q : Exit → Act → World → Prop} {E : Prop} (hgd : o.guard = none) (s x : Operand)
    (ho : o.op = .call { callee := .builtin .append, args := #[s, x], argTypes := #[42, 42] }) (base : Nat) (v u : Value) (L M : List Id) (hs : a.eval s = v) (hx : a.eval x = u) (hown : OwnB w base v L) (hu : OwnS w u M) (hlen : L.length + M.length ≤ 1000000) (hbase : base ≤ w.heap.size)
    (h : ∀ ad m c w', OwnB w' base (.slice ad m c) (L ++ M) → w.grownBy w' v.ownBlock → (∀ k, v.ownBlock = some k → base ≤ k ∧ k < w.heap.size) → K (a.put o.dst (.slice ad m c)) w') : if Region.wanted o (yielded ops a.tmps) = true then Oper.wp Try.prog o a w K Q else E := by
  obtain ⟨i0, hi, h1, h2, h3⟩ : ∃ i0, Try.prog.info? 9 = some i0 ∧ i0.zero = some (.string ⟨#[]⟩) ∧ i0.size = 1 ∧ i0.bytes = 16 := by
    have e := string_info
    cases hh : Try.prog.info? 9 with
    | none => rw [hh] at e; cases e
    | some i0 =>
      rw [hh] at e
      injection e with e
      injection e with e1 e
      injection e with e2 e3
      exact ⟨i0, rfl, e1, e2, e3⟩
  have hlt : ∀ k, v.ownBlock = some k → base ≤ k ∧ k < w.heap.size := World.ownsRow.lt hown
  by_cases h0 : M = []
  · subst h0
    rw [List.append_nil] at h
    have hw : Region.wanted o (yielded ops a.tmps) = true := by simp [Region.wanted, hgd]
    rw [if_pos hw]
    obtain ⟨p, cp, hp⟩ : ∃ p cp, u = .slice p 0 cp := by
      obtain ⟨_, ⟨e, _⟩ | ⟨g, cap, cur, e, _⟩⟩ := hu
      · exact ⟨_, _, e⟩
      · exact ⟨_, _, e⟩
    obtain ⟨ad, m, c, hv, hv2⟩ : ∃ ad m c, v = .slice ad m c ∧ (v = .slice none 0 0 ∨ ∃ g k c, v = .slice (some ⟨g, 0, none⟩) k c ∧ k ≤ c) := by
      obtain ⟨_, ⟨e, _⟩ | ⟨g, cap, cur, e, _, _, hk, _⟩⟩ := id hown
      · exact ⟨_, _, _, e, .inl e⟩
      · exact ⟨_, _, _, e, .inr ⟨g, _, cap, e, hk⟩⟩
    have hrun := append_nil_run w o.type v hv2 p cp
    unfold Oper.wp
    simp only [execOp, ho, resolve, invoke, builtin]
    rw [hp] at hx
    simp [hs, hx, hrun, Result.andThen]
    rw [hv]
    rw [hv] at hown hlt h
    exact h ad m c w hown (World.grownBy.refl _ _) hlt
  · have hM : 0 < M.length := List.length_pos_iff.2 h0
    obtain ⟨g, cap, hu', hc1, hc2⟩ := hu.shape hM
    rw [hu'] at hx hu
    refine step_append_lies (P := Try.prog) w hgd s x _ ho base 9 i0 _ 1 16 Try.underlying42 hi h1 h2 h3 rfl (by decide) v L.length (sv L) hs hown ⟨g, 0, none⟩ M.length cap (sv M) hx (by unfold sv; simp) ?_ (by intro y hy; unfold sv at hy; obtain ⟨z, _, rfl⟩ := List.mem_map.1 hy; rfl) hM (by unfold maxLen; omega) (by omega) hbase _ rfl ?_
    · intro j y hy
      have hadd : (⟨g, 0, none⟩ : Addr).add j = ⟨g, j, none⟩ := by unfold Addr.add; split <;> simp_all
      rw [hadd]
      unfold sv at hy
      rw [List.getElem?_map] at hy
      cases hz : M[j]? with
      | none => rw [hz] at hy; cases hy
      | some z =>
        rw [hz, Option.map_some] at hy
        exact (hu.cell hz).trans hy
    · intro g' cap' w' k1 k2 k3 k4
      refine h _ _ _ w' ?_ k2 hlt
      show World.ownsRow _ _ _ _ _ (L ++ M).length _
      rw [List.length_append, sv_app]
      exact k1
end Go.Proofs.Yteghhfkllclghaa.Ix
