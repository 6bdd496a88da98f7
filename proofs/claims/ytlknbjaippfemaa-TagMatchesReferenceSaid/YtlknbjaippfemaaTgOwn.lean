/- tag: owned slices of tags and of keys; append; slices.Grow, slices.Concat. -/
import Derived.Test.YtlknbjaippfemaaTgFew
import Derived.Laws.AppendOwn
import Derived.Lib.AppendZerosOnto
import Derived.Deep.AppendLies
import Derived.Deep.AppendSrc
namespace Go.Proofs.Ytlknbjaippfemaa.Tg
open Go.RowKit Go.Sort
open Lx (IsRow alloc1 drew_below)
theorem info_of {P : Program} {t : TypeId} {n b : Nat} {z : Value} (h : (P.info? t).map (fun i => (i.size, i.bytes, i.zero)) = some (n, b, some z)) : ∃ i, P.info? t = some i ∧ i.size = n ∧ i.bytes = b ∧ i.zero = some z := by
  cases hi : P.info? t with
  | none => rw [hi] at h; cases h
  | some i =>
    rw [hi] at h
    simp only [Option.map_some, Option.some.injEq, Prod.mk.injEq] at h
    exact ⟨i, rfl, h.1, h.2.1, h.2.2⟩
def encT (t : T) : List Value := [.string ⟨t.1.toArray⟩, .string ⟨t.2.toArray⟩]
def flatG (l : List T) : List Value := l.flatMap encT
theorem flatG_app (l m : List T) : flatG (l ++ m) = flatG l ++ flatG m := by unfold flatG; rw [List.flatMap_append]
theorem flatG_len (l : List T) : (flatG l).length = 2 * l.length := by
  induction l with
  | nil => rfl
  | cons t l ih => unfold flatG at ih ⊢; rw [List.flatMap_cons, List.length_append, ih]; simp [encT]; omega
theorem flatG_get : ∀ {l : List T} {k : Nat} {t : T}, l[k]? = some t → (flatG l)[k * 2]? = some (.string ⟨t.1.toArray⟩) ∧ (flatG l)[k * 2 + 1]? = some (.string ⟨t.2.toArray⟩)
  | [], k, t, h => by simp at h
  | u :: l, 0, t, h => by
    simp at h; subst h
    exact ⟨rfl, rfl⟩
  | u :: l, k + 1, t, h => by
    have := flatG_get (l := l) (k := k) (t := t) (by simpa using h)
    have e : flatG (u :: l) = .string ⟨u.1.toArray⟩ :: .string ⟨u.2.toArray⟩ :: flatG l := rfl
    rw [e, show (k + 1) * 2 = k * 2 + 1 + 1 by omega, List.getElem?_cons_succ, List.getElem?_cons_succ, show k * 2 + 1 + 1 + 1 = (k * 2 + 1) + 1 + 1 by omega, List.getElem?_cons_succ, List.getElem?_cons_succ]
    exact this
theorem flatG_one : ∀ (l : List T), ∀ u ∈ flatG l, u.oneCell' = true := by
  intro l u hu
  unfold flatG at hu
  obtain ⟨p, _, hu⟩ := List.mem_flatMap.1 hu
  simp [encT] at hu
  rcases hu with rfl | rfl <;> rfl
def OwnG (w : World) (base : Nat) (v : Value) (l : List T) : Prop := w.ownsRow base 43 2 v l.length (flatG l)
def OwnC (w : World) (base : Nat) (v : Value) (l : List B) : Prop := w.ownsRow base 9 1 v l.length (l.map encStr)
theorem OwnG.nil (w : World) (base : Nat) : OwnG w base (.slice none 0 0) [] := World.ownsRow_nil w base _ _
theorem OwnC.nil (w : World) (base : Nat) : OwnC w base (.slice none 0 0) [] := World.ownsRow_nil w base _ _
theorem OwnG.below {w w' : World} {base : Nat} {v : Value} {l : List T} (h : OwnG w base v l) (hb : Below w.heap.size w w') : OwnG w' base v l := by
  refine World.ownsRow.kept h (row := none) ⟨hb.os, hb.tape, hb.output, hb.size, fun k hk _ => hb.block k hk⟩ ?_
  cases hv : v.ownBlock with
  | none => exact .inl rfl
  | some g => exact .inr (by simp)
theorem OwnC.below {w w' : World} {base : Nat} {v : Value} {l : List B} (h : OwnC w base v l) (hb : Below w.heap.size w w') : OwnC w' base v l := by
  refine World.ownsRow.kept h (row := none) ⟨hb.os, hb.tape, hb.output, hb.size, fun k hk _ => hb.block k hk⟩ ?_
  cases hv : v.ownBlock with
  | none => exact .inl rfl
  | some g => exact .inr (by simp)
theorem OwnG.row {w : World} {base : Nat} {v : Value} {l : List T} (h : OwnG w base v l) : ∀ k, v.ownBlock = some k → ∃ cs, IsRow w k 43 cs := by
  intro k hk
  obtain ⟨_, ⟨rfl, _⟩ | ⟨g, cap, cur, rfl, hb, hg, _⟩⟩ := h
  · cases hk
  · injection hk with hk
    subst hk
    exact ⟨cur, hg⟩
theorem OwnC.row {w : World} {base : Nat} {v : Value} {l : List B} (h : OwnC w base v l) : ∀ k, v.ownBlock = some k → ∃ cs, IsRow w k 9 cs := by
  intro k hk
  obtain ⟨_, ⟨rfl, _⟩ | ⟨g, cap, cur, rfl, hb, hg, _⟩⟩ := h
  · cases hk
  · injection hk with hk
    subst hk
    exact ⟨cur, hg⟩
theorem row_ne {w : World} {g k : Nat} {t u : TypeId} {cs ds : Array Value} (h : IsRow w g t cs) (hr : IsRow w k u ds) (ht : t ≠ u) : g ≠ k := by
  rintro rfl
  unfold IsRow at h hr
  rw [h] at hr
  injection hr with hr
  injection hr with _ e
  exact ht e
/-- a row of another type is none of the slice's. -/
theorem OwnG.ne {w : World} {base : Nat} {v : Value} {l : List T} (h : OwnG w base v l) {g : Nat} {t : TypeId} {cs : Array Value} (hr : IsRow w g t cs) (ht : t ≠ 43) : v.ownBlock ≠ some g := fun e => by
  obtain ⟨_, hd⟩ := h.row g e
  exact row_ne hr hd ht rfl
theorem OwnC.ne {w : World} {base : Nat} {v : Value} {l : List B} (h : OwnC w base v l) {g : Nat} {t : TypeId} {cs : Array Value} (hr : IsRow w g t cs) (ht : t ≠ 9) : v.ownBlock ≠ some g := fun e => by
  obtain ⟨_, hd⟩ := h.row g e
  exact row_ne hr hd ht rfl
theorem OwnG.apart {w : World} {b1 b2 : Nat} {v u : Value} {l : List T} {m : List B} (h : OwnG w b1 v l) (k : OwnC w b2 u m) : (v.ownBlock = none ∨ v.ownBlock ≠ u.ownBlock) ∧ (u.ownBlock = none ∨ u.ownBlock ≠ v.ownBlock) := by
  cases hv : v.ownBlock with
  | none =>
    refine ⟨.inl rfl, ?_⟩
    cases hu : u.ownBlock with
    | none => exact .inl rfl
    | some g => exact .inr (by simp)
  | some g =>
    obtain ⟨cs, hc⟩ := h.row g hv
    have := k.ne hc (by decide)
    exact ⟨.inr (fun e => this e.symm), .inr this⟩
theorem OwnG.kept {w w' : World} {base : Nat} {v : Value} {l : List T} {row : Option Nat} (h : OwnG w base v l) (hg : w.grownBy w' row) (hne : v.ownBlock = none ∨ v.ownBlock ≠ row) : OwnG w' base v l := World.ownsRow.kept h hg hne
theorem OwnC.kept {w w' : World} {base : Nat} {v : Value} {l : List B} {row : Option Nat} (h : OwnC w base v l) (hg : w.grownBy w' row) (hne : v.ownBlock = none ∨ v.ownBlock ≠ row) : OwnC w' base v l := World.ownsRow.kept h hg hne
theorem OwnG.tags {w : World} {base : Nat} {v : Value} {l : List T} (h : OwnG w base v l) : ∃ a cap, v = .slice a l.length cap ∧ l.length ≤ cap ∧ cap ≤ maxLen ∧ TagsT w w.heap.size a l := by
  have hcs := fun g (hg : v.ownBlock = some g) => World.ownsRow.cells h hg
  obtain ⟨_, ⟨hv, h1⟩ | ⟨g, cap, cur, hv, hb, hg, h1, h2, h3, h4⟩⟩ := h
  · exact ⟨none, 0, by rw [hv, h1], by omega, Nat.zero_le _, fun hp => by omega⟩
  · subst hv
    have hr : IsRow w g 43 cur := hg
    refine ⟨some ⟨g, 0, none⟩, cap, rfl, h1, h2, fun _ => ⟨g, 0, rfl, hr.inside, fun k t hk => ?_⟩⟩
    have e : ∀ j, (⟨g, 0, none⟩ : Addr).add j = ⟨g, j, none⟩ := fun j => by unfold Addr.add; split <;> simp_all
    obtain ⟨f0, f1⟩ := flatG_get hk
    have c0 := hcs g rfl _ _ f0
    have c1 := hcs g rfl _ _ f1
    rw [e] at c0 c1
    rw [Nat.zero_add]
    exact ⟨c0, c1⟩
theorem OwnC.strs {w : World} {base : Nat} {v : Value} {l : List B} (h : OwnC w base v l) : ∃ a cap, v = .slice a l.length cap ∧ l.length ≤ cap ∧ StrT w w.heap.size a l := by
  obtain ⟨_, ⟨hv, h1⟩ | ⟨g, cap, cur, hv, hb, hg, h1, h2, h3, h4⟩⟩ := h
  · exact ⟨none, 0, by rw [hv, h1], by omega, fun hp => by omega⟩
  · subst hv
    have hr : IsRow w g 9 cur := hg
    refine ⟨some ⟨g, 0, none⟩, cap, rfl, h1, fun _ => ⟨g, 0, rfl, hr.inside, fun k y hk => ?_⟩⟩
    have hkl := (List.getElem?_eq_some_iff.1 hk).1
    have e : (l.map encStr)[k]? = some (.string ⟨y.toArray⟩) := by rw [List.getElem?_map, hk]; rfl
    rw [← h4, List.getElem?_take, if_pos (by omega)] at e
    rw [hr.get, Nat.zero_add]
    simpa using e
theorem tag_info : (Try.prog.info? 43).map (fun i => (i.size, i.bytes, i.zero)) = some (2, 32, some (.agg #[.string ⟨#[]⟩, .string ⟨#[]⟩])) := by kernel_rfl
theorem str_info : (Try.prog.info? 9).map (fun i => (i.size, i.bytes, i.zero)) = some (1, 16, some (.string ⟨#[]⟩)) := by kernel_rfl
theorem run_append_none (w : World) (ty : TypeId) (q : Option Addr) (k c : Nat) (p : Option Addr) (cp : Nat) (hk : k ≤ c) (hq : q = none → k = 0 ∧ c = 0) (hz : ∀ a, q = some a → ∃ g, a = ⟨g, 0, none⟩) :
    (Builtin.append_ #[22, 22] ty #[.slice q k c, .slice p 0 cp]).run Try.prog w = .ok (.slice q k c) w := by
  obtain ⟨i0, hi, hz0, hz1, hz2⟩ := info_of tag_info
  cases q with
  | none =>
    obtain ⟨rfl, rfl⟩ := hq rfl
    cases p with
    | none => simp [Builtin.append_, run_underlying Try.underlying22, sizeOf, typeInfo, hi, Builtin.lenOf, Builtin.firstCells]
    | some q => simp [Builtin.append_, run_underlying Try.underlying22, sizeOf, typeInfo, hi, Builtin.lenOf, Builtin.firstCells, loadCells, loadCellsFrom]
  | some a =>
    obtain ⟨g, rfl⟩ := hz a rfl
    cases p with
    | none => simp [Builtin.append_, run_underlying Try.underlying22, sizeOf, typeInfo, hi, Builtin.lenOf, Builtin.firstCells, storeCells, hk]
    | some q => simp [Builtin.append_, run_underlying Try.underlying22, sizeOf, typeInfo, hi, Builtin.lenOf, Builtin.firstCells, storeCells, loadCells, loadCellsFrom, hk]
theorem tags_news {w : World} {b off : Nat} {l : List T} (h : ∀ k t, l[k]? = some t → w.cell? ⟨b, off + k * 2, none⟩ = some (.string ⟨t.1.toArray⟩) ∧ w.cell? ⟨b, off + k * 2 + 1, none⟩ = some (.string ⟨t.2.toArray⟩)) :
    ∀ j u, (flatG l)[j]? = some u → w.cell? ((⟨b, off, none⟩ : Addr).add j) = some u := by
  intro j u hj
  have e : (⟨b, off, none⟩ : Addr).add j = ⟨b, off + j, none⟩ := by unfold Addr.add; split <;> simp_all
  rw [e]
  have hlt : j < 2 * l.length := by rw [← flatG_len]; exact (List.getElem?_eq_some_iff.1 hj).1
  obtain ⟨p, hp⟩ : ∃ p, l[j / 2]? = some p := ⟨_, List.getElem?_eq_getElem (by omega)⟩
  obtain ⟨f0, f1⟩ := flatG_get hp
  obtain ⟨c0, c1⟩ := h _ _ hp
  rcases Nat.mod_two_eq_zero_or_one j with h2 | h2
  · have e2 : j / 2 * 2 = j := by omega
    rw [e2] at f0 c0
    rw [f0] at hj
    injection hj with hj
    rw [← hj]; exact c0
  · have e2 : j / 2 * 2 + 1 = j := by omega
    have e3 : off + j / 2 * 2 + 1 = off + j := by omega
    rw [e2] at f1
    rw [e3] at c1
    rw [f1] at hj
    injection hj with hj
    rw [← hj]; exact c1
section
variable {ops : Array Oper} {rest : List Oper} {o : Oper} {a : Act} {Q : Exit → Act → World → Prop} {w : World}
/-- append of tags that lie anywhere in memory, of none, too. -/
theorem wpList_appG (hgd : o.guard = none) (s x : Operand) (ho : o.op = .call { callee := .builtin .append, args := #[s, x], argTypes := #[22, 22] }) (base : Nat) (v : Value) (l m : List T) (ad : Option Addr) (n c : Nat)
    (hs : a.eval s = v) (hown : OwnG w base v l) (hx : a.eval x = .slice ad n c) (hp : TagsT w w.heap.size ad m) (hm : n = m.length) (hlen : l.length + n ≤ 100000) (hbase : base ≤ w.heap.size)
    (h : ∀ v' w', OwnG w' base v' (l ++ m) → w.grownBy w' v.ownBlock → (∀ k, v.ownBlock = some k → base ≤ k ∧ k < w.heap.size) → wpList Try.prog ops Q rest (a.put o.dst v') w') : wpList Try.prog ops Q (o :: rest) a w := by
  by_cases h0 : 0 < n
  · obtain ⟨i0, hi, hz0, hz1, hz2⟩ := info_of tag_info
    obtain ⟨b, off, rfl, hb, hc⟩ := hp (by omega)
    refine wpList_append_lies w hgd s x _ ho base 43 i0 _ 2 32 Try.underlying22 hi hz2 hz0 hz1 (by decide) (by decide) v l.length (flatG l) hs hown ⟨b, off, none⟩ n c (flatG m) hx (by rw [flatG_len]; omega) (tags_news hc) (flatG_one m) h0 (by unfold maxLen; omega) (by omega) hbase _ rfl ?_
    intro g cap w' h1 h2 _ _
    refine h _ w' ?_ h2 hown.lt
    unfold OwnG
    rw [flatG_app, List.length_append, ← hm]
    exact h1
  · obtain rfl : n = 0 := by omega
    obtain rfl : m = [] := List.eq_nil_of_length_eq_zero hm.symm
    have hrun : ∀ ty, (Builtin.append_ #[22, 22] ty #[v, .slice ad 0 c]).run Try.prog w = .ok v w := fun ty => by
      obtain ⟨_, ⟨hv, h1⟩ | ⟨g, cap, cur, hv, hb, hg, h1, h2, h3, h4⟩⟩ := hown
      · subst hv
        exact run_append_none w ty none 0 0 ad c (Nat.le_refl _) (fun _ => ⟨rfl, rfl⟩) (fun _ h => by cases h)
      · subst hv
        exact run_append_none w ty (some ⟨g, 0, none⟩) _ cap ad c h1 (fun h => by cases h) (fun a h => by injection h with h; exact ⟨g, h.symm⟩)
    refine Lib.wpList_append_run w hgd _ _ _ _ ho _ _ hs hx _ _ (hrun _) ?_
    refine h v w (by rw [List.append_nil]; exact hown) ⟨rfl, rfl, rfl, Nat.le_refl _, fun _ _ _ => rfl⟩ hown.lt
/-- append of one key. -/
theorem wpList_appC (hgd : o.guard = none) (s x : Operand) (ho : o.op = .call { callee := .builtin .append, args := #[s, x], argTypes := #[28, 28] }) (base : Nat) (v : Value) (l : List B) (y : B) (g : Nat)
    (hs : a.eval s = v) (hown : OwnC w base v l) (hx : a.eval x = .slice (some ⟨g, 0, none⟩) 1 1) (hr : w.cell? ⟨g, 0, none⟩ = some (.string ⟨y.toArray⟩)) (hlen : l.length ≤ 100000) (hbase : base ≤ w.heap.size)
    (h : ∀ v' w', OwnC w' base v' (l ++ [y]) → w.grownBy w' v.ownBlock → (∀ k, v.ownBlock = some k → base ≤ k ∧ k < w.heap.size) → wpList Try.prog ops Q rest (a.put o.dst v') w') : wpList Try.prog ops Q (o :: rest) a w := by
  obtain ⟨i0, hi, hz0, hz1, hz2⟩ := info_of str_info
  refine wpList_append_own w hgd s x _ ho base 9 i0 _ 1 16 Try.underlying28 hi hz2 hz0 hz1 (by decide) (by decide) v l.length (l.map encStr) hs hown ⟨g, 0, none⟩ 1 1 [.string ⟨y.toArray⟩] hx rfl ?_ ?_ (by unfold maxLen; omega) (by omega) hbase ?_
  · intro j u hj
    have e : (⟨g, 0, none⟩ : Addr).add j = ⟨g, j, none⟩ := by unfold Addr.add; split <;> simp_all
    rw [e]
    match j, hj with
    | 0, hj => simp at hj; subst hj; exact hr
  · intro u hu
    simp at hu
    subst hu; rfl
  · intro v' w' h1 h2 _
    refine h v' w' ?_ h2 hown.lt
    unfold OwnC
    rw [List.map_append, List.length_append]
    exact h1
end
end Go.Proofs.Ytlknbjaippfemaa.Tg
