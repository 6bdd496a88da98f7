/- append of a list of points that may be empty; a list of one's own as a row of cells. -/
import Derived.Test.YtcoelaolhnafjaaRgMove
import Derived.Test.YtcoelaolhnafjaaRgTriWalk
namespace Go.Proofs.Ytcoelaolhnafjaa.Rg
open Go.RowKit Go.Sort Go.Shelf
open Go.Proofs.Ytcoelaolhnafjaa.Geo hiding intOf Apart
theorem run_append_none (w : World) (ty : TypeId) (g k c : Nat) (p : Option Addr) (cp : Nat) (hk : k ≤ c) :
    (Builtin.append_ #[22, 22] ty #[.slice (some ⟨g, 0, none⟩) k c, .slice p 0 cp]).run Try.prog w = .ok (.slice (some ⟨g, 0, none⟩) k c) w := by
  obtain ⟨i0, hi, hz0, hz1, hz2⟩ := info_of point_info
  cases p with
  | none => simp [Builtin.append_, run_underlying Try.underlying22, sizeOf, typeInfo, hi, Builtin.lenOf, Builtin.firstCells, storeCells, hk]
  | some q => simp [Builtin.append_, run_underlying Try.underlying22, sizeOf, typeInfo, hi, Builtin.lenOf, Builtin.firstCells, storeCells, loadCells, loadCellsFrom, hk]
section
variable {ops : Array Oper} {rest : List Oper} {o : Oper} {a : Act} {Q : Exit → Act → World → Prop} {w : World}
theorem wpList_appPe (hgd : o.guard = none) (s x : Operand) (ho : o.op = .call { callee := .builtin .append, args := #[s, x], argTypes := #[22, 22] }) (base : Nat) (v : Value) (l m : List Pt) (ad : Option Addr) (n c : Nat)
    (hs : a.eval s = v) (hown : OwnP w base v l) (hx : a.eval x = .slice ad n c) (hp : Pts w w.heap.size ad m) (hm : n = m.length) (hl0 : 0 < l.length) (hlen : l.length + n ≤ 100000) (hbase : base ≤ w.heap.size)
    (h : ∀ v' w', OwnP w' base v' (l ++ m) → w.grownBy w' v.ownBlock → (∀ k, v.ownBlock = some k → base ≤ k ∧ k < w.heap.size) → wpList Try.prog ops Q rest (a.put o.dst v') w') : wpList Try.prog ops Q (o :: rest) a w := by
  by_cases h0 : 0 < n
  · exact wpList_appPs hgd s x ho base v l m ad n c hs hown hx hp hm h0 hlen hbase h
  · obtain rfl : n = 0 := by omega
    obtain rfl : m = [] := List.eq_nil_of_length_eq_zero hm.symm
    have hown' := hown
    obtain ⟨_, ⟨_, e0⟩ | ⟨g, cap, cur, rfl, _, _, hkc, _⟩⟩ := hown'
    · omega
    · refine wpList_plain hgd fun K hK => ?_
      unfold Oper.wp
      simp [execOp, ho, resolve, invoke, builtin, hs, hx, run_append_none w o.type g l.length cap ad c hkc, Result.andThen]
      exact hK _ _ (h _ w (by rw [List.append_nil]; exact hown) (World.grownBy.refl _ _) hown.lt)
end
/-- a list of one's own, as a row of cells. -/
theorem OwnP.row {w : World} {base : Nat} {v : Value} {l : List Pt} (h : OwnP w base v l) (h0 : 0 < l.length) : ∃ g cap cur, v = .slice (some ⟨g, 0, none⟩) l.length cap ∧ base ≤ g ∧ l.length ≤ cap ∧ cap ≤ maxLen ∧ IsRow w g 24 cur ∧
    ∀ j, j < l.length → cur[j * 2]? = some (.int .i64 (cor l j).x) ∧ cur[j * 2 + 1]? = some (.int .i64 (cor l j).y) := by
  obtain ⟨_, ⟨_, e0⟩ | ⟨g, cap, cur, rfl, hg, hh, h1, h2, h3, h4⟩⟩ := h
  · omega
  · refine ⟨g, cap, cur, rfl, hg, h1, h2, hh, fun j hj => ?_⟩
    obtain ⟨f0, f1⟩ := flat_get (cor_get hj)
    rw [← h4] at f0 f1
    rw [List.getElem?_take] at f0 f1
    split at f0
    · split at f1
      · exact ⟨by simpa using f0, by simpa using f1⟩
      · cases f1
    · cases f0
theorem pts_row {w : World} {g : Nat} {cur : Array Value} {l : List Pt} (h : IsRow w g 24 cur) (hc : ∀ j, j < l.length → cur[j * 2]? = some (.int .i64 (cor l j).x) ∧ cur[j * 2 + 1]? = some (.int .i64 (cor l j).y)) :
    Pts w w.heap.size (some ⟨g, 0, none⟩) l := fun _ => by
  refine ⟨g, 0, rfl, h.inside, fun k p hk => ?_⟩
  obtain ⟨hk1, rfl⟩ := List.getElem?_eq_some_iff.1 hk
  obtain ⟨f0, f1⟩ := hc k hk1
  have e : cor l k = l[k] := by unfold cor; rw [List.getD_eq_getElem?_getD, List.getElem?_eq_getElem hk1]; rfl
  rw [e] at f0 f1
  rw [Nat.zero_add]
  exact ⟨(h.get _).trans f0, (h.get _).trans f1⟩
/-- the first k of the points moved. -/
def partL (d : Pt) (l : List Pt) (k : Nat) : List Pt := mvL d (l.take k) ++ l.drop k
theorem partL_len (d : Pt) (l : List Pt) (k : Nat) (hk : k ≤ l.length) : (partL d l k).length = l.length := by
  unfold partL
  rw [List.length_append, mvL_len, List.length_take, List.length_drop]; omega
theorem cor_app {l m : List Pt} {k : Nat} : cor (l ++ m) k = if k < l.length then cor l k else cor m (k - l.length) := by
  unfold cor
  rw [List.getD_eq_getElem?_getD, List.getD_eq_getElem?_getD, List.getD_eq_getElem?_getD, List.getElem?_append]
  split <;> rfl
theorem cor_drop (l : List Pt) (k i : Nat) : cor (l.drop k) i = cor l (k + i) := by
  unfold cor
  rw [List.getD_eq_getElem?_getD, List.getD_eq_getElem?_getD, List.getElem?_drop]
theorem cor_take {l : List Pt} {k i : Nat} (h : i < k) : cor (l.take k) i = cor l i := by
  unfold cor
  rw [List.getD_eq_getElem?_getD, List.getD_eq_getElem?_getD, List.getElem?_take, if_pos h]
theorem cor_part {d : Pt} {l : List Pt} {k j : Nat} (hk : k ≤ l.length) : cor (partL d l k) j = if j < k then mv d (cor l j) else cor l j := by
  unfold partL
  rw [cor_app, mvL_len, List.length_take, Nat.min_eq_left hk]
  split
  · rename_i h
    rw [cor_mv (by rw [List.length_take]; omega), cor_take h]
  · rw [cor_drop]
    congr 1
    omega
theorem part_all (d : Pt) (l : List Pt) : partL d l l.length = mvL d l := by unfold partL; simp
/-- one more point is moved. -/
theorem part_step {d : Pt} {l : List Pt} {k : Nat} {cur : Array Value} (hk : k < l.length) (hs : l.length * 2 ≤ cur.size)
    (hc : ∀ j, j < l.length → cur[j * 2]? = some (.int .i64 (cor (partL d l k) j).x) ∧ cur[j * 2 + 1]? = some (.int .i64 (cor (partL d l k) j).y)) :
    ∀ j, j < l.length → ((cur.setIfInBounds (k * 2) (.int .i64 ((cor l k).x + d.x))).setIfInBounds (k * 2 + 1) (.int .i64 ((cor l k).y + d.y)))[j * 2]? = some (.int .i64 (cor (partL d l (k + 1)) j).x) ∧
      ((cur.setIfInBounds (k * 2) (.int .i64 ((cor l k).x + d.x))).setIfInBounds (k * 2 + 1) (.int .i64 ((cor l k).y + d.y)))[j * 2 + 1]? = some (.int .i64 (cor (partL d l (k + 1)) j).y) := by
  intro j hj
  obtain ⟨h1, h2⟩ := hc j hj
  rw [cor_part (by omega)] at h1 h2 ⊢
  by_cases e : j = k
  · subst e
    rw [if_pos (by omega)]
    constructor
    · rw [Array.getElem?_setIfInBounds_ne (by omega), Array.getElem?_setIfInBounds_self_of_lt (by omega)]; rfl
    · rw [Array.getElem?_setIfInBounds_self_of_lt (by simp; omega)]; rfl
  · rw [Array.getElem?_setIfInBounds_ne (by omega), Array.getElem?_setIfInBounds_ne (by omega), Array.getElem?_setIfInBounds_ne (by omega), Array.getElem?_setIfInBounds_ne (by omega), h1, h2]
    have e1 : (j < k + 1) = (j < k) := by apply propext; omega
    simp only [e1]
    exact ⟨trivial, trivial⟩
end Go.Proofs.Ytcoelaolhnafjaa.Rg
