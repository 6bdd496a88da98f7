/- index: New, Box. -/
import Derived.Test.YteghhfkllclghaaIxIdx
import Derived.Laws.ResultCell
namespace Go.Proofs.Yteghhfkllclghaa.Ix
open Go.RowKit Go.Sort
open Go.Maps (Keyed IsMap has)
section
variable {w : World} {ops : Array Oper} {rest : List Oper} {o : Oper} {a : Act} {Q : Exit → Act → World → Prop}
theorem wpList_found (hg : o.guard = none) (m x : Operand) (hop : o.op = Op.lookup 58 m x true) (b n : Nat) (D : DataW Value) (lk : Id → Option (Nat × Nat)) (hm : a.eval m = .map (some b)) (hown : w.ownsMap Try.prog 9 heldE b n D)
    (hD : mapD D lk) (i : Id) (hi : i.length ≤ 1000) (hx : a.eval x = .string ⟨i.toArray⟩) {p j : Nat} (hl : lk i = some (p, j)) (hK : wpList Try.prog ops Q rest (a.put o.dst (.tuple #[.agg #[.pointer (some ⟨p, 0, none⟩), .int .i64 j], .bool true])) w) :
    wpList Try.prog ops Q (o :: rest) a w := by
  have h2 := hD.2 i
  rw [hl] at h2
  refine wpList_lookup_own_ok w hg m x _ hop 9 68 str_keyed Try.underlying58 heldE (zero_place w) (.held pl0) [] rfl b n D hm hown _ _ hx (keyOf_str hi) fun v ps hv => ?_
  rw [h2.2] at hv
  unfold heldE at hv
  injection hv with hv
  injection hv with h1 _
  injection h1 with h1
  subst h1
  rw [h2.1]
  exact hK
theorem wpList_missed (hg : o.guard = none) (m x : Operand) (hop : o.op = Op.lookup 58 m x true) (b n : Nat) (D : DataW Value) (lk : Id → Option (Nat × Nat)) (hm : a.eval m = .map (some b)) (hown : w.ownsMap Try.prog 9 heldE b n D)
    (hD : mapD D lk) (i : Id) (hi : i.length ≤ 1000) (hx : a.eval x = .string ⟨i.toArray⟩) (hl : lk i = none) (hK : wpList Try.prog ops Q rest (a.put o.dst (.tuple #[.agg #[.pointer none, .int .i64 0], .bool false])) w) :
    wpList Try.prog ops Q (o :: rest) a w := by
  have h2 := hD.2 i
  rw [hl] at h2
  refine wpList_lookup_own_ok w hg m x _ hop 9 68 str_keyed Try.underlying58 heldE (zero_place w) (.held pl0) [] rfl b n D hm hown _ _ hx (keyOf_str hi) fun v ps hv => ?_
  rw [h2.2] at hv
  unfold heldE at hv
  injection hv with hv
  injection hv with h1 _
  injection h1 with h1
  subst h1
  rw [h2.1]
  exact hK
end
theorem Idx.keep {w w' : World} {x m n : Nat} {t : Option (Tr Value)} {D : DataW Value} {lk : Id → Option (Nat × Nat)} {S : List It} (h : Idx w x m n t D lk S) (hk : ∀ k, k = x ∨ k = m ∨ k ∈ fpO t → w'.heap[k]? = w.heap[k]?) : Idx w' x m n t D lk S where
  row := (hk x (.inl rfl)).trans h.row
  tree := inO_keep h.tree fun k hk' => hk k (.inr (.inr hk'))
  map := map_keep h.map (hk m (.inr (.inl rfl)))
  dat := h.dat
  ok := h.ok
  perm := h.perm
  srt := h.srt
  ax := h.ax
  am := h.am
  xm := h.xm
  len := h.len
  few := h.few
theorem Idx.below {w w' : World} {x m n : Nat} {t : Option (Tr Value)} {D : DataW Value} {lk : Id → Option (Nat × Nat)} {S : List It} (h : Idx w x m n t D lk S) (hb : Below w.heap.size w w') : Idx w' x m n t D lk S :=
  h.keep fun k hk => by
    have := h.lt
    refine hb.block k ?_
    rcases hk with rfl | rfl | hk
    · exact this.1
    · exact this.2.1
    · exact this.2.2 k hk
/-- the leaf in which an Id is. -/
theorem Idx.leaf {w : World} {x m n : Nat} {t : Option (Tr Value)} {D : DataW Value} {lk : Id → Option (Nat × Nat)} {S : List It} (h : Idx w x m n t D lk S) {i : Id} {p j : Nat} (hl : lk i = some (p, j)) :
    ∃ tt b ids v, t = some tt ∧ (p, b, ids, v) ∈ tt.leaves ∧ ids[j]? = some i ∧ boxS i S = some b := by
  obtain ⟨b, ids, v, h1, h2⟩ := (h.ok i p j).1 hl
  cases t with
  | none => cases h1
  | some tt =>
    refine ⟨tt, b, ids, v, rfl, h1, h2, ?_⟩
    rw [box_some h.srt.nodup]
    refine h.perm.mem_iff.1 (List.mem_flatMap.2 ⟨_, h1, List.mem_map.2 ⟨i, List.mem_of_getElem? h2, rfl⟩⟩)
theorem Idx.none_ {w : World} {x m n : Nat} {t : Option (Tr Value)} {D : DataW Value} {lk : Id → Option (Nat × Nat)} {S : List It} (h : Idx w x m n t D lk S) {i : Id} : lk i = none ↔ boxS i S = none := by
  rw [box_none, lk_none h.ok]
  constructor
  · intro hb p hp e
    exact hb p.2 (h.perm.mem_iff.2 (e ▸ hp))
  · intro hb b hb'
    exact hb _ (h.perm.mem_iff.1 hb') rfl
theorem leaf_row {w : World} : ∀ {t : Tr Value} {p : Nat} {b : Bx} {ids : List Id} {v : Value}, t.inT w → (p, b, ids, v) ∈ t.leaves → IsRow w p 72 (nodeC b 128 nilP nilP v) ∧ OwnS w v ids
  | .leaf q c is u, p, b, ids, v, h, hm => by
    simp [Tr.leaves] at hm
    obtain ⟨rfl, rfl, rfl, rfl⟩ := hm
    exact h
  | .fork q f l r, p, b, ids, v, h, hm => by
    rcases List.mem_append.1 (show (p, b, ids, v) ∈ l.leaves ++ r.leaves from hm) with hm | hm
    · exact leaf_row h.2.1 hm
    · exact leaf_row h.2.2 hm
theorem leaf_fp : ∀ {t : Tr Value} {p : Nat} {b : Bx} {ids : List Id} {v : Value}, (p, b, ids, v) ∈ t.leaves → p ∈ t.fp ∧ ∀ k, v.ownBlock = some k → k ∈ t.fp
  | .leaf q c is u, p, b, ids, v, hm => by
    simp [Tr.leaves] at hm
    obtain ⟨rfl, rfl, rfl, rfl⟩ := hm
    refine ⟨List.mem_cons_self .., fun k hk => ?_⟩
    show k ∈ p :: v.ownBlock.toList
    rw [hk]; simp
  | .fork q f l r, p, b, ids, v, hm => by
    rcases List.mem_append.1 (show (p, b, ids, v) ∈ l.leaves ++ r.leaves from hm) with hm | hm
    · have := leaf_fp hm
      refine ⟨?_, fun k hk => ?_⟩
      · show p ∈ q :: (l.fp ++ r.fp); simp [this.1]
      · show k ∈ q :: (l.fp ++ r.fp); simp [this.2 k hk]
    · have := leaf_fp hm
      refine ⟨?_, fun k hk => ?_⟩
      · show p ∈ q :: (l.fp ++ r.fp); simp [this.1]
      · show k ∈ q :: (l.fp ++ r.fp); simp [this.2 k hk]
theorem results_box {fn : Func} {p u : Tmp} (h : fn.results = #[.cell p 26, .tmp u]) (tmps : Array Value) (w : World) (g : Nat) (hp : tmps.getD p undef = .pointer (some ⟨g, 0, none⟩)) {a b c d : Value} (hr : IsRow w g 26 #[a, b, c, d]) :
    (results fn tmps).run Try.prog w = .ok (.tuple #[.agg #[a, b, c, d], tmps.getD u undef]) w := by
  rw [results_cell_tmp h, hp]
  have hl := run_loadVar_row (P := Try.prog) w g 26 26 #[a, b, c, d] (0, 0) _ hr Try.underlying26 rfl infoBox
  simp [asAddr, hl, Result.andThen]
def zB : Bx := ⟨0, 0, 0, 0⟩
set_option maxRecDepth 100000 in
set_option maxHeartbeats 2000000 in
theorem box_any (w : World) (x m n : Nat) (t : Option (Tr Value)) (D : DataW Value) (lk : Id → Option (Nat × Nat)) (S : List It) (i : Id) (h : Idx w x m n t D lk S) (hi : i.length ≤ 1000) :
    Calls Try.prog 16 #[ptr x, .string ⟨i.toArray⟩] w fun e w' => e = .returned (.tuple #[vB ((boxS i S).getD zB), .bool (boxS i S).isSome]) ∧ Below w.heap.size w w' := by
  have HI := Lib.hid hi
  obtain ⟨W, hW⟩ : ∃ W, w.alloc (.cells #[.int .i64 0, .int .i64 0, .int .i64 0, .int .i64 0] 26) = W := ⟨_, rfl⟩
  have B0 := Lib.hid (show Below w.heap.size w W from hW ▸ alloc1 _ _)
  have R0 := Lib.hid (show IsRow W w.heap.size 26 #[.int .i64 0, .int .i64 0, .int .i64 0, .int .i64 0] from hW ▸ IsRow.made _ _ _)
  have H0 := Lib.hid (h.below B0.out)
  have HW := Lib.hid hW
  have hmap := H0.out.map
  have hdat := H0.out.dat
  have r1 := H0.out.row.get 1
  clear hW
  unfold ptr
  cases hl : lk i with
  | none =>
    have hb := h.none_.1 hl
    rw [hb]
    have HL := Lib.hid hl
    clear h hb hl
    go_enter Try.func16, Try.ntmps16
    go_upto_region 1 with fail
    rw [HW.out]
    go_upto_region 4 with (first | (at_lookup; refine wpList_missed rfl _ _ rfl m n D lk rfl hmap hdat i HI.out rfl HL.out ?_))
    obtain ⟨W2, hW2⟩ : ∃ W2, W.alloc (.cells #[.pointer none, .int .i64 0] 68) = W2 := ⟨_, rfl⟩
    have B2 := Lib.hid (show Below w.heap.size w W2 from hW2 ▸ B0.out.alloc B0.out.size _)
    have R2 := Lib.hid (show IsRow W2 w.heap.size 26 #[.int .i64 0, .int .i64 0, .int .i64 0, .int .i64 0] from hW2 ▸ R0.out.later _)
    rw [hW2]
    clear hW2 hmap hdat r1 R0 H0 B0 HW HL
    obtain ⟨d0, d1, d2, d3, f0, f1, f2, f3⟩ := row_facts R2.out
    go_wp2
    have hr := set4 R2.out (.int .i64 0) (.int .i64 0) (.int .i64 0) (.int .i64 0)
    have hb := below4 B2.out (Nat.le_refl w.heap.size) (.int .i64 0) (.int .i64 0) (.int .i64 0) (.int .i64 0)
    refine bodyPost_ret (results_box rfl _ _ w.heap.size rfl hr) rfl ?_
    exact ⟨rfl, hb⟩
  | some pj =>
    obtain ⟨p, j⟩ := pj
    obtain ⟨tt, b, ids, v, rfl, hm, _, hbx⟩ := h.leaf hl
    rw [hbx]
    have HL := Lib.hid hl
    have HT := Lib.hid (leaf_row H0.out.tree.1 hm).1
    clear h hl hbx hm
    go_enter Try.func16, Try.ntmps16
    go_upto_region 1 with fail
    rw [HW.out]
    go_upto_region 4 with (first | (at_lookup; refine wpList_found rfl _ _ rfl m n D lk rfl hmap hdat i HI.out rfl HL.out ?_))
    obtain ⟨W2, hW2⟩ : ∃ W2, W.alloc (.cells #[.pointer (some ⟨p, 0, none⟩), .int .i64 j] 68) = W2 := ⟨_, rfl⟩
    have B2 := Lib.hid (show Below w.heap.size w W2 from hW2 ▸ B0.out.alloc B0.out.size _)
    have R2 := Lib.hid (show IsRow W2 w.heap.size 26 #[.int .i64 0, .int .i64 0, .int .i64 0, .int .i64 0] from hW2 ▸ R0.out.later _)
    have P2 := Lib.hid (show IsRow W2 W.heap.size 68 #[.pointer (some ⟨p, 0, none⟩), .int .i64 j] from hW2 ▸ IsRow.made _ _ _)
    have T2 := Lib.hid (show IsRow W2 p 72 (nodeC b 128 nilP nilP v) from hW2 ▸ HT.out.later _)
    rw [hW2]
    obtain ⟨g, hg⟩ : ∃ g, W.heap.size = g := ⟨_, rfl⟩
    rw [hg] at P2 ⊢
    clear hW2 hmap hdat r1 R0 H0 B0 HW HL HT hg
    obtain ⟨d0, d1, d2, d3, f0, f1, f2, f3⟩ := row_facts R2.out
    have p0 := P2.out.get 0
    obtain ⟨⟨t0, t1, t2, t3⟩, _, _, _, _⟩ := node_facts T2.out
    go_wp2
    have hr := set4 R2.out (.int .i64 b.a) (.int .i64 b.b) (.int .i64 b.c) (.int .i64 b.d)
    have hb := below4 B2.out (Nat.le_refl w.heap.size) (.int .i64 b.a) (.int .i64 b.b) (.int .i64 b.c) (.int .i64 b.d)
    refine bodyPost_ret (results_box rfl _ _ w.heap.size rfl hr) rfl ?_
    exact ⟨rfl, hb⟩
end Go.Proofs.Yteghhfkllclghaa.Ix
