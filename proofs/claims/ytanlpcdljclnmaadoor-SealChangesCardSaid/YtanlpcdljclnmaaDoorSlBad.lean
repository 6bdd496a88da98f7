/- Two slices of the call's own and a seal's block, each in a block of its own; an append of nothing. -/
import Derived.Test.YtanlpcdljclnmaaDoorSlBindsWalk
namespace Go.Proofs.YtanlpcdljclnmaaDoor.Sl
open Go.RowKit
open Go.Proofs.YtanlpcdljclnmaaDoor.Dg hiding intOf

structure Bad (w wr : World) (base : Nat) (u v : Value) (n1 n2 : Nat) (L1 L2 : List B) (gx : Option Nat) : Prop where
  o1 : Own wr base u n1 L1
  o2 : Own wr base v n2 L2
  ap : Apart u v
  x : ∀ g, gx = some g → base ≤ g ∧ IsRow wr g 29 #[.int .i64 0, .slice none 0 0, .slice none 0 0] ∧ u.ownBlock ≠ some g ∧ v.ownBlock ≠ some g
  size : base ≤ wr.heap.size
  below : Below base w wr
section
variable {w wr : World} {base : Nat} {u v : Value} {n1 n2 : Nat} {L1 L2 : List B} {gx : Option Nat}
theorem Bad.begin (w : World) : Bad w w w.heap.size (.slice none 0 0) (.slice none 0 0) 0 0 [] [] none :=
  ⟨Own.nil _ _, Own.nil _ _, Apart.none_ _ _ _, fun _ h => (by cases h), Nat.le_refl _, Below.refl _ _⟩
theorem Bad.swap (h : Bad w wr base u v n1 n2 L1 L2 gx) : Bad w wr base v u n2 n1 L2 L1 gx :=
  ⟨h.o2, h.o1, h.ap.symm, fun g e => ⟨(h.x g e).1, (h.x g e).2.1, (h.x g e).2.2.2, (h.x g e).2.2.1⟩, h.size, h.below⟩
theorem Bad.drew (h : Bad w wr base u v n1 n2 L1 L2 gx) : Bad w wr.drew base u v n1 n2 L1 L2 gx :=
  ⟨h.o1.later (below_drew' wr), h.o2.later (below_drew' wr), h.ap, fun g e => ⟨(h.x g e).1, (h.x g e).2.1.below (below_drew' wr) (h.x g e).2.1.inside, (h.x g e).2.2⟩, h.size, h.below.trans ((below_drew' wr).mono h.size)⟩
theorem Bad.make (h : Bad w wr base u v n1 n2 L1 L2 gx) : Bad w (wr.alloc (.cells #[] 9)) base (.slice (some ⟨wr.heap.size, 0, none⟩) 0 0) v 0 n2 [] L2 gx := by
  have hb := below_new wr (.cells #[] 9)
  refine ⟨⟨rfl, World.ownsRow_made wr #[] 0 h.size (by decide) rfl⟩, h.o2.later hb, (Apart.fresh h.o2).symm, fun g e => ?_, Nat.le_trans h.size hb.size, h.below.trans (hb.mono h.size)⟩
  obtain ⟨x1, x2, x3, x4⟩ := h.x g e
  refine ⟨x1, x2.below hb x2.inside, fun hc => ?_, x4⟩
  injection hc with hc
  dsimp only at hc
  have := x2.inside
  omega
theorem Bad.grow {w2 : World} {n' : Nat} {L' : List B} {g c : Nat} (h : Bad w wr base u v n1 n2 L1 L2 gx) (ho : Own w2 base (.slice (some ⟨g, 0, none⟩) n' c) n' L')
    (hg : wr.grownBy w2 u.ownBlock) (hlt : ∀ k, u.ownBlock = some k → base ≤ k ∧ k < wr.heap.size) (hor : u.ownBlock = some g ∨ g = wr.heap.size) : Bad w w2 base (.slice (some ⟨g, 0, none⟩) n' c) v n' n2 L' L2 gx := by
  refine ⟨ho, h.o2.kept hg h.ap.symm.row, (h.ap.symm.grow h.o2 hor).symm, fun k e => ?_, Nat.le_trans h.size hg.size, h.below.grown hg h.size (fun k hk => (hlt k hk).1)⟩
  obtain ⟨x1, x2, x3, x4⟩ := h.x k e
  refine ⟨x1, (hg.block k x2.inside (fun hc => x3 hc.symm)).trans x2, fun hc => ?_, x4⟩
  injection hc with hc
  dsimp only at hc
  have := x2.inside
  rcases hor with hor | hor
  · exact x3 (hc ▸ hor)
  · omega
theorem Bad.put (h : Bad w wr base u v n1 n2 L1 L2 none) : Bad w (wr.alloc (.cells #[.int .i64 0, .slice none 0 0, .slice none 0 0] 29)) base u v n1 n2 L1 L2 (some wr.heap.size) := by
  have hb := below_new wr (.cells #[.int .i64 0, .slice none 0 0, .slice none 0 0] 29)
  refine ⟨h.o1.later hb, h.o2.later hb, h.ap, fun g e => ?_, Nat.le_trans h.size hb.size, h.below.trans (hb.mono h.size)⟩
  injection e with e
  subst e
  exact ⟨h.size, IsRow.made wr _ _, fun hc => Nat.lt_irrefl _ (h.o1.lt _ hc).2, fun hc => Nat.lt_irrefl _ (h.o2.lt _ hc).2⟩
/-- a store into a block of one's own keeps what other slices own. -/
theorem Own.putOther {n : Nat} {L : List B} (h : Own wr base u n L) {p : Addr} (hp : u.ownBlock ≠ some p.block) (y : Value) : Own (wr.setCell p y) base u n L :=
  h.kept (row := some p.block) ⟨rfl, rfl, rfl, Nat.le_of_eq (by simp), fun k _ hk => Below.heap_setCell wr p y k (fun e => hk (by rw [e]))⟩ (.inr hp)
end
theorem step_app0 {w : World} {ops : Array Oper} {o : Oper} {a : Act} {Q : Exit → Act → World → Prop} {K : Act → World → Prop} {E : Prop} (hgd : Region.wanted o (yielded ops a.tmps) = true) (s x : Operand)
    (ho : o.op = .call { callee := .builtin .append, args := #[s, x], argTypes := #[27, 27] }) (g cp : Nat) (p : Option Addr) (c : Nat)
    (hs : a.eval s = .slice (some ⟨g, 0, none⟩) 0 c) (hx : a.eval x = .slice p 0 cp)
    (h : K (a.put o.dst (.slice (some ⟨g, 0, none⟩) 0 c)) w) : if Region.wanted o (yielded ops a.tmps) = true then Oper.wp Tryd.prog o a w K Q else E := by
  obtain ⟨i0, hi, hz0, hz1, hz2⟩ := info_parts string_info
  have hrun : (Builtin.append_ #[27, 27] o.type #[.slice (some ⟨g, 0, none⟩) 0 c, .slice p 0 cp]).run Tryd.prog w = .ok (.slice (some ⟨g, 0, none⟩) 0 c) w := by
    cases p with
    | none => simp [Builtin.append_, run_underlying Tryd.underlying27, sizeOf, typeInfo, hi, Builtin.lenOf, Builtin.firstCells, storeCells]
    | some q => simp [Builtin.append_, run_underlying Tryd.underlying27, sizeOf, typeInfo, hi, Builtin.lenOf, Builtin.firstCells, storeCells, loadCells, loadCellsFrom]
  rw [if_pos hgd]
  unfold Oper.wp
  simp [execOp, ho, resolve, invoke, builtin, hs, hx, hrun, Result.andThen]
  exact h
/-- append onto an empty slice of the call's own, of some texts or of none. -/
theorem step_appE {w : World} {ops : Array Oper} {o : Oper} {a : Act} {Q : Exit → Act → World → Prop} {K : Act → World → Prop} {E : Prop} (hgd : Region.wanted o (yielded ops a.tmps) = true) (s x : Operand)
    (ho : o.op = .call { callee := .builtin .append, args := #[s, x], argTypes := #[27, 27] }) (base g0 : Nat) (M : List B) (ad : Option Addr) (m c : Nat)
    (hs : a.eval s = .slice (some ⟨g0, 0, none⟩) 0 0) (hown : Own w base (.slice (some ⟨g0, 0, none⟩) 0 0) 0 []) (hx : a.eval x = .slice ad m c) (htx : Txt w w.heap.size ad M) (hm : m = M.length) (hm1 : m ≤ 1000000) (hbase : base ≤ w.heap.size)
    (h : ∀ g cap w', Own w' base (.slice (some ⟨g, 0, none⟩) m cap) m M → w.grownBy w' (some g0) → (∀ k, some g0 = some k → base ≤ k ∧ k < w.heap.size) → (some g0 = some g ∨ g = w.heap.size) →
      K (a.put o.dst (.slice (some ⟨g, 0, none⟩) m cap)) w') : if Region.wanted o (yielded ops a.tmps) = true then Oper.wp Tryd.prog o a w K Q else E := by
  by_cases h0 : 0 < m
  · obtain ⟨b, off, rfl, hb, _⟩ := htx (by rw [bas_len]; omega)
    refine step_appLG hgd s x ho base _ 0 [] M ⟨b, off, none⟩ m c hs hown hx htx hm h0 hm1 (by omega) hbase ?_
    intro g cap w' h1 h2 h3 h4 _
    rw [Nat.zero_add] at h1 ⊢
    exact h g cap w' h1 h2 h3 h4
  · obtain rfl : m = 0 := by omega
    obtain rfl : M = [] := List.eq_nil_of_length_eq_zero hm.symm
    exact step_app0 hgd s x ho g0 c ad 0 hs hx (h g0 0 w hown ⟨rfl, rfl, rfl, Nat.le_refl _, fun _ _ _ => rfl⟩ hown.lt (.inl rfl))
/-- the seal made: its block, and the two lists that it holds, each in a block of its own. -/
structure Bads (w wr : World) (base gx : Nat) (idx : Int) (g2 c2 e2 d2 h : Nat) (sg pt : List B) : Prop where
  row : IsRow wr gx 29 #[.int .i64 idx, .slice (some ⟨g2, 0, none⟩) 18 c2, .slice (some ⟨e2, 0, none⟩) h d2]
  o1 : Own wr base (.slice (some ⟨g2, 0, none⟩) 18 c2) 18 sg
  o2 : Own wr base (.slice (some ⟨e2, 0, none⟩) h d2) h pt
  x1 : g2 ≠ gx
  x2 : e2 ≠ gx
  ap : g2 ≠ e2
  lo : base ≤ gx
  size : base ≤ wr.heap.size
  below : Below base w wr
theorem own_set {w : World} {base n g c k : Nat} {L : List B} (h : Own w base (.slice (some ⟨g, 0, none⟩) n c) n L) (y : B) : Own (w.setCell ⟨g, k, none⟩ (.string ⟨y.toArray⟩)) base (.slice (some ⟨g, 0, none⟩) n c) n (L.set k y) := by
  obtain ⟨hn, hl, ⟨hv, h0⟩ | ⟨g', cap, cur, hv, hb, hg, hnc, hcm, hcs, htake⟩⟩ := h
  · cases hv
  · injection hv with h1 h2 h3
    injection h1 with h1
    injection h1 with h1
    subst h1 h3
    refine ⟨by rw [List.length_set]; exact hn, by unfold strv at hl ⊢; simpa using hl, .inr ⟨g, c, cur.setIfInBounds k (.string ⟨y.toArray⟩), rfl, hb, ?_, hnc, hcm, by simpa using hcs, ?_⟩⟩
    · exact IsRow.put (w := w) hg k _
    · unfold strv at htake ⊢
      rw [List.map_set, ← htake, Array.toList_setIfInBounds, List.take_set]
section
variable {w wr : World} {base gx : Nat} {idx : Int} {g2 c2 e2 d2 h : Nat} {sg pt : List B}
theorem Bads.later {wr' : World} (H : Bads w wr base gx idx g2 c2 e2 d2 h sg pt) (hb : Below wr.heap.size wr wr') : Bads w wr' base gx idx g2 c2 e2 d2 h sg pt :=
  ⟨H.row.below hb H.row.inside, H.o1.later hb, H.o2.later hb, H.x1, H.x2, H.ap, H.lo, Nat.le_trans H.size hb.size, H.below.trans (hb.mono H.size)⟩
theorem Bads.set1 (H : Bads w wr base gx idx g2 c2 e2 d2 h sg pt) (k : Nat) (y : B) : Bads w (wr.setCell ⟨g2, k, none⟩ (.string ⟨y.toArray⟩)) base gx idx g2 c2 e2 d2 h (sg.set k y) pt :=
  ⟨H.row.putOther (p := ⟨g2, k, none⟩) H.x1.symm _, own_set H.o1 y, H.o2.putOther (p := ⟨g2, k, none⟩) (by simp [Value.ownBlock]; exact H.ap.symm) _, H.x1, H.x2, H.ap, H.lo, by simpa using H.size, H.below.setCell (p := ⟨g2, k, none⟩) H.o1.fresh.1 _⟩
theorem Bads.set2 (H : Bads w wr base gx idx g2 c2 e2 d2 h sg pt) (k : Nat) (y : B) : Bads w (wr.setCell ⟨e2, k, none⟩ (.string ⟨y.toArray⟩)) base gx idx g2 c2 e2 d2 h sg (pt.set k y) :=
  ⟨H.row.putOther (p := ⟨e2, k, none⟩) H.x2.symm _, H.o1.putOther (p := ⟨e2, k, none⟩) (by simp [Value.ownBlock]; exact H.ap) _, own_set H.o2 y, H.x1, H.x2, H.ap, H.lo, by simpa using H.size, H.below.setCell (p := ⟨e2, k, none⟩) H.o2.fresh.1 _⟩
theorem Bads.set0 (H : Bads w wr base gx idx g2 c2 e2 d2 h sg pt) (j : Int) : Bads w (wr.setCell ⟨gx, 0, none⟩ (.int .i64 j)) base gx j g2 c2 e2 d2 h sg pt :=
  ⟨H.row.put 0 _, H.o1.putOther (p := ⟨gx, 0, none⟩) (by simp [Value.ownBlock]; exact H.x1) _, H.o2.putOther (p := ⟨gx, 0, none⟩) (by simp [Value.ownBlock]; exact H.x2) _, H.x1, H.x2, H.ap, H.lo, by simpa using H.size, H.below.setCell (p := ⟨gx, 0, none⟩) H.lo _⟩
theorem Bad.done (H : Bad w wr base (.slice (some ⟨g2, 0, none⟩) 18 c2) (.slice (some ⟨e2, 0, none⟩) h d2) 18 h sg pt (some gx)) (idx : Int) :
    Bads w (((wr.setCell ⟨gx, 0, none⟩ (.int .i64 idx)).setCell ⟨gx, 1, none⟩ (.slice (some ⟨g2, 0, none⟩) 18 c2)).setCell ⟨gx, 2, none⟩ (.slice (some ⟨e2, 0, none⟩) h d2)) base gx idx g2 c2 e2 d2 h sg pt := by
  obtain ⟨x1, x2, x3, x4⟩ := H.x gx rfl
  have n1 : g2 ≠ gx := fun e => x3 (by rw [e]; rfl)
  have n2 : e2 ≠ gx := fun e => x4 (by rw [e]; rfl)
  exact ⟨((x2.put 0 _).put 1 _).put 2 _, ((H.o1.putOther (p := ⟨gx, 0, none⟩) x3 _).putOther (p := ⟨gx, 1, none⟩) x3 _).putOther (p := ⟨gx, 2, none⟩) x3 _, ((H.o2.putOther (p := ⟨gx, 0, none⟩) x4 _).putOther (p := ⟨gx, 1, none⟩) x4 _).putOther (p := ⟨gx, 2, none⟩) x4 _,
    n1, n2, fun e => H.ap g2 rfl (by rw [e]; rfl), x1, by simpa using H.size, ((H.below.setCell (p := ⟨gx, 0, none⟩) x1 _).setCell (p := ⟨gx, 1, none⟩) x1 _).setCell (p := ⟨gx, 2, none⟩) x1 _⟩
end
theorem name_region {P : Program} {md : Region.Mode} {ops : Array Oper} {Q : Exit → Act → World → Prop} {S : World → Prop} {n : Nat} {l : Array Bool} {a : Act} {w : World}
    (h : ∀ G : Nat → Array Bool → Act → World → Prop, (∀ n l a w, wpAnyH P md ops Q S n l a w ↔ G n l a w) → G n l a w) : wpAnyH P md ops Q S n l a w := h _ (fun _ _ _ _ => Iff.rfl)
theorem recast {G : Nat → Array Bool → Act → World → Prop} {n n' : Nat} {l l' : Array Bool} {a : Act} {w : World} (hn : n' = n) (hl : l' = l) (h : G n l a w) : G n' l' a w := by subst hn hl; exact h
theorem own_open {w : World} {base n g c k : Nat} {L : List B} (h : Own w base (.slice (some ⟨g, 0, none⟩) n c) n L) (hk : k < n) : w.cell? ⟨g, k, none⟩ = some (.string ⟨(L.getD k []).toArray⟩) ∧ w.frozen? ⟨g, k, none⟩ = false := by
  refine ⟨h.cell (by rw [← h.1]; exact hk), ?_⟩
  obtain ⟨_, _, ⟨hv, _⟩ | ⟨g', cap, cur, hv, _, hg, _⟩⟩ := h
  · cases hv
  · injection hv with h1 h2 h3
    injection h1 with h1
    injection h1 with h1
    subst h1
    exact IsRow.open_ (w := w) hg k
theorem Bads.base {w wr : World} {base gx : Nat} {idx : Int} {g2 c2 e2 d2 h : Nat} {sg pt : List B} (H : Bads w wr base gx idx g2 c2 e2 d2 h sg pt) : Bads wr wr base gx idx g2 c2 e2 d2 h sg pt :=
  ⟨H.row, H.o1, H.o2, H.x1, H.x2, H.ap, H.lo, H.size, (Below.refl _ _).mono H.size⟩
/-- what the change has left as it was. -/
structure Dif (sec m : B) (h i j : Nat) (sg pt : List B) : Prop where
  one : j = i ∨ sg = sigOf sec i m
  small : j < 1000000
  n1 : sg.length = 18
  n2 : pt.length = h
  l1 : ∀ x ∈ sg, x.length ≤ 1000
  l2 : ∀ x ∈ pt, x.length ≤ 1000
theorem small_set {L : List B} {k n : Nat} {x : B} (h : ∀ y ∈ L, y.length ≤ n) (hx : x.length ≤ n) : ∀ y ∈ L.set k x, y.length ≤ n := fun y hy => by
  rcases List.mem_or_eq_of_mem_set hy with hy | rfl
  · exact h y hy
  · exact hx
theorem idx_small {h i : Nat} (hh : h ≤ 2) (hi : i < 2 ^ h) : i < 1000000 := Nat.lt_of_lt_of_le hi (Nat.le_trans (Nat.pow_le_pow_right (by decide) hh) (by decide))
theorem Dif.sig (sec m x : B) (h i k : Nat) (hx : x.length ≤ 300) (hh : h ≤ 2) (hi : i < 2 ^ h) : Dif sec m h i i ((sigOf sec i m).set k x) (pathOf sec h i) :=
  ⟨.inl rfl, idx_small hh hi, by rw [List.length_set]; exact sigOf_len _ _ _, path_len _ _ _, small_set (sigOf_small _ _ _) (by omega), pathOf_small _ _ _⟩
theorem Dif.path (sec m x : B) (h i k : Nat) (hx : x.length ≤ 300) (hh : h ≤ 2) (hi : i < 2 ^ h) : Dif sec m h i i (sigOf sec i m) ((pathOf sec h i).set k x) :=
  ⟨.inl rfl, idx_small hh hi, sigOf_len _ _ _, by rw [List.length_set]; exact path_len _ _ _, sigOf_small _ _ _, small_set (pathOf_small _ _ _) (by omega)⟩
theorem Dif.index (sec m : B) (h i : Nat) (hh : h ≤ 2) : Dif sec m h i ((i + 1) % 2 ^ h) (sigOf sec i m) (pathOf sec h i) :=
  ⟨.inr rfl, idx_small hh (Nat.mod_lt _ (Nat.two_pow_pos h)), sigOf_len _ _ _, path_len _ _ _, sigOf_small _ _ _, pathOf_small _ _ _⟩
theorem Dif.coll {sec m : B} {h i j : Nat} {sg pt : List B} (H : Dif sec m h i j sg pt) (hi : i < 2 ^ h) (hv : verB (pubOf sec h) m (j : Int) sg pt = true)
    (hs : (decide ((j : Int) = (i : Int)) && (decide (sg = sigOf sec i m) && decide (pt = pathOf sec h i))) = false) : Coll (made sec h 15 ++ checked m j sg pt) := by
  refine changes hi hv (fun x hx => List.mem_append.2 (.inl hx)) (fun x hx => List.mem_append.2 (.inr hx)) ?_
  by_cases e : j = i
  · refine .inl ⟨e, Classical.byContradiction fun hc => ?_⟩
    have h1 : sg = sigOf sec i m := Classical.byContradiction fun hh => hc (.inl hh)
    have h2 : pt = pathOf sec h i := Classical.byContradiction fun hh => hc (.inr hh)
    rw [decide_eq_true h1, decide_eq_true h2, decide_eq_true (by rw [e] : (j : Int) = (i : Int))] at hs
    cases hs
  · exact .inr ⟨e, H.one.resolve_left e⟩
end Go.Proofs.YtanlpcdljclnmaaDoor.Sl
