/- index: the queue's Swap, Push, Pop. -/
import Derived.Test.YteghhfkllclghaaIxFrame
import Derived.Deep.AppendLies
namespace Go.Proofs.Yteghhfkllclghaa.Ix
open Go.RowKit Go.Sort
/-- three cells stored. -/
def put3 (w : World) (g o : Nat) (q : Qi) : World := ((w.setCell ⟨g, o, none⟩ (.int .i64 q.sq)).setCell ⟨g, o + 1, none⟩ (ndV q.nd)).setCell ⟨g, o + 2, none⟩ (.string ⟨q.id.toArray⟩)
theorem grown_twice {w w1 w2 : World} {row : Option Nat} (h : w.grownBy w1 row) (k : w1.grownBy w2 row) : w.grownBy w2 row :=
  ⟨k.os.trans h.os, k.tape.trans h.tape, k.output.trans h.output, Nat.le_trans h.size k.size, fun i hi hn => (k.block i (Nat.lt_of_lt_of_le hi h.size) hn).trans (h.block i hi hn)⟩
theorem OwnQ.put {w : World} {base g cap : Nat} {L : List Qi} (h : OwnQ w base (.slice (some ⟨g, 0, none⟩) L.length cap) L) {k : Nat} (hk : k < L.length) (q : Qi) :
    OwnQ (put3 w g (k * 3) q) base (.slice (some ⟨g, 0, none⟩) L.length cap) (L.set k q) ∧ w.grownBy (put3 w g (k * 3) q) (some g) := by
  have s0 := World.ownsRow.stored h (k * 3) (.int .i64 q.sq)
  have s1 := World.ownsRow.stored s0.1 (k * 3 + 1) (ndV q.nd)
  have s2 := World.ownsRow.stored s1.1 (k * 3 + 2) (.string ⟨q.id.toArray⟩)
  refine ⟨?_, grown_twice (grown_twice s0.2 s1.2) s2.2⟩
  have h2 := s2.1
  rw [flatQ_set L k q hk] at h2
  have e3 : (L.set k q).length = L.length := List.length_set
  show World.ownsRow _ _ _ _ _ (L.set k q).length _
  rw [e3]
  exact h2
theorem OwnQ.swap {w : World} {base g cap : Nat} {L : List Qi} (h : OwnQ w base (.slice (some ⟨g, 0, none⟩) L.length cap) L) {i j : Nat} {a b : Qi} (hi : L[i]? = some a) (hj : L[j]? = some b) :
    OwnQ (put3 (put3 w g (i * 3) b) g (j * 3) a) base (.slice (some ⟨g, 0, none⟩) L.length cap) (swp L i j) ∧ w.grownBy (put3 (put3 w g (i * 3) b) g (j * 3) a) (some g) := by
  have hil := (List.getElem?_eq_some_iff.1 hi).1
  have hjl := (List.getElem?_eq_some_iff.1 hj).1
  obtain ⟨h1, g1⟩ := h.put hil b
  have el : (L.set i b).length = L.length := List.length_set
  rw [← el] at h1
  obtain ⟨h2, g2⟩ := h1.put (k := j) (by rw [el]; exact hjl) a
  rw [el] at h2
  rw [swp_eq hi hj]
  exact ⟨h2, grown_twice g1 g2⟩
/-- the struct's row beside stores into the items. -/
theorem put3_row {w : World} {g o r : Nat} {q : Qi} {t : TypeId} {cs : Array Value} (h : IsRow w r t cs) (hn : r ≠ g) : IsRow (put3 w g o q) r t cs := ((h.putOther hn _).putOther hn _).putOther hn _
theorem put3_below {w w' : World} {B g o : Nat} {q : Qi} (h : Below B w w') (hg : B ≤ g) : Below B w (put3 w' g o q) := ((h.setCell (p := ⟨g, o, none⟩) hg _).setCell (p := ⟨g, o + 1, none⟩) hg _).setCell (p := ⟨g, o + 2, none⟩) hg _
theorem swap_end {w w9 : World} {base q g cap : Nat} {L : List Qi} {i j : Nat} {a b : Qi} (h : Qu w base q (.slice (some ⟨g, 0, none⟩) L.length cap) L) (hbg : base ≤ g) (hi : L[i]? = some a) (hj : L[j]? = some b)
    (h9 : w9 = (put3 (put3 w g (i * 3) b) g (j * 3) a).drew) : Qu w9 base q (.slice (some ⟨g, 0, none⟩) L.length cap) (swp L i j) ∧ Bq base q w w9 := by
  subst h9
  have hne : q ≠ g := fun e => h.ne e.symm
  obtain ⟨h1, hgr⟩ := OwnQ.swap h.own hi hj
  have hgl := (World.ownsRow.lt h.own g rfl).2
  have hq : Qu (put3 (put3 w g (i * 3) b) g (j * 3) a) base q (.slice (some ⟨g, 0, none⟩) L.length cap) (swp L i j) := ⟨put3_row (put3_row h.row hne) hne, by unfold OwnQ at *; rw [swp_len] at *; exact h1, h.ge⟩
  have hb : Bq base q w (put3 (put3 w g (i * 3) b) g (j * 3) a) := Bq.grown hgr (by omega) h.own.typed h.hdr
  exact ⟨hq.below (drew_below _), hb.trans ((drew_below _).q (Nat.le_trans (by omega) hb.size))⟩
set_option maxRecDepth 100000 in
set_option maxHeartbeats 2000000 in
theorem swap_any (w : World) (base q : Nat) (v : Value) (L : List Qi) (h : Qu w base q v L) {i j : Nat} {a b : Qi} (hi : L[i]? = some a) (hj : L[j]? = some b) :
    Calls Try.prog 94 #[ptr q, .int .i64 i, .int .i64 j] w fun e w' => e = .returned (.tuple #[]) ∧ Qu w' base q v (swp L i j) ∧ Bq base q w w' := by
  have hil := (List.getElem?_eq_some_iff.1 hi).1
  have hjl := (List.getElem?_eq_some_iff.1 hj).1
  obtain ⟨g, cap, rfl, hbg, _, _⟩ := h.own.shape (by omega)
  have hne := h.ne
  have hsw := Lib.hid (fun w9 h9 => swap_end (w9 := w9) h hbg hi hj h9)
  have r0 := h.row.get 0
  have fx0 := OwnQ.open_ h.own (i * 3)
  have fx1 := OwnQ.open_ h.own (i * 3 + 1)
  have fx2 := OwnQ.open_ h.own (i * 3 + 2)
  have i0 : (0 : Int) ≤ (i : Int) := by omega
  have i1 : (i : Int) < (L.length : Int) := by omega
  by_cases hij : i = j
  · subst hij
    obtain rfl : a = b := by rw [hi] at hj; injection hj
    obtain ⟨x0, x1, x2⟩ := OwnQ.cells h.own hi
    obtain ⟨sa, na, ia⟩ := a
    dsimp only at x0 x1 x2
    obtain ⟨va, hva⟩ : ∃ v, ndV na = v := ⟨_, rfl⟩
    obtain ⟨pa, hpa⟩ : ∃ p, va = .pointer p := by rw [← hva]; cases na <;> exact ⟨_, rfl⟩
    rw [hva, hpa] at x1
    have HVA := Lib.hid (hva.trans hpa)
    clear h hi hj hva hpa
    unfold ptr
    go_enter Try.func94, Try.ntmps94
    go_upto_region 0 with fail
    go_region
    all_goals
      go_end0
      refine ⟨rfl, hsw.out _ ?_⟩
      unfold put3
      dsimp only
      rw [HVA.out]
  · have n0 : ¬ i * 3 = j * 3 := by omega
    have n1 : ¬ j * 3 = i * 3 := by omega
    obtain ⟨x0, x1, x2⟩ := OwnQ.cells h.own hi
    obtain ⟨y0, y1, y2⟩ := OwnQ.cells h.own hj
    have fy0 := OwnQ.open_ h.own (j * 3)
    have fy1 := OwnQ.open_ h.own (j * 3 + 1)
    have fy2 := OwnQ.open_ h.own (j * 3 + 2)
    have j0 : (0 : Int) ≤ (j : Int) := by omega
    have j1 : (j : Int) < (L.length : Int) := by omega
    obtain ⟨sa, na, ia⟩ := a
    obtain ⟨sb, nb, ib⟩ := b
    dsimp only at x0 x1 x2 y0 y1 y2
    obtain ⟨va, hva⟩ : ∃ v, ndV na = v := ⟨_, rfl⟩
    obtain ⟨vb, hvb⟩ : ∃ v, ndV nb = v := ⟨_, rfl⟩
    obtain ⟨pa, hpa⟩ : ∃ p, va = .pointer p := by rw [← hva]; cases na <;> exact ⟨_, rfl⟩
    obtain ⟨pb, hpb⟩ : ∃ p, vb = .pointer p := by rw [← hvb]; cases nb <;> exact ⟨_, rfl⟩
    rw [hva, hpa] at x1
    rw [hvb, hpb] at y1
    have HVA := Lib.hid (hva.trans hpa)
    have HVB := Lib.hid (hvb.trans hpb)
    clear h hi hj hva hvb hpa hpb
    unfold ptr
    go_enter Try.func94, Try.ntmps94
    go_upto_region 0 with fail
    go_region
    all_goals
      go_end0
      refine ⟨rfl, hsw.out _ ?_⟩
      unfold put3
      dsimp only
      rw [HVA.out, HVB.out]
/-- one item appended. -/
theorem step_appQ {ops : Array Oper} {o : Oper} {a : Act} {w : World} {K : Act → World → Prop} {Q : Exit → Act → World → Prop} {E : Prop} (hgd : o.guard = none) (s x : Operand)
    (ho : o.op = .call { callee := .builtin .append, args := #[s, x], argTypes := #[77, 77] }) (base : Nat) (v : Value) (L : List Qi) (y : Qi) (H : Nat)
    (hs : a.eval s = v) (hown : OwnQ w base v L) (hx : a.eval x = .slice (some ⟨H, 0, none⟩) 1 1) (hrow : w.heap[H]? = some (.cells (encQ y).toArray 82 (0, 0))) (hlen : L.length ≤ 100000) (hbase : base ≤ w.heap.size) (N : Nat) (hN : w.heap.size = N)
    (h : ∀ g cap w', OwnQ w' base (.slice (some ⟨g, 0, none⟩) (L.length + 1) cap) (L ++ [y]) → w.grownBy w' v.ownBlock → (v.ownBlock = some g ∨ g = N) → (∀ k, v.ownBlock = some k → base ≤ k ∧ k < w.heap.size) →
      K (a.put o.dst (.slice (some ⟨g, 0, none⟩) (L.length + 1) cap)) w') : if Region.wanted o (yielded ops a.tmps) = true then Oper.wp Try.prog o a w K Q else E := by
  obtain ⟨i0, hi, h1, h2, h3⟩ : ∃ i0, Try.prog.info? 82 = some i0 ∧ i0.size = 3 ∧ i0.bytes = 32 ∧ i0.zero = some (.agg (encQ ⟨0, none, []⟩).toArray) := by
    have e := item_info
    cases hh : Try.prog.info? 82 with
    | none => rw [hh] at e; cases e
    | some i0 =>
      rw [hh] at e
      injection e with e
      injection e with e1 e
      injection e with e2 e3
      exact ⟨i0, rfl, e1, e2, e3⟩
  refine step_append_lies (P := Try.prog) w hgd s x _ ho base 82 i0 _ 3 32 Try.underlying77 hi h3 h1 h2 rfl (by decide) v L.length (flatQ L) hs hown _ 1 1 (encQ y) hx rfl ?_ (encQ_one y) (by decide) (by unfold maxLen; omega) (by omega) hbase N hN ?_
  · intro j u hu
    have hadd : (⟨H, 0, none⟩ : Addr).add j = ⟨H, j, none⟩ := by unfold Addr.add; split <;> simp_all
    rw [hadd]
    have : IsRow w H 82 (encQ y).toArray := hrow
    rw [this.get j]
    simpa using hu
  · intro g cap w1 h1 h2 h3 _
    refine h g cap w1 ?_ h2 h3 (World.ownsRow.lt hown)
    have e : (L ++ [y]).length = L.length + 1 := by simp
    have e2 : flatQ (L ++ [y]) = flatQ L ++ encQ y := by unfold flatQ; rw [List.flatMap_append]; simp
    show World.ownsRow _ _ _ _ _ (L ++ [y]).length _
    rw [e, e2]
    exact h1
end Go.Proofs.Yteghhfkllclghaa.Ix
