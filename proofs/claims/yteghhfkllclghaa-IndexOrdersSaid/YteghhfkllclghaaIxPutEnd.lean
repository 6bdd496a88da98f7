/- index: what Put has done; append of an Id. -/
import Derived.Test.YteghhfkllclghaaIxPut
namespace Go.Proofs.Yteghhfkllclghaa.Ix
open Go.RowKit Go.Sort
open Go.Maps (Keyed IsMap has)
theorem leaf_own : ∀ {t : Tr Value} {p : Nat} {b : Bx} {ids : List Id} {v : Value}, t.fp.Nodup → (p, b, ids, v) ∈ t.leaves → v.ownBlock ≠ some p
  | .leaf q c is u, p, b, ids, v, hn, hm => by
    simp [Tr.leaves] at hm
    obtain ⟨rfl, rfl, rfl, rfl⟩ := hm
    intro e
    have h : (p :: v.ownBlock.toList).Nodup := hn
    rw [e] at h
    simp at h
  | .fork q f l r, p, b, ids, v, hn, hm => by
    obtain ⟨_, _, n3, n4, _⟩ := fp_fork hn
    rcases List.mem_append.1 (show (p, b, ids, v) ∈ l.leaves ++ r.leaves from hm) with hm | hm
    · exact leaf_own n3 hm
    · exact leaf_own n4 hm
theorem string_info : (Try.prog.info? 9).map (fun i => (i.zero, i.size, i.bytes)) = some (some (.string ⟨#[]⟩), 1, 16) := by kernel_rfl
theorem wpList_appS {w : World} {ops : Array Oper} {rest : List Oper} {o : Oper} {a : Act} {Q : Exit → Act → World → Prop} (hgd : o.guard = none) (s x : Operand)
    (ho : o.op = .call { callee := .builtin .append, args := #[s, x], argTypes := #[42, 42] }) (v : Value) (L : List Id) (y : Id) (H : Nat)
    (hs : a.eval s = v) (hown : OwnS w v L) (hx : a.eval x = .slice (some ⟨H, 0, none⟩) 1 1) (hrow : w.heap[H]? = some (.cells #[.string ⟨y.toArray⟩] 9 (0, 0))) (hlen : L.length ≤ 1000000) (N : Nat) (hN : w.heap.size = N)
    (h : ∀ g cap w', OwnS w' (.slice (some ⟨g, 0, none⟩) (L.length + 1) cap) (L ++ [y]) → w.grownBy w' v.ownBlock → (v.ownBlock = some g ∨ g = N) → g < w'.heap.size → wpList Try.prog ops Q rest (a.put o.dst (.slice (some ⟨g, 0, none⟩) (L.length + 1) cap)) w') :
    wpList Try.prog ops Q (o :: rest) a w := by
  obtain ⟨i0, hi, h1, h2, h3⟩ : ∃ i0, Try.prog.info? 9 = some i0 ∧ i0.zero = some (.string ⟨#[]⟩) ∧ i0.size = 1 ∧ i0.bytes = 16 := by
    have e := string_info
    cases hh : Try.prog.info? 9 with
    | none => rw [hh] at e; cases e
    | some i0 =>
      rw [hh] at e
      injection e with e
      injection e with e1 e
      injection e with e2 e3
      exact ⟨i0, rfl, e1, e2, e3⟩
  refine wpList_append_lies (P := Try.prog) (w := w) hgd s x _ ho 0 9 i0 _ 1 16 Try.underlying42 hi h1 h2 h3 rfl (by decide) v L.length (sv L) hs hown _ 1 1 [.string ⟨y.toArray⟩] hx rfl (World.news_of_block hrow) (by intro u hu; simp at hu; subst hu; rfl) (by decide) (by unfold maxLen; omega) (by omega) (Nat.zero_le _) N hN ?_
  intro g cap w1 k1 k2 k3 k4
  refine h g cap w1 ?_ k2 k3 k4
  have e : (L ++ [y]).length = L.length + 1 := by simp
  have e2 : sv (L ++ [y]) = sv L ++ [.string ⟨y.toArray⟩] := by unfold sv; rw [List.map_append]; rfl
  show World.ownsRow _ _ _ _ _ (L ++ [y]).length _
  rw [e, e2]
  exact k1
theorem put_end {w W4 w5 w7 w8 : World} {x m n p g cap : Nat} {t : Option (Tr Value)} {D : DataW Value} {lk : Id → Option (Nat × Nat)} {S : List It} {i : Id} {b : Bx} {t1 : Tr Value} {ids : List Id} {v : Value} {ob : Obj} {pr : Value} (h : Idx w x m n t D lk S) (hb : Below w.heap.size w W4)
    (hc : Ch (· ∈ fpO t) W4 w5) (ht : t1.inT w5) (hn : t1.fp.Nodup) (ho : t1.ok) (hs : ∀ k ∈ t1.fp, k ∈ fpO t ∨ W4.heap.size ≤ k) (hl : (p, b, ids, v) ∈ t1.leaves) (hm : mapOK lk t1.leaves) (hp : (itemsL t1.leaves).Perm (itemsL (Tr.leavesO t))) (hfw : t1.leaves.length ≤ (Tr.leavesO t).length + 1)
    (hli : lk i = none) (hx5 : IsRow w5 x 61 #[pr, .map (some m)]) (hg7 : (w5.setCell ⟨x, 0, none⟩ (ptr t1.blk)).grownBy w7 (some m)) (hm7 : w7.ownsMap Try.prog 9 heldE m (n + 1) (D.put (kS i) (.held (plV p ids.length))))
    (hg8 : (w7.alloc ob).grownBy w8 v.ownBlock) (ho8 : OwnS w8 (.slice (some ⟨g, 0, none⟩) (ids.length + 1) cap) (ids ++ [i])) (hor : v.ownBlock = some g ∨ g = w7.heap.size + 1) :
    OpQ w x m (n + 1) t (putS i b S) (w8.setCell ⟨p, 7, none⟩ (.slice (some ⟨g, 0, none⟩) (ids.length + 1) cap)) := by
  have hlt := h.lt
  have hsz := hb.size
  have s5 : W4.heap.size ≤ w5.heap.size := hc.size
  have s7 : w5.heap.size ≤ w7.heap.size := by have := hg7.size; simpa using this
  have s8 : w7.heap.size + 1 ≤ w8.heap.size := by have := hg8.size; simpa using this
  obtain ⟨lf1, lf2⟩ := leaf_fp hl
  obtain ⟨P5, O5⟩ := leaf_row ht hl
  have sep : ∀ k ∈ t1.fp, k ≠ x ∧ k ≠ m ∧ k < w5.heap.size := fun k hk => by
    have h3 := Tr.inT_lt ht k hk
    rcases hs k hk with e | e
    · exact ⟨fun e' => h.ax (e' ▸ e), fun e' => h.am (e' ▸ e), h3⟩
    · exact ⟨by omega, by omega, h3⟩
  have hpv := leaf_own hn hl
  have px := (sep p lf1).1
  have pm := (sep p lf1).2.1
  have pl := (sep p lf1).2.2
  have vx : some x ≠ v.ownBlock := fun e => (sep x (lf2 x e.symm)).1 rfl
  have vm : some m ≠ v.ownBlock := fun e => (sep m (lf2 m e.symm)).2.1 rfl
  have vp : some p ≠ v.ownBlock := fun e => hpv e.symm
  have gp : g ≠ p := by
    rcases hor with e | e
    · exact fun e' => hpv (e' ▸ e)
    · omega
  have x5 := hx5.inside
  have m7l := hm7.lt
  have m5 : m < w5.heap.size := by omega
  -- from w5 to w8
  have keep58 : ∀ k, k < w5.heap.size → k ≠ x → k ≠ m → v.ownBlock ≠ some k → w8.heap[k]? = w5.heap[k]? := fun k h1 h2 h3 h4 => by
    rw [hg8.block k (by simp; omega) (fun e => h4 e.symm), Below.heap_alloc _ _ _ (by omega), hg7.block k (by simpa using h1) (fun e => h3 (by injection e)), Below.heap_setCell _ _ _ _ (fun e => h2 e)]
  have keep9 : ∀ k, k ≠ p → (w8.setCell ⟨p, 7, none⟩ (.slice (some ⟨g, 0, none⟩) (ids.length + 1) cap)).heap[k]? = w8.heap[k]? := fun k hk => Below.heap_setCell _ _ _ _ hk
  have P8 : IsRow w8 p 72 (nodeC b 128 nilP nilP v) := (keep58 p pl px pm hpv).trans P5
  have P9 := P8.put 7 (.slice (some ⟨g, 0, none⟩) (ids.length + 1) cap)
  have P9' : IsRow (w8.setCell ⟨p, 7, none⟩ (.slice (some ⟨g, 0, none⟩) (ids.length + 1) cap)) p 72 (nodeC b 128 nilP nilP (.slice (some ⟨g, 0, none⟩) (ids.length + 1) cap)) := by simpa [nodeC] using P9
  have X6 := hx5.put 0 (ptr t1.blk)
  have X6' : IsRow (w5.setCell ⟨x, 0, none⟩ (ptr t1.blk)) x 61 #[ptr t1.blk, .map (some m)] := by simpa using X6
  have X8 : IsRow w8 x 61 #[ptr t1.blk, .map (some m)] := by
    unfold IsRow
    rw [hg8.block x (by simp; omega) vx, Below.heap_alloc _ _ _ (by omega), hg7.block x (by simpa using x5) (fun e => h.xm (by injection e))]
    exact X6'
  have X9 : IsRow (w8.setCell ⟨p, 7, none⟩ (.slice (some ⟨g, 0, none⟩) (ids.length + 1) cap)) x 61 #[ptr t1.blk, .map (some m)] := (keep9 x (fun e => px e.symm)).trans X8
  have M9 := map_keep (map_keep hm7 (w' := w8) (by rw [hg8.block m (by simp; omega) vm, Below.heap_alloc _ _ _ m7l])) (keep9 m (fun e => pm e.symm))
  have O9 : OwnS (w8.setCell ⟨p, 7, none⟩ (.slice (some ⟨g, 0, none⟩) (ids.length + 1) cap)) (.slice (some ⟨g, 0, none⟩) (ids.length + 1) cap) (ids ++ [i]) := ho8.keep fun k hk => keep9 k (by
    have e : g = k := by injection hk
    rw [← e]; exact gp)
  obtain ⟨u1, u2, u3⟩ := upd_inT (w := w5) (v := v) (u := .slice (some ⟨g, 0, none⟩) (ids.length + 1) cap) (fun k hk => by
    have e : g = k := by injection hk
    subst e
    rcases hor with e | e
    · exact .inl e
    · right; omega) P9' O9 (fun e => gp (by injection e)) ht hn hl (fun k hk h1 h2 => by
      obtain ⟨q1, q2, q3⟩ := sep k hk
      rw [keep9 k h1, keep58 k q3 q1 q2 h2])
  obtain ⟨L, r1, r2, r3⟩ := upd_perm (is := ids ++ [i]) (u := .slice (some ⟨g, 0, none⟩) (ids.length + 1) cap) (leaf_blk hn).1 hl
  have hni : ∀ z ∈ S, z.1 ≠ i := box_none.1 (h.none_.1 hli)
  have perm9 : (itemsL (Tr.upd p (ids ++ [i]) (.slice (some ⟨g, 0, none⟩) (ids.length + 1) cap) t1).leaves).Perm (putS i b S) := by
    refine (itemsL_perm r2).trans (List.Perm.trans ?_ (putS_perm i b S).symm)
    rw [itemsL_cons]
    have e1 : ((ids ++ [i]).map fun j => (j, b)) ++ itemsL L = (ids.map fun j => (j, b)) ++ ((i, b) :: itemsL L) := by simp
    show (((ids ++ [i]).map fun j => (j, b)) ++ itemsL L).Perm _
    rw [e1]
    refine List.perm_middle.trans (List.Perm.cons _ ?_)
    have e2 := itemsL_perm r1
    rw [itemsL_cons] at e2
    exact e2.symm.trans (hp.trans h.perm)
  have cfull : Ch (fun k => k = x ∨ k = m ∨ k ∈ fpO t) w (w8.setCell ⟨p, 7, none⟩ (.slice (some ⟨g, 0, none⟩) (ids.length + 1) cap)) := by
    have c5 : Ch (fun k => k = x ∨ k = m ∨ k ∈ fpO t) w w5 := (Ch.of_below hb).trans hc fun k hk _ => .inr (.inr hk)
    have c6 := c5.setCell (p := ⟨x, 0, none⟩) (fun _ => .inl rfl) (ptr t1.blk)
    have c7 := c6.grown hg7 (fun k e _ => by injection e with e; exact .inr (.inl e.symm))
    have c8 := (c7.alloc ob).grown hg8 (fun k e hk => by
      rcases hs k (lf2 k e) with h' | h'
      · exact .inr (.inr h')
      · omega)
    exact c8.setCell (p := ⟨p, 7, none⟩) (fun hk => by
      rcases hs p lf1 with h' | h'
      · exact .inr (.inr h')
      · have : p < w.heap.size := hk
        omega) _
  refine ⟨some (Tr.upd p (ids ++ [i]) (.slice (some ⟨g, 0, none⟩) (ids.length + 1) cap) t1), _, _, ⟨?_, ⟨u1, u2, Tr.upd_ok ho⟩, M9, h.dat.put i p ids.length, ?_, perm9, h.srt.put hni, ?_, ?_, h.xm, ?_, ?_⟩, ?_, cfull⟩
  · show IsRow _ x _ #[ptr (Tr.upd _ _ _ t1).blk, _]
    rw [(Tr.upd_boxes _ _ _ t1).2.2.1]
    exact X9
  · exact (mapOK.add (hm.perm r1) hli).perm r2.symm
  · intro hk
    rcases u3 x hk with e | e
    · exact (sep x e).1 rfl
    · omega
  · intro hk
    rcases u3 m hk with e | e
    · exact (sep m e).2.1 rfl
    · omega
  · rw [(putS_perm i b S).length_eq]
    exact Nat.succ_le_succ h.len
  · show (Tr.upd p (ids ++ [i]) (.slice (some ⟨g, 0, none⟩) (ids.length + 1) cap) t1).leaves.length ≤ n + 1
    rw [Tr.upd_leaves, List.length_map]
    exact Nat.le_trans hfw (Nat.succ_le_succ h.few)
  · intro k hk
    rcases u3 k hk with e | e
    · exact (hs k e).imp id fun e => by omega
    · right; omega
end Go.Proofs.Yteghhfkllclghaa.Ix
