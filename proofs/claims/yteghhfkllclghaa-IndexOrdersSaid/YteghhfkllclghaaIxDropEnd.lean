/- index: what Drop has done. -/
import Derived.Test.YteghhfkllclghaaIxPutOk
import Derived.Test.YteghhfkllclghaaIxShelf
import Derived.Sort.OwnSorted
namespace Go.Proofs.Yteghhfkllclghaa.Ix
open Go.RowKit Go.Sort
open Go.Maps (Keyed IsMap has)
theorem OwnS.shape {w : World} {v : Value} {L : List Id} (h : OwnS w v L) (h0 : 0 < L.length) : ∃ g cap, v = .slice (some ⟨g, 0, none⟩) L.length cap ∧ L.length ≤ cap ∧ cap ≤ maxLen := by
  obtain ⟨_, ⟨_, h0'⟩ | ⟨g, cap, cur, hv, hb, hg, h1, h2, _⟩⟩ := h
  · omega
  · exact ⟨g, cap, hv, h1, h2⟩
theorem OwnS.cell {w : World} {g cap : Nat} {L : List Id} (h : OwnS w (.slice (some ⟨g, 0, none⟩) L.length cap) L) {k : Nat} {y : Id} (hk : L[k]? = some y) : w.cell? ⟨g, k, none⟩ = some (.string ⟨y.toArray⟩) := by
  have hlt := (List.getElem?_eq_some_iff.1 hk).1
  rw [World.ownsRow.cellAt h _ (by omega)]
  unfold sv
  rw [List.getElem?_map, hk]
  rfl
theorem OwnS.open_ {w : World} {g cap : Nat} {L : List Id} (h : OwnS w (.slice (some ⟨g, 0, none⟩) L.length cap) L) (j : Nat) : w.frozen? ⟨g, j, none⟩ = false := World.ownsRow.frozenAt h j
theorem OwnS.set {w : World} {g cap : Nat} {L : List Id} (h : OwnS w (.slice (some ⟨g, 0, none⟩) L.length cap) L) (j : Nat) (y : Id) : OwnS (w.setCell ⟨g, j, none⟩ (.string ⟨y.toArray⟩)) (.slice (some ⟨g, 0, none⟩) L.length cap) (L.set j y) ∧ w.grownBy (w.setCell ⟨g, j, none⟩ (.string ⟨y.toArray⟩)) (some g) := by
  have s := World.ownsRow.stored h j (.string ⟨y.toArray⟩)
  refine ⟨?_, s.2⟩
  have e : sv (L.set j y) = (sv L).set j (.string ⟨y.toArray⟩) := by unfold sv; rw [List.map_set]
  have e2 : (L.set j y).length = L.length := List.length_set
  show World.ownsRow _ _ _ _ _ (L.set j y).length _
  rw [e, e2]
  exact s.1
theorem OwnS.take {w : World} {g cap : Nat} {L : List Id} {k : Nat} (h : OwnS w (.slice (some ⟨g, 0, none⟩) L.length cap) L) (hk : k ≤ L.length) : OwnS w (.slice (some ⟨g, 0, none⟩) k cap) (L.take k) := by
  have hlen : (L.take k).length = k := by rw [List.length_take]; omega
  obtain ⟨h1, ⟨hv, h0⟩ | ⟨g', cap', cur, hv, hb, hg, h2, h3, h4, h5⟩⟩ := h
  · cases hv
  · injection hv with e1 e2 e3
    injection e1 with e1
    injection e1 with e1 _ _
    subst e1 e3
    refine ⟨by unfold sv; simp, .inr ⟨g, cap, cur, by rw [hlen], hb, hg, by omega, h3, h4, ?_⟩⟩
    rw [hlen]
    have e : sv (L.take k) = (sv L).take k := by unfold sv; rw [List.map_take]
    rw [e, ← h5, List.take_take, Nat.min_eq_left (by omega), Nat.mul_one]
/-- the last Id deleted. -/
theorem del_last {w : World} {g cap k q : Nat} {L : List Id} (hl : L.length = k + 1) (h : OwnS w (.slice (some ⟨g, 0, none⟩) (k + 1) cap) L) :
    OwnS (putRow encStr (Sort.ahead w q) g 0 (L.take k ++ L.drop (k + 1) ++ List.replicate (k + 1 - k) []).toArray) (.slice (some ⟨g, 0, none⟩) k cap) (L.take k) ∧
    w.grownBy (putRow encStr (Sort.ahead w q) g 0 (L.take k ++ L.drop (k + 1) ++ List.replicate (k + 1 - k) []).toArray) (some g) := by
  obtain ⟨zs, hz⟩ : ∃ zs, L.take k ++ L.drop (k + 1) ++ List.replicate (k + 1 - k) [] = zs := ⟨_, rfl⟩
  have hzl : zs.length = L.length := by rw [← hz]; simp; omega
  have hzt : zs.take k = L.take k := by
    rw [← hz, List.append_assoc, List.take_append_of_le_length (by simp; omega), List.take_take, Nat.min_self]
  rw [hz]
  have hg := grownBy_sorted (w := w) (g := g) (n := q) (os := #[]) zs.toArray
  rw [grow_empty] at hg
  refine ⟨?_, hg⟩
  obtain ⟨h1, ⟨hv, h0⟩ | ⟨g', cap', cur, hv, hb, hgg, h2, h3, h4, h5⟩⟩ := h
  · cases hv
  · injection hv with e1 e2 e3
    injection e1 with e1
    injection e1 with e1 _ _
    subst e1 e3
    have hs := ownsRow_sorted (w := w) (n := q) (os := #[]) (ss := L) (ts := zs) hzl hb hgg h2 h3 h4
    rw [grow_empty] at hs
    have ho : OwnS (putRow encStr (Sort.ahead w q) g 0 zs.toArray) (.slice (some ⟨g, 0, none⟩) zs.length cap) zs := by
      show World.ownsRow _ _ _ _ _ zs.length _
      rw [hzl]
      exact hs
    have := ho.take (k := k) (by omega)
    rw [hzt] at this
    exact this
theorem holds_own {w : World} {g cap : Nat} {L : List Id} (h : OwnS w (.slice (some ⟨g, 0, none⟩) L.length cap) L) (h0 : 0 < L.length) : Holds encStr w g 0 L.toArray ∧ L.length ≤ cap ∧ cap ≤ 9223372036854775807 ∧ g < w.heap.size := by
  obtain ⟨h1, ⟨hv, h0'⟩ | ⟨g', cap', cur, hv, hb, hgg, h2, h3, h4, h5⟩⟩ := h
  · omega
  · injection hv with e1 e2 e3
    injection e1 with e1
    injection e1 with e1 _ _
    subst e1 e3
    exact ⟨holds_of_block hgg (by simpa [sv] using h5), h2, by unfold maxLen at h3; omega, (Array.getElem?_eq_some_iff.1 hgg).1⟩
theorem at_uniq : ∀ {t : Tr Value} {p : Nat} {b : Bx} {ids : List Id} {v : Value}, t.ok → (p, b, ids, v) ∈ t.leaves → Tr.at_ b t = p
  | .leaf q c is u, p, b, ids, v, _, hm => by
    simp [Tr.leaves] at hm
    obtain ⟨rfl, rfl, rfl, rfl⟩ := hm
    rfl
  | .fork q f l r, p, b, ids, v, h, hm => by
    rcases List.mem_append.1 (show (p, b, ids, v) ∈ l.leaves ++ r.leaves from hm) with hm | hm
    · have hb : b ∈ l.boxes := List.mem_map.2 ⟨_, hm, rfl⟩
      unfold Tr.at_
      rw [if_pos (h.2.2.2.1 b hb)]
      exact at_uniq h.2.1 hm
    · have hb : b ∈ r.boxes := List.mem_map.2 ⟨_, hm, rfl⟩
      unfold Tr.at_
      rw [if_neg (by rw [h.2.2.2.2.1 b hb]; decide)]
      exact at_uniq h.2.2.1 hm
theorem leaf_eq {L : List (Lf Value)} (hn : (L.map fun z => z.1).Nodup) {z y : Lf Value} (hz : z ∈ L) (hy : y ∈ L) (e : z.1 = y.1) : z = y := by
  obtain ⟨l1, l2, rfl⟩ := List.append_of_mem hz
  rw [List.map_append, List.map_cons, List.nodup_append, List.nodup_cons] at hn
  rcases List.mem_append.1 hy with h | h
  · exact absurd e.symm (hn.2.2 y.1 (List.mem_map_of_mem h) z.1 (by simp))
  · rcases List.mem_cons.1 h with h | h
    · exact h.symm
    · exact absurd (List.mem_map.2 ⟨y, h, e.symm⟩) hn.2.1.1
theorem drop_put {S : List It} {i : Id} {b : Bx} {R : List It} (hs : Srt S) (hp : S.Perm ((i, b) :: R)) : R.Perm (dropS i S) := by
  have h1 : (dropS i S).Perm (dropS i ((i, b) :: R)) := hp.filter _
  have hn : ((i, b) :: R).map Prod.fst |>.Nodup := (hp.map Prod.fst).nodup_iff.1 hs.nodup
  have h2 : dropS i ((i, b) :: R) = R := by
    unfold dropS
    rw [List.filter_cons_of_neg (by simp), List.filter_eq_self]
    intro p hp'
    rw [List.map_cons, List.nodup_cons] at hn
    simp
    exact fun e => hn.1 (List.mem_map.2 ⟨p, hp', e⟩)
  rw [h2] at h1
  exact h1.symm
/-- the Id is out of its leaf. -/
theorem drop_end {w w' : World} {x m n p j g cap k : Nat} {tt : Tr Value} {D : DataW Value} {lk : Id → Option (Nat × Nat)} {S : List It} {i mv : Id} {b : Bx} {ids : List Id} {c : Nat} (h : Idx w x m n (some tt) D lk S)
    (hm : (p, b, ids, .slice (some ⟨g, 0, none⟩) (k + 1) c) ∈ tt.leaves) (hk : ids.length = k + 1) (hj : ids[j]? = some i) (hmv : ids[k]? = some mv) (hos : w'.os = w.os) (ht : w'.tape = w.tape) (ho : w'.output = w.output) (hz : w.heap.size ≤ w'.heap.size)
    (hb : ∀ r, r < w.heap.size → r ≠ p → r ≠ g → r ≠ m → w'.heap[r]? = w.heap[r]?) (hP : IsRow w' p 72 (nodeC b 128 nilP nilP (.slice (some ⟨g, 0, none⟩) k cap))) (hO : OwnS w' (.slice (some ⟨g, 0, none⟩) k cap) (moveL ids j mv))
    (hM : w'.ownsMap Try.prog 9 heldE m (n + 1) ((D.put (kS mv) (.held (plV p j))).del (kS i))) :
    ∃ D' lk' t', Idx w' x m (n + 1) (some t') D' lk' (dropS i S) ∧ t'.blk = tt.blk ∧ (∀ r ∈ t'.fp, r ∈ tt.fp) ∧ Ch (fun r => r = x ∨ r = m ∨ r ∈ tt.fp) w w' ∧ (p, b, moveL ids j mv, .slice (some ⟨g, 0, none⟩) k cap) ∈ t'.leaves := by
  obtain ⟨ht1, hn1, ho1⟩ := h.tree
  have hf := leaf_fp hm
  have hgf : g ∈ tt.fp := hf.2 g rfl
  have gp : g ≠ p := fun e => leaf_own hn1 hm (by rw [← e]; rfl)
  have px : p ≠ x := fun e => h.ax (e ▸ hf.1)
  have pm : p ≠ m := fun e => h.am (e ▸ hf.1)
  have gx : g ≠ x := fun e => h.ax (e ▸ hgf)
  have gm : g ≠ m := fun e => h.am (e ▸ hgf)
  obtain ⟨hxl, hml, hfl⟩ := h.lt
  obtain ⟨u1, u2, u3⟩ := upd_inT (w := w) (w' := w') (v := .slice (some ⟨g, 0, none⟩) (k + 1) c) (u := .slice (some ⟨g, 0, none⟩) k cap) (is := moveL ids j mv) (fun r hr => .inl hr) hP hO (fun e => gp (by injection e)) ht1 hn1 hm (fun r hr h1 h2 => hb r (hfl r hr) h1 (fun e => h2 (by rw [e]; rfl)) fun e => h.am (e ▸ hr))
  obtain ⟨L, r1, r2, r3⟩ := upd_perm (is := moveL ids j mv) (u := .slice (some ⟨g, 0, none⟩) k cap) (leaf_blk hn1).1 hm
  have hmv' : ids[ids.length - 1]? = some mv := by rw [hk]; exact hmv
  have hmove := mapOK.move (u := .slice (some ⟨g, 0, none⟩) k cap) (mapOK.perm r1 h.ok) r3 hj hmv'
  have hfp : ∀ r ∈ (Tr.upd p (moveL ids j mv) (.slice (some ⟨g, 0, none⟩) k cap) tt).fp, r ∈ tt.fp ∧ r < w.heap.size := fun r hr => by
    rcases u3 r hr with e | e
    · exact ⟨e, hfl r e⟩
    · exfalso
      have hsub : ∀ (t : Tr Value), r ∈ (Tr.upd p (moveL ids j mv) (.slice (some ⟨g, 0, none⟩) k cap) t).fp → r ∈ t.fp ∨ r = g := fun t => by
        induction t with
        | leaf q c' is u =>
          unfold Tr.upd
          by_cases e' : q = p
          · rw [if_pos e']
            intro hr'
            rcases List.mem_cons.1 hr' with rfl | hr'
            · exact .inl (List.mem_cons_self ..)
            · exact .inr (by simpa [Value.ownBlock] using hr')
          · rw [if_neg e']; exact fun h => .inl h
        | fork q f l r' ihl ihr =>
          intro hr'
          have hr2 : r ∈ q :: ((Tr.upd p (moveL ids j mv) (.slice (some ⟨g, 0, none⟩) k cap) l).fp ++ (Tr.upd p (moveL ids j mv) (.slice (some ⟨g, 0, none⟩) k cap) r').fp) := hr'
          have goal : r ∈ q :: (l.fp ++ r'.fp) ∨ r = g := by
            rcases List.mem_cons.1 hr2 with e | e
            · simp [e]
            · rcases List.mem_append.1 e with e | e
              · rcases ihl e with e | e <;> simp [e]
              · rcases ihr e with e | e <;> simp [e]
          exact goal
      rcases hsub tt hr with e' | e'
      · have := hfl r e'; omega
      · have := hfl g hgf; omega
  refine ⟨_, _, Tr.upd p (moveL ids j mv) (.slice (some ⟨g, 0, none⟩) k cap) tt, ⟨?_, ⟨u1, u2, Tr.upd_ok ho1⟩, hM, (h.dat.put mv p j).del i, hmove.perm r2.symm, ?_, h.srt.drop i, ?_, ?_, h.xm, ?_, ?_⟩, (Tr.upd_boxes _ _ _ tt).2.2.1, fun r hr => (hfp r hr).1, ⟨hos, ht, ho, hz, fun r hr hn => ?_⟩, ?_⟩
  · show IsRow _ x _ #[ptr (Tr.upd _ _ _ tt).blk, _]
    rw [(Tr.upd_boxes _ _ _ tt).2.2.1]
    exact (hb x hxl (fun e => px e.symm) (fun e => gx e.symm) h.xm).trans h.row
  · have e1 := (itemsL_perm r1).symm.trans h.perm
    rw [itemsL_cons] at e1
    have e2 := (moveL_perm hj hmv').map fun y => (y, b)
    have e3 : S.Perm ((i, b) :: (((moveL ids j mv).map fun y => (y, b)) ++ itemsL L)) := e1.symm.trans (e2.append_right _)
    refine (itemsL_perm r2).trans ?_
    rw [itemsL_cons]
    exact drop_put h.srt e3
  · exact fun hr => h.ax (hfp x hr).1
  · exact fun hr => h.am (hfp m hr).1
  · have : (dropS i S).length ≤ S.length := List.length_filter_le _ _
    have := h.len
    omega
  · show (Tr.upd p (moveL ids j mv) (.slice (some ⟨g, 0, none⟩) k cap) tt).leaves.length ≤ n + 1
    rw [Tr.upd_leaves, List.length_map]
    exact Nat.le_succ_of_le h.few
  · exact hb r hr (fun e => hn (.inr (.inr (e ▸ hf.1)))) (fun e => hn (.inr (.inr (e ▸ hgf)))) fun e => hn (.inr (.inl e))
  · exact r2.mem_iff.2 (List.mem_cons_self ..)
/-- the empty leaf is out of the tree. -/
theorem out_end2 {w w1 : World} {x m n p : Nat} {tt : Tr Value} {D : DataW Value} {lk : Id → Option (Nat × Nat)} {S : List It} {b : Bx} {u : Value} {e : Ending} (h : Idx w x m n (some tt) D lk S) (hm : (p, b, [], u) ∈ tt.leaves) (hq : OutQ b tt w e w1) :
    ∃ t', e = .returned (rootV t') ∧ IsRow w1 x 61 #[ptr tt.blk, .map (some m)] ∧ Idx (w1.setCell ⟨x, 0, none⟩ (rootV t')) x m n t' D lk S ∧ (∀ r ∈ fpO t', r ∈ tt.fp) ∧ Ch (fun r => r = x ∨ r = m ∨ r ∈ tt.fp) w (w1.setCell ⟨x, 0, none⟩ (rootV t')) := by
  obtain ⟨ht1, hn1, ho1⟩ := h.tree
  obtain ⟨hc, hd⟩ := hq
  have hxr : IsRow w1 x 61 #[ptr tt.blk, .map (some m)] := Ch.row hc h.row h.ax
  have hM := map_keep h.map (hc.block m h.map.lt h.am)
  have hbm : b ∈ tt.boxes := List.mem_map.2 ⟨_, hm, rfl⟩
  obtain ⟨hok, ids, v, hp⟩ := Tr.del_spec ho1 hbm
  rw [at_uniq ho1 hm] at hp
  have heq := leaf_eq (leaf_blk hn1).1 hm (hp.mem_iff.2 (List.mem_cons_self ..)) rfl
  injection heq with _ heq
  injection heq with _ heq
  injection heq with heq _
  subst heq
  have hit : (itemsL (Tr.leavesO (Tr.del b tt))).Perm S := by
    have := (itemsL_perm hp).symm.trans h.perm
    rw [itemsL_cons] at this
    simpa using this
  have hmo : mapOK lk (Tr.leavesO (Tr.del b tt)) := fun y q i => by
    rw [h.ok y q i, show Tr.leavesO (some tt) = tt.leaves from rfl, Plc.perm hp, plc_cons]
    simp
  have hfw' : (Tr.leavesO (Tr.del b tt)).length ≤ n := by
    have e1 := hp.length_eq
    have e2 : tt.leaves.length ≤ n := h.few
    rw [List.length_cons] at e1
    omega
  have hset : ∀ t' : Option (Tr Value), e = .returned (rootV t') → inO w1 t' → (∀ r ∈ fpO t', r ∈ tt.fp) → t' = Tr.del b tt →
      e = .returned (rootV t') ∧ IsRow w1 x 61 #[ptr tt.blk, .map (some m)] ∧ Idx (w1.setCell ⟨x, 0, none⟩ (rootV t')) x m n t' D lk S ∧ (∀ r ∈ fpO t', r ∈ tt.fp) ∧ Ch (fun r => r = x ∨ r = m ∨ r ∈ tt.fp) w (w1.setCell ⟨x, 0, none⟩ (rootV t')) := fun t' he hi hf ht' => by
    have hfw : (Tr.leavesO t').length ≤ n := by rw [ht']; exact hfw'
    have nx : x ∉ fpO t' := fun hr => h.ax (hf x hr)
    have nm : m ∉ fpO t' := fun hr => h.am (hf m hr)
    refine ⟨he, hxr, ⟨?_, ?_, ?_, h.dat, by rw [ht']; exact hmo, by rw [ht']; exact hit, h.srt, nx, nm, h.xm, h.len, hfw⟩, hf, (hc.mono fun r hr _ => .inr (.inr hr)).setCell (p := ⟨x, 0, none⟩) (fun _ => .inl rfl) _⟩
    · have := hxr.put 0 (rootV t')
      simpa using this
    · exact inO_keep hi fun r hr => Below.heap_setCell _ _ _ _ fun e => nx (by have e' : r = x := e; exact e' ▸ hr)
    · exact map_keep hM (Below.heap_setCell _ _ _ _ fun e => h.xm e.symm)
  cases hdd : Tr.del b tt with
  | none =>
    rw [hdd] at hd
    exact ⟨none, hset none hd trivial (fun r hr => by cases hr) hdd.symm⟩
  | some t' =>
    rw [hdd] at hd hok
    obtain ⟨he, h1, h2, h3⟩ := hd
    exact ⟨some t', hset (some t') he ⟨h1, h2, hok⟩ h3 hdd.symm⟩
end Go.Proofs.Yteghhfkllclghaa.Ix
