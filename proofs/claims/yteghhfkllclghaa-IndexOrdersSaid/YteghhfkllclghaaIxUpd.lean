/- index: a leaf of a tree in memory gets other Ids; the root of with. -/
import Derived.Test.YteghhfkllclghaaIxBox
namespace Go.Proofs.Yteghhfkllclghaa.Ix
open Go.RowKit Go.Sort
theorem leaf_blk : ∀ {t : Tr Value}, t.fp.Nodup → (t.leaves.map fun z => z.1).Nodup ∧ ∀ z ∈ t.leaves, z.1 ∈ t.fp
  | .leaf p b ids v, _ => ⟨by simp [Tr.leaves], fun z hz => by simp [Tr.leaves] at hz; subst hz; exact List.mem_cons_self ..⟩
  | .fork p f l r, h => by
    obtain ⟨n1, n2, n3, n4, n5⟩ := fp_fork h
    have h1 := leaf_blk n3
    have h2 := leaf_blk n4
    refine ⟨?_, fun z hz => ?_⟩
    · show ((l.leaves ++ r.leaves).map fun z => z.1).Nodup
      rw [List.map_append, List.nodup_append]
      refine ⟨h1.1, h2.1, fun a ha c hc e => ?_⟩
      obtain ⟨z, hz, rfl⟩ := List.mem_map.1 ha
      obtain ⟨y, hy, rfl⟩ := List.mem_map.1 hc
      exact n5 _ (h1.2 z hz) (e ▸ h2.2 y hy)
    · show z.1 ∈ p :: (l.fp ++ r.fp)
      rcases List.mem_append.1 (show z ∈ l.leaves ++ r.leaves from hz) with hz | hz
      · simp [h1.2 z hz]
      · simp [h2.2 z hz]
theorem upd_perm {t : Tr Value} {p : Nat} {b : Bx} {ids is : List Id} {v u : Value} (hn : (t.leaves.map fun z => z.1).Nodup) (hm : (p, b, ids, v) ∈ t.leaves) :
    ∃ L, t.leaves.Perm ((p, b, ids, v) :: L) ∧ (Tr.upd p is u t).leaves.Perm ((p, b, is, u) :: L) ∧ ∀ z ∈ L, z.1 ≠ p := by
  obtain ⟨l1, l2, e⟩ := List.append_of_mem hm
  rw [e, List.map_append, List.map_cons, List.nodup_append, List.nodup_cons] at hn
  have h1 : ∀ z ∈ l1, z.1 ≠ p := fun z hz h => hn.2.2 z.1 (List.mem_map_of_mem hz) p (by simp) h
  have h2 : ∀ z ∈ l2, z.1 ≠ p := fun z hz h => hn.2.1.1 (List.mem_map.2 ⟨z, hz, h⟩)
  have keep : ∀ l : List (Lf Value), (∀ z ∈ l, z.1 ≠ p) → (l.map fun x => if x.1 = p then (x.1, x.2.1, is, u) else x) = l := fun l hl => by
    conv => rhs; rw [← List.map_id l]
    exact List.map_congr_left fun z hz => by rw [if_neg (hl z hz)]; rfl
  refine ⟨l1 ++ l2, ?_, ?_, fun z hz => ?_⟩
  · rw [e]; exact List.perm_middle
  · rw [Tr.upd_leaves, e, List.map_append, List.map_cons, keep l1 h1, keep l2 h2, if_pos rfl]
    exact List.perm_middle
  · rcases List.mem_append.1 hz with h | h
    · exact h1 z h
    · exact h2 z h
theorem upd_miss {p : Nat} {is : List Id} {u : Value} : ∀ {t : Tr Value}, p ∉ t.fp → Tr.upd p is u t = t
  | .leaf q b ids v, h => by
    unfold Tr.upd
    rw [if_neg (fun e => h (by rw [← e]; exact List.mem_cons_self ..))]
  | .fork q f l r, h => by
    have h' : p ∉ q :: (l.fp ++ r.fp) := h
    simp only [List.mem_cons, List.mem_append, not_or] at h'
    unfold Tr.upd
    rw [upd_miss h'.2.1, upd_miss h'.2.2]
/-- the leaf at p has the Ids is now; nothing else of the tree has changed. -/
theorem upd_inT {w w' : World} {p : Nat} {b : Bx} {ids is : List Id} {v u : Value} (hu : ∀ k, u.ownBlock = some k → v.ownBlock = some k ∨ w.heap.size ≤ k)
    (hp : IsRow w' p 72 (nodeC b 128 nilP nilP u)) (hs : OwnS w' u is) (hup : u.ownBlock ≠ some p) : ∀ {t : Tr Value}, t.inT w → t.fp.Nodup → (p, b, ids, v) ∈ t.leaves → (∀ k ∈ t.fp, k ≠ p → v.ownBlock ≠ some k → w'.heap[k]? = w.heap[k]?) →
    (Tr.upd p is u t).inT w' ∧ (Tr.upd p is u t).fp.Nodup ∧ ∀ k ∈ (Tr.upd p is u t).fp, k ∈ t.fp ∨ w.heap.size ≤ k
  | .leaf q c ids' v', h, hn, hm, hk => by
    simp [Tr.leaves] at hm
    obtain ⟨rfl, rfl, rfl, rfl⟩ := hm
    unfold Tr.upd
    rw [if_pos rfl]
    refine ⟨⟨hp, hs⟩, ?_, fun k hk' => ?_⟩
    · show (p :: u.ownBlock.toList).Nodup
      cases hu' : u.ownBlock with
      | none => simp
      | some k =>
        have : k ≠ p := fun e => hup (by rw [hu', e])
        simpa using fun e => this e.symm
    · rcases List.mem_cons.1 hk' with rfl | hk'
      · exact .inl (List.mem_cons_self ..)
      · cases hu' : u.ownBlock with
        | none => rw [hu'] at hk'; cases hk'
        | some k2 =>
          rw [hu'] at hk'
          simp at hk'
          subst hk'
          rcases hu k hu' with e | e
          · left; show k ∈ p :: v.ownBlock.toList; rw [e]; simp
          · exact .inr e
  | .fork q f l r, h, hn, hm, hk => by
    obtain ⟨n1, n2, n3, n4, n5⟩ := fp_fork hn
    have kl : ∀ k ∈ l.fp, k ≠ p → v.ownBlock ≠ some k → w'.heap[k]? = w.heap[k]? := fun k hk' => hk k (by show k ∈ q :: (l.fp ++ r.fp); simp [hk'])
    have kr : ∀ k ∈ r.fp, k ≠ p → v.ownBlock ≠ some k → w'.heap[k]? = w.heap[k]? := fun k hk' => hk k (by show k ∈ q :: (l.fp ++ r.fp); simp [hk'])
    have kq : q ≠ p → v.ownBlock ≠ some q → w'.heap[q]? = w.heap[q]? := fun a b => hk q (List.mem_cons_self ..) a b
    have hbx := Tr.upd_boxes p is u
    rcases List.mem_append.1 (show (p, b, ids, v) ∈ l.leaves ++ r.leaves from hm) with hm | hm
    · have hf := leaf_fp hm
      obtain ⟨a1, a2, a3⟩ := upd_inT hu hp hs hup h.2.1 n3 hm kl
      have er : Tr.upd p is u r = r := upd_miss fun e => n5 p hf.1 e
      have hqr : q ≠ p := fun e => n1 (e ▸ hf.1)
      have hqv : v.ownBlock ≠ some q := fun e => n1 (hf.2 q e)
      have hr' : r.inT w' := Tr.inT_keep h.2.2 fun k hk' => kr k hk' (fun e => n5 p hf.1 (e ▸ hk')) fun e => n5 k (hf.2 k e) hk'
      have e2 : Tr.upd p is u (.fork q f l r) = .fork q f (Tr.upd p is u l) r := by conv => lhs; unfold Tr.upd; rw [er]
      rw [e2]
      refine ⟨⟨?_, a1, hr'⟩, ?_, fun k hk' => ?_⟩
      · rw [(hbx l).2.1, (hbx l).2.2.1]
        exact (kq hqr hqv).trans h.1
      · show (q :: ((Tr.upd p is u l).fp ++ r.fp)).Nodup
        rw [List.nodup_cons, List.mem_append, not_or, List.nodup_append]
        refine ⟨⟨fun e => ?_, n2⟩, a2, n4, fun a ha c hc e => ?_⟩
        · rcases a3 q e with e | e
          · exact n1 e
          · have := h.1.inside; omega
        · rcases a3 a ha with e' | e'
          · exact n5 a e' (e ▸ hc)
          · have := Tr.inT_lt h.2.2 c hc; omega
      · rcases List.mem_cons.1 hk' with rfl | hk'
        · exact .inl (List.mem_cons_self ..)
        · rcases List.mem_append.1 hk' with hk' | hk'
          · exact (a3 k hk').imp (fun e => by show k ∈ q :: (l.fp ++ r.fp); simp [e]) fun e => e
          · left; show k ∈ q :: (l.fp ++ r.fp); simp [hk']
    · have hf := leaf_fp hm
      obtain ⟨a1, a2, a3⟩ := upd_inT hu hp hs hup h.2.2 n4 hm kr
      have el : Tr.upd p is u l = l := upd_miss fun e => n5 p e hf.1
      have hqr : q ≠ p := fun e => n2 (e ▸ hf.1)
      have hqv : v.ownBlock ≠ some q := fun e => n2 (hf.2 q e)
      have hl' : l.inT w' := Tr.inT_keep h.2.1 fun k hk' => kl k hk' (fun e => n5 p (e ▸ hk') hf.1) fun e => n5 k hk' (hf.2 k e)
      have e2 : Tr.upd p is u (.fork q f l r) = .fork q f l (Tr.upd p is u r) := by conv => lhs; unfold Tr.upd; rw [el]
      rw [e2]
      refine ⟨⟨?_, hl', a1⟩, ?_, fun k hk' => ?_⟩
      · rw [(hbx r).2.1, (hbx r).2.2.1]
        exact (kq hqr hqv).trans h.1
      · show (q :: (l.fp ++ (Tr.upd p is u r).fp)).Nodup
        rw [List.nodup_cons, List.mem_append, not_or, List.nodup_append]
        refine ⟨⟨n1, fun e => ?_⟩, n3, a2, fun a ha c hc e => ?_⟩
        · rcases a3 q e with e | e
          · exact n2 e
          · have := h.1.inside; omega
        · rcases a3 c hc with e' | e'
          · exact n5 a ha (e ▸ e')
          · have := Tr.inT_lt h.2.1 a ha; omega
      · rcases List.mem_cons.1 hk' with rfl | hk'
        · exact .inl (List.mem_cons_self ..)
        · rcases List.mem_append.1 hk' with hk' | hk'
          · left; show k ∈ q :: (l.fp ++ r.fp); simp [hk']
          · exact (a3 k hk').imp (fun e => by show k ∈ q :: (l.fp ++ r.fp); simp [e]) fun e => e
/-- what with does at a root. -/
theorem with_root {b : Bx} (hb : validB b = true) (t : Option (Tr Value)) (w : World) (ht : inO w t) (lk : Id → Option (Nat × Nat)) (hok : mapOK lk (Tr.leavesO t)) :
    Calls Try.prog 45 #[rootV t, vB b] w fun e w' => ∃ (t1 : Tr Value) (p : Nat) (ids : List Id) (v : Value), e = .returned (.tuple #[ptr t1.blk, ptr p]) ∧ t1.inT w' ∧ t1.fp.Nodup ∧ t1.ok ∧ (∀ k ∈ t1.fp, k ∈ fpO t ∨ w.heap.size ≤ k) ∧ Ch (· ∈ fpO t) w w' ∧
      (p, b, ids, v) ∈ t1.leaves ∧ mapOK lk t1.leaves ∧ (itemsL t1.leaves).Perm (itemsL (Tr.leavesO t)) ∧ t1.leaves.length ≤ (Tr.leavesO t).length + 1 := by
  have hadd : ∀ {L M : List (Lf Value)} {pl : Nat}, M.Perm ((pl, b, [], nilS) :: L) → mapOK lk L → mapOK lk M ∧ (itemsL M).Perm (itemsL L) := fun {L M pl} hp h => by
    refine ⟨fun x p i => ?_, (itemsL_perm hp).trans (by rw [itemsL_cons]; simp)⟩
    rw [h x p i, Plc.perm hp, plc_cons]
    simp
  cases t with
  | none =>
    refine (with_nil b w).mono ?_
    rintro e w' ⟨p, rfl, hp, hi, hbw⟩
    have h2 := hadd (L := []) (M := [(p, b, [], nilS)]) (List.Perm.refl _) hok
    have hfp : (Tr.leaf p b [] nilS).fp = [p] := rfl
    refine ⟨Tr.leaf p b [] nilS, p, [], nilS, rfl, hi, by rw [hfp]; simp, hb, fun k hk => .inr ?_, Ch.of_below hbw, by simp [Tr.leaves], h2.1, h2.2, Nat.le_refl _⟩
    rw [hfp, List.mem_singleton] at hk
    omega
  | some t =>
    refine (with_any hb t w ht.1 ht.2.1 ht.2.2).mono ?_
    rintro e w' ⟨pl, pf, rfl, h1, h2, h3, h4⟩
    obtain ⟨s1, s2, s3⟩ := Tr.ins_spec (pl := pl) (pf := pf) (v := nilS) hb ht.2.2
    have hmem : b ∈ (Tr.ins b pl pf nilS t).boxes := by
      rcases s3 with ⟨e, hm⟩ | ⟨hp, _⟩
      · rw [e]; exact hm
      · exact List.mem_map.2 ⟨_, hp.mem_iff.2 (List.mem_cons_self ..), rfl⟩
    obtain ⟨ids, v, hl⟩ := Tr.at_leaf s1 hmem
    have h5 : (mapOK lk (Tr.ins b pl pf nilS t).leaves ∧ (itemsL (Tr.ins b pl pf nilS t).leaves).Perm (itemsL t.leaves)) ∧ (Tr.ins b pl pf nilS t).leaves.length ≤ t.leaves.length + 1 := by
      rcases s3 with ⟨e, _⟩ | ⟨hp, _⟩
      · rw [e]; exact ⟨⟨hok, List.Perm.refl _⟩, Nat.le_succ _⟩
      · exact ⟨hadd hp hok, by rw [hp.length_eq]; exact Nat.le_refl _⟩
    exact ⟨_, _, ids, v, rfl, h1, h2, s1, h3, h4, hl, h5.1.1, h5.1.2, h5.2⟩
end Go.Proofs.Yteghhfkllclghaa.Ix
