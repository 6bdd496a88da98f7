/- Trees of boxes: a box added, a leaf changed, a leaf removed (plain mathematics). -/
import Derived.Test.YteghhfkllclghaaIxMath
namespace Go.Proofs.Yteghhfkllclghaa.Ix
section
variable {V : Type}
namespace Tr
theorem ins_spec {b : Bx} {pl pf : Nat} {v : V} (hb : validB b = true) : ∀ {t : Tr V}, t.ok →
    (ins b pl pf v t).ok ∧ (ins b pl pf v t).box = hull t.box b ∧
    (((ins b pl pf v t) = t ∧ b ∈ t.boxes) ∨ ((ins b pl pf v t).leaves.Perm ((pl, b, [], v) :: t.leaves) ∧ at_ b (ins b pl pf v t) = pl))
  | leaf p c ids u, h => by
    unfold ins
    by_cases g : difN c b < 128
    · rw [if_pos g]
      refine ⟨join_ok h hb g, join_box _ _ _ _ _, .inr ⟨?_, ?_⟩⟩
      · rcases join_leaves b pl pf v (leaf p c ids u) with e | e <;> rw [e]
        exact List.perm_append_comm
      · have hne := dif_ne g
        unfold join
        split
        · rename_i e; unfold at_ at_; rw [if_pos e]
        · rename_i e; unfold at_ at_; rw [if_neg e]
    · rw [if_neg g]
      have e := dif_all h hb (by have := dif_le c b; omega)
      subst e
      refine ⟨h, ?_, .inl ⟨rfl, by simp [boxes, leaves]⟩⟩
      show c = hull c c
      unfold hull
      cases c
      simp
  | fork p f l r, h => by
    obtain ⟨hf, hl, hr, h0, h1, ha⟩ := h
    have hfull : (fork p f l r).ok := ⟨hf, hl, hr, h0, h1, ha⟩
    unfold ins
    by_cases g : difN (hull l.box r.box) b < f
    · rw [if_pos g]
      refine ⟨join_ok hfull hb g, join_box _ _ _ _ _, .inr ⟨?_, ?_⟩⟩
      · rcases join_leaves b pl pf v (fork p f l r) with e | e <;> rw [e]
        exact List.perm_append_comm
      · unfold join
        split
        · rename_i e; unfold at_; rw [if_pos e]; unfold at_; rfl
        · rename_i e; unfold at_; rw [if_neg e]; unfold at_; rfl
    · rw [if_neg g]
      have hagree : ∀ c ∈ l.boxes ++ r.boxes, ∀ j, j < f → dig c j = dig b j := fun c hc j hj => by
        rw [← dig_box hfull hj c (by rw [boxes_fork]; exact hc)]
        exact dif_lt (by show j < difN (hull l.box r.box) b; omega)
      have h2 := dig_two b f
      by_cases e : dig b f = 0
      · rw [if_pos e]
        obtain ⟨k1, k2, k3⟩ := ins_spec (pl := pl) (pf := pf) (v := v) hb hl
        have hbox : ∀ c ∈ (ins b pl pf v l).boxes, c = b ∨ c ∈ l.boxes := fun c hc => by
          rcases k3 with ⟨e', _⟩ | ⟨hp, _⟩
          · rw [e'] at hc; exact .inr hc
          · have := (hp.map fun x => x.2.1).mem_iff.1 hc
            simpa [boxes] using this
        refine ⟨⟨hf, k1, hr, fun c hc => ?_, h1, ?_⟩, ?_, ?_⟩
        · rcases hbox c hc with rfl | hc
          · exact e
          · exact h0 c hc
        · have k : ∀ c ∈ (ins b pl pf v l).boxes ++ r.boxes, ∀ j, j < f → dig c j = dig b j := fun c hc j hj => by
            rw [List.mem_append] at hc
            rcases hc with hc | hc
            · rcases hbox c hc with rfl | hc
              · rfl
              · exact hagree c (List.mem_append_left _ hc) j hj
            · exact hagree c (List.mem_append_right _ hc) j hj
          intro c hc c' hc' j hj
          rw [k c hc j hj, k c' hc' j hj]
        · show hull (ins b pl pf v l).box r.box = hull (hull l.box r.box) b
          rw [k2, hull_assoc, hull_assoc, hull_comm b]
        · rcases k3 with ⟨e', hm⟩ | ⟨hp, hat⟩
          · exact .inl ⟨by rw [e'], by rw [boxes_fork]; exact List.mem_append_left _ hm⟩
          · refine .inr ⟨?_, ?_⟩
            · show ((ins b pl pf v l).leaves ++ r.leaves).Perm ((pl, b, [], v) :: (l.leaves ++ r.leaves))
              exact hp.append_right r.leaves
            · unfold at_; rw [if_pos e]; exact hat
      · rw [if_neg e]
        obtain ⟨k1, k2, k3⟩ := ins_spec (pl := pl) (pf := pf) (v := v) hb hr
        have hbox : ∀ c ∈ (ins b pl pf v r).boxes, c = b ∨ c ∈ r.boxes := fun c hc => by
          rcases k3 with ⟨e', _⟩ | ⟨hp, _⟩
          · rw [e'] at hc; exact .inr hc
          · have := (hp.map fun x => x.2.1).mem_iff.1 hc
            simpa [boxes] using this
        refine ⟨⟨hf, hl, k1, h0, fun c hc => ?_, ?_⟩, ?_, ?_⟩
        · rcases hbox c hc with rfl | hc
          · omega
          · exact h1 c hc
        · have k : ∀ c ∈ l.boxes ++ (ins b pl pf v r).boxes, ∀ j, j < f → dig c j = dig b j := fun c hc j hj => by
            rw [List.mem_append] at hc
            rcases hc with hc | hc
            · exact hagree c (List.mem_append_left _ hc) j hj
            · rcases hbox c hc with rfl | hc
              · rfl
              · exact hagree c (List.mem_append_right _ hc) j hj
          intro c hc c' hc' j hj
          rw [k c hc j hj, k c' hc' j hj]
        · show hull l.box (ins b pl pf v r).box = hull (hull l.box r.box) b
          rw [k2, hull_assoc]
        · rcases k3 with ⟨e', hm⟩ | ⟨hp, hat⟩
          · exact .inl ⟨by rw [e'], by rw [boxes_fork]; exact List.mem_append_right _ hm⟩
          · refine .inr ⟨?_, ?_⟩
            · show (l.leaves ++ (ins b pl pf v r).leaves).Perm ((pl, b, [], v) :: (l.leaves ++ r.leaves))
              exact (hp.append_left l.leaves).trans List.perm_middle
            · unfold at_; rw [if_neg e]; exact hat
theorem at_leaf {b : Bx} : ∀ {t : Tr V}, t.ok → b ∈ t.boxes → ∃ ids v, (at_ b t, b, ids, v) ∈ t.leaves
  | leaf p c ids v, _, h => by
    simp [boxes, leaves] at h
    subst h
    exact ⟨ids, v, by simp [at_, leaves]⟩
  | fork p f l r, h, hb => by
    rw [boxes_fork, List.mem_append] at hb
    rcases hb with hb | hb
    · obtain ⟨ids, v, k⟩ := at_leaf h.2.1 hb
      refine ⟨ids, v, ?_⟩
      unfold at_
      rw [if_pos (h.2.2.2.1 b hb)]
      exact List.mem_append_left _ k
    · obtain ⟨ids, v, k⟩ := at_leaf h.2.2.1 hb
      refine ⟨ids, v, ?_⟩
      unfold at_
      rw [if_neg (by rw [h.2.2.2.2.1 b hb]; decide)]
      exact List.mem_append_right _ k
/-- without the leaf for a box. -/
def del (b : Bx) : Tr V → Option (Tr V)
  | leaf _ _ _ _ => none
  | fork p f l r => if dig b f = 0 then (match del b l with | none => some r | some l' => some (fork p f l' r)) else (match del b r with | none => some l | some r' => some (fork p f l r'))
def leavesO : Option (Tr V) → List (Nat × Bx × List (List UInt8) × V)
  | none => []
  | some t => t.leaves
def okO : Option (Tr V) → Prop
  | none => True
  | some t => t.ok
theorem del_spec {b : Bx} : ∀ {t : Tr V}, t.ok → b ∈ t.boxes → okO (del b t) ∧ ∃ ids v, t.leaves.Perm ((at_ b t, b, ids, v) :: leavesO (del b t))
  | leaf p c ids v, _, h => by
    simp [boxes, leaves] at h
    subst h
    exact ⟨trivial, ids, v, List.Perm.refl _⟩
  | fork p f l r, h, hb => by
    obtain ⟨hf, hl, hr, h0, h1, ha⟩ := h
    rw [boxes_fork, List.mem_append] at hb
    have sub : ∀ {q q' : Tr V} {x}, q.leaves.Perm (x :: q'.leaves) → ∀ c ∈ q'.boxes, c ∈ q.boxes := fun {q q' x} hp c hc => by
      have := (hp.map fun x => x.2.1).mem_iff.2 (List.mem_cons_of_mem _ hc)
      exact this
    rcases hb with hb | hb
    · have e := h0 b hb
      obtain ⟨k1, ids, v, k2⟩ := del_spec hl hb
      unfold del at_
      rw [if_pos e, if_pos e]
      cases hd : del b l with
      | none =>
        rw [hd] at k2
        refine ⟨hr, ids, v, ?_⟩
        exact (k2.append_right r.leaves)
      | some l' =>
        rw [hd] at k1 k2
        refine ⟨⟨hf, k1, hr, fun c hc => h0 c (sub k2 c hc), h1, fun c hc c' hc' => ?_⟩, ids, v, k2.append_right r.leaves⟩
        have k : ∀ c ∈ l'.boxes ++ r.boxes, c ∈ l.boxes ++ r.boxes := fun c hc => by
          rw [List.mem_append] at hc ⊢
          exact hc.imp (sub k2 c) id
        exact ha c (k c hc) c' (k c' hc')
    · have e : ¬ dig b f = 0 := by rw [h1 b hb]; decide
      obtain ⟨k1, ids, v, k2⟩ := del_spec hr hb
      unfold del at_
      rw [if_neg e, if_neg e]
      cases hd : del b r with
      | none =>
        rw [hd] at k2
        refine ⟨hl, ids, v, ?_⟩
        exact (k2.append_left l.leaves).trans (by simp [leavesO])
      | some r' =>
        rw [hd] at k1 k2
        refine ⟨⟨hf, hl, k1, h0, fun c hc => h1 c (sub k2 c hc), fun c hc c' hc' => ?_⟩, ids, v, (k2.append_left l.leaves).trans List.perm_middle⟩
        have k : ∀ c ∈ l.boxes ++ r'.boxes, c ∈ l.boxes ++ r.boxes := fun c hc => by
          rw [List.mem_append] at hc ⊢
          exact hc.imp id (sub k2 c)
        exact ha c (k c hc) c' (k c' hc')
/-- other Ids in the leaf at a block. -/
def upd (q : Nat) (is : List (List UInt8)) (u : V) : Tr V → Tr V
  | leaf p b ids v => if p = q then leaf p b is u else leaf p b ids v
  | fork p f l r => fork p f (upd q is u l) (upd q is u r)
theorem upd_boxes (q : Nat) (is : List (List UInt8)) (u : V) : ∀ (t : Tr V), (upd q is u t).boxes = t.boxes ∧ (upd q is u t).box = t.box ∧ (upd q is u t).blk = t.blk ∧ (upd q is u t).fk = t.fk
  | leaf p b ids v => by unfold upd; split <;> exact ⟨rfl, rfl, rfl, rfl⟩
  | fork p f l r => by
    have h1 := upd_boxes q is u l
    have h2 := upd_boxes q is u r
    unfold upd
    refine ⟨by rw [boxes_fork, boxes_fork, h1.1, h2.1], ?_, rfl, rfl⟩
    show hull _ _ = hull _ _
    rw [h1.2.1, h2.2.1]
theorem upd_ok {q : Nat} {is : List (List UInt8)} {u : V} : ∀ {t : Tr V}, t.ok → (upd q is u t).ok
  | leaf p b ids v, h => by unfold upd; split <;> exact h
  | fork p f l r, h => by
    have h1 := (upd_boxes q is u l).1
    have h2 := (upd_boxes q is u r).1
    unfold upd
    exact ⟨h.1, upd_ok h.2.1, upd_ok h.2.2.1, by rw [h1]; exact h.2.2.2.1, by rw [h2]; exact h.2.2.2.2.1, by rw [h1, h2]; exact h.2.2.2.2.2⟩
theorem upd_leaves (q : Nat) (is : List (List UInt8)) (u : V) : ∀ (t : Tr V), (upd q is u t).leaves = t.leaves.map fun x => if x.1 = q then (x.1, x.2.1, is, u) else x
  | leaf p b ids v => by
    unfold upd
    by_cases h : p = q
    · rw [if_pos h]; simp [leaves, h]
    · rw [if_neg h]; simp [leaves, h]
  | fork p f l r => by
    show (upd q is u l).leaves ++ (upd q is u r).leaves = (l.leaves ++ r.leaves).map _
    rw [upd_leaves q is u l, upd_leaves q is u r, List.map_append]
end Tr
end
end Go.Proofs.Yteghhfkllclghaa.Ix
