/- index: with, by induction; at nil. -/
import Derived.Test.YteghhfkllclghaaIxWithFork
namespace Go.Proofs.Yteghhfkllclghaa.Ix
open Go.RowKit Go.Sort
theorem fp_fork {p f : Nat} {l r : Tr Value} (hn : (Tr.fork p f l r).fp.Nodup) : p ∉ l.fp ∧ p ∉ r.fp ∧ l.fp.Nodup ∧ r.fp.Nodup ∧ ∀ i ∈ l.fp, i ∉ r.fp := by
  have h : (p :: (l.fp ++ r.fp)).Nodup := hn
  rw [List.nodup_cons, List.mem_append, not_or, List.nodup_append] at h
  exact ⟨h.1.1, h.1.2, h.2.1, h.2.2.1, fun i hi hr => h.2.2.2 i hi i hr rfl⟩
theorem with_any {b : Bx} (hb : validB b = true) : ∀ (t : Tr Value) (w : World), t.inT w → t.fp.Nodup → t.ok → Calls Try.prog 45 #[ptr t.blk, vB b] w (WithQ b t w)
  | .leaf p c ids v, w, ht, hn, ho => by
    by_cases g : difN c b < 128
    · exact with_join' hb _ w ht hn ho g fun pl pf => by unfold Tr.ins; rw [if_pos g]
    · have e := dif_all ho hb (by have := dif_le c b; omega)
      subst e
      refine (with_same hb p ids v w ht).mono ?_
      rintro e w' ⟨rfl, hb'⟩
      have hi : ∀ pl pf, Tr.ins c pl pf nilS (Tr.leaf p c ids v) = Tr.leaf p c ids v := fun pl pf => by unfold Tr.ins; rw [if_neg g]
      refine ⟨0, 0, ?_, ?_, ?_, ?_, Ch.of_below hb'⟩
      · rw [hi]; rfl
      · rw [hi]; exact Tr.inT_below ht hb'
      · rw [hi]; exact hn
      · rw [hi]; exact fun k hk => .inl hk
  | .fork p f l r, w, ht, hn, ho => by
    by_cases g : difN (hull l.box r.box) b < f
    · exact with_join' hb _ w ht hn ho g fun pl pf => by unfold Tr.ins; rw [if_pos g]
    · obtain ⟨n1, n2, n3, n4, n5⟩ := fp_fork hn
      have hv := (Tr.ok_valid ho).1
      have h2 := dig_two b f
      by_cases e : dig b f = 0
      · refine (with_fork0 hb p f (hull l.box r.box) l (ptr r.blk) w hv ht.1 ht.2.1 n3 n1 g ho.1 e fun w' h' => with_any hb l w' h' n3 ho.2.1).mono ?_
        rintro _ w' ⟨pl, pf, rfl, h1, h2, h3, h4, h5⟩
        have hi : Tr.ins b pl pf nilS (Tr.fork p f l r) = Tr.fork p f (Tr.ins b pl pf nilS l) r := by conv => lhs; unfold Tr.ins; rw [if_neg g, if_pos e]
        have hr : r.inT w' := Tr.inT_ch ht.2.2 h4 fun k hk h => h.elim (fun e => n2 (e ▸ hk)) fun h => n5 k h hk
        have hbox := (Tr.ins_spec (pl := pl) (pf := pf) (v := nilS) hb ho.2.1).2.1
        have pn : p ∉ (Tr.ins b pl pf nilS l).fp := fun h => by
          rcases h3 p h with h | h
          · exact n1 h
          · have := ht.1.inside; omega
        have dj : ∀ i ∈ (Tr.ins b pl pf nilS l).fp, i ∉ r.fp := fun i h hr' => by
          rcases h3 i h with h | h
          · exact n5 i h hr'
          · have := Tr.inT_lt ht.2.2 i hr'; omega
        refine ⟨pl, pf, ?_, ?_, ?_, ?_, ?_⟩
        · rw [hi]
          show _ = Ending.returned (.tuple #[ptr p, ptr (Tr.at_ b (Tr.fork p f (Tr.ins b pl pf nilS l) r))])
          conv => rhs; unfold Tr.at_; rw [if_pos e]
        · rw [hi]
          refine ⟨?_, h1, hr⟩
          rw [if_pos rfl] at h5
          rw [hbox, hull_assoc, hull_comm b, ← hull_assoc]
          exact h5
        · rw [hi]
          show (p :: ((Tr.ins b pl pf nilS l).fp ++ r.fp)).Nodup
          rw [List.nodup_cons, List.mem_append, not_or, List.nodup_append]
          exact ⟨⟨pn, n2⟩, h2, n4, fun a ha c hc e => dj a ha (e ▸ hc)⟩
        · rw [hi]
          intro k hk
          rcases List.mem_cons.1 hk with rfl | hk
          · exact .inl (List.mem_cons_self ..)
          · rcases List.mem_append.1 hk with hk | hk
            · exact (h3 k hk).imp (fun h => by unfold Tr.fp; simp [h]) id
            · left; unfold Tr.fp; simp [hk]
        · exact h4.mono fun i h _ => by
            show i ∈ p :: (l.fp ++ r.fp)
            rcases h with rfl | h <;> simp [*]
      · have e1 : dig b f = 1 := by omega
        refine (with_fork1 hb p f (hull l.box r.box) r (ptr l.blk) w hv ht.1 ht.2.2 n4 n2 g ho.1 e1 fun w' h' => with_any hb r w' h' n4 ho.2.2.1).mono ?_
        rintro _ w' ⟨pl, pf, rfl, h1, h2, h3, h4, h5⟩
        have hi : Tr.ins b pl pf nilS (Tr.fork p f l r) = Tr.fork p f l (Tr.ins b pl pf nilS r) := by conv => lhs; unfold Tr.ins; rw [if_neg g, if_neg e]
        have hl : l.inT w' := Tr.inT_ch ht.2.1 h4 fun k hk h => h.elim (fun e => n1 (e ▸ hk)) fun h => n5 k hk h
        have hbox := (Tr.ins_spec (pl := pl) (pf := pf) (v := nilS) hb ho.2.2.1).2.1
        have pn : p ∉ (Tr.ins b pl pf nilS r).fp := fun h => by
          rcases h3 p h with h | h
          · exact n2 h
          · have := ht.1.inside; omega
        have dj : ∀ i ∈ l.fp, i ∉ (Tr.ins b pl pf nilS r).fp := fun i hl' h => by
          rcases h3 i h with h | h
          · exact n5 i hl' h
          · have := Tr.inT_lt ht.2.1 i hl'; omega
        refine ⟨pl, pf, ?_, ?_, ?_, ?_, ?_⟩
        · rw [hi]
          show _ = Ending.returned (.tuple #[ptr p, ptr (Tr.at_ b (Tr.fork p f l (Tr.ins b pl pf nilS r)))])
          conv => rhs; unfold Tr.at_; rw [if_neg e]
        · rw [hi]
          refine ⟨?_, hl, h1⟩
          rw [if_neg (by decide)] at h5
          rw [hbox, ← hull_assoc]
          exact h5
        · rw [hi]
          show (p :: (l.fp ++ (Tr.ins b pl pf nilS r).fp)).Nodup
          rw [List.nodup_cons, List.mem_append, not_or, List.nodup_append]
          exact ⟨⟨n1, pn⟩, n3, h2, fun a ha c hc e => dj a ha (e ▸ hc)⟩
        · rw [hi]
          intro k hk
          rcases List.mem_cons.1 hk with rfl | hk
          · exact .inl (List.mem_cons_self ..)
          · rcases List.mem_append.1 hk with hk | hk
            · left; unfold Tr.fp; simp [hk]
            · exact (h3 k hk).imp (fun h => by unfold Tr.fp; simp [h]) id
        · exact h4.mono fun i h _ => by
            show i ∈ p :: (l.fp ++ r.fp)
            rcases h with rfl | h <;> simp [*]
set_option maxRecDepth 100000 in
set_option maxHeartbeats 1000000 in
theorem with_nil (b : Bx) (w : World) : Calls Try.prog 45 #[nilP, vB b] w fun e w' => ∃ p, e = .returned (.tuple #[ptr p, ptr p]) ∧ w.heap.size ≤ p ∧ (Tr.leaf p b [] nilS).inT w' ∧ Below w.heap.size w w' := by
  obtain ⟨W, hW, hB, hR⟩ := box_row w 26 b
  have HW := Lib.hid hW
  have B0 := Lib.hid hB
  obtain ⟨b0, b1, b2, b3⟩ := box_facts hR
  clear hW hB hR
  unfold nilP vB
  unfold cB at HW
  go_enter Try.func45, Try.ntmps45
  go_upto_region 1 with fail
  rw [HW.out]
  go_wp2
  go_ret2
  refine ⟨W.heap.size, rfl, B0.out.size, ⟨?_, OwnS.nil _⟩, B0.out.trans ((alloc1 _ _).mono B0.out.size)⟩
  exact IsRow.made _ _ _
end Go.Proofs.Yteghhfkllclghaa.Ix
