/- index: with, at every tree. -/
import Derived.Test.YteghhfkllclghaaIxWith
namespace Go.Proofs.Yteghhfkllclghaa.Ix
open Go.RowKit Go.Sort
theorem join_fp (b : Bx) (pl pf : Nat) (t : Tr Value) : (Tr.join b pl pf nilS t).fp = pf :: pl :: t.fp ∨ (Tr.join b pl pf nilS t).fp = pf :: (t.fp ++ [pl]) := by
  unfold Tr.join
  split
  · exact .inl rfl
  · exact .inr rfl
theorem join_nodup {b : Bx} {pl pf N : Nat} {t : Tr Value} (hn : t.fp.Nodup) (hl : ∀ k ∈ t.fp, k < N) (h1 : N ≤ pl) (h2 : N ≤ pf) (h3 : pl ≠ pf) : (Tr.join b pl pf nilS t).fp.Nodup ∧ ∀ k ∈ (Tr.join b pl pf nilS t).fp, k ∈ t.fp ∨ N ≤ k := by
  have p1 : pl ∉ t.fp := fun h => by have := hl _ h; omega
  have p2 : pf ∉ t.fp := fun h => by have := hl _ h; omega
  rcases join_fp b pl pf t with e | e <;> rw [e]
  · refine ⟨?_, fun k hk => ?_⟩
    · rw [List.nodup_cons, List.nodup_cons]
      refine ⟨?_, p1, hn⟩
      simp only [List.mem_cons, not_or]
      exact ⟨fun h => h3 h.symm, p2⟩
    · simp only [List.mem_cons] at hk
      rcases hk with rfl | rfl | hk
      · exact .inr h2
      · exact .inr h1
      · exact .inl hk
  · refine ⟨?_, fun k hk => ?_⟩
    · rw [List.nodup_cons]
      refine ⟨?_, ?_⟩
      · simp only [List.mem_append, List.mem_singleton, not_or]
        exact ⟨p2, fun h => h3 h.symm⟩
      · rw [List.nodup_append]
        refine ⟨hn, by simp, fun a ha c hc => ?_⟩
        simp at hc
        subst hc
        exact fun e => p1 (e ▸ ha)
    · simp only [List.mem_cons, List.mem_append, List.not_mem_nil, or_false] at hk
      rcases hk with rfl | hk | rfl
      · exact .inr h2
      · exact .inl hk
      · exact .inr h1
theorem join_at {b : Bx} {pl pf : Nat} {t : Tr Value} : Tr.at_ b (Tr.join b pl pf nilS t) = pl := by
  unfold Tr.join
  split
  · rename_i e; unfold Tr.at_; rw [if_pos e]; unfold Tr.at_; rfl
  · rename_i e; unfold Tr.at_; rw [if_neg e]; unfold Tr.at_; rfl
theorem with_join' {b : Bx} (hb : validB b = true) (t : Tr Value) (w : World) (ht : t.inT w) (hn : t.fp.Nodup) (ho : t.ok) (hd : difN t.box b < t.fk) (hi : ∀ pl pf, Tr.ins b pl pf nilS t = Tr.join b pl pf nilS t) :
    Calls Try.prog 45 #[ptr t.blk, vB b] w (WithQ b t w) := by
  refine (with_join hb t w ht hn ho hd).mono ?_
  rintro e w' ⟨pl, pf, rfl, h1, h2, h3, h4, h5⟩
  have hj := join_nodup (b := b) hn (Tr.inT_lt ht) h2 h3 h4
  refine ⟨pl, pf, ?_, ?_, ?_, ?_, h5.mono fun _ h _ => h.elim⟩
  · rw [hi, join_at]
  · rw [hi]; exact h1
  · rw [hi]; exact hj.1
  · rw [hi]; exact hj.2
set_option maxRecDepth 100000 in
set_option maxHeartbeats 4000000 in
theorem with_same {b : Bx} (hb : validB b = true) (p : Nat) (ids : List Id) (v : Value) (w : World) (ht : (Tr.leaf p b ids v).inT w) :
    Calls Try.prog 45 #[ptr p, vB b] w fun e w' => e = .returned (.tuple #[ptr p, ptr p]) ∧ Below w.heap.size w w' := by
  have HBV := Lib.hid hb
  obtain ⟨W, hW, hB, hR⟩ := box_row w 26 b
  have HW := Lib.hid hW
  have B0 := Lib.hid hB
  have T0 := Lib.hid (Tr.inT_below ht hB).1
  obtain ⟨⟨a0, a1, a2, a3⟩, a4, _, _, _⟩ := node_facts T0.out
  obtain ⟨b0, b1, b2, b3⟩ := box_facts hR
  have g0 := cell_regrown a0
  have g1 := cell_regrown a1
  have g2 := cell_regrown a2
  have g3 := cell_regrown a3
  have k0 := cell_regrown b0
  have k1 := cell_regrown b1
  have k2 := cell_regrown b2
  have k3 := cell_regrown b3
  have q1 := ((differ_any HBV.out HBV.out).to (congrArg (Value.int .i64) (congrArg (Nat.cast (R := Int)) (dif_self b)))).quiet W
  clear hW hB hR ht
  unfold ptr vB
  unfold vB at q1
  unfold cB at HW
  go_enter Try.func45, Try.ntmps45
  go_wp2_with fail
  rw [HW.out]
  refine wp_region_quiet_below (by kernel_rfl) (by kernel_rfl) ?_
  repeat (go_big_quiet_step (first | with_reducible exact q1 _ _))
  refine wpQuiet_nil ?_
  intro _ hw'
  obtain ⟨⟨dq, osq⟩, hw''⟩ := hw'
  subst hw''
  have hb2 := below_regrown W dq osq
  clear g0 g1 g2 g3 k0 k1 k2 k3 q1
  generalize grow (redrawn W dq) osq = w2 at *
  have B2 := Lib.hid (B0.out.trans (hb2.mono B0.out.size))
  have hrow := T0.out.below hb2 T0.out.inside
  obtain ⟨_, a4', _, _, _⟩ := node_facts hrow
  clear hb2 hrow a0 a1 a2 a3 a4 b0 b1 b2 b3 HW B0 T0
  go_wp2
  go_ret2
  exact ⟨rfl, B2.out⟩
end Go.Proofs.Yteghhfkllclghaa.Ix
