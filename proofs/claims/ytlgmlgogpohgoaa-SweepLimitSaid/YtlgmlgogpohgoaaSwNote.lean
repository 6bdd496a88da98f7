/- The closure of sweep.All that notes a pair. -/
import Derived.Test.YtlgmlgogpohgoaaSwEntries
namespace Go.Proofs.Ytlgmlgogpohgoaa.Sw
open Go.RowKit Go.Sort Go.Shelf
open Go.Proofs.Ytlgmlgogpohgoaa.Geo hiding intOf
/-- all rows stay as they are, but those of meetings and one more. -/
structure Kp (row : Option Nat) (W W' : World) : Prop where
  size : W.heap.size ≤ W'.heap.size
  keep : ∀ g t cs, IsRow W g t cs → t ≠ 48 → t ≠ 40 → some g ≠ row → IsRow W' g t cs
section
variable {row : Option Nat} {W W' W'' : World}
theorem Kp.refl (row : Option Nat) (W : World) : Kp row W W := ⟨Nat.le_refl _, fun _ _ _ h _ _ _ => h⟩
theorem Kp.trans (h : Kp row W W') (k : Kp row W' W'') : Kp row W W'' := ⟨Nat.le_trans h.size k.size, fun g t cs hr h1 h2 h3 => k.keep g t cs (h.keep g t cs hr h1 h2 h3) h1 h2 h3⟩
theorem Kp.of_below (h : Below W.heap.size W W') : Kp row W W' := ⟨h.size, fun _ _ _ hr _ _ _ => hr.below h hr.inside⟩
theorem Kp.more (h : Kp none W W') : Kp row W W' := ⟨h.size, fun g t cs hr h1 h2 _ => h.keep g t cs hr h1 h2 (by simp)⟩
theorem Kp.of_grown {r : Option Nat} (h : W.grownBy W' r) (hr : ∀ k, r = some k → (∃ cs, IsRow W k 48 cs) ∨ (∃ cs, IsRow W k 40 cs) ∨ r = row) : Kp row W W' := by
  refine ⟨h.size, fun g t cs hrow h1 h2 h3 => ?_⟩
  refine (h.block g hrow.inside (fun e => ?_)).trans hrow
  have hg : W.heap[g]? = some (.cells cs t (0, 0)) := hrow
  rcases hr g e.symm with ⟨ds, hd⟩ | ⟨ds, hd⟩ | e2
  · have hd' : W.heap[g]? = some (.cells ds 48 (0, 0)) := hd
    rw [hg] at hd'
    injection hd' with hd'
    injection hd' with _ e3 _
    exact h1 e3
  · have hd' : W.heap[g]? = some (.cells ds 40 (0, 0)) := hd
    rw [hg] at hd'
    injection hd' with hd'
    injection hd' with _ e3 _
    exact h2 e3
  · exact h3 (e.trans e2)
theorem Kp.ownE {base : Nat} {v : Value} {l : List Ent} (h : Kp row W W') (ho : OwnE W base v l) (hne : v.ownBlock = none ∨ v.ownBlock ≠ row) : OwnE W' base v l :=
  Own.same ho fun k cs hk hr => h.keep k _ cs hr (by decide) (by decide) (by
    rcases hne with e | e
    · rw [e] at hk; cases hk
    · rw [← hk]; exact e)
end
/-- what stands while pairs are noted. -/
structure St (w0 : World) (base lb fb : Nat) (a : Option Addr) (n cap : Nat) (l : List Sg) (F : List Met) (W : World) : Prop where
  lrow : IsRow W lb 39 #[.slice a n cap]
  segs : Segs W base a l
  fnd : ∃ v, IsRow W fb 40 #[v] ∧ OwnM W base v F
  bel : Below base w0 W
  low : base ≤ lb ∧ base ≤ fb
section
variable {w0 : World} {base lb fb : Nat} {a : Option Addr} {n cap : Nat} {l : List Sg} {F : List Met} {W W' : World}
theorem St.later (h : St w0 base lb fb a n cap l F W) (hb : Below W.heap.size W W') : St w0 base lb fb a n cap l F W' := by
  obtain ⟨v, h1, h2⟩ := h.fnd
  have hs : base ≤ W.heap.size := Nat.le_trans h.low.1 (Nat.le_of_lt h.lrow.inside)
  exact ⟨h.lrow.below hb h.lrow.inside, h.segs.below (hb.mono hs), ⟨v, h1.below hb h1.inside, Own.below h2 hb⟩, h.bel.trans (hb.mono hs), h.low⟩
/-- .. if a row of entries is written. -/
theorem St.grown {r : Option Nat} (h : St w0 base lb fb a n cap l F W) (hg : W.grownBy W' r) (hr : ∀ k, r = some k → base ≤ k ∧ ∃ cs, IsRow W k 85 cs) : St w0 base lb fb a n cap l F W' := by
  obtain ⟨v, h1, h2⟩ := h.fnd
  have hs : base ≤ W.heap.size := Nat.le_trans h.low.1 (Nat.le_of_lt h.lrow.inside)
  have ne : ∀ g t cs, IsRow W g t cs → t ≠ 85 → some g ≠ r := by
    intro g t cs hrow ht e
    obtain ⟨_, ds, hd⟩ := hr g e.symm
    have hg' : W.heap[g]? = some (.cells cs t (0, 0)) := hrow
    have hd' : W.heap[g]? = some (.cells ds 85 (0, 0)) := hd
    rw [hg'] at hd'
    injection hd' with hd'
    injection hd' with _ e3 _
    exact ht e3
  have hb : Below base w0 W' := h.bel.grown hg hs (fun k e => (hr k e).1)
  have hb2 : Below base W W' := (Below.refl base W).grown hg hs (fun k e => (hr k e).1)
  refine ⟨(hg.block lb h.lrow.inside (ne lb _ _ h.lrow (by decide))).trans h.lrow, h.segs.below hb2, ⟨v, (hg.block fb h1.inside (ne fb _ _ h1 (by decide))).trans h1, h2.same fun k cs hk hrow => (hg.block k hrow.inside (ne k _ _ hrow (by decide))).trans hrow⟩, hb, h.low⟩
end
section
variable {ops : Array Oper} {rest : List Oper} {o : Oper} {ac : Act} {Q : Exit → Act → World → Prop} {w : World}
theorem wpList_appM (hgd : o.guard = none) (s x : Operand) (ho : o.op = .call { callee := .builtin .append, args := #[s, x], argTypes := #[40, 40] }) (base : Nat) (v : Value) (l : List Met) (m : Met) (g : Nat)
    (hs : ac.eval s = v) (hown : OwnM w base v l) (hx : ac.eval x = .slice (some ⟨g, 0, none⟩) 1 1) (hrow : IsRow w g 48 (encM m).toArray) (hlen : l.length ≤ 1000000000) (hbase : base ≤ w.heap.size)
    (h : ∀ v' w', OwnM w' base v' (l ++ [m]) → w.grownBy w' v.ownBlock → wpList Try.prog ops Q rest (ac.put o.dst v') w') : wpList Try.prog ops Q (o :: rest) ac w := by
  obtain ⟨i0, hi, hz0, hz1, hz2⟩ := info_of meet_info
  refine wpList_append_own w hgd s x _ ho base 48 i0 _ 3 24 Try.underlying40 hi hz2 hz0 hz1 (by decide) (by decide) v l.length (l.flatMap encM) hs hown ⟨g, 0, none⟩ 1 1 (encM m) hx rfl ?_ (encM_one m) (by unfold maxLen; omega) (by omega) hbase ?_
  · intro j u hj
    have e : (⟨g, 0, none⟩ : Addr).add j = ⟨g, j, none⟩ := by unfold Addr.add; split <;> simp_all
    rw [e, hrow.get]
    simpa using hj
  · intro v' w' h1 h2 _
    exact h v' w' (own_snoc h1) h2
end
theorem row_grown {w w' : World} {g : Nat} {t : TypeId} {cs : Array Value} {row : Option Nat} (h : IsRow w g t cs) (hg : w.grownBy w' row) (hne : row ≠ some g) : IsRow w' g t cs := (hg.block g h.inside (fun e => hne e.symm)).trans h
theorem row_ne {w : World} {g g' : Nat} {t t' : TypeId} {cs cs' : Array Value} (h : IsRow w g t cs) (h' : IsRow w g' t' cs') (ht : t ≠ t') : g ≠ g' := fun e => by
  subst e
  have h1 : w.heap[g]? = some (.cells cs t (0, 0)) := h
  have h2 : w.heap[g]? = some (.cells cs' t' (0, 0)) := h'
  rw [h1] at h2
  injection h2 with h2
  injection h2 with _ e2 _
  exact ht e2
theorem grown_set (W : World) (p : Addr) (u : Value) : W.grownBy (W.setCell p u) (some p.block) := ⟨rfl, rfl, rfl, Nat.le_of_eq (by simp), fun k _ hk => Below.heap_setCell W p u k (fun e => hk (by rw [e]))⟩
theorem St.note {w0 : World} {base lb fb : Nat} {a : Option Addr} {n cap : Nat} {l : List Sg} {F : List Met} {W w2 : World} {m : Met} {v v2 : Value} (h : St w0 base lb fb a n cap l F W) (r1 : IsRow W fb 40 #[v]) (o1 : OwnM W base v F)
    (hown : OwnM w2 base v2 (F ++ [m])) (hg : (W.alloc (.cells (encM m).toArray 48)).grownBy w2 v.ownBlock) :
    St w0 base lb fb a n cap l (F ++ [m]) (w2.setCell ⟨fb, 0, none⟩ v2) ∧ Kp none W (w2.setCell ⟨fb, 0, none⟩ v2) := by
  have hb := alloc1 W (.cells (encM m).toArray 48)
  have h' := h.later hb
  have r1' := r1.below hb r1.inside
  have o1' := Own.below o1 hb
  have hs : base ≤ (W.alloc (.cells (encM m).toArray 48)).heap.size := Nat.le_trans h'.low.1 (Nat.le_of_lt h'.lrow.inside)
  have r2 := row_grown r1' hg (Own.ne o1' r1' (by decide))
  have l2 := row_grown h'.lrow hg (Own.ne o1' h'.lrow (by decide))
  have hne : lb ≠ fb := row_ne l2 r2 (by decide)
  have hb2 : Below base w0 w2 := h'.bel.grown hg hs (fun k e => (Own.row o1' k e).1)
  have hb3 : Below base (W.alloc (.cells (encM m).toArray 48)) w2 := (Below.refl base _).grown hg hs (fun k e => (Own.row o1' k e).1)
  refine ⟨⟨l2.putOther (p := ⟨fb, 0, none⟩) hne _, h'.segs.below (hb3.setCell (p := ⟨fb, 0, none⟩) h.low.2 _), ⟨v2, r2.put 0 v2, Own.put hown r2 (by decide) 0 v2⟩, hb2.setCell (p := ⟨fb, 0, none⟩) h.low.2 _, h.low⟩, ?_⟩
  refine (Kp.of_below hb).trans ((Kp.of_grown hg (fun k e => .inl (Own.row o1' k e).2)).trans (Kp.of_grown (grown_set w2 ⟨fb, 0, none⟩ v2) (fun k e => .inr (.inl ?_))))
  injection e with e
  have e' : fb = k := e
  subst e'
  exact ⟨_, r2⟩
theorem kind_range (l : List Sg) (i j : Nat) : 0 ≤ kindN l i j ∧ kindN l i j ≤ 5 := by
  unfold kindN meetSg meetsF
  split
  · exact meets_range _ _ _ _
  · omega
set_option maxRecDepth 100000 in
set_option maxHeartbeats 4000000 in
theorem note_any {w0 : World} {base lb fb : Nat} {a : Option Addr} {n cap : Nat} {l : List Sg} {F : List Met} (W : World) (i j : Nat) (hst : St w0 base lb fb a n cap l F W) (hn : n = l.length) (hi : i < n) (hj : j < n) (hcap : n ≤ 20000) (hF : F.length ≤ 900000000) :
    Calls Try.prog 53 #[.int .i64 i, .int .i64 j, .pointer (some ⟨lb, 0, none⟩), .pointer (some ⟨fb, 0, none⟩)] W fun e W' => e = .returned (.tuple #[]) ∧ St w0 base lb fb a n cap l (F ++ (noteOf l i j).toList) W' ∧ Kp none W W' := by
  subst hn
  obtain ⟨p, hp⟩ : ∃ p, min i j = p := ⟨_, rfl⟩
  obtain ⟨q, hq⟩ : ∃ q, max i j = q := ⟨_, rfl⟩
  have hpl : p < l.length := by omega
  have hql : q < l.length := by omega
  have c1 : ∀ W : World, Calls Try.prog 54 #[.int .i64 i, .int .i64 j] W fun e w' => e = .returned (.tuple #[.int .i64 p, .int .i64 q]) ∧ W = w' := fun W => by
    have h := bounds_any i j W
    rw [show min (i : Int) j = (p : Int) by omega, show max (i : Int) j = (q : Int) by omega] at h
    exact h
  have HST := Lib.hid hst
  have HF := Lib.hid hF
  obtain ⟨v, hv1, hv2⟩ := hst.fnd
  obtain ⟨b, off, rfl, hbN, s0, s1, s2, s3⟩ := hst.segs.at_ hpl
  obtain ⟨b', off', he, _, t0, t1, t2, t3⟩ := hst.segs.at_ hql
  injection he with he
  injection he with e1 e2 _
  subst e1 e2
  have l0 : W.cell? ⟨lb, 0, none⟩ = some (.slice (some ⟨b, off, none⟩) l.length cap) := hst.lrow.get 0
  obtain ⟨k, hk⟩ : ∃ k, kindN l p q = k := ⟨_, rfl⟩
  have MT : Hid (Answers Try.prog 31 #[.agg #[.int .i64 (sgAt l p).a.x, .int .i64 (sgAt l p).a.y, .int .i64 (sgAt l p).b.x, .int .i64 (sgAt l p).b.y], .agg #[.int .i64 (sgAt l q).a.x, .int .i64 (sgAt l q).a.y, .int .i64 (sgAt l q).b.x, .int .i64 (sgAt l q).b.y]] (.int .i64 k)) := (meets_any _ _ _ _).to (by rw [← hk]; rfl)
  have HK := Lib.hid hk
  have HP := Lib.hid hp
  have HQ := Lib.hid hq
  clear hk hp hq hst hv1 hv2
  go_enter Try.func53, Try.ntmps53
  go_upto_region 1 with (refine (c1 _).mono ?_; rintro e w1 ⟨rfl, rfl⟩)
  have c2 := fun d os => MT.out.quiet W d os
  have L0 := cell_regrown l0
  have S0 := cell_regrown s0
  have S1 := cell_regrown s1
  have S2 := cell_regrown s2
  have S3 := cell_regrown s3
  have T0 := cell_regrown t0
  have T1 := cell_regrown t1
  have T2 := cell_regrown t2
  have T3 := cell_regrown t3
  refine wp_region_quiet_below (by kernel_rfl) (by kernel_rfl) ?_
  repeat (quiet_step (first | with_reducible exact c2 _ _))
  refine wpQuiet_nil ?_
  intro _ hw'
  obtain ⟨⟨dq, osq⟩, hw''⟩ := hw'
  subst hw''
  have hb1 := below_regrown W dq osq
  obtain ⟨W1, hW1⟩ : ∃ W1, grow (redrawn W dq) osq = W1 := ⟨_, rfl⟩
  rw [hW1] at hb1
  dsimp only
  rw [hW1]
  have HS1 := Lib.hid (HST.out.later hb1)
  have HP1 : Hid (Kp none W W1) := Kp.of_below hb1
  clear hW1 hb1 L0 S0 S1 S2 S3 T0 T1 T2 T3 l0 s0 s1 s2 s3 t0 t1 t2 t3 c1 c2 MT HST
  by_cases hk0 : k = 0
  · have z0 : (k != 0) = false := by simp [hk0]
    have hN : Hid (noteOf l i j = none) := by
      show noteOf l i j = none
      unfold noteOf
      rw [HP.out, HQ.out, HK.out, if_pos hk0]
    clear hk0
    go_wp2
    go_end0
    refine ⟨rfl, ?_, HP1.out⟩
    rw [hN.out, Option.toList_none, List.append_nil]
    exact HS1.out
  · have z0 : (k != 0) = true := by simp [hk0]
    have hN : Hid (noteOf l i j = some ⟨p, q, k⟩) := by
      show noteOf l i j = some ⟨p, q, k⟩
      unfold noteOf
      rw [HP.out, HQ.out, HK.out, if_neg hk0]
    obtain ⟨v', r1, o1⟩ := HS1.out.fnd
    have y0 := r1.get 0
    have y1 := r1.open_ 0
    have hbW : base ≤ W1.heap.size := Nat.le_trans HS1.out.low.1 (Nat.le_of_lt HS1.out.lrow.inside)
    have O2 := Lib.hid (Own.below o1 (alloc1 W1 (.cells (encM ⟨p, q, k⟩).toArray 48)))
    have R2 := Lib.hid (IsRow.made W1 48 (encM ⟨p, q, k⟩).toArray)
    have R1 := Lib.hid r1
    have O1 := Lib.hid o1
    clear hk0 o1 r1
    go_wp2_with (refine wpList_appM rfl _ _ rfl base v' F ⟨p, q, k⟩ W1.heap.size rfl O2.out rfl R2.out (by have := HF.out; omega) (by simp; omega) ?_; intro v2 w2 hown hgrow; obtain ⟨a2, cap2, hv2, hw2⟩ := Own.shape hown; clear hw2; subst hv2; have hr2 := row_grown (R1.out.later _) hgrow (Own.ne O2.out (R1.out.later _) (by decide)); have hq2 := hr2.get 0; have hp2 := hr2.open_ 0)
    go_end0
    obtain ⟨z1, z2⟩ := HS1.out.note R1.out O1.out hown hgrow
    rw [hN.out]
    rw [List.length_append, List.length_singleton] at z1 z2
    exact ⟨rfl, z1, HP1.out.trans z2⟩
end Go.Proofs.Ytlgmlgogpohgoaa.Sw
