/- sweep.All by contract. -/
import Derived.Test.YtlgmlgogpohgoaaSwVisitW
import Derived.Deep.AppendLies
namespace Go.Proofs.Ytlgmlgogpohgoaa.Sw
open Go.RowKit Go.Sort Go.Shelf
open Go.Proofs.Ytlgmlgogpohgoaa.Geo hiding intOf
theorem sweep_len (l : List Sg) (P : List Ent) : (sweepN l P).1.length ≤ P.length ∧ (sweepN l P).2.length ≤ P.length * P.length := by
  suffices H : ∀ k, k ≤ P.length → (sweepN l (P.take k)).1.length ≤ k ∧ (sweepN l (P.take k)).2.length ≤ k * k by
    have := H P.length (Nat.le_refl _)
    rwa [List.take_length] at this
  intro k
  induction k with
  | zero => intro _; exact ⟨Nat.le_refl _, Nat.le_refl _⟩
  | succ k ih =>
    intro hk
    obtain ⟨h1, h2⟩ := ih (by omega)
    rw [List.take_succ_eq_append_getElem (by omega), sweepN_snoc]
    unfold stepN
    have h3 := keptN_le P[k] (sweepN l (P.take k)).1
    have h4 := notes_le l P[k] (sweepN l (P.take k)).1
    dsimp only
    rw [List.length_append, List.length_append, List.length_singleton]
    refine ⟨by omega, ?_⟩
    have : (k + 1) * (k + 1) = k * k + k + (k + 1) := by rw [Nat.add_mul, Nat.mul_add, Nat.one_mul, Nat.mul_one]
    omega
/-- what stands between two rounds of the sweep. -/
def AI (w0 : World) (base lb fb : Nat) (a : Option Addr) (n cap : Nat) (l : List Sg) (g b1 b2 : Nat) (E : List Ent) (k : Nat) (s : Value) (W : World) : Prop :=
  OwnE W b1 (.slice (some ⟨g, 0, none⟩) n n) E ∧ g < b2 ∧ b2 ≤ W.heap.size ∧ OwnE W b2 s (sweepN l (E.take k)).1 ∧ St w0 base lb fb a n cap l (sweepN l (E.take k)).2 W
theorem ents_facts {l : List Sg} {E : List Ent} {n : Nat} (hp : E.Perm (entsOf l)) (hn : n = l.length) : E.length = n ∧ ∀ e ∈ E, e.i < n := by
  refine ⟨by rw [hp.length_eq, hn]; unfold entsOf; simp, fun e he => ?_⟩
  have := hp.mem_iff.1 he
  unfold entsOf at this
  rw [List.mem_map] at this
  obtain ⟨i, hi, rfl⟩ := this
  rw [List.mem_range] at hi
  rw [hn]
  exact hi
theorem open_mem {l : List Sg} (P : List Ent) : ∀ e ∈ (sweepN l P).1, e ∈ P := by
  suffices H : ∀ k, k ≤ P.length → ∀ e ∈ (sweepN l (P.take k)).1, e ∈ P.take k by
    have := H P.length (Nat.le_refl _)
    rwa [List.take_length] at this
  intro k
  induction k with
  | zero => intro _ e he; simp [sweepN] at he
  | succ k ih =>
    intro hk e he
    rw [List.take_succ_eq_append_getElem (by omega), sweepN_snoc] at he
    unfold stepN at he
    dsimp only at he
    rw [List.take_succ_eq_append_getElem (by omega)]
    rw [List.mem_append] at he ⊢
    rcases he with he | he
    · exact .inl (ih (by omega) e (List.mem_filter.1 he).1)
    · exact .inr he
/-- a round. -/
theorem AI.step {w0 : World} {base lb fb : Nat} {a : Option Addr} {n cap : Nat} {l : List Sg} {g b1 b2 : Nat} {E : List Ent} {k : Nat} {wr V w3 X w4 : World} {ao : Option Addr} {no cO c2 : Nat} {x : Ent} {v' : Value} (hl : base ≤ b2)
    (h : AI w0 base lb fb a n cap l g b1 b2 E k (.slice ao no cO) wr) (hx : E[k]? = some x) (hV : Below wr.heap.size wr V) (hk : Kp (ao.map Addr.block) V w3) (h1 : OwnE w3 b2 (.slice ao c2 cO) (keptN x (sweepN l (E.take k)).1))
    (h2 : St w0 base lb fb a n cap l ((sweepN l (E.take k)).2 ++ notesN l x (sweepN l (E.take k)).1) w3) (hX : Below w3.heap.size w3 X) (hg : X.grownBy w4 (Value.slice ao c2 cO).ownBlock) (ho : OwnE w4 b2 v' (keptN x (sweepN l (E.take k)).1 ++ [x])) :
    AI w0 base lb fb a n cap l g b1 b2 E (k + 1) v' w4 ∧ Kp (ao.map Addr.block) V w4 := by
  obtain ⟨i1, i2, i3, i4, i5⟩ := h
  have e0 : (Value.slice ao c2 cO).ownBlock = ao.map Addr.block := by cases ao <;> rfl
  have hk4 : Kp (ao.map Addr.block) V w4 := (hk.trans (Kp.of_below hX)).trans (Kp.of_grown hg (fun k e => .inr (.inr e0)))
  have h1X := Own.below h1 hX
  have e1 : E.take (k + 1) = E.take k ++ [x] := take_one hx
  refine ⟨⟨Kp.ownE hk4 (Own.below i1 hV) (.inr fun e => ?_), i2, ?_, ?_, ?_⟩, hk4⟩
  · have h0 : (Value.slice ao no cO).ownBlock = ao.map Addr.block := by cases ao <;> rfl
    have := (Own.row i4 g (by rw [h0, ← e]; rfl)).1
    omega
  · have := hV.size
    have := hk4.size
    omega
  · rw [e1, sweepN_snoc]
    exact ho
  · rw [e1, sweepN_snoc]
    refine (h2.later hX).grown hg fun k e => ?_
    obtain ⟨r1, r2⟩ := Own.row h1X k e
    exact ⟨Nat.le_trans hl r1, r2⟩
section
variable {w : World} {ops : Array Oper} {o : Oper} {ac : Act} {Q : Exit → Act → World → Prop}
theorem step_appE {K : Act → World → Prop} {X : Prop} (hgd : o.guard = none) (s x : Operand)
    (ho : o.op = .call { callee := .builtin .append, args := #[s, x], argTypes := #[80, 80] }) (base : Nat) (v : Value) (l : List Ent) (e : Ent) (g : Nat)
    (hs : ac.eval s = v) (hown : OwnE w base v l) (hx : ac.eval x = .slice (some ⟨g, 0, none⟩) 1 1) (hrow : IsRow w g 85 (encE e).toArray) (hlen : l.length ≤ 20000) (hbase : base ≤ w.heap.size)
    (h : ∀ v' w', OwnE w' base v' (l ++ [e]) → w.grownBy w' v.ownBlock → K (ac.put o.dst v') w') :
    if Region.wanted o (yielded ops ac.tmps) = true then Oper.wp Try.prog o ac w K Q else X := by
  obtain ⟨i0, hi, hz0, hz1, hz2⟩ := info_of entry_info
  refine step_append_lies (P := Try.prog) w hgd s x _ ho base 85 i0 _ 5 40 Try.underlying80 hi hz2 hz0 hz1 rfl (by decide) v l.length (l.flatMap encE) hs hown ⟨g, 0, none⟩ 1 1 (encE e) hx rfl ?_ (encE_one e) (by decide) (by unfold maxLen; omega) (by omega) hbase w.heap.size rfl ?_
  · intro j u hj
    have e : (⟨g, 0, none⟩ : Addr).add j = ⟨g, j, none⟩ := by unfold Addr.add; split <;> simp_all
    rw [e, hrow.get]
    simpa using hj
  · intro g1 cap w1 h1 h2 _ h4
    exact h _ w1 (own_snoc h1) h2
end
set_option maxRecDepth 100000 in
set_option maxHeartbeats 8000000 in
theorem all_any (a : Option Addr) (n cap : Nat) (l : List Sg) (w : World) (hl : Segs w w.heap.size a l) (hn : n = l.length) (h2 : n ≤ 20000) :
    Calls Try.prog 28 #[.slice a n cap] w fun e w' => (∃ v, e = .returned (.tuple #[v, .int .i64 0]) ∧ OwnM w' w.heap.size v (ansN l)) ∧ Below w.heap.size w w' := by
  obtain ⟨W0, hW0⟩ : ∃ W0, (w.alloc (.cells #[.slice a n cap] 39)).alloc (.cells #[.slice none 0 0] 40) = W0 := ⟨_, rfl⟩
  have b0 : Below w.heap.size w W0 := hW0 ▸ alloc2 _ _ _
  have r0 : IsRow W0 w.heap.size 39 #[.slice a n cap] := hW0 ▸ (IsRow.made _ _ _).later _
  have r1 : IsRow W0 (w.heap.size + 1) 40 #[.slice none 0 0] := by
    have := IsRow.made (w.alloc (.cells #[.slice a n cap] 39)) 40 #[.slice none 0 0]
    rw [World.size_alloc] at this
    exact hW0 ▸ this
  have hS0 : St w w.heap.size w.heap.size (w.heap.size + 1) a n cap l [] W0 := ⟨r0, hl.below b0, ⟨_, r1, own_nil _ _⟩, b0, Nat.le_refl _, by omega⟩
  have hE := Lib.hid (entries_any a n cap l W0 ((hl.below b0).more b0.size) hn h2)
  have HS0 := Lib.hid hS0
  have HW0 := Lib.hid hW0
  have y0 := r0.get 0
  have hgt : ¬ (20000 : Int) < (n : Int) := by omega
  have HN := Lib.hid hn
  clear hW0 b0 r0 r1 hS0 hl hn
  go_enter Try.func28, Try.ntmps28
  go_upto_region 4 with fail
  rw [HW0.out]
  go_wp2_with fail
  refine hE.out.mono ?_
  rintro e W1 ⟨⟨g, E, rfl, hp, hasc, ho1⟩, hb1⟩
  obtain ⟨hlen, hlt⟩ := ents_facts hp HN.out
  have hg : g < W1.heap.size := (Own.row ho1 g rfl).2.choose_spec.inside
  have hI : Hid (AI w w.heap.size w.heap.size (w.heap.size + 1) a n cap l g W0.heap.size W1.heap.size E 0 (.slice none 0 0) W1) := ⟨ho1, hg, Nat.le_refl _, own_nil _ _, HS0.out.later hb1⟩
  have HP := Lib.hid hp
  have HA := Lib.hid hasc
  have HLT := Lib.hid hlt
  obtain ⟨b2, hb2⟩ : ∃ b, W1.heap.size = b := ⟨_, rfl⟩
  have hlow : w.heap.size ≤ b2 := by
    have := HS0.out.low.2
    have := hb1.size
    have := (HS0.out.fnd.choose_spec.1).inside
    omega
  rw [hb2] at hI
  clear hp hasc hlt ho1 hg hb1 hb2 HS0 hE HW0 y0 hgt
  go_wp2_with fail
  go_loopw [6, 16] (fun s i wr => ∃ k : Nat, k ≤ n ∧ i = .int .i64 k ∧ Hid (AI w w.heap.size w.heap.size (w.heap.size + 1) a n cap l g W0.heap.size b2 E k s wr)) (fun _ i _ => n - (intOf i).toNat)
  case atStart => exact ⟨0, by omega, rfl, hI⟩
  case round =>
    obtain ⟨k, hk, rfl, hi⟩ := hrel
    by_cases hlt : k < n
    · obtain ⟨x, hx⟩ : ∃ x, E[k]? = some x := ⟨_, List.getElem?_eq_getElem (by omega)⟩
      obtain ⟨i1, i2, i3, i4, i5⟩ := id hi.out
      obtain ⟨c0, c1, c2, c3, c4⟩ : wr.cell? ⟨g, k * 5, none⟩ = some (.int .i64 x.i) ∧ wr.cell? ⟨g, k * 5 + 1, none⟩ = some (.int .i64 x.lo.x) ∧ wr.cell? ⟨g, k * 5 + 2, none⟩ = some (.int .i64 x.lo.y) ∧ wr.cell? ⟨g, k * 5 + 3, none⟩ = some (.int .i64 x.hi.x) ∧ wr.cell? ⟨g, k * 5 + 4, none⟩ = some (.int .i64 x.hi.y) :=
        ⟨Own.cells i1 encE_len (j := 0) hx (by decide), Own.cells i1 encE_len (j := 1) hx (by decide), Own.cells i1 encE_len (j := 2) hx (by decide), Own.cells i1 encE_len (j := 3) hx (by decide), Own.cells i1 encE_len (j := 4) hx (by decide)⟩
      have HX := Lib.hid hx
      obtain ⟨V, hV⟩ : ∃ V, wr.alloc (.cells #[.int .i64 x.i, .int .i64 x.lo.x, .int .i64 x.lo.y, .int .i64 x.hi.x, .int .i64 x.hi.y] 85) = V := ⟨_, rfl⟩
      have hbV : Below wr.heap.size wr V := hV ▸ alloc1 _ _
      have rx : IsRow V wr.heap.size 85 #[.int .i64 x.i, .int .i64 x.lo.x, .int .i64 x.lo.y, .int .i64 x.hi.x, .int .i64 x.hi.y] := hV ▸ IsRow.made _ _ _
      have hlens := sweep_len l (E.take k)
      have hmem := open_mem (l := l) (E.take k)
      rw [List.length_take, hlen, Nat.min_eq_left hk] at hlens
      have hkk : k * k ≤ 20000 * 20000 := Nat.mul_le_mul (by omega) (by omega)
      obtain ⟨ao, cO, rfl, q1, q2, q3⟩ := Own.shape i4
      have hxn : x.i < n := HLT.out x (List.mem_of_getElem? hx)
      have HST := Lib.hid (fun (w3 X w4 : World) (v' : Value) => AI.step (w3 := w3) (X := X) (w4 := w4) (v' := v') (c2 := (keptN x (sweepN l (E.take k)).1).length) hlow hi.out hx hbV)
      have HC : Hid (∀ X, Below V.heap.size V X → Calls Try.prog 56 #[.slice ao (sweepN l (E.take k)).1.length cO, .agg (encE x).toArray, .func (.func 53) #[] #[.pointer (some ⟨w.heap.size, 0, none⟩), .pointer (some ⟨w.heap.size + 1, 0, none⟩)]] X
          fun e W' => e = .returned (.slice ao (keptN x (sweepN l (E.take k)).1).length cO) ∧ OwnE W' b2 (.slice ao (keptN x (sweepN l (E.take k)).1).length cO) (keptN x (sweepN l (E.take k)).1) ∧ St w w.heap.size w.heap.size (w.heap.size + 1) a n cap l ((sweepN l (E.take k)).2 ++ notesN l x (sweepN l (E.take k)).1) W' ∧ Kp (ao.map Addr.block) X W') := fun X hX =>
        visit_any b2 ao _ cO _ x X ((i5.later hbV).later hX) (Own.below (Own.below i4 hbV) hX) hlow HN.out h2 hxn (fun e he => HLT.out e (List.take_subset _ _ (hmem e he))) (by omega) (by omega)
      have HNE : Hid (∀ X, wr.heap.size ≤ X → some X ≠ ao.map Addr.block) := by
        show ∀ X, _
        intro X hX e
        rcases q3 with ⟨rfl, _⟩ | ⟨g', rfl, _, hg'⟩
        · cases e
        · injection e with e
          have e' : X = g' := e
          omega
      have HRX := Lib.hid rx
      have HBV := Lib.hid hbV
      have hb3 : b2 ≤ V.heap.size := by have := hbV.size; omega
      obtain ⟨O, hO⟩ : ∃ O, (sweepN l (E.take k)).1 = O := ⟨_, rfl⟩
      rw [hO] at HST HC hlens
      have hkl : (keptN x O).length ≤ 20000 := by have := keptN_le x O; omega
      clear i1 i2 i3 i4 i5 hx q1 q2 q3 hmem hkk hbV
      rw [hO]
      go_upto_region 9 with fail
      clear hV c0 c1 c2 c3 c4 hlens
      obtain ⟨d0, d1, d2, d3, d4⟩ : V.cell? ⟨wr.heap.size, 0, none⟩ = some (.int .i64 x.i) ∧ V.cell? ⟨wr.heap.size, 1, none⟩ = some (.int .i64 x.lo.x) ∧ V.cell? ⟨wr.heap.size, 2, none⟩ = some (.int .i64 x.lo.y) ∧ V.cell? ⟨wr.heap.size, 3, none⟩ = some (.int .i64 x.hi.x) ∧ V.cell? ⟨wr.heap.size, 4, none⟩ = some (.int .i64 x.hi.y) :=
        ⟨rx.get 0, rx.get 1, rx.get 2, rx.get 3, rx.get 4⟩
      clear rx
      have KX : ∀ X, Kp (ao.map Addr.block) V X → X.cell? ⟨wr.heap.size, 0, none⟩ = some (.int .i64 x.i) ∧ X.cell? ⟨wr.heap.size, 1, none⟩ = some (.int .i64 x.lo.x) ∧ X.cell? ⟨wr.heap.size, 2, none⟩ = some (.int .i64 x.lo.y) ∧ X.cell? ⟨wr.heap.size, 3, none⟩ = some (.int .i64 x.hi.x) ∧ X.cell? ⟨wr.heap.size, 4, none⟩ = some (.int .i64 x.hi.y) := fun X hX => by
        have r := hX.keep _ _ _ HRX.out (by decide) (by decide) (HNE.out _ (Nat.le_refl _))
        exact ⟨r.get 0, r.get 1, r.get 2, r.get 3, r.get 4⟩
      have bV2 : ∀ o, Below V.heap.size V (V.alloc o).drew := fun o => (alloc1 V o).trans ((drew_below _).mono (by simp))
      have zr2 : ∀ (t : TypeId) (cs : Array Value) (w3 : World), Kp (ao.map Addr.block) (V.alloc (.cells cs 85)).drew w3 → IsRow w3 V.heap.size 85 cs := fun t cs w3 h =>
        h.keep _ _ _ ((IsRow.made V _ _).below (drew_below _) (IsRow.made V _ _).inside) (by decide) (by decide) (HNE.out _ HBV.out.size)
      go_region_held3 (fun w' => w'.cell? ⟨wr.heap.size, 0, none⟩ = some (.int .i64 x.i) ∧ w'.cell? ⟨wr.heap.size, 1, none⟩ = some (.int .i64 x.lo.x) ∧ w'.cell? ⟨wr.heap.size, 2, none⟩ = some (.int .i64 x.lo.y) ∧ w'.cell? ⟨wr.heap.size, 3, none⟩ = some (.int .i64 x.hi.x) ∧ w'.cell? ⟨wr.heap.size, 4, none⟩ = some (.int .i64 x.hi.y)) (first | go_keep | exact KS | exact KA _)
        (first
          | (go_at_call 56; refine (HC.out _ (drew_below V)).mono ?_; rintro e w3 ⟨rfl, z1, z2, z3⟩; have zk : Kp (ao.map Addr.block) V w3 := (Kp.of_below (drew_below V)).trans z3; have KS := KX w3 zk; have KA := fun o => KX (w3.alloc o) (zk.trans (Kp.of_below (alloc1 w3 o))))
          | (go_at_call 56; refine (HC.out _ (bV2 _)).mono ?_; rintro e w3 ⟨rfl, z1, z2, z3⟩; have zk : Kp (ao.map Addr.block) V w3 := (Kp.of_below (bV2 _)).trans z3; have KS := KX w3 zk; have KA := fun o => KX (w3.alloc o) (zk.trans (Kp.of_below (alloc1 w3 o))))
          | (refine step_appE (by rfl) _ _ (by rfl) b2 (.slice ao (keptN x O).length cO) (keptN x O) x w3.heap.size (by rfl) (Own.below z1 (alloc1 w3 _)) (by rfl) (IsRow.made w3 _ _) hkl (by have := zk.size; simp; omega) ?_; intro v' w4 ho4 hg4; have hA := HST.out w3 _ w4 v' zk z1 z2 (alloc1 w3 _) hg4 ho4; have KS := KX w4 hA.2)
          | (refine step_appE (by rfl) _ _ (by rfl) b2 (.slice ao (keptN x O).length cO) (keptN x O) x V.heap.size (by rfl) z1 (by rfl) (zr2 85 _ w3 z3) hkl (by have := zk.size; omega) ?_; intro v' w4 ho4 hg4; have hA := HST.out w3 w3 w4 v' zk z1 z2 (Below.refl _ _) hg4 ho4; have KS := KX w4 hA.2))
      all_goals
        have hAI := Lib.hid hA.1
        clear hA KS KA z1 z2 z3 zk hg4 ho4 HC HST KX bV2 zr2 d0 d1 d2 d3 d4 HNE HRX HBV hi hO hkl hb3
        go_wp2
        go_roundw
        case rel => exact ⟨k + 1, by omega, by go_num, hAI⟩
        case measure => simp [intOf]; omega
    · obtain rfl : k = n := by omega
      obtain ⟨i1, i2, i3, i4, i5⟩ := id hi.out
      rw [← hlen, List.take_length] at i5
      obtain ⟨v, r1, o1⟩ := i5.fnd
      have y0 := r1.get 0
      have hsl := (sweep_len l E).2
      rw [hlen] at hsl
      have hkk : k * k ≤ 20000 * 20000 := Nat.mul_le_mul (by omega) (by omega)
      have hSort := Lib.hid (sortM_any w.heap.size v (sweepN l E).2 wr o1 (by omega))
      have H5 := Lib.hid i5
      have R1 := Lib.hid r1
      have O1 := Lib.hid o1
      clear i1 i2 i3 i4 i5 r1 o1 hi hsl hkk
      go_wp2_with fail
      refine hSort.out.mono ?_
      rintro e w2 ⟨rfl, G, hp, ha, ho2, hg2⟩
      have hG : Hid (G = ansN l) := swept_sorted HP.out HA.out hp ha
      have r2 := row_grown R1.out hg2 (Own.ne O1.out R1.out (by decide))
      have y2 := r2.get 0
      have hb2' : Below w.heap.size w w2 := H5.out.bel.grown hg2 (Nat.le_trans H5.out.low.1 (Nat.le_of_lt H5.out.lrow.inside)) (fun k e => (Own.row O1.out k e).1)
      rw [hG.out] at ho2
      have HZ := Lib.hid (And.intro ho2 hb2')
      clear y0 hp ha ho2 hg2 hb2' r2 hSort
      go_wp2
      go_ret2
      exact ⟨⟨v, rfl, HZ.out.1⟩, HZ.out.2⟩
end Go.Proofs.Ytlgmlgogpohgoaa.Sw
