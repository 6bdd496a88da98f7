/- index: In's closure. -/
import Derived.Test.YteghhfkllclghaaIxVisMath
namespace Go.Proofs.Yteghhfkllclghaa.Ix
open Go.RowKit Go.Sort
/-- the closure as a value. -/
def visF (qb c1 c2 : Nat) : Value := .func (.func 35) #[] #[ptr qb, ptr c1, ptr c2]
/-- what stands while a visit is under way: the box q, the Ids L that are found, the closure. -/
structure Vis (w : World) (base qb c1 c2 : Nat) (q : Bx) (v : Value) (L : List Id) : Prop where
  rowB : IsRow w qb 26 (cB q)
  rowI : IsRow w c1 42 #[v]
  rowF : IsRow w c2 73 #[visF qb c1 c2]
  own : OwnB w base v L
  geB : base ≤ qb
  geI : base ≤ c1
  geF : base ≤ c2
theorem OwnB.ne {w : World} {base : Nat} {v : Value} {L : List Id} (h : OwnB w base v L) {r : Nat} {t : TypeId} {cs : Array Value} (hr : IsRow w r t cs) (ht : t ≠ 9) : v.ownBlock ≠ some r := by
  intro e
  obtain ⟨_, ⟨hv, _⟩ | ⟨g, cap, cur, hv, _, hg, _⟩⟩ := h
  · rw [hv] at e; cases e
  · rw [hv] at e
    have e' : g = r := by injection e
    subst e'
    unfold IsRow at hr
    rw [hr] at hg
    injection hg with hg
    injection hg with _ e2 _
    exact ht e2
theorem Vis.below {w w' : World} {base qb c1 c2 : Nat} {q : Bx} {v : Value} {L : List Id} (h : Vis w base qb c1 c2 q v L) (hb : Below w.heap.size w w') : Vis w' base qb c1 c2 q v L where
  rowB := h.rowB.below hb h.rowB.inside
  rowI := h.rowI.below hb h.rowI.inside
  rowF := h.rowF.below hb h.rowF.inside
  own := by
    refine World.ownsRow.kept (row := none) h.own ⟨hb.os, hb.tape, hb.output, hb.size, fun k hk _ => hb.block k hk⟩ ?_
    cases hv : v.ownBlock with
    | none => exact .inl rfl
    | some k => exact .inr (fun e => by cases e)
  geB := h.geB
  geI := h.geI
  geF := h.geF
/-- the Ids appended and laid into their variable. -/
theorem vis_end {w w2 : World} {base qb c1 c2 : Nat} {q : Bx} {v : Value} {L M : List Id} {ad : Option Addr} {m c : Nat} (h : Vis w base qb c1 c2 q v L) (ho : OwnB w2 base (.slice ad m c) (L ++ M)) (hg : w.grownBy w2 v.ownBlock) (hbase : base ≤ w.heap.size) :
    IsRow w2 c1 42 #[v] ∧ Vis (w2.setCell ⟨c1, 0, none⟩ (.slice ad m c)) base qb c1 c2 q (.slice ad m c) (L ++ M) ∧ Below base w (w2.setCell ⟨c1, 0, none⟩ (.slice ad m c)) := by
  have nB := h.own.ne h.rowB (by decide)
  have nI := h.own.ne h.rowI (by decide)
  have nF := h.own.ne h.rowF (by decide)
  have rB : IsRow w2 qb 26 (cB q) := (hg.block qb h.rowB.inside (fun e => nB e.symm)).trans h.rowB
  have rI : IsRow w2 c1 42 #[v] := (hg.block c1 h.rowI.inside (fun e => nI e.symm)).trans h.rowI
  have rF : IsRow w2 c2 73 #[visF qb c1 c2] := (hg.block c2 h.rowF.inside (fun e => nF e.symm)).trans h.rowF
  have dif : ∀ {r r' : Nat} {t t' : TypeId} {cs cs' : Array Value}, IsRow w2 r t cs → IsRow w2 r' t' cs' → t ≠ t' → r ≠ r' := fun h1 h2 hn e => by
    subst e
    unfold IsRow at h1 h2
    rw [h1] at h2
    injection h2 with h2
    injection h2 with _ e2 _
    exact hn e2
  have nV := ho.ne rI (by decide)
  refine ⟨rI, ⟨rB.putOther (dif rB rI (by decide)) _, ?_, rF.putOther (dif rF rI (by decide)) _, ?_, h.geB, h.geI, h.geF⟩, ?_⟩
  · have := rI.put 0 (.slice ad m c)
    simpa using this
  · refine World.ownsRow.kept (row := some c1) ho ⟨rfl, rfl, rfl, by simp, fun k hk hn => Below.heap_setCell _ _ _ k fun e => hn (by rw [e])⟩ (.inr ?_)
    exact nV
  · exact ((Below.refl base w).grown hg hbase fun k hk => (World.ownsRow.lt h.own k hk).1).setCell (p := ⟨c1, 0, none⟩) h.geI _
set_option maxRecDepth 100000 in
set_option maxHeartbeats 1000000 in
theorem visit_nil (qb c1 c2 : Nat) (w : World) : Calls Try.prog 35 #[nilP, ptr qb, ptr c1, ptr c2] w fun e w' => e = .returned (.tuple #[]) ∧ Below w.heap.size w w' := by
  unfold nilP ptr
  go_enter Try.func35, Try.ntmps35
  go_upto_region 0 with fail
  refine wp_region_quiet_below (by kernel_rfl) (by kernel_rfl) ?_
  repeat (go_big_quiet_step (fail))
  refine wpQuiet_nil ?_
  intro _ hw'
  obtain ⟨⟨dq, osq⟩, hw''⟩ := hw'
  subst hw''
  have hb2 := below_regrown w dq osq
  go_wp2
  refine bodyPost_ret (results_none rfl _ _ _) rfl ?_
  exact ⟨rfl, hb2⟩
set_option maxRecDepth 100000 in
set_option maxHeartbeats 1000000 in
theorem visit_off (p qb c1 c2 : Nat) (b q : Bx) (f : Nat) (l r u : Value) (w : World) (hrow : IsRow w p 72 (nodeC b f l r u)) (hq : IsRow w qb 26 (cB q)) (hm : meetB b q = false) : Calls Try.prog 35 #[ptr p, ptr qb, ptr c1, ptr c2] w fun e w' => e = .returned (.tuple #[]) ∧ Below w.heap.size w w' := by
  obtain ⟨⟨a0, a1, a2, a3⟩, _, _, _, _⟩ := node_facts hrow
  obtain ⟨b0, b1, b2, b3⟩ := box_facts hq
  have a0 := cell_regrown a0
  have a1 := cell_regrown a1
  have a2 := cell_regrown a2
  have a3 := cell_regrown a3
  have b0 := cell_regrown b0
  have b1 := cell_regrown b1
  have b2 := cell_regrown b2
  have b3 := cell_regrown b3
  have q1 := (meet_any b q).quiet w
  rw [hm] at q1
  clear hrow hq hm
  unfold ptr
  unfold vB at q1
  go_enter Try.func35, Try.ntmps35
  go_upto_region 0 with fail
  refine wp_region_quiet_below (by kernel_rfl) (by kernel_rfl) ?_
  repeat (go_big_quiet_step (first | with_reducible exact q1 _ _))
  refine wpQuiet_nil ?_
  intro _ hw'
  obtain ⟨⟨dq, osq⟩, hw''⟩ := hw'
  subst hw''
  have hb2 := below_regrown w dq osq
  clear q1 a0 a1 a2 a3 b0 b1 b2 b3
  generalize grow (redrawn w dq) osq = w2 at *
  go_wp2
  refine bodyPost_ret (results_none rfl _ _ _) rfl ?_
  exact ⟨rfl, hb2⟩
theorem two_index_0 (x y : Option Addr) (w : World) : (Instr.index 70 (.agg #[.pointer x, .pointer y]) (.int .i64 ((0 : Nat) : Int))).run Try.prog w = .ok (.pointer x) w := by kernel_rfl
theorem two_index_1 (x y : Option Addr) (w : World) : (Instr.index 70 (.agg #[.pointer x, .pointer y]) (.int .i64 ((1 : Nat) : Int))).run Try.prog w = .ok (.pointer y) w := by kernel_rfl
def visQ (base qb c1 c2 : Nat) (q : Bx) (L : List Id) (w : World) (e : Ending) (w' : World) : Prop := e = .returned (.tuple #[]) ∧ (∃ v', Vis w' base qb c1 c2 q v' L) ∧ Below base w w'
set_option maxRecDepth 100000 in
set_option maxHeartbeats 4000000 in
theorem visit_node (base p qb c1 c2 : Nat) (b q : Bx) (f : Nat) (pl pr : Option Addr) (u v : Value) (L M A B : List Id) (w : World) (hrow : IsRow w p 72 (nodeC b f (.pointer pl) (.pointer pr) u)) (hu : OwnS w u M) (hub : ∀ k, u.ownBlock = some k → k < base) (hp : p < base)
    (hv : Vis w base qb c1 c2 q v L) (hbase : base ≤ w.heap.size) (hm : meetB b q = true) (hlen : L.length + M.length ≤ 1000000)
    (h1 : ∀ w' v', Below base w w' → Vis w' base qb c1 c2 q v' (L ++ M) → Calls Try.prog 35 #[.pointer pl, ptr qb, ptr c1, ptr c2] w' (visQ base qb c1 c2 q (L ++ M ++ A) w'))
    (h2 : ∀ w' v', Below base w w' → Vis w' base qb c1 c2 q v' (L ++ M ++ A) → Calls Try.prog 35 #[.pointer pr, ptr qb, ptr c1, ptr c2] w' (visQ base qb c1 c2 q (L ++ M ++ A ++ B) w')) :
    Calls Try.prog 35 #[ptr p, ptr qb, ptr c1, ptr c2] w (visQ base qb c1 c2 q (L ++ M ++ A ++ B) w) := by
  obtain ⟨⟨a0, a1, a2, a3⟩, _, _, _, _⟩ := node_facts hrow
  obtain ⟨b0, b1, b2, b3⟩ := box_facts hv.rowB
  have a0 := cell_regrown a0
  have a1 := cell_regrown a1
  have a2 := cell_regrown a2
  have a3 := cell_regrown a3
  have b0 := cell_regrown b0
  have b1 := cell_regrown b1
  have b2 := cell_regrown b2
  have b3 := cell_regrown b3
  have q1 := (meet_any b q).quiet w
  rw [hm] at q1
  have H1 := Lib.hid h1
  have H2 := Lib.hid h2
  have HR := Lib.hid hrow
  have HU := Lib.hid hu
  have HUB := Lib.hid hub
  have HP := Lib.hid hp
  have HV := Lib.hid hv
  have HBA := Lib.hid hbase
  have HLEN := Lib.hid hlen
  clear hrow hm h1 h2 hu hub hp hv hbase hlen
  unfold ptr
  unfold vB at q1
  go_enter Try.func35, Try.ntmps35
  go_upto_region 0 with fail
  refine wp_region_quiet_below (by kernel_rfl) (by kernel_rfl) ?_
  repeat (go_big_quiet_step (first | with_reducible exact q1 _ _))
  refine wpQuiet_nil ?_
  intro _ hw'
  obtain ⟨⟨dq, osq⟩, hw''⟩ := hw'
  subst hw''
  have hb2 := below_regrown w dq osq
  clear q1 a0 a1 a2 a3 b0 b1 b2 b3
  generalize grow (redrawn w dq) osq = w1 at *
  have B1 := Lib.hid (hb2.mono HBA.out)
  have V1 := Lib.hid (HV.out.below hb2)
  have R1 := Lib.hid (HR.out.below hb2 HR.out.inside)
  have U1 := Lib.hid (HU.out.keep fun k hk => hb2.block k (HU.out.lt k hk))
  clear hb2
  obtain ⟨va, vm, vc, hvv⟩ : ∃ a m c, v = .slice a m c := by
    obtain ⟨_, ⟨e, _⟩ | ⟨g, cap, cur, e, _⟩⟩ := V1.out.own
    · exact ⟨_, _, _, e⟩
    · exact ⟨_, _, _, e⟩
  obtain ⟨ua, um, uc, huu⟩ : ∃ a m c, u = .slice a m c := by
    obtain ⟨_, ⟨e, _⟩ | ⟨g, cap, cur, e, _⟩⟩ := U1.out
    · exact ⟨_, _, _, e⟩
    · exact ⟨_, _, _, e⟩
  subst hvv huu
  have i0 := IsRow.get V1.out.rowI 0
  obtain ⟨_, _, _, _, p7⟩ := node_facts R1.out
  have hbs := Lib.hid (Nat.le_trans HBA.out B1.out.size)
  go_upto_region 1 with fail
  go_region_law (refine step_appB (by rfl) _ _ (by rfl) base (.slice va vm vc) (.slice ua um uc) L M (by rfl) (by rfl) (V1.out.below (drew_below _)).own (U1.out.keep fun _ _ => rfl) HLEN.out hbs.out ?_; intro ad m c w3 ho3 hg3 hlt3; have hfin := vis_end (V1.out.below (drew_below _)) ho3 hg3 hbs.out; have c0 := hfin.1.get 0; have f0 := hfin.1.open_ 0)
  all_goals
    obtain ⟨_, hV3, hB3⟩ := hfin
    obtain ⟨w4, hw4⟩ : ∃ w4, w3.setCell ⟨c1, 0, none⟩ (.slice ad m c) = w4 := ⟨_, rfl⟩
    rw [hw4] at hV3 hB3
    have V4 := Lib.hid hV3
    have B4 := Lib.hid (show Below base w w4 from B1.out.drew.trans hB3)
    have R4 : IsRow w4 p 72 (nodeC b f (.pointer pl) (.pointer pr) (.slice ua um uc)) := (hB3.block p HP.out).trans R1.out
    obtain ⟨_, _, p5, p6, _⟩ := node_facts R4
    rw [hw4]
    clear hw4 hV3 hB3 R4 hg3 ho3 hlt3 c0 f0 i0 p7 V1 R1 U1 B1 HV HR HU HUB hbs
    go_wp2
    go_loopw [28] (fun i wr => ∃ k : Nat, k ≤ 2 ∧ i = .int .i64 k ∧ Hid (∃ v', Vis wr base qb c1 c2 q v' (if k = 0 then L ++ M else if k = 1 then L ++ M ++ A else L ++ M ++ A ++ B)) ∧ Hid (Below base w wr)) (fun i _ => 2 - (intOf i).toNat)
    case atStart => exact ⟨0, by omega, rfl, Lib.hid ⟨_, V4.out⟩, B4⟩
    case round =>
      obtain ⟨k, hk, rfl, hv, hb⟩ := hrel
      obtain ⟨v', hv'⟩ := hv.out
      have cF := IsRow.get hv'.rowF 0
      unfold visF ptr at cF
      by_cases hlt : k < 2
      · obtain ⟨z, L', hix, hK, hL⟩ : ∃ (z : Option Addr) (L' : List Id), (∀ w, (Instr.index 70 (.agg #[.pointer pl, .pointer pr]) (.int .i64 (k : Int))).run Try.prog w = .ok (.pointer z) w) ∧
            Calls Try.prog 35 #[.pointer z, ptr qb, ptr c1, ptr c2] wr (visQ base qb c1 c2 q L' wr) ∧ L' = (if k + 1 = 0 then L ++ M else if k + 1 = 1 then L ++ M ++ A else L ++ M ++ A ++ B) := by
          have h3 : k = 0 ∨ k = 1 := by omega
          rcases h3 with rfl | rfl
          · exact ⟨pl, _, two_index_0 pl pr, H1.out wr v' hb.out hv', rfl⟩
          · exact ⟨pr, _, two_index_1 pl pr, H2.out wr v' hb.out hv', rfl⟩
        have hlt2 : (k : Int) < 2 := by omega
        unfold ptr at hK
        clear hv hv'
        go_wp2_with (go_at_call 35; refine hK.mono ?_; rintro e w5 ⟨rfl, hv5, hb5⟩; rw [hL] at hv5)
        go_roundw
        case rel => exact ⟨k + 1, by omega, by go_num, Lib.hid hv5, Lib.hid (hb.out.trans hb5)⟩
        case measure => simp [intOf]; omega
      · obtain rfl : k = 2 := by omega
        have hv0 : Vis wr base qb c1 c2 q v' (L ++ M ++ A ++ B) := hv'
        have hb0 := hb.out
        clear hv hv' cF
        go_wp2
        go_end0
        exact ⟨rfl, ⟨v', hv0⟩, hb0⟩
end Go.Proofs.Yteghhfkllclghaa.Ix
