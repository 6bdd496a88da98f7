/- ring.meetings. -/
import Derived.Test.YtlagolgmkmdhhaaRgSimple
import Derived.Test.YtlagolgmkmdhhaaRgSorted2
namespace Go.Proofs.Ytlagolgmkmdhhaa.Rg
open Go.RowKit Go.Sort Go.Shelf
open Go.Proofs.Ytlagolgmkmdhhaa.Geo hiding intOf Apart
attribute [local go_sem] Oper.semAt_some
def metB (L : List Sd) (pre : List (Fin L.length × Fin L.length)) (k : Nat) : Bool := pre.any fun x => decide ((sdAt L x.1.val).r ≠ (sdAt L x.2.val).r) && decide (mtN (sdAt L x.1.val) (sdAt L x.2.val) = (k : Int))
def metC (L : List Sd) (pre : List (Fin L.length × Fin L.length)) : Array Value := #[.bool (metB L pre 0), .bool (metB L pre 1), .bool (metB L pre 2), .bool (metB L pre 3), .bool (metB L pre 4), .bool (metB L pre 5)]
theorem metB_snoc (L : List Sd) (pre : List (Fin L.length × Fin L.length)) (x : Fin L.length × Fin L.length) (k : Nat) : metB L (pre ++ [x]) k = (metB L pre k || (decide ((sdAt L x.1.val).r ≠ (sdAt L x.2.val).r) && decide (mtN (sdAt L x.1.val) (sdAt L x.2.val) = (k : Int)))) := by unfold metB; simp
theorem metC_same {L : List Sd} {pre : List (Fin L.length × Fin L.length)} {x : Fin L.length × Fin L.length} (h : (sdAt L x.1.val).r = (sdAt L x.2.val).r) : metC L (pre ++ [x]) = metC L pre := by
  unfold metC
  simp [metB_snoc, h]
theorem metC_set {L : List Sd} {pre : List (Fin L.length × Fin L.length)} {x : Fin L.length × Fin L.length} {m : Nat} (h : (sdAt L x.1.val).r ≠ (sdAt L x.2.val).r) (hm : mtN (sdAt L x.1.val) (sdAt L x.2.val) = (m : Int)) (h6 : m < 6) : (metC L pre).setIfInBounds m (.bool true) = metC L (pre ++ [x]) := by
  have e : ∀ k, metB L (pre ++ [x]) k = (metB L pre k || decide (m = k)) := fun k => by
    rw [metB_snoc, hm, decide_eq_true h]
    congr 1
    simp
    omega
  unfold metC
  match m, h6 with
  | 0, _ => simp [e]
  | 1, _ => simp [e]
  | 2, _ => simp [e]
  | 3, _ => simp [e]
  | 4, _ => simp [e]
  | 5, _ => simp [e]
theorem mt_range (s t : Sd) : ∃ m : Nat, mtN s t = (m : Int) ∧ m < 6 := by
  unfold mtN meetsF
  split
  · have := meets_range s.a s.b t.a t.b
    exact ⟨(meetsN s.a s.b t.a t.b).toNat, by omega, by omega⟩
  · exact ⟨0, rfl, by decide⟩
/-- whether a side of the one ring and a side of the other one meet so. -/
def MetP (l m : List Pt) (k : Int) : Prop := ∃ i j, i < l.length ∧ j < m.length ∧ meetsF (cor l i) (nxt l i) (cor m j) (nxt m j) = k
theorem metB_all {l m : List Pt} {L : List Sd} {xs : List (Fin L.length × Fin L.length)} (hp : L.Perm (sdsOf l 0 ++ sdsOf m 1)) (hasc : Asc L) (hxs : ∀ x, x ∈ xs ↔ Cond L x) (k : Nat) (hk : k ≠ 0) : metB L xs k = true ↔ MetP l m k := by
  unfold metB MetP
  rw [← met_pairs hp hasc (show (k : Int) ≠ 0 by omega), List.any_eq_true]
  constructor
  · rintro ⟨x, hx, h⟩
    rw [Bool.and_eq_true, decide_eq_true_iff, decide_eq_true_iff] at h
    exact ⟨x, (hxs x).1 hx, h.1, h.2⟩
  · rintro ⟨x, hx, h1, h2⟩
    exact ⟨x, (hxs x).2 hx, by rw [Bool.and_eq_true, decide_eq_true_iff, decide_eq_true_iff]; exact ⟨h1, h2⟩⟩
theorem infoSix : (Try.prog.info? 49).map (·.size) = some 6 := by kernel_rfl
set_option maxRecDepth 100000 in
set_option maxHeartbeats 4000000 in
theorem meetings_any (a a2 : Option Addr) (n cap n2 cap2 : Nat) (l m : List Pt) (w : World) (hl : Pts w w.heap.size a l) (hm : Pts w w.heap.size a2 m) (hln : n = l.length) (hmn : n2 = m.length) (hcap : n ≤ cap) (hcap2 : n2 ≤ cap2) (h3 : 2 ≤ n) (h2 : n ≤ 2000) (h32 : 2 ≤ n2) (h22 : n2 ≤ 2000) :
    Calls Try.prog 30 #[.slice a n cap, .slice a2 n2 cap2] w fun e w' => (∃ b0 b1 b2 b3 b4 b5 : Bool, e = .returned (.agg #[.bool b0, .bool b1, .bool b2, .bool b3, .bool b4, .bool b5]) ∧ (b2 = true ↔ MetP l m 2) ∧ (b3 = true ↔ MetP l m 3) ∧ (b5 = true ↔ MetP l m 5)) ∧ Below w.heap.size w w' := by
  obtain ⟨V0, hV0⟩ : ∃ V, (w.alloc (.cells #[.bool false, .bool false, .bool false, .bool false, .bool false, .bool false] 49)).alloc (.cells #[.bool false, .bool false, .bool false, .bool false, .bool false, .bool false] 49) = V := ⟨_, rfl⟩
  have b1 : Below w.heap.size w V0 := hV0 ▸ alloc2 _ _ _
  have r1 : IsRow V0 w.heap.size 49 #[.bool false, .bool false, .bool false, .bool false, .bool false, .bool false] := hV0 ▸ (IsRow.made _ _ _).later _
  have f1 : IsRow V0 (w.heap.size + 1) 49 #[.bool false, .bool false, .bool false, .bool false, .bool false, .bool false] := by
    have := IsRow.made (w.alloc (.cells #[.bool false, .bool false, .bool false, .bool false, .bool false, .bool false] 49)) 49 #[.bool false, .bool false, .bool false, .bool false, .bool false, .bool false]
    rw [World.size_alloc] at this
    exact hV0 ▸ this
  have L1 := Lib.hid (hl.later b1)
  have M1 := Lib.hid (hm.later b1)
  have HN := Lib.hid hln
  have HN2 := Lib.hid hmn
  have HV0 := Lib.hid hV0
  clear hl hm hln hmn hV0
  refine (callsIn_wide (n := 6)).1 ?_
  refine callsIn_of_wp_marks Try.func30 rfl trivial ?_ rfl
  simp only [Try.ntmps30, List.size_toArray, List.length_cons, List.length_nil, Nat.reduceAdd, Nat.reduceSub, Array.replicate_succ, Array.replicate_zero, List.push_toArray, List.append_toArray, List.nil_append, List.cons_append]
  gi_upto_region 2 with fail
  rw [HV0.out]
  gi_wp2_with fail
  refine ⟨trivial, ?_⟩
  have hal := alloc1 V0 (.cells #[.slice a n cap, .slice a2 n2 cap2] 22)
  refine (callsIn_wide.2 (sorted2_any V0.heap.size 2 a a2 n cap n2 cap2 l m _ (IsRow.made V0 _ _) (L1.out.later hal) (M1.out.later hal) HN.out HN2.out hcap hcap2 h3 h2 h32 h22)).mono ?_
  rintro e W2 ⟨⟨v, L, rfl, hp, hasc, ho⟩, hb2⟩
  have hlen : L.length = l.length + m.length := by rw [hp.length_eq]; unfold sdsOf; simp
  obtain ⟨g, cg, rfl, hgb, hgc, hT⟩ := ownS_sdsT ho (by have := HN.out; omega)
  have hb12 := hal.trans (hb2.mono hal.size)
  have r2 := r1.below hb12 r1.inside
  have f2 := f1.below hb12 f1.inside
  have b2 := b1.trans (hb12.mono b1.size)
  have HP := Lib.hid hp
  have HA := Lib.hid hasc
  have HT := Lib.hid hT
  have HLN := Lib.hid hlen
  clear hal hb2 hb12 r1 f1 b1 L1 M1 ho hp hasc hT hlen hgb
  gi_wp2_with (refine ⟨trivial, ?_⟩; gi_at_call 21; refine (callsIn_wide.2 (pairs_any (some ⟨g, 0, none⟩) L.length cg _)).mono ?_; rintro e W3 ⟨rfl, rfl⟩)
  obtain ⟨W0, hW0⟩ : ∃ W0, W2.alloc (.cells #[.slice (some ⟨g, 0, none⟩) L.length cg] 42) = W0 := ⟨_, rfl⟩
  have h0 := alloc1 W2 (.cells #[.slice (some ⟨g, 0, none⟩) L.length cg] 42)
  rw [hW0] at h0
  have rb : IsRow W0 W2.heap.size 42 #[.slice (some ⟨g, 0, none⟩) L.length cg] := hW0 ▸ IsRow.made W2 _ _
  have r3 := r2.below h0 r2.inside
  have f3 : IsRow W0 (w.heap.size + 1) 49 (metC L []) := f2.below h0 f2.inside
  have b3 := b2.trans (h0.mono b2.size)
  have T3 : SdsT W0 g L := HT.out.kept (A := 0) (KpT.of_below h0)
  rw [hW0]
  clear hW0 h0 r2 f2 b2 HT HV0
  refine wpIn_rangeFunc_ownH rfl (by omega) (gf := 38) (lb := #[.pointer (some ⟨W2.heap.size, 0, none⟩)]) rfl trivial (enters_of Try.func38 (by kernel_rfl) rfl)
    (pairs_stops 5 (by omega) g cg L L.length W2.heap.size W0 rb T3 rfl (by have := HLN.out; have := HN.out; have := HN2.out; omega) hgc HA.out) KpT.trans (fun W l o o' h1 h2 h3 h4 => kpT_b (w := W0) W l o o' h1 h2 h3 h4) (Below.refl _ _) (fun _ => rfl)
    (fun pre W => (IsRow W w.heap.size 49 #[.bool false, .bool false, .bool false, .bool false, .bool false, .bool false] ∧ IsRow W (w.heap.size + 1) 49 (metC L pre)) ∧ Below w.heap.size w W ∧ W0.heap.size ≤ W.heap.size)
    (fun _ _ _ => False)
    (OwnFrom.and (OwnFrom.and (Own.from (row_own _ _ (fun _ => _)) _) (Own.from (row_own _ _ (fun pre => metC L pre)) _)) (OwnFrom.and (ownFrom_below (Nat.le_refl _) b3.size) (fun _ _ _ _ hs hg _ => Nat.le_trans hs hg.size)))
    (fun _ _ _ _ _ hs _ _ => hs)
    ⟨⟨r3, f3⟩, b3, Nat.le_refl _⟩
    (fun x a' W => ∃ Bx By, W0.heap.size ≤ Bx ∧ W0.heap.size ≤ By ∧ IsRow W Bx 45 #[.int .i64 (sdAt L x.1.val).a.x, .int .i64 (sdAt L x.1.val).a.y, .int .i64 (sdAt L x.1.val).b.x, .int .i64 (sdAt L x.1.val).b.y, .int .i64 (sdAt L x.1.val).r, .int .i64 (sdAt L x.1.val).p] ∧ IsRow W By 45 #[.int .i64 (sdAt L x.2.val).a.x, .int .i64 (sdAt L x.2.val).a.y, .int .i64 (sdAt L x.2.val).b.x, .int .i64 (sdAt L x.2.val).b.y, .int .i64 (sdAt L x.2.val).r, .int .i64 (sdAt L x.2.val).p] ∧
      a' = { tmps := #[.slice a n cap, .slice a2 n2 cap2, undef, undef, .pointer (some ⟨w.heap.size, 0, none⟩), .pointer (some ⟨w.heap.size + 1, 0, none⟩), .pointer (some ⟨Bx, 0, none⟩), .pointer (some ⟨By, 0, none⟩), .slice a n cap, .slice a2 n2 cap2, .slice (some ⟨V0.heap.size, 0, none⟩) 2 2, .slice (some ⟨g, 0, none⟩) L.length cg, .func (.func 38) #[] #[.pointer (some ⟨W2.heap.size, 0, none⟩)], .agg #[.int .i64 (sdAt L x.1.val).a.x, .int .i64 (sdAt L x.1.val).a.y, .int .i64 (sdAt L x.1.val).b.x, .int .i64 (sdAt L x.1.val).b.y, .int .i64 (sdAt L x.1.val).r, .int .i64 (sdAt L x.1.val).p], .agg #[.int .i64 (sdAt L x.2.val).a.x, .int .i64 (sdAt L x.2.val).a.y, .int .i64 (sdAt L x.2.val).b.x, .int .i64 (sdAt L x.2.val).b.y, .int .i64 (sdAt L x.2.val).r, .int .i64 (sdAt L x.2.val).p], undef, undef, undef, undef, undef, undef, undef, undef, undef, undef, undef, undef], defers := [] })
    (fun x a' _ X Y row hs hg hr => by
      obtain ⟨Bx, By, h1, h2, h3, h4, h5⟩ := hs
      exact ⟨Bx, By, h1, h2, Own.from (row_own Bx _ (fun _ : Unit => _)) W0.heap.size () X Y row h3 hg hr, Own.from (row_own By _ (fun _ : Unit => _)) W0.heap.size () X Y row h4 hg hr, h5⟩) ?assign ?body ?done ?stop
  case assign =>
    rintro y pre x W K ⟨⟨i0, i1⟩, hb, hsz⟩ hK
    dsimp only [encp, encSd]
    gi_wp2
    have e : (W.alloc (.cells #[.int .i64 (sdAt L x.1.val).a.x, .int .i64 (sdAt L x.1.val).a.y, .int .i64 (sdAt L x.1.val).b.x, .int .i64 (sdAt L x.1.val).b.y, .int .i64 (sdAt L x.1.val).r, .int .i64 (sdAt L x.1.val).p] 45)).heap.size = W.heap.size + 1 := by simp
    refine hK _ _ ((KeepsOthers.alloc _ _).trans (KeepsOthers.alloc _ _) |>.from _) (KpT.of_below (alloc2 _ _ _)) ⟨⟨(i0.later _).later _, (i1.later _).later _⟩, hb.trans ((alloc2 _ _ _).mono hb.size), by simp; omega⟩ ⟨W.heap.size, W.heap.size + 1, hsz, by omega, (IsRow.made W _ _).later _, ?_, rfl⟩
    have := IsRow.made (W.alloc (.cells #[.int .i64 (sdAt L x.1.val).a.x, .int .i64 (sdAt L x.1.val).a.y, .int .i64 (sdAt L x.1.val).b.x, .int .i64 (sdAt L x.1.val).b.y, .int .i64 (sdAt L x.1.val).r, .int .i64 (sdAt L x.1.val).p] 45)) 45 #[.int .i64 (sdAt L x.2.val).a.x, .int .i64 (sdAt L x.2.val).a.y, .int .i64 (sdAt L x.2.val).b.x, .int .i64 (sdAt L x.2.val).b.y, .int .i64 (sdAt L x.2.val).r, .int .i64 (sdAt L x.2.val).p]
    rw [e] at this
    exact this
  case body =>
    rintro y pre ⟨⟨i, hi1⟩, ⟨j, hj1⟩⟩ a' W - - ⟨⟨i0, i1⟩, hb, hsz⟩ ⟨Bx, By, hBx, hBy, rx, ry, rfl⟩ hlt
    dsimp only at rx ry
    obtain ⟨c0, c1, c2, c3, c4, c5⟩ : W.cell? ⟨Bx, 0, none⟩ = some (.int .i64 (sdAt L i).a.x) ∧ W.cell? ⟨Bx, 1, none⟩ = some (.int .i64 (sdAt L i).a.y) ∧ W.cell? ⟨Bx, 2, none⟩ = some (.int .i64 (sdAt L i).b.x) ∧ W.cell? ⟨Bx, 3, none⟩ = some (.int .i64 (sdAt L i).b.y) ∧ W.cell? ⟨Bx, 4, none⟩ = some (.int .i64 (sdAt L i).r) ∧ W.cell? ⟨Bx, 5, none⟩ = some (.int .i64 (sdAt L i).p) := ⟨rx.get 0, rx.get 1, rx.get 2, rx.get 3, rx.get 4, rx.get 5⟩
    obtain ⟨d0, d1, d2, d3, d4, d5⟩ : W.cell? ⟨By, 0, none⟩ = some (.int .i64 (sdAt L j).a.x) ∧ W.cell? ⟨By, 1, none⟩ = some (.int .i64 (sdAt L j).a.y) ∧ W.cell? ⟨By, 2, none⟩ = some (.int .i64 (sdAt L j).b.x) ∧ W.cell? ⟨By, 3, none⟩ = some (.int .i64 (sdAt L j).b.y) ∧ W.cell? ⟨By, 4, none⟩ = some (.int .i64 (sdAt L j).r) ∧ W.cell? ⟨By, 5, none⟩ = some (.int .i64 (sdAt L j).p) := ⟨ry.get 0, ry.get 1, ry.get 2, ry.get 3, ry.get 4, ry.get 5⟩
    obtain ⟨mt, hmt, h6⟩ := mt_range (sdAt L i) (sdAt L j)
    have MT : Hid (Answers Try.prog 24 #[.agg #[.int .i64 (sdAt L i).a.x, .int .i64 (sdAt L i).a.y, .int .i64 (sdAt L i).b.x, .int .i64 (sdAt L i).b.y], .agg #[.int .i64 (sdAt L j).a.x, .int .i64 (sdAt L j).a.y, .int .i64 (sdAt L j).b.x, .int .i64 (sdAt L j).b.y]] (.int .i64 (mt : Int))) := (meets_any _ _ _ _).to (by rw [← hmt]; rfl)
    have HMT := Lib.hid hmt
    clear hmt
    by_cases hr : (sdAt L i).r = (sdAt L j).r
    · have e1 : (((sdAt L i).r : Int) == ((sdAt L j).r : Int)) = true := by simp [hr]
      have e2 : (((sdAt L i).r : Int) != ((sdAt L j).r : Int)) = false := by simp [hr]
      have HS := Lib.hid (metC_same (pre := pre) (x := (⟨i, hi1⟩, ⟨j, hj1⟩)) hr)
      clear hr
      gi_wp2
      refine ⟨KeepsFrom.refl _ _, KpT.refl _, ⟨i0, ?_⟩, hb, hsz⟩
      rw [HS.out]
      exact i1
    · have e1 : (((sdAt L i).r : Int) == ((sdAt L j).r : Int)) = false := by simp; omega
      have e2 : (((sdAt L i).r : Int) != ((sdAt L j).r : Int)) = true := by simp; omega
      have HS := Lib.hid (metC_set (pre := pre) (x := (⟨i, hi1⟩, ⟨j, hj1⟩)) hr HMT.out h6)
      clear hr
      gi_wp2_with fail
      refine ⟨trivial, ?_⟩
      refine (CallsIn.inRound y (callsIn_wide.2 (MT.out _))).mono ?_
      rintro e V1 ⟨rfl, hb1⟩
      have i0' := i0.below hb1 i0.inside
      have i1' := i1.below hb1 i1.inside
      have hb' := hb.trans (hb1.mono hb.size)
      have ks := keeps_of_below W0.heap.size hb1
      have kp : KpT 0 45 42 W V1 := KpT.of_below hb1
      have hsz' := Nat.le_trans hsz hb1.size
      have z0 : V1.cell? ⟨w.heap.size + 1, mt, none⟩ = some ((metC L pre)[mt]'(by unfold metC; simpa using h6)) := by rw [i1'.get mt]; simp
      have y0 := i1'.open_ mt
      have hmi : (mt : Int) < 6 := by omega
      clear c0 c1 c2 c3 c4 c5 d0 d1 d2 d3 d4 d5 rx ry i0 i1 hb1
      gi_wp2
      refine ⟨ks.trans ((KeepsOthers.setCell _ _ _).from _), kp.trans (KpT.set (p := ⟨w.heap.size + 1, mt, none⟩) (Nat.zero_le _) i1' (by decide) (by decide) _), ⟨i0'.putOther (p := ⟨w.heap.size + 1, mt, none⟩) (by simp) _, ?_⟩, hb'.setCell (p := ⟨w.heap.size + 1, mt, none⟩) (by simp) _, by simpa using hsz'⟩
      rw [← HS.out]
      exact i1'.put mt _
  case done =>
    rintro D ys W hD hys ⟨⟨i0, i1⟩, hb, hsz⟩ hK
    have B2 := Lib.hid (metB_all HP.out HA.out hys 2 (by decide))
    have B3 := Lib.hid (metB_all HP.out HA.out hys 3 (by decide))
    have B5 := Lib.hid (metB_all HP.out HA.out hys 5 (by decide))
    obtain ⟨q0, q1, q2, q3, q4, q5⟩ : W.cell? ⟨w.heap.size + 1, 0, none⟩ = some (.bool (metB L ys 0)) ∧ W.cell? ⟨w.heap.size + 1, 1, none⟩ = some (.bool (metB L ys 1)) ∧ W.cell? ⟨w.heap.size + 1, 2, none⟩ = some (.bool (metB L ys 2)) ∧ W.cell? ⟨w.heap.size + 1, 3, none⟩ = some (.bool (metB L ys 3)) ∧ W.cell? ⟨w.heap.size + 1, 4, none⟩ = some (.bool (metB L ys 4)) ∧ W.cell? ⟨w.heap.size + 1, 5, none⟩ = some (.bool (metB L ys 5)) := ⟨i1.get 0, i1.get 1, i1.get 2, i1.get 3, i1.get 4, i1.get 5⟩
    generalize metB L ys 0 = m0 at *
    generalize metB L ys 1 = m1 at *
    generalize metB L ys 2 = m2 at *
    generalize metB L ys 3 = m3 at *
    generalize metB L ys 4 = m4 at *
    generalize metB L ys 5 = m5 at *
    have z := fun k => i0.open_ k
    obtain ⟨z0, z1, z2, z3, z4, z5⟩ := (⟨z 0, z 1, z 2, z 3, z 4, z 5⟩ : W.frozen? ⟨w.heap.size, 0, none⟩ = false ∧ W.frozen? ⟨w.heap.size, 1, none⟩ = false ∧ W.frozen? ⟨w.heap.size, 2, none⟩ = false ∧ W.frozen? ⟨w.heap.size, 3, none⟩ = false ∧ W.frozen? ⟨w.heap.size, 4, none⟩ = false ∧ W.frozen? ⟨w.heap.size, 5, none⟩ = false)
    obtain ⟨p0, p1, p2, p3, p4, p5⟩ : W.cell? ⟨w.heap.size, 0, none⟩ = some (.bool false) ∧ W.cell? ⟨w.heap.size, 1, none⟩ = some (.bool false) ∧ W.cell? ⟨w.heap.size, 2, none⟩ = some (.bool false) ∧ W.cell? ⟨w.heap.size, 3, none⟩ = some (.bool false) ∧ W.cell? ⟨w.heap.size, 4, none⟩ = some (.bool false) ∧ W.cell? ⟨w.heap.size, 5, none⟩ = some (.bool false) := ⟨i0.get 0, i0.get 1, i0.get 2, i0.get 3, i0.get 4, i0.get 5⟩
    obtain ⟨W3, hW3⟩ : ∃ W3, (((((W.setCell ⟨w.heap.size, 0, none⟩ (.bool m0)).setCell ⟨w.heap.size, 1, none⟩ (.bool m1)).setCell ⟨w.heap.size, 2, none⟩ (.bool m2)).setCell ⟨w.heap.size, 3, none⟩ (.bool m3)).setCell ⟨w.heap.size, 4, none⟩ (.bool m4)).setCell ⟨w.heap.size, 5, none⟩ (.bool m5) = W3 := ⟨_, rfl⟩
    have KD : Hid (W3.heap[D]? = some (.deferred (some []))) := by
      show _ = _
      have hDg : D ≠ w.heap.size := defer_ne hK i0
      have e : ∀ (X : World) (k : Nat) (u : Value), (X.setCell ⟨w.heap.size, k, none⟩ u).heap[D]? = X.heap[D]? := fun X k u => Below.heap_setCell X ⟨w.heap.size, k, none⟩ u D hDg
      rw [← hW3, e, e, e, e, e, e]
      exact hK
    have R3 : Hid (IsRow W3 w.heap.size 49 #[.bool m0, .bool m1, .bool m2, .bool m3, .bool m4, .bool m5]) := hW3 ▸ (((((i0.put 0 (.bool m0)).put 1 (.bool m1)).put 2 (.bool m2)).put 3 (.bool m3)).put 4 (.bool m4)).put 5 (.bool m5)
    have BB : Hid (Below w.heap.size w W3) := hW3 ▸ (((((hb.setCell (p := ⟨w.heap.size, 0, none⟩) (Nat.le_refl _) _).setCell (p := ⟨w.heap.size, 1, none⟩) (Nat.le_refl _) _).setCell (p := ⟨w.heap.size, 2, none⟩) (Nat.le_refl _) _).setCell (p := ⟨w.heap.size, 3, none⟩) (Nat.le_refl _) _).setCell (p := ⟨w.heap.size, 4, none⟩) (Nat.le_refl _) _).setCell (p := ⟨w.heap.size, 5, none⟩) (Nat.le_refl _) _
    have HW3 := Lib.hid hW3
    clear i0 i1 hb hK z hW3
    gi_wp2
    rw [HW3.out]
    refine ⟨by simp, .inl ⟨_, _, rfl, run_takeDeferred KD.out, ?_⟩⟩
    have R4 : IsRow (W3.putObj D (.deferred none)) w.heap.size 49 #[.bool m0, .bool m1, .bool m2, .bool m3, .bool m4, .bool m5] := (World.putObj_heap_other (fun e => defer_ne KD.out R3.out e.symm)).trans R3.out
    exact ⟨_, results_cell_row rfl _ _ w.heap.size _ _ (0, 0) _ rfl R4 Try.underlying49 rfl infoSix, ⟨m0, m1, m2, m3, m4, m5, rfl, B2.out, B3.out, B5.out⟩, BB.out.trans (belowK_b (w := w) (Nat.le_refl _) W3 D _ _ (by have := b3.size; omega) KD.out rfl rfl)⟩
  case stop =>
    rintro D c pre W _ _ h _
    exact h.elim
end Go.Proofs.Ytlagolgmkmdhhaa.Rg
