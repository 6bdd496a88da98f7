/- ring.Simple. -/
import Derived.Test.YtlagolgmkmdhhaaRgSimpleMath
namespace Go.Proofs.Ytlagolgmkmdhhaa.Rg
open Go.RowKit Go.Sort Go.Shelf
open Go.Proofs.Ytlagolgmkmdhhaa.Geo hiding intOf Apart
attribute [local go_sem] Oper.semAt_some
theorem defer_ne {W : World} {D g : Nat} {t : TypeId} {cs : Array Value} (h : W.heap[D]? = some (.deferred (some []))) (hr : IsRow W g t cs) : D ≠ g := fun e => by
  subst e
  rw [show W.heap[D]? = some (.cells cs t (0, 0)) from hr] at h
  cases h
set_option maxRecDepth 100000 in
set_option maxHeartbeats 4000000 in
theorem simple_any (a : Option Addr) (n cap : Nat) (l : List Pt) (w : World) (hl : Pts w w.heap.size a l) (hln : n = l.length) (hcap : n ≤ cap) (hm : cap ≤ maxLen) :
    Calls Try.prog 9 #[.slice a n cap] w fun e w' => e = .returned (.bool (simpleN l)) ∧ Below w.heap.size w w' := by
  obtain ⟨R, hR⟩ : ∃ R, simpleN l = R := ⟨_, rfl⟩
  have HR := Lib.hid hR
  rw [hR]
  obtain ⟨V0, hV0⟩ : ∃ V, (w.alloc (.cells #[.slice a n cap] 22)).alloc (.cells #[.bool false] 4) = V := ⟨_, rfl⟩
  have bV : Below w.heap.size w V0 := hV0 ▸ alloc2 _ _ _
  have rV : IsRow V0 w.heap.size 22 #[.slice a n cap] := hV0 ▸ (IsRow.made _ _ _).later _
  have fV : IsRow V0 (w.heap.size + 1) 4 #[.bool false] := by
    have := IsRow.made (w.alloc (.cells #[.slice a n cap] 22)) 4 #[.bool false]
    rw [World.size_alloc] at this
    exact hV0 ▸ this
  have HF := Lib.hid (fits_any a n cap l V0 (hl.later bV) hln (Nat.le_trans hcap hm))
  have HL := Lib.hid (hl.later bV)
  have HN := Lib.hid hln
  have HV0 := Lib.hid hV0
  clear hR hl hln hm hV0
  cases hf : fitsN l with
  | false =>
    have HE := Lib.hid (show false = R by rw [← HR.out]; unfold simpleN; rw [hf]; rfl)
    rw [hf] at HF
    clear hf
    have v0 := rV.get 0
    go_enter Try.func9, Try.ntmps9
    go_upto_region 1 with fail
    rw [HV0.out]
    go_wp2_with fail
    refine HF.out.mono ?_
    rintro e W1 ⟨rfl, hb1⟩
    have f1 := fV.below hb1 fV.inside
    have q0 := f1.get 0
    have p0 := f1.open_ 0
    have B1 := Lib.hid ((bV.trans (hb1.mono bV.size)).setCell (p := ⟨w.heap.size + 1, 0, none⟩) (by simp) (.bool false))
    have F1 := Lib.hid (f1.put 0 (.bool false))
    clear hb1 v0
    go_wp2
    generalize W1.setCell ⟨w.heap.size + 1, 0, none⟩ (.bool false) = W3 at *
    have z0 := F1.out.get 0
    simp at z0
    refine bodyPost_ret (v := .bool false) (by simp [results, Try.f9, go_sem, z0]) rfl ?_
    exact ⟨ret_bool HE.out, B1.out⟩
  | true =>
    obtain ⟨h3, h2, hnear⟩ := fits_parts hf
    have HE := Lib.hid (show simpleB l = R by rw [← HR.out]; unfold simpleN; rw [hf]; rfl)
    rw [hf] at HF
    clear hf hnear
    have v0 := rV.get 0
    refine (callsIn_wide (n := 6)).1 ?_
    refine callsIn_of_wp_marks Try.func9 rfl trivial ?_ rfl
    simp only [Try.ntmps9, List.size_toArray, List.length_cons, List.length_nil, Nat.reduceAdd, Nat.reduceSub, Array.replicate_succ, Array.replicate_zero, List.push_toArray, List.append_toArray, List.nil_append, List.cons_append]
    gi_upto_region 1 with fail
    rw [HV0.out]
    gi_wp2_with fail
    refine ⟨trivial, ?_⟩
    refine (callsIn_wide.2 HF.out).mono ?_
    rintro e W1 ⟨rfl, hb1⟩
    have r1 := rV.below hb1 rV.inside
    have f1 := fV.below hb1 fV.inside
    have b1 := bV.trans (hb1.mono bV.size)
    have L1 := Lib.hid (HL.out.later hb1)
    have q0 := r1.get 0
    clear hb1 v0 rV fV HF HV0
    gi_wp2_with fail
    refine ⟨trivial, ?_⟩
    have hal := alloc1 W1 (.cells #[.slice a n cap] 22)
    refine (callsIn_wide.2 (sorted1_any W1.heap.size 1 a n cap l _ (IsRow.made W1 _ _) (L1.out.later hal) HN.out hcap (by have := HN.out; omega) (by have := HN.out; omega))).mono ?_
    rintro e W2 ⟨⟨v, L, rfl, hp, hasc, ho⟩, hb2⟩
    have hlen : L.length = l.length := by rw [hp.length_eq]; unfold sdsOf; simp
    obtain ⟨g, cg, rfl, hgb, hgc, hT⟩ := ownS_sdsT ho (by omega)
    have hb12 := hal.trans (hb2.mono hal.size)
    have r2 := r1.below hb12 r1.inside
    have f2 := f1.below hb12 f1.inside
    have b2 := b1.trans (hb12.mono b1.size)
    have hpl : ∀ i, i < L.length → (sdAt L i).p < l.length := fun i hi => by
      obtain ⟨k, hk, e⟩ := mem_sds.1 (hp.mem_iff.1 (sdAt_mem hi))
      rw [e, (sdOf_rp l 0 k).2]
      exact hk
    have HP := Lib.hid hp
    have HA := Lib.hid hasc
    have HT := Lib.hid hT
    have HPL := Lib.hid hpl
    have HLN := Lib.hid hlen
    clear hal hb2 hb12 r1 f1 b1 L1 q0 ho hp hasc hT hpl hlen hgb
    gi_wp2_with (refine ⟨trivial, ?_⟩; gi_at_call 21; refine (callsIn_wide.2 (pairs_any (some ⟨g, 0, none⟩) L.length cg _)).mono ?_; rintro e W3 ⟨rfl, rfl⟩)
    obtain ⟨W0, hW0⟩ : ∃ W0, W2.alloc (.cells #[.slice (some ⟨g, 0, none⟩) L.length cg] 42) = W0 := ⟨_, rfl⟩
    have h0 := alloc1 W2 (.cells #[.slice (some ⟨g, 0, none⟩) L.length cg] 42)
    rw [hW0] at h0
    have rb : IsRow W0 W2.heap.size 42 #[.slice (some ⟨g, 0, none⟩) L.length cg] := hW0 ▸ IsRow.made W2 _ _
    have r3 := r2.below h0 r2.inside
    have f3 := f2.below h0 f2.inside
    have b3 := b2.trans (h0.mono b2.size)
    have T3 : SdsT W0 g L := HT.out.kept (A := 0) (KpT.of_below h0)
    rw [hW0]
    clear hW0 h0 r2 f2 b2 HT
    refine wpIn_rangeFunc_ownH rfl (by omega) (gf := 38) (lb := #[.pointer (some ⟨W2.heap.size, 0, none⟩)]) rfl trivial (enters_of Try.func38 (by kernel_rfl) rfl)
      (pairs_stops 5 (by omega) g cg L L.length W2.heap.size W0 rb T3 rfl (by have := HLN.out; omega) hgc HA.out) KpT.trans (fun W l o o' h1 h2 h3 h4 => kpT_b (w := W0) W l o o' h1 h2 h3 h4) (Below.refl _ _) (fun _ => rfl)
      (fun pre W => (IsRow W w.heap.size 22 #[.slice a n cap] ∧ IsRow W (w.heap.size + 1) 4 #[.bool false]) ∧ (∀ x ∈ pre, mtN (sdAt L x.1.val) (sdAt L x.2.val) = wantN (sdAt L x.1.val).p (sdAt L x.2.val).p l.length) ∧ Below w.heap.size w W ∧ W0.heap.size ≤ W.heap.size)
      (fun c pre W => c = .ret ∧ IsRow W (w.heap.size + 1) 4 #[.bool false] ∧ (∃ x ∈ pre, mtN (sdAt L x.1.val) (sdAt L x.2.val) ≠ wantN (sdAt L x.1.val).p (sdAt L x.2.val).p l.length) ∧ Below w.heap.size w W)
      (OwnFrom.and (OwnFrom.and (Own.from (row_own _ _ (fun _ => _)) _) (Own.from (row_own _ _ (fun _ => _)) _)) (OwnFrom.and (ownFrom_pure _ _) (OwnFrom.and (ownFrom_below (Nat.le_refl _) b3.size) (fun _ _ _ _ hs hg _ => Nat.le_trans hs hg.size))))
      (fun c => OwnFrom.and (ownFrom_pure _ (fun _ => c = .ret)) (OwnFrom.and (Own.from (row_own _ _ (fun _ => _)) _) (OwnFrom.and (ownFrom_pure _ _) (ownFrom_below (Nat.le_refl _) b3.size))))
      ⟨⟨r3, f3⟩, (fun x hx => by cases hx), b3, Nat.le_refl _⟩
      (fun x a' W => ∃ Bx By, W0.heap.size ≤ Bx ∧ W0.heap.size ≤ By ∧ IsRow W Bx 45 #[.int .i64 (sdAt L x.1.val).a.x, .int .i64 (sdAt L x.1.val).a.y, .int .i64 (sdAt L x.1.val).b.x, .int .i64 (sdAt L x.1.val).b.y, .int .i64 (sdAt L x.1.val).r, .int .i64 (sdAt L x.1.val).p] ∧ IsRow W By 45 #[.int .i64 (sdAt L x.2.val).a.x, .int .i64 (sdAt L x.2.val).a.y, .int .i64 (sdAt L x.2.val).b.x, .int .i64 (sdAt L x.2.val).b.y, .int .i64 (sdAt L x.2.val).r, .int .i64 (sdAt L x.2.val).p] ∧
        a' = { tmps := #[.slice a n cap, .pointer (some ⟨w.heap.size, 0, none⟩), .pointer (some ⟨w.heap.size + 1, 0, none⟩), .pointer (some ⟨Bx, 0, none⟩), .pointer (some ⟨By, 0, none⟩), undef, .slice a n cap, .bool true, .bool false, .slice a n cap, .slice (some ⟨W1.heap.size, 0, none⟩) 1 1, .slice (some ⟨g, 0, none⟩) L.length cg, .func (.func 38) #[] #[.pointer (some ⟨W2.heap.size, 0, none⟩)], .agg #[.int .i64 (sdAt L x.1.val).a.x, .int .i64 (sdAt L x.1.val).a.y, .int .i64 (sdAt L x.1.val).b.x, .int .i64 (sdAt L x.1.val).b.y, .int .i64 (sdAt L x.1.val).r, .int .i64 (sdAt L x.1.val).p], .agg #[.int .i64 (sdAt L x.2.val).a.x, .int .i64 (sdAt L x.2.val).a.y, .int .i64 (sdAt L x.2.val).b.x, .int .i64 (sdAt L x.2.val).b.y, .int .i64 (sdAt L x.2.val).r, .int .i64 (sdAt L x.2.val).p], undef, undef, undef, undef, undef, undef, undef, undef, undef, undef, undef, undef, undef, undef], defers := [] })
      (fun x a' _ X Y row hs hg hr => by
        obtain ⟨Bx, By, h1, h2, h3, h4, h5⟩ := hs
        exact ⟨Bx, By, h1, h2, Own.from (row_own Bx _ (fun _ : Unit => _)) W0.heap.size () X Y row h3 hg hr, Own.from (row_own By _ (fun _ : Unit => _)) W0.heap.size () X Y row h4 hg hr, h5⟩) ?assign ?body ?done ?stop
    case assign =>
      rintro y pre x W K ⟨⟨i0, i1⟩, hi, hb, hsz⟩ hK
      dsimp only [encp, encSd]
      gi_wp2
      have e : (W.alloc (.cells #[.int .i64 (sdAt L x.1.val).a.x, .int .i64 (sdAt L x.1.val).a.y, .int .i64 (sdAt L x.1.val).b.x, .int .i64 (sdAt L x.1.val).b.y, .int .i64 (sdAt L x.1.val).r, .int .i64 (sdAt L x.1.val).p] 45)).heap.size = W.heap.size + 1 := by simp
      refine hK _ _ ((KeepsOthers.alloc _ _).trans (KeepsOthers.alloc _ _) |>.from _) (KpT.of_below (alloc2 _ _ _)) ⟨⟨(i0.later _).later _, (i1.later _).later _⟩, hi, hb.trans ((alloc2 _ _ _).mono hb.size), by simp; omega⟩ ⟨W.heap.size, W.heap.size + 1, hsz, by omega, (IsRow.made W _ _).later _, ?_, rfl⟩
      have := IsRow.made (W.alloc (.cells #[.int .i64 (sdAt L x.1.val).a.x, .int .i64 (sdAt L x.1.val).a.y, .int .i64 (sdAt L x.1.val).b.x, .int .i64 (sdAt L x.1.val).b.y, .int .i64 (sdAt L x.1.val).r, .int .i64 (sdAt L x.1.val).p] 45)) 45 #[.int .i64 (sdAt L x.2.val).a.x, .int .i64 (sdAt L x.2.val).a.y, .int .i64 (sdAt L x.2.val).b.x, .int .i64 (sdAt L x.2.val).b.y, .int .i64 (sdAt L x.2.val).r, .int .i64 (sdAt L x.2.val).p]
      rw [e] at this
      exact this
    case body =>
      rintro y pre ⟨⟨i, hi1⟩, ⟨j, hj1⟩⟩ a' W - - ⟨⟨i0, i1⟩, hi, hb, hsz⟩ ⟨Bx, By, hBx, hBy, rx, ry, rfl⟩ hlt
      dsimp only at rx ry
      obtain ⟨c0, c1, c2, c3, c4, c5⟩ : W.cell? ⟨Bx, 0, none⟩ = some (.int .i64 (sdAt L i).a.x) ∧ W.cell? ⟨Bx, 1, none⟩ = some (.int .i64 (sdAt L i).a.y) ∧ W.cell? ⟨Bx, 2, none⟩ = some (.int .i64 (sdAt L i).b.x) ∧ W.cell? ⟨Bx, 3, none⟩ = some (.int .i64 (sdAt L i).b.y) ∧ W.cell? ⟨Bx, 4, none⟩ = some (.int .i64 (sdAt L i).r) ∧ W.cell? ⟨Bx, 5, none⟩ = some (.int .i64 (sdAt L i).p) := ⟨rx.get 0, rx.get 1, rx.get 2, rx.get 3, rx.get 4, rx.get 5⟩
      obtain ⟨d0, d1, d2, d3, d4, d5⟩ : W.cell? ⟨By, 0, none⟩ = some (.int .i64 (sdAt L j).a.x) ∧ W.cell? ⟨By, 1, none⟩ = some (.int .i64 (sdAt L j).a.y) ∧ W.cell? ⟨By, 2, none⟩ = some (.int .i64 (sdAt L j).b.x) ∧ W.cell? ⟨By, 3, none⟩ = some (.int .i64 (sdAt L j).b.y) ∧ W.cell? ⟨By, 4, none⟩ = some (.int .i64 (sdAt L j).r) ∧ W.cell? ⟨By, 5, none⟩ = some (.int .i64 (sdAt L j).p) := ⟨ry.get 0, ry.get 1, ry.get 2, ry.get 3, ry.get 4, ry.get 5⟩
      have q0 := i0.get 0
      have pi := HPL.out i hi1
      have pj := HPL.out j hj1
      obtain ⟨nb, hnb⟩ : ∃ nb, nbN (sdAt L i).p (sdAt L j).p n = nb := ⟨_, rfl⟩
      obtain ⟨mt, hmt⟩ : ∃ mt, mtN (sdAt L i) (sdAt L j) = mt := ⟨_, rfl⟩
      have hw : wantN (sdAt L i).p (sdAt L j).p l.length = if nb then 1 else 0 := by rw [← hnb, HN.out]; rfl
      have NB := Lib.hid (areNeighbours_any (sdAt L i).p (sdAt L j).p n (by have := HN.out; omega) (by have := HN.out; omega) (by have := HN.out; omega) (by have := HN.out; omega) W)
      rw [hnb] at NB
      have MT : Hid (Answers Try.prog 24 #[.agg #[.int .i64 (sdAt L i).a.x, .int .i64 (sdAt L i).a.y, .int .i64 (sdAt L i).b.x, .int .i64 (sdAt L i).b.y], .agg #[.int .i64 (sdAt L j).a.x, .int .i64 (sdAt L j).a.y, .int .i64 (sdAt L j).b.x, .int .i64 (sdAt L j).b.y]] (.int .i64 mt)) := (meets_any _ _ _ _).to (by rw [← hmt]; rfl)
      have HW := Lib.hid hw
      have HMT := Lib.hid hmt
      clear hnb hmt hw pi pj
      gi_wp2_with fail
      refine ⟨trivial, ?_⟩
      refine (CallsIn.inRound y (callsIn_wide.2 NB.out)).mono ?_
      rintro e W' ⟨rfl, rfl⟩
      gi_upto_if 21 with fail
      gi_cut [5] from 22 (fun s5 wx => s5 = .int .i64 (if nb then 1 else 0) ∧ wx = W)
      case first =>
        cases nb with
        | true =>
          gi_wp2_with fail
          gi_meet
          case rel => exact ⟨rfl, rfl⟩
        | false =>
          gi_wp2_with fail
          gi_meet
          case rel => exact ⟨rfl, rfl⟩
      obtain ⟨rfl, hcut⟩ := hcut
      rw [hcut]
      clear hcut
      obtain ⟨wt, hwt⟩ : ∃ wt : Int, (if nb = true then 1 else 0) = wt := ⟨_, rfl⟩
      rw [hwt] at HW ⊢
      clear hwt NB q0
      gi_wp2_with fail
      refine ⟨trivial, ?_⟩
      refine (CallsIn.inRound y (callsIn_wide.2 (MT.out _))).mono ?_
      rintro e V1 ⟨rfl, hb1⟩
      have i0' := i0.below hb1 i0.inside
      have i1' := i1.below hb1 i1.inside
      have hb' := hb.trans (hb1.mono hb.size)
      have ks := keeps_of_below W0.heap.size hb1
      have kp : KpT 0 45 42 W V1 := KpT.of_below hb1
      have hsz' := Nat.le_trans hsz hb1.size
      clear c0 c1 c2 c3 c4 c5 d0 d1 d2 d3 d4 d5 rx ry i0 i1 hb1
      by_cases hm : mt = wt
      · have e1 : (mt == wt) = true := by simpa using hm
        have e2 : (mt != wt) = false := by simp [hm]
        have hi' : Hid (∀ x ∈ pre ++ [(⟨i, hi1⟩, ⟨j, hj1⟩)], mtN (sdAt L x.1.val) (sdAt L x.2.val) = wantN (sdAt L x.1.val).p (sdAt L x.2.val).p l.length) := fun x hx => by
          rcases List.mem_append.1 hx with hx | hx
          · exact hi x hx
          · rw [List.mem_singleton] at hx
            subst hx
            dsimp only
            rw [HMT.out, HW.out, hm]
        clear hi hm
        gi_wp2
        exact ⟨ks, kp, ⟨i0', i1'⟩, hi'.out, hb', hsz'⟩
      · have e1 : (mt == wt) = false := by simpa using hm
        have e2 : (mt != wt) = true := by simp [hm]
        have hx' : Hid (∃ x ∈ pre ++ [(⟨i, hi1⟩, ⟨j, hj1⟩)], mtN (sdAt L x.1.val) (sdAt L x.2.val) ≠ wantN (sdAt L x.1.val).p (sdAt L x.2.val).p l.length) := by
          refine ⟨(⟨i, hi1⟩, ⟨j, hj1⟩), by simp, ?_⟩
          dsimp only
          rw [HMT.out, HW.out]
          exact hm
        have z0 := i1'.get 0
        have y0 := i1'.open_ 0
        clear hi hm
        gi_wp2
        exact ⟨ks.trans ((KeepsOthers.setCell _ _ _).from _), rfl, i1'.put 0 _, hx'.out, hb'.setCell (p := ⟨w.heap.size + 1, 0, none⟩) (by simp) _⟩
    case done =>
      rintro D ys W hD hys ⟨⟨i0, i1⟩, hi, hb, hsz⟩ hK
      have hT : Hid (true = R) := by
        show true = R
        rw [← HE.out, eq_comm]
        exact (simple_pairs HP.out HA.out).1 (fun x hx => hi x ((hys x).2 hx))
      have z0 := i1.get 0
      have y0 := i1.open_ 0
      have KD : Hid ((W.setCell ⟨w.heap.size + 1, 0, none⟩ (.bool true)).heap[D]? = some (.deferred (some []))) := (Below.heap_setCell W ⟨w.heap.size + 1, 0, none⟩ _ D (by have := i1.inside; simp only; exact fun e => defer_ne hK i1 e)).trans hK
      have i1' := i1.put 0 (.bool true)
      have hb' := hb.setCell (p := ⟨w.heap.size + 1, 0, none⟩) (by simp) (.bool true)
      gi_wp2
      generalize W.setCell ⟨w.heap.size + 1, 0, none⟩ (.bool true) = W3 at *
      refine ⟨by simp, .inl ⟨_, _, rfl, run_takeDeferred KD.out, ?_⟩⟩
      have R4 : IsRow (W3.putObj D (.deferred none)) (w.heap.size + 1) 4 #[.bool true] := (World.putObj_heap_other (fun e => defer_ne KD.out i1' e.symm)).trans i1'
      have z0 := R4.get 0
      refine ⟨.bool true, ?_, ret_bool hT.out, hb'.trans (belowK_b (w := w) (Nat.le_refl _) W3 D _ _ (by have := b3.size; omega) KD.out rfl rfl)⟩
      simp at z0
      simp [results, Try.f9, go_sem, z0]
    case stop =>
      rintro D c pre W hD hsp ⟨rfl, i1, ⟨x, hx, hne⟩, hb⟩ hK
      have hT : Hid (false = R) := by
        show false = R
        rw [← HE.out, eq_comm, Bool.eq_false_iff]
        exact fun hc => hne ((simple_pairs HP.out HA.out).2 hc x (hsp x hx))
      gi_wp2
      refine ⟨by simp, .inl ⟨_, _, rfl, run_takeDeferred hK, ?_⟩⟩
      have R4 : IsRow (W.putObj D (.deferred none)) (w.heap.size + 1) 4 #[.bool false] := (World.putObj_heap_other (fun e => defer_ne hK i1 e.symm)).trans i1
      have z0 := R4.get 0
      refine ⟨.bool false, ?_, ret_bool hT.out, hb.trans (belowK_b (w := w) (Nat.le_refl _) W D _ _ (by have := b3.size; omega) hK rfl rfl)⟩
      simp at z0
      simp [results, Try.f9, go_sem, z0]
end Go.Proofs.Ytlagolgmkmdhhaa.Rg
