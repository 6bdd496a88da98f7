/- ring.sorted of two rings. -/
import Derived.Test.YtlagolgmkmdhhaaRgSorted
namespace Go.Proofs.Ytlagolgmkmdhhaa.Rg
open Go.RowKit Go.Sort Go.Shelf
open Go.Proofs.Ytlagolgmkmdhhaa.Geo hiding intOf
attribute [local go_sem] Oper.semAt_some
set_option maxRecDepth 100000 in
set_option maxHeartbeats 4000000 in
theorem sorted2_any (gs cp : Nat) (a a2 : Option Addr) (n cap n2 cap2 : Nat) (l m : List Pt) (w : World) (hg : IsRow w gs 22 #[.slice a n cap, .slice a2 n2 cap2]) (hl : Pts w w.heap.size a l) (hm : Pts w w.heap.size a2 m) (hln : n = l.length) (hmn : n2 = m.length) (hcap : n ≤ cap) (hcap2 : n2 ≤ cap2) (h3 : 2 ≤ n) (h2 : n ≤ 2000) (h32 : 2 ≤ n2) (h22 : n2 ≤ 2000) :
    Calls Try.prog 22 #[.slice (some ⟨gs, 0, none⟩) 2 cp] w fun e w' => (∃ v l', e = .returned v ∧ l'.Perm (sdsOf l 0 ++ sdsOf m 1) ∧ Asc l' ∧ OwnS w' w.heap.size v l') ∧ Below w.heap.size w w' := by
  have HL := Lib.hid hl
  have HM := Lib.hid hm
  have HN := Lib.hid hln
  have HN2 := Lib.hid hmn
  have HG := Lib.hid hg
  have hdl := Lib.hid (show (sdsOf l 0).length = l.length by unfold sdsOf; simp)
  clear hl hln hg hm hmn
  refine (callsIn_wide (n := 6)).1 ?_
  refine callsIn_of_wp_marks Try.func22 rfl trivial ?_ rfl
  simp only [Try.ntmps22, List.size_toArray, List.length_cons, List.length_nil, Nat.reduceAdd, Nat.reduceSub, Array.replicate_succ, Array.replicate_zero, List.push_toArray, List.append_toArray, List.nil_append, List.cons_append]
  gi_wp2
  obtain ⟨V0, hV0⟩ : ∃ V, w.alloc (.cells #[.slice none 0 0] 42) = V := ⟨_, rfl⟩
  have rl : IsRow V0 w.heap.size 42 #[.slice none 0 0] := hV0 ▸ IsRow.made w _ _
  have bV : Below w.heap.size w V0 := hV0 ▸ alloc1 w _
  have sV : V0.heap.size = w.heap.size + 1 := by rw [← hV0]; simp
  have g0 : V0.cell? ⟨gs, 0, none⟩ = some (.slice a n cap) := (HG.out.below bV HG.out.inside).get 0
  rw [hV0]
  clear hV0
  refine wpIn_loop_rounds 3 ?_
  rw [roundsIn_succ]
  gi_wp2_with (refine ⟨trivial, ?_⟩; gi_at_call 18; refine (callsIn_wide.2 (sides_any a n cap _)).mono ?_; rintro e W2 ⟨rfl, rfl⟩)
  obtain ⟨W0, hW0⟩ : ∃ W0, (V0.alloc (.cells #[.int .i64 0] 3)).alloc (.cells #[.slice a n cap] 22) = W0 := ⟨_, rfl⟩
  have r1 : IsRow W0 w.heap.size 42 #[.slice none 0 0] := hW0 ▸ (rl.later _).later _
  have r2 : IsRow W0 (w.heap.size + 1) 3 #[.int .i64 (0 : Nat)] := by
    have := (IsRow.made V0 3 #[.int .i64 0]).later (.cells #[.slice a n cap] 22)
    rw [sV] at this
    exact hW0 ▸ this
  have rb : IsRow W0 (w.heap.size + 1 + 1) 22 #[.slice a n cap] := by
    have := IsRow.made (V0.alloc (.cells #[.int .i64 0] 3)) 22 #[.slice a n cap]
    rw [World.size_alloc, sV] at this
    exact hW0 ▸ this
  have b0 : Below w.heap.size w W0 := hW0 ▸ bV.trans ((alloc2 V0 _ _).mono bV.size)
  have hs0 : W0.heap.size = w.heap.size + 3 := by rw [← hW0]; simp [sV]
  have HLW : Pts W0 w.heap.size a l := HL.out.below b0
  rw [hW0]
  clear hW0 rl bV
  refine wpIn_rangeFunc_ownH rfl (by omega) (gf := 36) (lb := #[.pointer (some ⟨w.heap.size + 1 + 1, 0, none⟩)]) rfl trivial (enters_of Try.func36 (by kernel_rfl) rfl)
    (sides_stops 5 (by omega) a n cap l w.heap.size (w.heap.size + 1 + 1) W0 rb HLW b0.size HN.out h3 h2 hcap) KpT.trans (fun W l o o' h1 h2 h3 h4 => kpT_b (w := W0) W l o o' h1 h2 h3 h4) (Below.refl _ _) (fun _ => rfl)
    (fun pre W => InvS w W0 w.heap.size (w.heap.size + 1) 0 none ([] ++ pre.map fun k : Fin l.length => sdOf l 0 k.val) W)
    (fun _ _ _ => False)
    (InvS.own (fun pre : List (Fin l.length) => [] ++ pre.map fun k : Fin l.length => sdOf l 0 k.val) b0.size (fun d e => by cases e))
    (fun _ _ _ _ _ hs _ _ => hs)
    ⟨⟨_, r1, ownS_nil _ _⟩, r2, b0, Nat.le_refl _, fun d e => by cases e⟩
    (fun x a' W => ∃ Bx, W0.heap.size ≤ Bx ∧ IsRow W Bx 33 #[.int .i64 (cor l x.val).x, .int .i64 (cor l x.val).y, .int .i64 (nxt l x.val).x, .int .i64 (nxt l x.val).y] ∧
      a' = { tmps := #[.slice (some ⟨gs, 0, none⟩) 2 cp, undef, .slice none 0 0, .pointer (some ⟨w.heap.size, 0, none⟩), .pointer (some ⟨w.heap.size + 1, 0, none⟩), .slice a n cap, .int .i64 (x.val : Int), .pointer (some ⟨Bx, 0, none⟩), .slice (some ⟨gs, 0, none⟩) 2 cp, .int .i64 2, .int .i64 0, .bool true, .int .i64 0, .pointer (some ⟨gs, 0, none⟩), .slice a n cap, .slice a n cap, .func (.func 36) #[] #[.pointer (some ⟨w.heap.size + 1 + 1, 0, none⟩)], .int .i64 (x.val : Int), .agg #[.int .i64 (cor l x.val).x, .int .i64 (cor l x.val).y, .int .i64 (nxt l x.val).x, .int .i64 (nxt l x.val).y], undef, undef, undef, undef, undef, undef, undef, undef, undef, undef, undef, undef, undef, undef, undef, undef, undef, undef, undef, undef, undef, undef, undef], defers := [] })
    (fun x a' _ X Y row hs hg hr => by
      obtain ⟨Bx, h1, h2, h3⟩ := hs
      exact ⟨Bx, h1, Own.from (row_own Bx _ (fun _ : Unit => _)) W0.heap.size () X Y row h2 hg hr, h3⟩) ?assign0 ?body0 ?done0 ?stop0
  case assign0 =>
    rintro y pre x W K hi hK
    gi_wp2
    exact hK _ _ ((KeepsOthers.alloc _ _).from _) (KpT.of_below (alloc1 _ _)) (hi.later (alloc1 _ _)) ⟨W.heap.size, hi.2.2.2.1, IsRow.made W _ _, rfl⟩
  case body0 =>
    rintro y pre ⟨k, hk⟩ a' W - - ⟨⟨v, i1, i2⟩, i3, i4, i5, i6⟩ ⟨Bx, hBx, rx, rfl⟩ hlt
    have HR := Lib.hid (Rnd.begin (W := W) i1 i2 i3 i4 i5 i6 rx)
    obtain ⟨d0, d1, d2, d3⟩ : W.cell? ⟨Bx, 0, none⟩ = some (.int .i64 (cor l k).x) ∧ W.cell? ⟨Bx, 1, none⟩ = some (.int .i64 (cor l k).y) ∧ W.cell? ⟨Bx, 2, none⟩ = some (.int .i64 (nxt l k).x) ∧ W.cell? ⟨Bx, 3, none⟩ = some (.int .i64 (nxt l k).y) := ⟨rx.get 0, rx.get 1, rx.get 2, rx.get 3⟩
    obtain ⟨c, hc⟩ : ∃ c, cmpN (cor l k) (nxt l k) = c := ⟨_, rfl⟩
    have C1 := Lib.hid ((compare_any (cor l k) (nxt l k)).to (by rw [hc]))
    have HC := Lib.hid hc
    have nBl : Bx ≠ w.heap.size := by omega
    have nBr : Bx ≠ w.heap.size + 1 := by omega
    have nBw : w.heap.size ≤ Bx := by omega
    clear hc i1 i2 i3 i4 i5 i6 rx hBx
    gi_wp2_with fail
    refine ⟨trivial, ?_⟩
    refine (CallsIn.inRound y (callsIn_wide.2 (C1.out _))).mono ?_
    rintro e V1 ⟨rfl, hb1⟩
    have HR1 := Lib.hid (HR.out.later hb1)
    clear d0 d1 d2 d3 hb1 HR
    obtain ⟨d0, d1, d2, d3⟩ : V1.cell? ⟨Bx, 0, none⟩ = some (.int .i64 (cor l k).x) ∧ V1.cell? ⟨Bx, 1, none⟩ = some (.int .i64 (cor l k).y) ∧ V1.cell? ⟨Bx, 2, none⟩ = some (.int .i64 (nxt l k).x) ∧ V1.cell? ⟨Bx, 3, none⟩ = some (.int .i64 (nxt l k).y) := ⟨HR1.out.mx.get 0, HR1.out.mx.get 1, HR1.out.mx.get 2, HR1.out.mx.get 3⟩
    have f0 := HR1.out.mx.open_ 0
    have f1 := HR1.out.mx.open_ 1
    have f2 := HR1.out.mx.open_ 2
    have f3 := HR1.out.mx.open_ 3
    gi_upto_if 24 with fail
    gi_cut [7] from 25 (fun s7 wx => s7 = .pointer (some ⟨Bx, 0, none⟩) ∧ Hid (Rnd w W0 W wx w.heap.size (w.heap.size + 1) Bx 0 none v ([] ++ pre.map fun k : Fin l.length => sdOf l 0 k.val) #[.int .i64 (sdOf l 0 k).a.x, .int .i64 (sdOf l 0 k).a.y, .int .i64 (sdOf l 0 k).b.x, .int .i64 (sdOf l 0 k).b.y]))
    case first =>
      by_cases hcp : c > 0
      · have HS := Lib.hid (HR1.out.swap nBw nBl nBr)
        have HE := Lib.hid (sdOf_swap (r := 0) HC.out hcp)
        gi_wp2_with fail
        gi_meet
        case rel => exact ⟨rfl, by rw [HE.out]; exact HS⟩
      · have HE := Lib.hid (sdOf_same (r := 0) HC.out hcp)
        have hcp' : c ≤ 0 := by omega
        gi_wp2_with fail
        gi_meet
        case rel => exact ⟨rfl, by rw [HE.out]; exact HR1⟩
    obtain ⟨rfl, HR2⟩ := hcut
    clear d0 d1 d2 d3 f0 f1 f2 f3 HR1
    have HSN := Lib.hid (sd_snoc ([]) pre ⟨k, hk⟩ (fun k : Fin l.length => sdOf l 0 k.val))
    have hL : Hid (([] ++ pre.map fun k : Fin l.length => sdOf l 0 k.val : List Sd).length + 1 ≤ 5000) := by
      show _ ≤ _
      have := HN.out
      simp
      omega
    obtain ⟨s, hs⟩ : ∃ s, sdOf l 0 k = s := ⟨_, rfl⟩
    have henc : Hid (encSd s = [.int .i64 s.a.x, .int .i64 s.a.y, .int .i64 s.b.x, .int .i64 s.b.y, .int .i64 0, .int .i64 k]) := encSd_eq (hs ▸ sdOf_rp l 0 k : s.r = 0 ∧ s.p = k)
    obtain ⟨L, hLL⟩ : ∃ L : List Sd, ([] ++ pre.map fun k : Fin l.length => sdOf l 0 k.val) = L := ⟨_, rfl⟩
    dsimp only at HSN
    rw [hs, hLL] at HSN
    rw [hs, hLL] at HR2
    rw [hLL] at hL
    clear hs hLL
    have q0 := HR2.out.m1.get 0
    have p0 := HR2.out.m1.open_ 0
    have q1 := HR2.out.m3.get 0
    obtain ⟨e0, e1, e2, e3⟩ : wc.cell? ⟨Bx, 0, none⟩ = some (.int .i64 s.a.x) ∧ wc.cell? ⟨Bx, 1, none⟩ = some (.int .i64 s.a.y) ∧ wc.cell? ⟨Bx, 2, none⟩ = some (.int .i64 s.b.x) ∧ wc.cell? ⟨Bx, 3, none⟩ = some (.int .i64 s.b.y) := ⟨HR2.out.mx.get 0, HR2.out.mx.get 1, HR2.out.mx.get 2, HR2.out.mx.get 3⟩
    obtain ⟨i0, hi0, hs0', hb0', hz0'⟩ := info_of side_info
    have HI := Lib.hid (And.intro hi0 (And.intro hs0' (And.intro hb0' hz0')))
    have hsz := HR2.out.m4.size
    have H9 := Lib.hid (HR2.out.later (alloc1 wc (.cells #[.int .i64 s.a.x, .int .i64 s.a.y, .int .i64 s.b.x, .int .i64 s.b.y, .int .i64 0, .int .i64 k] 45)))
    clear hi0 hs0' hb0' hz0'
    gi_wp2_with (gi_at_builtin; go_loud (refine wpListIn_append_own _ rfl _ _ 42 rfl w.heap.size 45 i0 _ 6 48 Try.underlying42 HI.out.1 HI.out.2.2.2 HI.out.2.1 HI.out.2.2.1 (by decide) (by decide) v L.length (flatS L) rfl H9.out.m2 ⟨wc.heap.size, 0, none⟩ 1 1 [.int .i64 s.a.x, .int .i64 s.a.y, .int .i64 s.b.x, .int .i64 s.b.y, .int .i64 0, .int .i64 k] rfl rfl (World.news_of_block (heap_alloc_new wc _)) (henc.out ▸ encSd_one s) (by have := hL.out; unfold maxLen; omega) (by have := hL.out; omega) (by simp; omega) ?_; intro v' w1 hown' hgrow _; obtain ⟨g', cap', hv'⟩ := ownsRow_succ hown'; subst hv'; have hr1 := IsRow.grown H9.out.m1 hgrow (H9.out.m2.ne H9.out.m1 (by decide)); have hq1 := hr1.get 0; have hp1 := hr1.open_ 0))
    rw [← henc.out] at hown'
    have hgrow' : (wc.alloc (.cells (encSd s).toArray 45)).grownBy w1 v.ownBlock := by rw [henc.out]; exact hgrow
    obtain ⟨z1, z2, z3⟩ := HR2.out.fin (Nat.le_refl _) (by omega) hown' hgrow'
    rw [← HSN.out] at z3
    exact ⟨z1, z2, z3⟩
  case stop0 =>
    rintro D c pre W _ _ h _
    exact h.elim
  case done0 =>
    rintro D1 ys W hD1 rfl ⟨⟨v, i1, i2⟩, i3, i4, i5, i6⟩ hK
    obtain ⟨X, hX⟩ : ∃ X, W.alloc (.cells #[.int .i64 1] 3) = X := ⟨_, rfl⟩
    have j1 := Lib.hid i1
    have j2 : Hid (OwnS W w.heap.size v (sdsOf l 0)) := i2
    have j4 := Lib.hid i4
    have KD := Lib.hid hK
    have g1 : W.cell? ⟨gs, 1, none⟩ = some (.slice a2 n2 cap2) := (HG.out.below i4 HG.out.inside).get 1
    have hzw : w.heap.size + 3 ≤ W.heap.size := by omega
    clear i1 i2 i3 i4 i6 hK hX X
    gi_wp2_with fail
    rw [roundsIn_succ]
    gi_wp2_with (refine ⟨trivial, ?_⟩; gi_at_call 18; refine (callsIn_wide.2 (sides_any a2 n2 cap2 _)).mono ?_; rintro e W2 ⟨rfl, rfl⟩)
    obtain ⟨Z0, hZ0⟩ : ∃ Z0, (W.alloc (.cells #[.int .i64 1] 3)).alloc (.cells #[.slice a2 n2 cap2] 22) = Z0 := ⟨_, rfl⟩
    have bz : Below W.heap.size W Z0 := hZ0 ▸ alloc2 W _ _
    have q1 := j1.out.below bz j1.out.inside
    have q2 := OwnS.below j2.out bz
    have q3 : IsRow Z0 W.heap.size 3 #[.int .i64 (1 : Nat)] := hZ0 ▸ (IsRow.made W _ _).later _
    have rb2 : IsRow Z0 (W.heap.size + 1) 22 #[.slice a2 n2 cap2] := by
      have := IsRow.made (W.alloc (.cells #[.int .i64 1] 3)) 22 #[.slice a2 n2 cap2]
      rw [World.size_alloc] at this
      exact hZ0 ▸ this
    have c0 : Below w.heap.size w Z0 := j4.out.trans (bz.mono j4.out.size)
    have hsz : Z0.heap.size = W.heap.size + 2 := by rw [← hZ0]; simp
    have HLZ : Pts Z0 w.heap.size a2 m := HM.out.below c0
    have hD1z : Z0.heap[D1]? = some (.deferred (some [])) := (bz.block D1 (Array.getElem?_eq_some_iff.1 KD.out).1).trans KD.out
    have hDW : D1 < Z0.heap.size := (Array.getElem?_eq_some_iff.1 hD1z).1
    rw [hZ0]
    generalize W.heap.size = z1 at *
    have hinv2 : InvS w Z0 w.heap.size z1 1 (some D1) (sdsOf l 0 ++ ([] : List (Fin m.length)).map fun k : Fin m.length => sdOf m 1 k.val) Z0 :=
      ⟨⟨v, q1, by rw [List.map_nil, List.append_nil]; exact q2⟩, q3, c0, Nat.le_refl _, fun d e => by injection e with e; subst e; exact hD1z⟩
    clear hZ0 bz q1 q2 q3 j1 j2 j4 KD g1
    refine wpIn_rangeFunc_ownH rfl (by omega) (gf := 36) (lb := #[.pointer (some ⟨z1 + 1, 0, none⟩)]) rfl trivial (enters_of Try.func36 (by kernel_rfl) rfl)
      (sides_stops 5 (by omega) a2 n2 cap2 m w.heap.size (z1 + 1) Z0 rb2 HLZ c0.size HN2.out h32 h22 hcap2) KpT.trans (fun W l o o' h1 h2 h3 h4 => kpT_b (w := Z0) W l o o' h1 h2 h3 h4) (Below.refl _ _) (fun _ => rfl)
      (fun pre W => InvS w Z0 w.heap.size (z1) 1 (some D1) (sdsOf l 0 ++ pre.map fun k : Fin m.length => sdOf m 1 k.val) W)
      (fun _ _ _ => False)
      (InvS.own (fun pre : List (Fin m.length) => sdsOf l 0 ++ pre.map fun k : Fin m.length => sdOf m 1 k.val) c0.size (fun d e => by injection e with e; subst e; exact hDW))
      (fun _ _ _ _ _ hs _ _ => hs)
      hinv2
      (fun x a' W => ∃ Bx, Z0.heap.size ≤ Bx ∧ IsRow W Bx 33 #[.int .i64 (cor m x.val).x, .int .i64 (cor m x.val).y, .int .i64 (nxt m x.val).x, .int .i64 (nxt m x.val).y] ∧
        a' = { tmps := #[.slice (some ⟨gs, 0, none⟩) 2 cp, undef, .slice none 0 0, .pointer (some ⟨w.heap.size, 0, none⟩), .pointer (some ⟨z1, 0, none⟩), .slice a2 n2 cap2, .int .i64 (x.val : Int), .pointer (some ⟨Bx, 0, none⟩), .slice (some ⟨gs, 0, none⟩) 2 cp, .int .i64 2, .int .i64 1, .bool true, .int .i64 1, .pointer (some ⟨gs, 1, none⟩), .slice a2 n2 cap2, .slice a2 n2 cap2, .func (.func 36) #[] #[.pointer (some ⟨z1 + 1, 0, none⟩)], .int .i64 (x.val : Int), .agg #[.int .i64 (cor m x.val).x, .int .i64 (cor m x.val).y, .int .i64 (nxt m x.val).x, .int .i64 (nxt m x.val).y], undef, undef, undef, undef, undef, undef, undef, undef, undef, undef, undef, undef, undef, undef, undef, undef, undef, undef, undef, .int .i64 1, undef, undef, undef], defers := [] })
      (fun x a' _ X Y row hs hg hr => by
        obtain ⟨Bx, h1, h2, h3⟩ := hs
        exact ⟨Bx, h1, Own.from (row_own Bx _ (fun _ : Unit => _)) Z0.heap.size () X Y row h2 hg hr, h3⟩) ?assign1 ?body1 ?done1 ?stop1
    case assign1 =>
      rintro y pre x W K hi hK
      gi_wp2
      exact hK _ _ ((KeepsOthers.alloc _ _).from _) (KpT.of_below (alloc1 _ _)) (hi.later (alloc1 _ _)) ⟨W.heap.size, hi.2.2.2.1, IsRow.made W _ _, rfl⟩
    case body1 =>
      rintro y pre ⟨k, hk⟩ a' W - - ⟨⟨v, i1, i2⟩, i3, i4, i5, i6⟩ ⟨Bx, hBx, rx, rfl⟩ hlt
      have HR := Lib.hid (Rnd.begin (W := W) i1 i2 i3 i4 i5 i6 rx)
      obtain ⟨d0, d1, d2, d3⟩ : W.cell? ⟨Bx, 0, none⟩ = some (.int .i64 (cor m k).x) ∧ W.cell? ⟨Bx, 1, none⟩ = some (.int .i64 (cor m k).y) ∧ W.cell? ⟨Bx, 2, none⟩ = some (.int .i64 (nxt m k).x) ∧ W.cell? ⟨Bx, 3, none⟩ = some (.int .i64 (nxt m k).y) := ⟨rx.get 0, rx.get 1, rx.get 2, rx.get 3⟩
      obtain ⟨c, hc⟩ : ∃ c, cmpN (cor m k) (nxt m k) = c := ⟨_, rfl⟩
      have C1 := Lib.hid ((compare_any (cor m k) (nxt m k)).to (by rw [hc]))
      have HC := Lib.hid hc
      have nBl : Bx ≠ w.heap.size := by omega
      have nBr : Bx ≠ z1 := by omega
      have nBw : w.heap.size ≤ Bx := by omega
      clear hc i1 i2 i3 i4 i5 i6 rx hBx
      gi_wp2_with fail
      refine ⟨trivial, ?_⟩
      refine (CallsIn.inRound y (callsIn_wide.2 (C1.out _))).mono ?_
      rintro e V1 ⟨rfl, hb1⟩
      have HR1 := Lib.hid (HR.out.later hb1)
      clear d0 d1 d2 d3 hb1 HR
      obtain ⟨d0, d1, d2, d3⟩ : V1.cell? ⟨Bx, 0, none⟩ = some (.int .i64 (cor m k).x) ∧ V1.cell? ⟨Bx, 1, none⟩ = some (.int .i64 (cor m k).y) ∧ V1.cell? ⟨Bx, 2, none⟩ = some (.int .i64 (nxt m k).x) ∧ V1.cell? ⟨Bx, 3, none⟩ = some (.int .i64 (nxt m k).y) := ⟨HR1.out.mx.get 0, HR1.out.mx.get 1, HR1.out.mx.get 2, HR1.out.mx.get 3⟩
      have f0 := HR1.out.mx.open_ 0
      have f1 := HR1.out.mx.open_ 1
      have f2 := HR1.out.mx.open_ 2
      have f3 := HR1.out.mx.open_ 3
      gi_upto_if 24 with fail
      gi_cut [7] from 25 (fun s7 wx => s7 = .pointer (some ⟨Bx, 0, none⟩) ∧ Hid (Rnd w Z0 W wx w.heap.size (z1) Bx 1 (some D1) v (sdsOf l 0 ++ pre.map fun k : Fin m.length => sdOf m 1 k.val) #[.int .i64 (sdOf m 1 k).a.x, .int .i64 (sdOf m 1 k).a.y, .int .i64 (sdOf m 1 k).b.x, .int .i64 (sdOf m 1 k).b.y]))
      case first =>
        by_cases hcp : c > 0
        · have HS := Lib.hid (HR1.out.swap nBw nBl nBr)
          have HE := Lib.hid (sdOf_swap (r := 1) HC.out hcp)
          gi_wp2_with fail
          gi_meet
          case rel => exact ⟨rfl, by rw [HE.out]; exact HS⟩
        · have HE := Lib.hid (sdOf_same (r := 1) HC.out hcp)
          have hcp' : c ≤ 0 := by omega
          gi_wp2_with fail
          gi_meet
          case rel => exact ⟨rfl, by rw [HE.out]; exact HR1⟩
      obtain ⟨rfl, HR2⟩ := hcut
      clear d0 d1 d2 d3 f0 f1 f2 f3 HR1
      have HSN := Lib.hid (sd_snoc (sdsOf l 0) pre ⟨k, hk⟩ (fun k : Fin m.length => sdOf m 1 k.val))
      have hL : Hid ((sdsOf l 0 ++ pre.map fun k : Fin m.length => sdOf m 1 k.val : List Sd).length + 1 ≤ 5000) := by
        show _ ≤ _
        have := HN2.out
        have := HN.out
        simp [hdl.out]
        omega
      obtain ⟨s, hs⟩ : ∃ s, sdOf m 1 k = s := ⟨_, rfl⟩
      have henc : Hid (encSd s = [.int .i64 s.a.x, .int .i64 s.a.y, .int .i64 s.b.x, .int .i64 s.b.y, .int .i64 1, .int .i64 k]) := encSd_eq (hs ▸ sdOf_rp m 1 k : s.r = 1 ∧ s.p = k)
      obtain ⟨L, hLL⟩ : ∃ L : List Sd, (sdsOf l 0 ++ pre.map fun k : Fin m.length => sdOf m 1 k.val) = L := ⟨_, rfl⟩
      dsimp only at HSN
      rw [hs, hLL] at HSN
      rw [hs, hLL] at HR2
      rw [hLL] at hL
      clear hs hLL
      have q0 := HR2.out.m1.get 0
      have p0 := HR2.out.m1.open_ 0
      have q1 := HR2.out.m3.get 0
      obtain ⟨e0, e1, e2, e3⟩ : wc.cell? ⟨Bx, 0, none⟩ = some (.int .i64 s.a.x) ∧ wc.cell? ⟨Bx, 1, none⟩ = some (.int .i64 s.a.y) ∧ wc.cell? ⟨Bx, 2, none⟩ = some (.int .i64 s.b.x) ∧ wc.cell? ⟨Bx, 3, none⟩ = some (.int .i64 s.b.y) := ⟨HR2.out.mx.get 0, HR2.out.mx.get 1, HR2.out.mx.get 2, HR2.out.mx.get 3⟩
      obtain ⟨i0, hi0, hs0', hb0', hz0'⟩ := info_of side_info
      have HI := Lib.hid (And.intro hi0 (And.intro hs0' (And.intro hb0' hz0')))
      have hsz := HR2.out.m4.size
      have H9 := Lib.hid (HR2.out.later (alloc1 wc (.cells #[.int .i64 s.a.x, .int .i64 s.a.y, .int .i64 s.b.x, .int .i64 s.b.y, .int .i64 1, .int .i64 k] 45)))
      clear hi0 hs0' hb0' hz0'
      gi_wp2_with (gi_at_builtin; go_loud (refine wpListIn_append_own _ rfl _ _ 42 rfl w.heap.size 45 i0 _ 6 48 Try.underlying42 HI.out.1 HI.out.2.2.2 HI.out.2.1 HI.out.2.2.1 (by decide) (by decide) v L.length (flatS L) rfl H9.out.m2 ⟨wc.heap.size, 0, none⟩ 1 1 [.int .i64 s.a.x, .int .i64 s.a.y, .int .i64 s.b.x, .int .i64 s.b.y, .int .i64 1, .int .i64 k] rfl rfl (World.news_of_block (heap_alloc_new wc _)) (henc.out ▸ encSd_one s) (by have := hL.out; unfold maxLen; omega) (by have := hL.out; omega) (by simp; omega) ?_; intro v' w1 hown' hgrow _; obtain ⟨g', cap', hv'⟩ := ownsRow_succ hown'; subst hv'; have hr1 := IsRow.grown H9.out.m1 hgrow (H9.out.m2.ne H9.out.m1 (by decide)); have hq1 := hr1.get 0; have hp1 := hr1.open_ 0))
      rw [← henc.out] at hown'
      have hgrow' : (wc.alloc (.cells (encSd s).toArray 45)).grownBy w1 v.ownBlock := by rw [henc.out]; exact hgrow
      obtain ⟨z1, z2, z3⟩ := HR2.out.fin (Nat.le_refl _) (by omega) hown' hgrow'
      rw [← HSN.out] at z3
      exact ⟨z1, z2, z3⟩
    case stop1 =>
      rintro D c pre W _ _ h _
      exact h.elim
    case done1 =>
      rintro D ys W' hD rfl ⟨⟨v, i1, i2⟩, i3, i4, i5, i6⟩ hK
      have q0 := i1.get 0
      obtain ⟨S, hS⟩ : ∃ S, sdsOf l 0 ++ sdsOf m 1 = S := ⟨_, rfl⟩
      have HO : Hid (OwnS W' w.heap.size v S) := hS ▸ i2
      have hlen : S.length = l.length + m.length := by rw [← hS]; unfold sdsOf; simp
      have hD1W := i6 D1 rfl
      have R1 := Lib.hid i1
      have B1 := Lib.hid i4
      have KD := Lib.hid hK
      have KD1 := Lib.hid hD1W
      have hne : Hid (D1 ≠ D) := by show D1 ≠ D; omega
      have HSS := Lib.hid hS
      clear i1 i2 i3 i4 i6 hK hD1W hS
      gi_wp2
      rw [roundsIn_succ]
      gi_wp2_with fail
      refine ⟨trivial, ?_⟩
      refine (callsIn_wide.2 (sortFunc_any w.heap.size v S _ HO.out (by have := HN.out; omega) (by have := HN.out; have := HN2.out; omega))).mono ?_
      rintro e W2 ⟨rfl, l', hp, hasc, ho', hgr⟩
      have r2 : IsRow W2 w.heap.size 42 #[v] := IsRow.grown R1.out hgr (HO.out.ne R1.out (by decide))
      have q2 := r2.get 0
      have kept : ∀ d : Nat, W'.heap[d]? = some (Obj.deferred (some [])) → W2.heap[d]? = some (Obj.deferred (some [])) := fun d hd => by
        refine (hgr.block d (Array.getElem?_eq_some_iff.1 hd).1 (fun e => ?_)).trans hd
        obtain ⟨_, cs, h⟩ := HO.out.row d e.symm
        rw [show W'.heap[d]? = some (.cells cs 45 (0, 0)) from h] at hd
        cases hd
      have K2 := Lib.hid (kept D KD.out)
      have K1 := Lib.hid (kept D1 KD1.out)
      have B2 := Lib.hid (B1.out.grown hgr B1.out.size (fun k e => (HO.out.row k e).1))
      have O2 := Lib.hid ho'
      have HP := Lib.hid hp
      have HA := Lib.hid hasc
      clear q0 hgr ho' hp hasc kept
      gi_wp2
      have K1' : (W2.putObj D (Obj.deferred none)).heap[D1]? = some (Obj.deferred (some [])) := (World.putObj_heap_other hne.out).trans K1.out
      refine ⟨by simp, .inl ⟨_, _, rfl, run_takeDeferred K2.out, ⟨by simp, .inl ⟨_, _, rfl, run_takeDeferred K1', ?_⟩⟩⟩⟩
      refine ⟨_, results_tmp rfl _ _ _, ⟨v, l', rfl, by rw [HSS.out]; exact HP.out, HA.out, ?_⟩, (B2.out.trans (belowK_b (w := w) (Nat.le_refl _) W2 D _ _ (by omega) K2.out rfl rfl)).trans (belowK_b (w := w) (Nat.le_refl _) _ D1 _ _ (by omega) K1' rfl rfl)⟩
      have put : ∀ (X : World) (d : Nat), OwnS X w.heap.size v l' → X.heap[d]? = some (Obj.deferred (some [])) → OwnS (X.putObj d (Obj.deferred none)) w.heap.size v l' := fun X d ho hd => by
        refine ho.kept (grownBy_putObj' X d _) ?_
        cases hv : v.ownBlock with
        | none => exact .inl rfl
        | some g =>
          refine .inr (fun e => ?_)
          injection e with e
          subst e
          obtain ⟨_, cs, h⟩ := ho.row g hv
          rw [show X.heap[g]? = some (.cells cs 45 (0, 0)) from h] at hd
          cases hd
      exact put _ D1 (put _ D O2.out K2.out) K1'
end Go.Proofs.Ytlagolgmkmdhhaa.Rg
