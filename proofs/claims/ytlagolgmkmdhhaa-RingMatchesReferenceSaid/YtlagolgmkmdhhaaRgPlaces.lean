/- ring.places. -/
import Derived.Test.YtlagolgmkmdhhaaRgCorners
import Derived.Test.YtlagolgmkmdhhaaRgLocate
import Derived.Test.YtlagolgmkmdhhaaRgMeetings
namespace Go.Proofs.Ytlagolgmkmdhhaa.Rg
open Go.RowKit Go.Sort Go.Shelf
open Go.Maps (Keyed IsMap has)
open Go.Proofs.Ytlagolgmkmdhhaa.Geo hiding intOf Apart
attribute [local go_sem] Oper.semAt_some
/-- where a side of l begins that leaves a common corner with m. -/
def leaveN (l m : List Pt) (k : Nat) : Option Int := (lastAt m (cor l k) m.length).map fun i => beginsN (cnAt m i) (nxt l k)
def plB (l m : List Pt) (pre : List (Fin l.length)) (c : Int) : Bool := decide (locN m (cor l 0) = c) || pre.any fun k => leaveN l m k.val == some c
def plC (l m : List Pt) (pre : List (Fin l.length)) : Array Value := #[.bool (plB l m pre (-1)), .bool (plB l m pre 0), .bool (plB l m pre 1)]
theorem plB_snoc (l m : List Pt) (pre : List (Fin l.length)) (x : Fin l.length) (c : Int) : plB l m (pre ++ [x]) c = (plB l m pre c || (leaveN l m x.val == some c)) := by unfold plB; simp [Bool.or_assoc]
theorem begins_range (c : Cn) (p : Pt) : beginsN c p = 0 ∨ beginsN c p = 1 ∨ beginsN c p = -1 := by
  unfold beginsN
  generalize (if orientN c.b c.t c.a > 0 then decide (orientN c.b c.t p > 0) && decide (orientN c.t c.a p > 0) else decide (orientN c.b c.t p > 0) || decide (orientN c.t c.a p > 0)) = x
  cases x <;> split <;> simp
theorem slot_of {v : Int} (h : v = 0 ∨ v = 1 ∨ v = -1) : ∃ q : Nat, wrap64 (1 + v) = (q : Int) ∧ v = (q : Int) - 1 ∧ q < 3 := by
  rcases h with rfl | rfl | rfl
  · exact ⟨1, by unfold wrap64; omega, by decide, by decide⟩
  · exact ⟨2, by unfold wrap64; omega, by decide, by decide⟩
  · exact ⟨0, by unfold wrap64; omega, by decide, by decide⟩
theorem plC_start {l m : List Pt} {q : Nat} (h : locN m (cor l 0) = (q : Int) - 1) (h3 : q < 3) : (#[.bool false, .bool false, .bool false] : Array Value).setIfInBounds q (.bool true) = plC l m [] := by
  unfold plC plB
  rw [h]
  match q, h3 with
  | 0, _ => simp
  | 1, _ => simp
  | 2, _ => simp
theorem plC_same {l m : List Pt} {pre : List (Fin l.length)} {x : Fin l.length} (h : lastAt m (cor l x.val) m.length = none) : plC l m (pre ++ [x]) = plC l m pre := by
  unfold plC
  simp [plB_snoc, leaveN, h]
theorem plC_set {l m : List Pt} {pre : List (Fin l.length)} {x : Fin l.length} {i q : Nat} (h : lastAt m (cor l x.val) m.length = some i) (hq : beginsN (cnAt m i) (nxt l x.val) = (q : Int) - 1) (h3 : q < 3) : (plC l m pre).setIfInBounds q (.bool true) = plC l m (pre ++ [x]) := by
  have e : ∀ c, plB l m (pre ++ [x]) c = (plB l m pre c || decide ((q : Int) - 1 = c)) := fun c => by
    rw [plB_snoc]
    unfold leaveN
    rw [h, Option.map_some, hq]
    congr 1
  unfold plC
  match q, h3 with
  | 0, _ => simp [e]
  | 1, _ => simp [e]
  | 2, _ => simp [e]
theorem infoThree : (Try.prog.info? 51).map (·.size) = some 3 := by kernel_rfl
set_option maxRecDepth 100000 in
set_option maxHeartbeats 4000000 in
theorem places_any (a a2 : Option Addr) (n cap n2 cap2 : Nat) (l m : List Pt) (w : World) (hl : Pts w w.heap.size a l) (hm : Pts w w.heap.size a2 m) (hln : n = l.length) (hmn : n2 = m.length) (hcap : n ≤ cap) (hcap2 : n2 ≤ cap2) (hmx : cap2 ≤ maxLen) (hfl : fitsN l = true) (hfm : fitsN m = true) :
    Calls Try.prog 31 #[.slice a n cap, .slice a2 n2 cap2] w fun e w' => e = .returned (.agg (plC l m (List.finRange l.length))) ∧ Below w.heap.size w w' := by
  obtain ⟨h3, h2, hnear⟩ := fits_parts hfl
  rw [← hln] at h3 h2
  obtain ⟨h3m, h2m, hnearm⟩ := fits_parts hfm
  rw [← hmn] at h3m h2m
  obtain ⟨V0, hV0⟩ : ∃ V, (w.alloc (.cells #[.bool false, .bool false, .bool false] 51)).alloc (.cells #[.bool false, .bool false, .bool false] 51) = V := ⟨_, rfl⟩
  have b1 : Below w.heap.size w V0 := hV0 ▸ alloc2 _ _ _
  have r1 : IsRow V0 w.heap.size 51 #[.bool false, .bool false, .bool false] := hV0 ▸ (IsRow.made _ _ _).later _
  have f1 : IsRow V0 (w.heap.size + 1) 51 #[.bool false, .bool false, .bool false] := by
    have := IsRow.made (w.alloc (.cells #[.bool false, .bool false, .bool false] 51)) 51 #[.bool false, .bool false, .bool false]
    rw [World.size_alloc] at this
    exact hV0 ▸ this
  have HL0 := Lib.hid hl
  have HM0 := Lib.hid hm
  have L1 := Lib.hid (hl.later b1)
  have M1 := Lib.hid (hm.later b1)
  have HN := Lib.hid hln
  have HN2 := Lib.hid hmn
  have HNR := Lib.hid hnear
  have HNM := Lib.hid hnearm
  have HFM := Lib.hid hfm
  have HMX := Lib.hid hmx
  have HV0 := Lib.hid hV0
  obtain ⟨ba, oa, rfl, hba, c0, c1⟩ := L1.out.at_ (cor_get (show 0 < l.length by omega))
  rw [show oa + 0 * 2 = oa by omega] at c0 c1
  clear hl hm hln hmn hV0 hnear hnearm hfl hfm hmx
  obtain ⟨v, hv⟩ : ∃ v, locN m (cor l 0) = v := ⟨_, rfl⟩
  obtain ⟨q, hq1, hq2, hq3⟩ := slot_of (hv ▸ loc_range m (cor l 0))
  have HS := Lib.hid (plC_start (l := l) (m := m) (hv.trans hq2) hq3)
  have LOC := Lib.hid (locate_any a2 n2 cap2 m (cor l 0) V0 M1.out HN2.out hcap2 (by omega) h2m)
  rw [hv] at LOC
  clear hv hq2
  refine (callsIn_wide (n := 6)).1 ?_
  refine callsIn_of_wp_marks Try.func31 rfl trivial ?_ rfl
  simp only [Try.ntmps31, List.size_toArray, List.length_cons, List.length_nil, Nat.reduceAdd, Nat.reduceSub, Array.replicate_succ, Array.replicate_zero, List.push_toArray, List.append_toArray, List.nil_append, List.cons_append]
  gi_upto_region 2 with fail
  rw [HV0.out]
  gi_wp2_with fail
  refine ⟨trivial, ?_⟩
  refine (callsIn_wide.2 LOC.out).mono ?_
  rintro e V1 ⟨rfl, hb1⟩
  have r2 := r1.below hb1 r1.inside
  have f2 := f1.below hb1 f1.inside
  have b2 := b1.trans (hb1.mono b1.size)
  have L2 := Lib.hid (L1.out.later hb1)
  have M2 := Lib.hid (M1.out.later hb1)
  clear hb1 r1 f1 b1 L1 M1 c0 c1 LOC HV0
  have z0 : V1.cell? ⟨w.heap.size + 1, q, none⟩ = some ((#[.bool false, .bool false, .bool false] : Array Value)[q]'(by simpa using hq3)) := by rw [f2.get q]; simp
  have y0 := f2.open_ q
  have hqi : (q : Int) < 3 := by omega
  gi_upto_region 3 with fail
  obtain ⟨V2, hV2⟩ : ∃ V2, V1.setCell ⟨w.heap.size + 1, q, none⟩ (.bool true) = V2 := ⟨_, rfl⟩
  have r3 : IsRow V2 w.heap.size 51 #[.bool false, .bool false, .bool false] := hV2 ▸ r2.putOther (p := ⟨w.heap.size + 1, q, none⟩) (by simp) _
  have f3 : IsRow V2 (w.heap.size + 1) 51 (plC l m []) := by
    have := f2.put q (.bool true)
    rw [HS.out, hV2] at this
    exact this
  have b3 : Below w.heap.size w V2 := hV2 ▸ b2.setCell (p := ⟨w.heap.size + 1, q, none⟩) (by simp) _
  have L3 : Hid (Pts V2 w.heap.size (some ⟨ba, oa, none⟩) l) := Lib.hid (HL0.out.below b3)
  have M3 : Hid (Pts V2 V2.heap.size a2 m) := Lib.hid (HM0.out.later b3)
  rw [hV2]
  have HHC := Lib.hid (corners_any a2 n2 cap2 m V2 M3.out HN2.out hcap2 HMX.out HFM.out)
  clear hV2 r2 f2 b2 L2 M2 z0 y0 hqi hq1 HS
  gi_wp2_with fail
  refine ⟨trivial, ?_⟩
  refine (callsIn_wide.2 HHC.out).mono ?_
  rintro e V3 ⟨⟨b, rfl, hbV, hmap⟩, hb3⟩
  have hbV2 : w.heap.size + 1 < b := Nat.lt_of_lt_of_le f3.inside hbV
  have r4 := r3.below hb3 r3.inside
  have f4 := f3.below hb3 f3.inside
  have b4 := b3.trans (hb3.mono b3.size)
  clear hb3 r3 f3 b3 L3 M3 HHC
  gi_wp2_with (refine ⟨trivial, ?_⟩; gi_at_call 18; refine (callsIn_wide.2 (sides_any (some ⟨ba, oa, none⟩) n cap _)).mono ?_; rintro e W3 ⟨rfl, rfl⟩)
  obtain ⟨W0, hW0⟩ : ∃ W0, (V3.alloc (.cells #[.map (some b)] 72)).alloc (.cells #[.slice (some ⟨ba, oa, none⟩) n cap] 22) = W0 := ⟨_, rfl⟩
  have h0 := alloc2 V3 (.cells #[.map (some b)] 72) (.cells #[.slice (some ⟨ba, oa, none⟩) n cap] 22)
  rw [hW0] at h0
  have rm : IsRow W0 V3.heap.size 72 #[.map (some b)] := hW0 ▸ (IsRow.made V3 _ _).later _
  have rb : IsRow W0 (V3.heap.size + 1) 22 #[.slice (some ⟨ba, oa, none⟩) n cap] := by
    have := IsRow.made (V3.alloc (.cells #[.map (some b)] 72)) 22 #[.slice (some ⟨ba, oa, none⟩) n cap]
    rw [World.size_alloc] at this
    exact hW0 ▸ this
  have hs0 : W0.heap.size = V3.heap.size + 2 := by rw [← hW0]; simp
  have hbs : b < W0.heap.size := by have := hmap.lt; omega
  rw [HN2.out] at hmap
  have om : W0.ownsMap Try.prog 24 heldE b m.length (cornsTo m m.length) := map_below hmap h0
  have r5 := r4.below h0 r4.inside
  have f5 := f4.below h0 f4.inside
  have b5 := b4.trans (h0.mono b4.size)
  have HLW : Pts W0 w.heap.size (some ⟨ba, oa, none⟩) l := HL0.out.below b5
  have hV3 : w.heap.size + 1 < V3.heap.size := f4.inside
  rw [hW0]
  clear hW0 h0 r4 f4 b4 hmap
  refine wpIn_rangeFunc_ownH rfl (by omega) (gf := 36) (lb := #[.pointer (some ⟨V3.heap.size + 1, 0, none⟩)]) rfl trivial (enters_of Try.func36 (by kernel_rfl) rfl)
    (sides_stops 5 (by omega) (some ⟨ba, oa, none⟩) n cap l w.heap.size (V3.heap.size + 1) W0 rb HLW b5.size HN.out (by omega) h2 hcap) KpT.trans (fun W l o o' h1 h2 h3 h4 => kpT_b (w := W0) W l o o' h1 h2 h3 h4) (Below.refl _ _) (fun _ => rfl)
    (fun pre W => (IsRow W w.heap.size 51 #[.bool false, .bool false, .bool false] ∧ IsRow W (w.heap.size + 1) 51 (plC l m pre) ∧ IsRow W V3.heap.size 72 #[.map (some b)] ∧ W.ownsMap Try.prog 24 heldE b m.length (cornsTo m m.length)) ∧ Below w.heap.size w W ∧ W0.heap.size ≤ W.heap.size)
    (fun _ _ _ => False)
    (OwnFrom.and (OwnFrom.and (Own.from (row_own _ _ (fun _ => _)) _) (OwnFrom.and (Own.from (row_own _ _ (fun pre => plC l m pre)) _) (OwnFrom.and (Own.from (row_own _ _ (fun _ => _)) _) (ownFrom_map hbs)))) (OwnFrom.and (ownFrom_below (Nat.le_refl _) b5.size) (fun _ _ _ _ hs hg _ => Nat.le_trans hs hg.size)))
    (fun _ _ _ _ _ hs _ _ => hs)
    ⟨⟨r5, f5, rm, om⟩, b5, Nat.le_refl _⟩
    (fun x a' W => ∃ Bx, W0.heap.size ≤ Bx ∧ IsRow W Bx 33 #[.int .i64 (cor l x.val).x, .int .i64 (cor l x.val).y, .int .i64 (nxt l x.val).x, .int .i64 (nxt l x.val).y] ∧
      a' = { tmps := #[.slice (some ⟨ba, oa, none⟩) n cap, .slice a2 n2 cap2, undef, undef, .pointer (some ⟨w.heap.size, 0, none⟩), .pointer (some ⟨w.heap.size + 1, 0, none⟩), .pointer (some ⟨V3.heap.size, 0, none⟩), undef, .pointer (some ⟨Bx, 0, none⟩), undef, undef, .slice a2 n2 cap2, .slice (some ⟨ba, oa, none⟩) n cap, .pointer (some ⟨ba, oa, none⟩), .agg #[.int .i64 (cor l 0).x, .int .i64 (cor l 0).y], .int .i64 v, .int .i64 (wrap64 (1 + v)), .pointer (some ⟨w.heap.size + 1, q, none⟩), .slice a2 n2 cap2, .map (some b), .slice (some ⟨ba, oa, none⟩) n cap, .func (.func 36) #[] #[.pointer (some ⟨V3.heap.size + 1, 0, none⟩)], .int .i64 (x.val : Int), .agg #[.int .i64 (cor l x.val).x, .int .i64 (cor l x.val).y, .int .i64 (nxt l x.val).x, .int .i64 (nxt l x.val).y], undef, undef, undef, undef, undef, undef, undef, undef, undef, undef, undef, undef, undef, undef, undef], defers := [] })
    (fun x a' _ X Y row hs hg hr => by
      obtain ⟨Bx, h1, h2, h3⟩ := hs
      exact ⟨Bx, h1, Own.from (row_own Bx _ (fun _ : Unit => _)) W0.heap.size () X Y row h2 hg hr, h3⟩) ?assign ?body ?done ?stop
  case assign =>
    rintro y pre x W K ⟨⟨i0, i1, i2, i3⟩, hb, hsz⟩ hK
    gi_wp2
    exact hK _ _ ((KeepsOthers.alloc _ _).from _) (KpT.of_below (alloc1 _ _)) ⟨⟨i0.later _, i1.later _, i2.later _, i3.alloc _⟩, hb.alloc hb.size _, by simp; omega⟩ ⟨W.heap.size, hsz, IsRow.made W _ _, rfl⟩
  case body =>
    rintro y pre ⟨k, hk⟩ a' W - - ⟨⟨i0, i1, i2, i3⟩, hb, hsz⟩ ⟨Bx, hBx, rx, rfl⟩ hlt
    dsimp only at rx
    have mc : W.cell? ⟨V3.heap.size, 0, none⟩ = some (.map (some b)) := i2.get 0
    obtain ⟨d0, d1, d2, d3⟩ : W.cell? ⟨Bx, 0, none⟩ = some (.int .i64 (cor l k).x) ∧ W.cell? ⟨Bx, 1, none⟩ = some (.int .i64 (cor l k).y) ∧ W.cell? ⟨Bx, 2, none⟩ = some (.int .i64 (nxt l k).x) ∧ W.cell? ⟨Bx, 3, none⟩ = some (.int .i64 (nxt l k).y) := ⟨rx.get 0, rx.get 1, rx.get 2, rx.get 3⟩
    have HK := Lib.hid (keyOf_pt (near_cor HNR.out hk))
    obtain ⟨hat, hhas⟩ := corns_look HNM.out (near_cor HNR.out hk) (.held (.agg #[.int .i64 0, .int .i64 0, .int .i64 0, .int .i64 0, .int .i64 0, .int .i64 0])) m.length (Nat.le_refl _)
    cases hla : lastAt m (cor l k) m.length with
    | none =>
      rw [hla] at hat hhas
      have HA := Lib.hid hat
      have HH := Lib.hid hhas
      have HS := Lib.hid (plC_same (pre := pre) (x := ⟨k, hk⟩) hla)
      clear hat hhas hla
      gi_wp2_with (first | (gi_at_lookup; refine wpListIn_lookup_held (by rfl) _ _ _ (by rfl) _ _ pt_keyed Try.underlying72 (zero_corner _) b m.length (cornsTo m m.length) (by rfl) i3 _ _ (by rfl) HK.out (.agg #[.int .i64 0, .int .i64 0, .int .i64 0, .int .i64 0, .int .i64 0, .int .i64 0]) false HA.out HH.out ?_))
      refine ⟨(KeepsOthers.alloc _ _).from _, KpT.of_below (alloc1 _ _), ⟨i0.later _, ?_, i2.later _, i3.alloc _⟩, hb.alloc hb.size _, by have := hs0; simp; omega⟩
      rw [HS.out]
      exact i1.later _
    | some i =>
      rw [hla] at hat hhas
      dsimp only at hat
      obtain ⟨z, hz1, hz2, hz3⟩ := slot_of (begins_range (cnAt m i) (nxt l k))
      have HS := Lib.hid (plC_set (pre := pre) (x := ⟨k, hk⟩) hla hz2 hz3)
      obtain ⟨c, hc⟩ : ∃ c, cnAt m i = c := ⟨_, rfl⟩
      rw [hc] at hat hz1 hz2
      obtain ⟨u, hu⟩ : ∃ u, beginsN c (nxt l k) = u := ⟨_, rfl⟩
      have BG := Lib.hid ((begins_any c (nxt l k)).to (by rw [hu]))
      rw [hu] at hz1 hz2
      have HA : Hid ((cornsTo m m.length).atKey (keyP (cor l k)) (.held (.agg #[.int .i64 0, .int .i64 0, .int .i64 0, .int .i64 0, .int .i64 0, .int .i64 0])) = .held (.agg #[.int .i64 c.b.x, .int .i64 c.b.y, .int .i64 c.t.x, .int .i64 c.t.y, .int .i64 c.a.x, .int .i64 c.a.y])) := hat
      have HH := Lib.hid hhas
      obtain ⟨W1, hW1⟩ : ∃ W1, W.alloc (.cells #[.int .i64 c.b.x, .int .i64 c.b.y, .int .i64 c.t.x, .int .i64 c.t.y, .int .i64 c.a.x, .int .i64 c.a.y] 75) = W1 := ⟨_, rfl⟩
      have HW1 := Lib.hid hW1
      have j0 : IsRow W1 w.heap.size _ _ := hW1 ▸ i0.later _
      have j1 : IsRow W1 (w.heap.size + 1) _ _ := hW1 ▸ i1.later _
      have j2 : IsRow W1 V3.heap.size _ _ := hW1 ▸ i2.later _
      have j3 := map_below i3 (hW1 ▸ alloc1 W (.cells #[.int .i64 c.b.x, .int .i64 c.b.y, .int .i64 c.t.x, .int .i64 c.t.y, .int .i64 c.a.x, .int .i64 c.a.y] 75))
      have jx : IsRow W1 Bx _ _ := hW1 ▸ rx.later _
      have jn : IsRow W1 W.heap.size 75 #[.int .i64 c.b.x, .int .i64 c.b.y, .int .i64 c.t.x, .int .i64 c.t.y, .int .i64 c.a.x, .int .i64 c.a.y] := hW1 ▸ IsRow.made W _ _
      have hb' : Below w.heap.size w W1 := hW1 ▸ hb.alloc hb.size _
      have ks : KeepsFrom W0.heap.size W W1 := hW1 ▸ (KeepsOthers.alloc _ _).from _
      have kp : KpT w.heap.size 24 22 W W1 := hW1 ▸ KpT.of_below (alloc1 _ _)
      have hsz' : W0.heap.size ≤ W1.heap.size := by rw [← hW1]; simp; omega
      clear hat hhas hla hc hu hz2 hW1
      gi_upto_region 8 with (first | (gi_at_lookup; refine wpListIn_lookup_held (by rfl) _ _ _ (by rfl) _ _ pt_keyed Try.underlying72 (zero_corner _) b m.length (cornsTo m m.length) (by rfl) i3 _ _ (by rfl) HK.out (.agg #[.int .i64 c.b.x, .int .i64 c.b.y, .int .i64 c.t.x, .int .i64 c.t.y, .int .i64 c.a.x, .int .i64 c.a.y]) true HA.out HH.out ?_))
      rw [HW1.out]
      clear d0 d1 d2 d3 mc i0 i1 i2 i3 rx hb
      obtain ⟨d0, d1, d2, d3⟩ : W1.cell? ⟨Bx, 0, none⟩ = some (.int .i64 (cor l k).x) ∧ W1.cell? ⟨Bx, 1, none⟩ = some (.int .i64 (cor l k).y) ∧ W1.cell? ⟨Bx, 2, none⟩ = some (.int .i64 (nxt l k).x) ∧ W1.cell? ⟨Bx, 3, none⟩ = some (.int .i64 (nxt l k).y) := ⟨jx.get 0, jx.get 1, jx.get 2, jx.get 3⟩
      obtain ⟨e0, e1, e2, e3, e4, e5⟩ := cn_facts (c := c) jn
      gi_wp2_with fail
      refine ⟨trivial, ?_⟩
      refine (CallsIn.inRound y (callsIn_wide.2 (BG.out _))).mono ?_
      rintro e V1 ⟨rfl, hb1⟩
      have n0 := j0.below hb1 j0.inside
      have n1 := j1.below hb1 j1.inside
      have n2 := j2.below hb1 j2.inside
      have n3 := map_below j3 hb1
      have hb'' := hb'.trans (hb1.mono hb'.size)
      have ks' := ks.trans (keeps_of_below W0.heap.size hb1)
      have kp' := kp.trans (KpT.of_below hb1)
      have hsz'' := Nat.le_trans hsz' hb1.size
      have z0 : V1.cell? ⟨w.heap.size + 1, z, none⟩ = some ((plC l m pre)[z]'(by unfold plC; simpa using hz3)) := by rw [n1.get z]; simp
      have y0 := n1.open_ z
      have hzi : (z : Int) < 3 := by omega
      clear d0 d1 d2 d3 e0 e1 e2 e3 e4 e5 j0 j1 j2 j3 jx jn hb1 hb' ks kp
      gi_wp2
      refine ⟨ks'.trans ((KeepsOthers.setCell _ _ _).from _), kp'.trans (KpT.set (p := ⟨w.heap.size + 1, z, none⟩) (by simp) n1 (by decide) (by decide) _), ⟨n0.putOther (p := ⟨w.heap.size + 1, z, none⟩) (by simp) _, ?_, n2.putOther (p := ⟨w.heap.size + 1, z, none⟩) (by simp; omega) _, n3.setCell (by simp; omega) _⟩, hb''.setCell (p := ⟨w.heap.size + 1, z, none⟩) (by simp) _, by have := hs0; simp; omega⟩
      rw [← HS.out]
      exact n1.put z _
  case done =>
    rintro D ys W hD rfl ⟨⟨i0, i1, -, -⟩, hb, hsz⟩ hK
    obtain ⟨q0, q1, q2⟩ : W.cell? ⟨w.heap.size + 1, 0, none⟩ = some (.bool (plB l m (List.finRange l.length) (-1))) ∧ W.cell? ⟨w.heap.size + 1, 1, none⟩ = some (.bool (plB l m (List.finRange l.length) 0)) ∧ W.cell? ⟨w.heap.size + 1, 2, none⟩ = some (.bool (plB l m (List.finRange l.length) 1)) := ⟨i1.get 0, i1.get 1, i1.get 2⟩
    have HP := Lib.hid (show plC l m (List.finRange l.length) = #[.bool (plB l m (List.finRange l.length) (-1)), .bool (plB l m (List.finRange l.length) 0), .bool (plB l m (List.finRange l.length) 1)] from rfl)
    generalize plB l m (List.finRange l.length) (-1) = m0 at *
    generalize plB l m (List.finRange l.length) 0 = m1 at *
    generalize plB l m (List.finRange l.length) 1 = m2 at *
    have z := fun k => i0.open_ k
    obtain ⟨z0, z1, z2⟩ := (⟨z 0, z 1, z 2⟩ : W.frozen? ⟨w.heap.size, 0, none⟩ = false ∧ W.frozen? ⟨w.heap.size, 1, none⟩ = false ∧ W.frozen? ⟨w.heap.size, 2, none⟩ = false)
    obtain ⟨p0, p1, p2⟩ : W.cell? ⟨w.heap.size, 0, none⟩ = some (.bool false) ∧ W.cell? ⟨w.heap.size, 1, none⟩ = some (.bool false) ∧ W.cell? ⟨w.heap.size, 2, none⟩ = some (.bool false) := ⟨i0.get 0, i0.get 1, i0.get 2⟩
    obtain ⟨W3, hW3⟩ : ∃ W3, ((W.setCell ⟨w.heap.size, 0, none⟩ (.bool m0)).setCell ⟨w.heap.size, 1, none⟩ (.bool m1)).setCell ⟨w.heap.size, 2, none⟩ (.bool m2) = W3 := ⟨_, rfl⟩
    have KD : Hid (W3.heap[D]? = some (.deferred (some []))) := by
      show _ = _
      have hDg : D ≠ w.heap.size := defer_ne hK i0
      have e : ∀ (X : World) (k : Nat) (u : Value), (X.setCell ⟨w.heap.size, k, none⟩ u).heap[D]? = X.heap[D]? := fun X k u => Below.heap_setCell X ⟨w.heap.size, k, none⟩ u D hDg
      rw [← hW3, e, e, e]
      exact hK
    have R3 : Hid (IsRow W3 w.heap.size 51 #[.bool m0, .bool m1, .bool m2]) := hW3 ▸ ((i0.put 0 (.bool m0)).put 1 (.bool m1)).put 2 (.bool m2)
    have BB : Hid (Below w.heap.size w W3) := hW3 ▸ ((hb.setCell (p := ⟨w.heap.size, 0, none⟩) (Nat.le_refl _) _).setCell (p := ⟨w.heap.size, 1, none⟩) (Nat.le_refl _) _).setCell (p := ⟨w.heap.size, 2, none⟩) (Nat.le_refl _) _
    have HW3 := Lib.hid hW3
    clear i0 i1 hb hK z hW3
    gi_wp2
    rw [HW3.out]
    refine ⟨by simp, .inl ⟨_, _, rfl, run_takeDeferred KD.out, ?_⟩⟩
    have R4 : IsRow (W3.putObj D (.deferred none)) w.heap.size 51 #[.bool m0, .bool m1, .bool m2] := (World.putObj_heap_other (fun e => defer_ne KD.out R3.out e.symm)).trans R3.out
    exact ⟨_, results_cell_row rfl _ _ w.heap.size _ _ (0, 0) _ rfl R4 Try.underlying51 rfl infoThree, by rw [HP.out], BB.out.trans (belowK_b (w := w) (Nat.le_refl _) W3 D _ _ (by have := b5.size; omega) KD.out rfl rfl)⟩
  case stop =>
    rintro D c pre W _ _ h _
    exact h.elim
end Go.Proofs.Ytlagolgmkmdhhaa.Rg
