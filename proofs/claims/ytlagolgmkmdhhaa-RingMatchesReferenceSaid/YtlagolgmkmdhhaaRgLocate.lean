/- ring.locate. -/
import Derived.Test.YtlagolgmkmdhhaaRgTwice
import Derived.Test.YtlagolgmkmdhhaaRgLeaf
namespace Go.Proofs.Ytlagolgmkmdhhaa.Rg
open Go.RowKit Go.Sort Go.Shelf
open Go.Proofs.Ytlagolgmkmdhhaa.Geo hiding intOf
attribute [local go_sem] Oper.semAt_some
theorem keeps_of_below {W W' : World} (B : Nat) (h : Below W.heap.size W W') : KeepsFrom B W W' := ⟨h.size, fun _ _ _ hk _ => (h.block _ (Array.getElem?_eq_some_iff.1 hk).1).trans hk⟩
def onK (l : List Pt) (p : Pt) (k : Nat) : Bool := onN (cor l k) (nxt l k) p
def par (l : List Pt) (p : Pt) (pre : List (Fin l.length)) : Int := pre.foldl (fun s k => if passN (cor l k.val) (nxt l k.val) p then -s else s) (-1)
theorem par_snoc (l : List Pt) (p : Pt) (pre : List (Fin l.length)) (x : Fin l.length) : par l p (pre ++ [x]) = if passN (cor l x.val) (nxt l x.val) p then -par l p pre else par l p pre := by unfold par; simp
theorem par_range (l : List Pt) (p : Pt) (pre : List (Fin l.length)) : par l p pre = 1 ∨ par l p pre = -1 := by
  unfold par
  suffices h : ∀ (pre : List (Fin l.length)) (s : Int), (s = 1 ∨ s = -1) → (pre.foldl (fun s k => if passN (cor l k.val) (nxt l k.val) p then -s else s) s = 1 ∨ pre.foldl (fun s k => if passN (cor l k.val) (nxt l k.val) p then -s else s) s = -1) from h pre (-1) (.inr rfl)
  intro pre
  induction pre with
  | nil => intro s hs; exact hs
  | cons x pre ih =>
    intro s hs
    rw [List.foldl_cons]
    refine ih _ ?_
    split <;> omega
/-- where the point is: by the sides, simple or not. -/
def locN (l : List Pt) (p : Pt) : Int := if (List.finRange l.length).any (fun k => onK l p k.val) then 0 else par l p (List.finRange l.length)
theorem loc_on {l : List Pt} {p : Pt} {k : Nat} (hk : k < l.length) (h : onK l p k = true) : locN l p = 0 := by
  unfold locN
  rw [if_pos (List.any_eq_true.2 ⟨⟨k, hk⟩, List.mem_finRange _, h⟩)]
theorem loc_off {l : List Pt} {p : Pt} (h : ∀ x ∈ List.finRange l.length, onK l p x.val = false) : locN l p = par l p (List.finRange l.length) := by
  unfold locN
  rw [if_neg]
  rw [List.any_eq_true]
  rintro ⟨x, hx, hc⟩
  rw [h x hx] at hc
  cases hc
set_option maxRecDepth 100000 in
set_option maxHeartbeats 4000000 in
theorem locate_any (a : Option Addr) (n cap : Nat) (l : List Pt) (p : Pt) (w : World) (hl : Pts w w.heap.size a l) (hln : n = l.length) (hcap : n ≤ cap) (h3 : 2 ≤ n) (h2 : n ≤ 2000) :
    Calls Try.prog 27 #[.slice a n cap, .agg #[.int .i64 p.x, .int .i64 p.y]] w fun e w' => e = .returned (.int .i64 (locN l p)) ∧ Below w.heap.size w w' := by
  have HL := Lib.hid hl
  have HN := Lib.hid hln
  clear hl hln
  refine (callsIn_wide (n := 6)).1 ?_
  refine callsIn_of_wp_marks Try.func27 rfl trivial ?_ rfl
  simp only [Try.ntmps27, List.size_toArray, List.length_cons, List.length_nil, Nat.reduceAdd, Nat.reduceSub, Array.replicate_succ, Array.replicate_zero, List.push_toArray, List.append_toArray, List.nil_append, List.cons_append]
  gi_wp2_with (refine ⟨trivial, ?_⟩; gi_at_call 18; refine (callsIn_wide.2 (sides_any a n cap _)).mono ?_; rintro e W2 ⟨rfl, rfl⟩)
  obtain ⟨W0, hW0⟩ : ∃ W0, (((w.alloc (.cells #[.int .i64 p.x, .int .i64 p.y] 24)).alloc (.cells #[.int .i64 0] 3)).alloc (.cells #[.int .i64 (-1)] 3)).alloc (.cells #[.slice a n cap] 22) = W0 := ⟨_, rfl⟩
  have r0 : IsRow W0 w.heap.size 24 #[.int .i64 p.x, .int .i64 p.y] := hW0 ▸ (((IsRow.made w _ _).later _).later _).later _
  have r1 : IsRow W0 (w.heap.size + 1) 3 #[.int .i64 0] := by
    have := ((IsRow.made (w.alloc (.cells #[.int .i64 p.x, .int .i64 p.y] 24)) 3 #[.int .i64 0]).later (.cells #[.int .i64 (-1)] 3)).later (.cells #[.slice a n cap] 22)
    rw [World.size_alloc] at this
    exact hW0 ▸ this
  have r2 : IsRow W0 (w.heap.size + 1 + 1) 3 #[.int .i64 (par l p [])] := by
    have := (IsRow.made ((w.alloc (.cells #[.int .i64 p.x, .int .i64 p.y] 24)).alloc (.cells #[.int .i64 0] 3)) 3 #[.int .i64 (-1)]).later (.cells #[.slice a n cap] 22)
    rw [World.size_alloc, World.size_alloc] at this
    exact hW0 ▸ this
  have rb : IsRow W0 (w.heap.size + 1 + 1 + 1) 22 #[.slice a n cap] := by
    have := IsRow.made (((w.alloc (.cells #[.int .i64 p.x, .int .i64 p.y] 24)).alloc (.cells #[.int .i64 0] 3)).alloc (.cells #[.int .i64 (-1)] 3)) 22 #[.slice a n cap]
    rw [World.size_alloc, World.size_alloc, World.size_alloc] at this
    exact hW0 ▸ this
  have b0 : Below w.heap.size w W0 := hW0 ▸ (alloc3 w _ _ _).trans ((alloc1 _ _).mono (by simp; omega))
  have hs0 : W0.heap.size = w.heap.size + 4 := by rw [← hW0]; simp
  have HLW : Pts W0 w.heap.size a l := HL.out.below b0
  rw [hW0]
  clear hW0
  refine wpIn_rangeFunc_ownH rfl (by omega) (gf := 36) (lb := #[.pointer (some ⟨w.heap.size + 1 + 1 + 1, 0, none⟩)]) rfl trivial (enters_of Try.func36 (by kernel_rfl) rfl)
    (sides_stops 5 (by omega) a n cap l w.heap.size (w.heap.size + 1 + 1 + 1) W0 rb HLW b0.size HN.out h3 h2 hcap) KpT.trans (fun W l o o' h1 h2 h3 h4 => kpT_b (w := W0) W l o o' h1 h2 h3 h4) (Below.refl _ _) (fun _ => rfl)
    (fun pre W => (IsRow W w.heap.size 24 #[.int .i64 p.x, .int .i64 p.y] ∧ IsRow W (w.heap.size + 1) 3 #[.int .i64 0] ∧ IsRow W (w.heap.size + 1 + 1) 3 #[.int .i64 (par l p pre)]) ∧ (∀ x ∈ pre, onK l p x.val = false) ∧ Below w.heap.size w W ∧ W0.heap.size ≤ W.heap.size)
    (fun c pre W => c = .ret ∧ IsRow W (w.heap.size + 1) 3 #[.int .i64 0] ∧ (∃ x ∈ pre, onK l p x.val = true) ∧ Below w.heap.size w W)
    (OwnFrom.and (OwnFrom.and (Own.from (row_own _ _ (fun _ => _)) _) (OwnFrom.and (Own.from (row_own _ _ (fun _ => _)) _) (Own.from (row_own _ _ (fun pre => #[.int .i64 (par l p pre)])) _))) (OwnFrom.and (ownFrom_pure _ _) (OwnFrom.and (ownFrom_below (Nat.le_refl _) (by omega)) (fun _ _ _ _ hs hg _ => Nat.le_trans hs hg.size))))
    (fun c => OwnFrom.and (ownFrom_pure _ (fun _ => c = .ret)) (OwnFrom.and (Own.from (row_own _ _ (fun _ => _)) _) (OwnFrom.and (ownFrom_pure _ _) (ownFrom_below (Nat.le_refl _) (by omega)))))
    ⟨⟨r0, r1, r2⟩, (fun x hx => by cases hx), b0, Nat.le_refl _⟩
    (fun x a' W => ∃ Bx, W0.heap.size ≤ Bx ∧ IsRow W Bx 33 #[.int .i64 (cor l x.val).x, .int .i64 (cor l x.val).y, .int .i64 (nxt l x.val).x, .int .i64 (nxt l x.val).y] ∧
      a' = { tmps := #[.slice a n cap, .agg #[.int .i64 p.x, .int .i64 p.y], undef, .pointer (some ⟨w.heap.size, 0, none⟩), .pointer (some ⟨w.heap.size + 1, 0, none⟩), .pointer (some ⟨w.heap.size + 1 + 1, 0, none⟩), undef, .pointer (some ⟨Bx, 0, none⟩), .slice a n cap, .func (.func 36) #[] #[.pointer (some ⟨w.heap.size + 1 + 1 + 1, 0, none⟩)], .int .i64 (x.val : Int), .agg #[.int .i64 (cor l x.val).x, .int .i64 (cor l x.val).y, .int .i64 (nxt l x.val).x, .int .i64 (nxt l x.val).y], undef, undef, undef, undef, undef, undef, undef, undef, undef], defers := [] })
    (fun x a' _ X Y row hs hg hr => by
      obtain ⟨Bx, h1, h2, h3⟩ := hs
      exact ⟨Bx, h1, Own.from (row_own Bx _ (fun _ : Unit => _)) W0.heap.size () X Y row h2 hg hr, h3⟩) ?assign ?body ?done ?stop
  case assign =>
    rintro y pre x W K ⟨⟨i0, i1, i2⟩, hi, hb, hsz⟩ hK
    gi_wp2
    exact hK _ _ ((KeepsOthers.alloc _ _).from _) (KpT.of_below (alloc1 _ _)) ⟨⟨i0.later _, i1.later _, i2.later _⟩, hi, hb.alloc hb.size _, by simp; omega⟩ ⟨W.heap.size, hsz, IsRow.made W _ _, rfl⟩
  case body =>
    rintro y pre ⟨k, hk⟩ a' W - - ⟨⟨i0, i1, i2⟩, hi, hb, hsz⟩ ⟨Bx, hBx, rx, rfl⟩ hlt
    obtain ⟨c0, c1⟩ : W.cell? ⟨w.heap.size, 0, none⟩ = some (.int .i64 p.x) ∧ W.cell? ⟨w.heap.size, 1, none⟩ = some (.int .i64 p.y) := ⟨i0.get 0, i0.get 1⟩
    obtain ⟨d0, d1, d2, d3⟩ : W.cell? ⟨Bx, 0, none⟩ = some (.int .i64 (cor l k).x) ∧ W.cell? ⟨Bx, 1, none⟩ = some (.int .i64 (cor l k).y) ∧ W.cell? ⟨Bx, 2, none⟩ = some (.int .i64 (nxt l k).x) ∧ W.cell? ⟨Bx, 3, none⟩ = some (.int .i64 (nxt l k).y) := ⟨rx.get 0, rx.get 1, rx.get 2, rx.get 3⟩
    obtain ⟨o, ho⟩ : ∃ o, onN (cor l k) (nxt l k) p = o := ⟨_, rfl⟩
    have O1 := Lib.hid ((on_any (cor l k) (nxt l k) p).to (by rw [ho]))
    have HO := Lib.hid ho
    clear ho
    gi_wp2_with fail
    refine ⟨trivial, ?_⟩
    refine (CallsIn.inRound y (callsIn_wide.2 (O1.out _))).mono ?_
    rintro e V1 ⟨rfl, hb1⟩
    have i0' := i0.below hb1 i0.inside
    have i1' := i1.below hb1 i1.inside
    have i2' := i2.below hb1 i2.inside
    have rx' := rx.below hb1 rx.inside
    have hb' := hb.trans (hb1.mono hb.size)
    have ks := keeps_of_below W0.heap.size hb1
    have kp : KpT w.heap.size 24 22 W V1 := KpT.of_below hb1
    have hsz' := Nat.le_trans hsz hb1.size
    clear c0 c1 d0 d1 d2 d3 rx i0 i1 i2 hb1
    cases o with
    | true =>
      have c1 := i1'.get 0
      have f1 := i1'.open_ 0
      gi_wp2
      exact ⟨ks.trans ((KeepsOthers.setCell _ _ _).from _), rfl, i1'.put 0 _, ⟨⟨k, hk⟩, by simp, HO.out⟩, hb'.setCell (p := ⟨w.heap.size + 1, 0, none⟩) (by simp) _⟩
    | false =>
      obtain ⟨c0, c1⟩ : V1.cell? ⟨w.heap.size, 0, none⟩ = some (.int .i64 p.x) ∧ V1.cell? ⟨w.heap.size, 1, none⟩ = some (.int .i64 p.y) := ⟨i0'.get 0, i0'.get 1⟩
      obtain ⟨d0, d1, d2, d3⟩ : V1.cell? ⟨Bx, 0, none⟩ = some (.int .i64 (cor l k).x) ∧ V1.cell? ⟨Bx, 1, none⟩ = some (.int .i64 (cor l k).y) ∧ V1.cell? ⟨Bx, 2, none⟩ = some (.int .i64 (nxt l k).x) ∧ V1.cell? ⟨Bx, 3, none⟩ = some (.int .i64 (nxt l k).y) := ⟨rx'.get 0, rx'.get 1, rx'.get 2, rx'.get 3⟩
      obtain ⟨q, hq⟩ : ∃ q, passN (cor l k) (nxt l k) p = q := ⟨_, rfl⟩
      have P1 := Lib.hid ((isPassed_any (cor l k) (nxt l k) p).to (by rw [hq]))
      have HQ := Lib.hid (par_snoc l p pre ⟨k, hk⟩)
      dsimp only at HQ
      rw [hq] at HQ
      clear hq
      have hi' : Hid (∀ x ∈ pre ++ [⟨k, hk⟩], onK l p x.val = false) := fun x hx => by
        rcases List.mem_append.1 hx with hx | hx
        · exact hi x hx
        · simp at hx; subst hx; exact HO.out
      have hpr := par_range l p pre
      obtain ⟨S, hS⟩ : ∃ S, par l p pre = S := ⟨_, rfl⟩
      rw [hS] at i2' hpr HQ
      clear hS hi
      gi_wp2_with fail
      refine ⟨trivial, ?_⟩
      refine (CallsIn.inRound y (callsIn_wide.2 (P1.out _))).mono ?_
      rintro e V2 ⟨rfl, hb2⟩
      have i0'' := i0'.below hb2 i0'.inside
      have i1'' := i1'.below hb2 i1'.inside
      have i2'' := i2'.below hb2 i2'.inside
      have hb'' := hb'.trans (hb2.mono hb'.size)
      have ks' := ks.trans (keeps_of_below W0.heap.size hb2)
      have kp' := kp.trans (KpT.of_below hb2)
      have hsz'' := Nat.le_trans hsz' hb2.size
      clear c0 c1 d0 d1 d2 d3 rx' i0' i1' i2' hb2 hb' ks kp hsz hsz'
      cases q with
      | true =>
        have c2 := i2''.get 0
        have f2 := i2''.open_ 0
        have hw : wrap64 (-S) = -S := by unfold wrap64; omega
        have HQ' := Lib.hid (HQ.out.trans (if_pos rfl))
        clear HQ
        gi_wp2
        refine ⟨ks'.trans ((KeepsOthers.setCell _ _ _).from _), kp'.trans (KpT.set (p := ⟨w.heap.size + 1 + 1, 0, none⟩) (by simp; omega) i2'' (by decide) (by decide) _), ⟨i0''.putOther (by simp; omega) _, i1''.putOther (by simp) _, ?_⟩, hi'.out, hb''.setCell (p := ⟨w.heap.size + 1 + 1, 0, none⟩) (by simp; omega) _, by have := hs0; simp; omega⟩
        rw [HQ'.out]
        exact i2''.put 0 _
      | false =>
        have HQ' := Lib.hid (HQ.out.trans (if_neg (by decide)))
        clear HQ
        gi_wp2
        refine ⟨ks', kp', ⟨i0'', i1'', ?_⟩, hi'.out, hb'', by have := hs0; omega⟩
        rw [HQ'.out]
        exact i2''
  case done =>
    rintro D ys W hD rfl ⟨⟨i0, i1, i2⟩, hi, hb, hsz⟩ hK
    have c2 : W.cell? ⟨w.heap.size + 1 + 1, 0, none⟩ = some (.int .i64 (par l p (List.finRange l.length))) := i2.get 0
    rw [← loc_off hi] at c2
    have c1 := i1.get 0
    have f1 := i1.open_ 0
    have KD : Hid ((W.setCell ⟨w.heap.size + 1, 0, none⟩ (.int .i64 (locN l p))).heap[D]? = some (.deferred (some []))) := (Below.heap_setCell W ⟨w.heap.size + 1, 0, none⟩ _ D (by simp; omega)).trans hK
    have i1' := i1.put 0 (.int .i64 (locN l p))
    have hb' := hb.setCell (p := ⟨w.heap.size + 1, 0, none⟩) (by simp) (.int .i64 (locN l p))
    gi_wp2
    generalize W.setCell ⟨w.heap.size + 1, 0, none⟩ (.int .i64 (locN l p)) = W3 at *
    refine ⟨by simp, .inl ⟨_, _, rfl, run_takeDeferred KD.out, ?_⟩⟩
    have R4 : IsRow (W3.putObj D (.deferred none)) (w.heap.size + 1) 3 #[.int .i64 (locN l p)] := (World.putObj_heap_other (by omega)).trans i1'
    have z0 := R4.get 0
    refine ⟨.int .i64 (locN l p), ?_, rfl, hb'.trans (belowK_b (w := w) (Nat.le_refl _) W3 D _ _ (by omega) KD.out rfl rfl)⟩
    simp at z0
    simp [results, Try.f27, go_sem, z0]
  case stop =>
    rintro D c pre W hD _ ⟨rfl, i1, ⟨x, hx, hon⟩, hb⟩ hK
    have HE := Lib.hid (loc_on x.isLt hon)
    gi_wp2
    refine ⟨by simp, .inl ⟨_, _, rfl, run_takeDeferred hK, ?_⟩⟩
    have R4 : IsRow (W.putObj D (.deferred none)) (w.heap.size + 1) 3 #[.int .i64 0] := (World.putObj_heap_other (by omega)).trans i1
    have z0 := R4.get 0
    refine ⟨.int .i64 0, ?_, by rw [HE.out], hb.trans (belowK_b (w := w) (Nat.le_refl _) W D _ _ (by omega) hK rfl rfl)⟩
    simp at z0
    simp [results, Try.f27, go_sem, z0]
end Go.Proofs.Ytlagolgmkmdhhaa.Rg
