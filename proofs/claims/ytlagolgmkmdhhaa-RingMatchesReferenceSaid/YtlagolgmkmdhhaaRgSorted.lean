/- ring.sorted of one ring. -/
import Derived.Test.YtlagolgmkmdhhaaRgSort
import Derived.Test.YtlagolgmkmdhhaaRgLocate
import Derived.Sort.CutIn
namespace Go.Proofs.Ytlagolgmkmdhhaa.Rg
open Go.RowKit Go.Sort Go.Shelf
open Go.Proofs.Ytlagolgmkmdhhaa.Geo hiding intOf
attribute [local go_sem] Oper.semAt_some
/-- a side with its lesser end first. -/
def sdOf (l : List Pt) (r k : Nat) : Sd := if cmpN (cor l k) (nxt l k) > 0 then ⟨nxt l k, cor l k, r, k⟩ else ⟨cor l k, nxt l k, r, k⟩
def sdsOf (l : List Pt) (r : Nat) : List Sd := (List.finRange l.length).map fun k => sdOf l r k.val
theorem KpT.grown {A : Nat} {t1 t2 : TypeId} {W W' : World} {row : Option Nat} (hg : W.grownBy W' row) (hr : ∀ k, row = some k → A ≤ k ∧ ∃ cs t, IsRow W k t cs ∧ t ≠ t1 ∧ t ≠ t2) : KpT A t1 t2 W W' := by
  refine ⟨hg.size, fun i cs t f hi hc => (hg.block i (Array.getElem?_eq_some_iff.1 hc).1 (fun e => ?_)).trans hc⟩
  obtain ⟨hA, ds, u, hu, n1, n2⟩ := hr i e.symm
  rw [show W.heap[i]? = some (.cells ds u (0, 0)) from hu] at hc
  injection hc with hc
  injection hc with _ e2 _
  rcases hi with hi | hi | hi
  · omega
  · exact n1 (e2.trans hi)
  · exact n2 (e2.trans hi)
theorem OwnS.row {w : World} {base : Nat} {v : Value} {l : List Sd} (h : OwnS w base v l) : ∀ k, v.ownBlock = some k → base ≤ k ∧ ∃ cs, IsRow w k 45 cs := by
  intro k hk
  obtain ⟨_, ⟨rfl, _⟩ | ⟨g, cap, cur, rfl, hb, hg, _⟩⟩ := h
  · cases hk
  · injection hk with hk
    subst hk
    exact ⟨hb, cur, hg⟩
theorem OwnS.ne {w : World} {base : Nat} {v : Value} {l : List Sd} (h : OwnS w base v l) {g : Nat} {t : TypeId} {cs : Array Value} (hr : IsRow w g t cs) (ht : t ≠ 45) : v.ownBlock ≠ some g := fun e => by
  obtain ⟨_, ds, hd⟩ := h.row g e
  have hd' : w.heap[g]? = some (.cells ds 45 (0, 0)) := hd
  rw [show w.heap[g]? = some (.cells cs t (0, 0)) from hr] at hd'
  injection hd' with hd'
  injection hd' with _ e2 _
  exact ht e2
theorem OwnS.kept {w w' : World} {base : Nat} {v : Value} {l : List Sd} {row : Option Nat} (h : OwnS w base v l) (hg : w.grownBy w' row) (hne : v.ownBlock = none ∨ v.ownBlock ≠ row) : OwnS w' base v l := World.ownsRow.kept h hg hne
theorem OwnS.below {w w' : World} {base : Nat} {v : Value} {l : List Sd} (h : OwnS w base v l) (hb : Below w.heap.size w w') : OwnS w' base v l :=
  h.kept (row := none) (grown_of_below hb none) (by cases hv : v.ownBlock <;> simp)
theorem IsRow.grown {w w' : World} {g : Nat} {t : TypeId} {cs : Array Value} {row : Option Nat} (h : IsRow w g t cs) (hg : w.grownBy w' row) (hne : row ≠ some g) : IsRow w' g t cs := (hg.block g h.inside (fun e => hne e.symm)).trans h
theorem side_info : (Try.prog.info? 45).map (fun i => (i.size, i.bytes, i.zero)) = some (6, 48, some (.agg (encSd ⟨⟨0, 0⟩, ⟨0, 0⟩, 0, 0⟩).toArray)) := by kernel_rfl
theorem OwnS.put {w : World} {base : Nat} {v : Value} {l : List Sd} (h : OwnS w base v l) {g : Nat} {t : TypeId} {cs : Array Value} (hr : IsRow w g t cs) (ht : t ≠ 45) (i : Nat) (u : Value) : OwnS (w.setCell ⟨g, i, none⟩ u) base v l :=
  h.kept (row := some g) ⟨rfl, rfl, rfl, Nat.le_of_eq (by simp), fun k _ hk => Below.heap_setCell w ⟨g, i, none⟩ u k (fun e => hk (by rw [e]))⟩ (.inr (h.ne hr ht))
theorem keeps_grown {W W' : World} {row : Option Nat} (B : Nat) (hg : W.grownBy W' row) (hr : ∀ k, row = some k → ∃ cs t, IsRow W k t cs) : KeepsFrom B W W' :=
  (KeepsOthers.of_grownBy hg (fun j o e ho => by
    obtain ⟨cs, t, h⟩ := hr j e
    rw [show W.heap[j]? = some (.cells cs t (0, 0)) from h] at ho
    injection ho with ho
    subst ho
    rfl)).from _
theorem ownS_snoc {w : World} {base : Nat} {v : Value} {L : List Sd} {s : Sd} (h : w.ownsRow base 45 6 v (L.length + 1) (flatS L ++ encSd s)) : OwnS w base v (L ++ [s]) := by
  unfold OwnS
  rw [List.length_append, flatS_app]
  unfold flatS at h ⊢
  simpa using h
/-- the marks of the loops that have ended. -/
def Marks (D : Option Nat) (W : World) : Prop := ∀ d, D = some d → W.heap[d]? = some (.deferred (some []))
theorem Marks.grown {D : Option Nat} {W W' : World} {row : Option Nat} (h : Marks D W) (hg : W.grownBy W' row) (hr : ∀ k, row = some k → ∃ cs t, IsRow W k t cs) : Marks D W' := fun d e => by
  have hd := h d e
  refine (hg.block d (Array.getElem?_eq_some_iff.1 hd).1 (fun e' => ?_)).trans hd
  obtain ⟨cs, t, hc⟩ := hr d e'.symm
  rw [show W.heap[d]? = some (.cells cs t (0, 0)) from hc] at hd
  cases hd
theorem Marks.below {D : Option Nat} {W W' : World} (h : Marks D W) (hb : Below W.heap.size W W') : Marks D W' := h.grown (row := none) (grown_of_below hb none) (fun _ e => by cases e)
theorem grown_set (W : World) (p : Addr) (u : Value) : W.grownBy (W.setCell p u) (some p.block) := ⟨rfl, rfl, rfl, Nat.le_of_eq (by simp), fun k _ hk => Below.heap_setCell W p u k (fun e => hk (by rw [e]))⟩
theorem Marks.set {D : Option Nat} {W : World} {g : Nat} {t : TypeId} {cs : Array Value} (h : Marks D W) (hr : IsRow W g t cs) (i : Nat) (u : Value) : Marks D (W.setCell ⟨g, i, none⟩ u) :=
  h.grown (grown_set W ⟨g, i, none⟩ u) (fun k e => by injection e with e; subst e; exact ⟨cs, t, hr⟩)
/-- what stands between two rounds. -/
def InvS (w W0 : World) (Lb rb r : Nat) (D : Option Nat) (L : List Sd) (W : World) : Prop :=
  (∃ v, IsRow W Lb 42 #[v] ∧ OwnS W w.heap.size v L) ∧ IsRow W rb 3 #[.int .i64 r] ∧ Below w.heap.size w W ∧ W0.heap.size ≤ W.heap.size ∧ Marks D W
theorem InvS.own {β : Type} {w W0 : World} {Lb rb r : Nat} {D : Option Nat} (f : β → List Sd) (hw : w.heap.size ≤ W0.heap.size) (hD : ∀ d, D = some d → d < W0.heap.size) : OwnFrom W0.heap.size (fun pre W => InvS w W0 Lb rb r D (f pre) W) := by
  intro pre X Y row hs hg hr
  obtain ⟨⟨v, h1, h2⟩, h3, h4, h5, h6⟩ := hs
  have hr' : ∀ r, row = some r → ∃ o : Obj, X.heap[r]? = some o ∧ o.isCells = false := fun r e => (hr r e).2
  have h0 : v.ownBlock = none ∨ v.ownBlock ≠ row := by
    cases hv : v.ownBlock with
    | none => exact .inl rfl
    | some g =>
      refine .inr (fun e => ?_)
      obtain ⟨o, ho, hc⟩ := hr' g e.symm
      obtain ⟨_, ds, hd⟩ := h2.row g hv
      rw [show X.heap[g]? = some (.cells ds 45 (0, 0)) from hd] at ho
      injection ho with ho
      subst ho
      cases hc
  exact ⟨⟨v, row_own _ _ (fun _ : Unit => #[v]) () X Y row h1 hg hr', h2.kept hg h0⟩, row_own _ _ (fun _ : Unit => #[Value.int .i64 r]) () X Y row h3 hg hr', ownFrom_below (Nat.le_refl _) hw () X Y row h4 hg hr, Nat.le_trans h5 hg.size,
    fun d e => (hg.block d (Array.getElem?_eq_some_iff.1 (h6 d e)).1 (fun e' => by have := (hr d e'.symm).1; have := hD d e; omega)).trans (h6 d e)⟩
theorem InvS.later {w W0 W W' : World} {Lb rb r : Nat} {D : Option Nat} {L : List Sd} (h : InvS w W0 Lb rb r D L W) (hb : Below W.heap.size W W') : InvS w W0 Lb rb r D L W' := by
  obtain ⟨⟨v, h1, h2⟩, h3, h4, h5, h6⟩ := h
  exact ⟨⟨v, h1.below hb h1.inside, h2.below hb⟩, h3.below hb h3.inside, h4.trans (hb.mono h4.size), Nat.le_trans h5 hb.size, h6.below hb⟩
/-- what stands in a round. -/
structure Rnd (w W0 W U : World) (Lb rb Bx r : Nat) (D : Option Nat) (v : Value) (L : List Sd) (cs : Array Value) : Prop where
  m1 : IsRow U Lb 42 #[v]
  m2 : OwnS U w.heap.size v L
  m3 : IsRow U rb 3 #[.int .i64 r]
  m4 : Below w.heap.size w U
  m5 : W0.heap.size ≤ U.heap.size
  m6 : Marks D U
  mx : IsRow U Bx 33 cs
  ks : KeepsFrom W0.heap.size W U
  kp : KpT w.heap.size 24 22 W U
section
variable {w W0 W U : World} {Lb rb Bx r : Nat} {D : Option Nat} {v : Value} {L : List Sd} {cs : Array Value}
theorem Rnd.begin (h1 : IsRow W Lb 42 #[v]) (h2 : OwnS W w.heap.size v L) (h3 : IsRow W rb 3 #[.int .i64 r]) (h4 : Below w.heap.size w W) (h5 : W0.heap.size ≤ W.heap.size) (h6 : Marks D W) (hx : IsRow W Bx 33 cs) : Rnd w W0 W W Lb rb Bx r D v L cs :=
  ⟨h1, h2, h3, h4, h5, h6, hx, KeepsFrom.refl _ _, KpT.refl _⟩
theorem Rnd.later {U' : World} (H : Rnd w W0 W U Lb rb Bx r D v L cs) (hb : Below U.heap.size U U') : Rnd w W0 W U' Lb rb Bx r D v L cs :=
  ⟨H.m1.below hb H.m1.inside, H.m2.below hb, H.m3.below hb H.m3.inside, H.m4.trans (hb.mono H.m4.size), Nat.le_trans H.m5 hb.size, H.m6.below hb, H.mx.below hb H.mx.inside, H.ks.trans (keeps_of_below _ hb), H.kp.trans (KpT.of_below hb)⟩
theorem Rnd.set (H : Rnd w W0 W U Lb rb Bx r D v L cs) (hB : w.heap.size ≤ Bx) (n1 : Bx ≠ Lb) (n2 : Bx ≠ rb) (i : Nat) (u : Value) : Rnd w W0 W (U.setCell ⟨Bx, i, none⟩ u) Lb rb Bx r D v L (cs.setIfInBounds i u) :=
  ⟨H.m1.putOther (p := ⟨Bx, i, none⟩) n1.symm _, H.m2.put H.mx (by decide) i u, H.m3.putOther (p := ⟨Bx, i, none⟩) n2.symm _, H.m4.setCell (p := ⟨Bx, i, none⟩) hB _, by simpa using H.m5, H.m6.set H.mx i u, H.mx.put i u, H.ks.trans ((KeepsOthers.setCell _ _ _).from _), H.kp.trans (KpT.set (p := ⟨Bx, i, none⟩) hB H.mx (by decide) (by decide) u)⟩
theorem Rnd.swap {p q : Pt} (H : Rnd w W0 W U Lb rb Bx r D v L #[.int .i64 p.x, .int .i64 p.y, .int .i64 q.x, .int .i64 q.y]) (hB : w.heap.size ≤ Bx) (n1 : Bx ≠ Lb) (n2 : Bx ≠ rb) :
    Rnd w W0 W ((((U.setCell ⟨Bx, 0, none⟩ (.int .i64 q.x)).setCell ⟨Bx, 1, none⟩ (.int .i64 q.y)).setCell ⟨Bx, 2, none⟩ (.int .i64 p.x)).setCell ⟨Bx, 3, none⟩ (.int .i64 p.y)) Lb rb Bx r D v L #[.int .i64 q.x, .int .i64 q.y, .int .i64 p.x, .int .i64 p.y] :=
  (((H.set hB n1 n2 0 _).set hB n1 n2 1 _).set hB n1 n2 2 _).set hB n1 n2 3 _
/-- the round's end: the side appended, and the list's box written. -/
theorem Rnd.fin {s : Sd} {w1 : World} {v' : Value} (H : Rnd w W0 W U Lb rb Bx r D v L cs) (hLb : w.heap.size ≤ Lb) (hn : Lb ≠ rb) (hown : w1.ownsRow w.heap.size 45 6 v' (L.length + 1) (flatS L ++ encSd s))
    (hgrow : (U.alloc (.cells (encSd s).toArray 45)).grownBy w1 v.ownBlock) :
    KeepsFrom W0.heap.size W (w1.setCell ⟨Lb, 0, none⟩ v') ∧ KpT w.heap.size 24 22 W (w1.setCell ⟨Lb, 0, none⟩ v') ∧ InvS w W0 Lb rb r D (L ++ [s]) (w1.setCell ⟨Lb, 0, none⟩ v') := by
  have H1 := H.later (alloc1 U (.cells (encSd s).toArray 45))
  have hr : ∀ k, v.ownBlock = some k → ∃ cs t, IsRow (U.alloc (.cells (encSd s).toArray 45)) k t cs := fun k e => by obtain ⟨_, cs, h⟩ := H1.m2.row k e; exact ⟨cs, _, h⟩
  have r1 : IsRow w1 Lb 42 #[v] := IsRow.grown H1.m1 hgrow (H1.m2.ne H1.m1 (by decide))
  have r3 : IsRow w1 rb 3 #[.int .i64 r] := IsRow.grown H1.m3 hgrow (H1.m2.ne H1.m3 (by decide))
  have b1 : Below w.heap.size w w1 := H1.m4.grown hgrow H1.m4.size (fun k e => (H1.m2.row k e).1)
  refine ⟨(H1.ks.trans (keeps_grown _ hgrow hr)).trans ((KeepsOthers.setCell _ _ _).from _), (H1.kp.trans (KpT.grown hgrow (fun k e => by obtain ⟨h0, cs, h⟩ := H1.m2.row k e; exact ⟨h0, cs, _, h, by decide, by decide⟩))).trans (KpT.set (p := ⟨Lb, 0, none⟩) hLb r1 (by decide) (by decide) _), ?_⟩
  exact ⟨⟨v', r1.put 0 _, (ownS_snoc hown).put r1 (by decide) 0 _⟩, r3.putOther (p := ⟨Lb, 0, none⟩) hn.symm _, b1.setCell (p := ⟨Lb, 0, none⟩) hLb _, by have h8 := Nat.le_trans H1.m5 hgrow.size; simpa using h8, (H1.m6.grown hgrow hr).set r1 0 _⟩
end
theorem ownS_nil (w : World) (base : Nat) : OwnS w base (.slice none 0 0) [] := World.ownsRow_nil w base _ _
theorem sdOf_rp (l : List Pt) (r k : Nat) : (sdOf l r k).r = r ∧ (sdOf l r k).p = k := by unfold sdOf; split <;> exact ⟨rfl, rfl⟩
theorem encSd_eq {s : Sd} {r p : Nat} (h : s.r = r ∧ s.p = p) : encSd s = [.int .i64 s.a.x, .int .i64 s.a.y, .int .i64 s.b.x, .int .i64 s.b.y, .int .i64 r, .int .i64 p] := by rw [← h.1, ← h.2]; rfl
theorem sd_snoc {n : Nat} (done : List Sd) (pre : List (Fin n)) (x : Fin n) (f : Fin n → Sd) : done ++ (pre ++ [x]).map f = done ++ pre.map f ++ [f x] := by simp
theorem encSd_one (s : Sd) : ∀ u ∈ encSd s, u.oneCell' = true := by intro u hu; simp [encSd] at hu; rcases hu with rfl | rfl | rfl | rfl | rfl | rfl <;> rfl
theorem sdOf_swap {l : List Pt} {r k : Nat} {c : Int} (hc : cmpN (cor l k) (nxt l k) = c) (h : c > 0) : sdOf l r k = ⟨nxt l k, cor l k, r, k⟩ := by unfold sdOf; rw [hc, if_pos h]
theorem sdOf_same {l : List Pt} {r k : Nat} {c : Int} (hc : cmpN (cor l k) (nxt l k) = c) (h : ¬ c > 0) : sdOf l r k = ⟨cor l k, nxt l k, r, k⟩ := by unfold sdOf; rw [hc, if_neg h]
set_option maxRecDepth 100000 in
set_option maxHeartbeats 4000000 in
theorem sorted1_any (gs cp : Nat) (a : Option Addr) (n cap : Nat) (l : List Pt) (w : World) (hg : IsRow w gs 22 #[.slice a n cap]) (hl : Pts w w.heap.size a l) (hln : n = l.length) (hcap : n ≤ cap) (h3 : 2 ≤ n) (h2 : n ≤ 2000) :
    Calls Try.prog 22 #[.slice (some ⟨gs, 0, none⟩) 1 cp] w fun e w' => (∃ v l', e = .returned v ∧ l'.Perm (sdsOf l 0) ∧ Asc l' ∧ OwnS w' w.heap.size v l') ∧ Below w.heap.size w w' := by
  have HL := Lib.hid hl
  have HN := Lib.hid hln
  have HG := Lib.hid hg
  clear hl hln hg
  refine (callsIn_wide (n := 6)).1 ?_
  refine callsIn_of_wp_marks Try.func22 rfl trivial ?_ rfl
  simp only [Try.ntmps22, List.size_toArray, List.length_cons, List.length_nil, Nat.reduceAdd, Nat.reduceSub, Array.replicate_succ, Array.replicate_zero, List.push_toArray, List.append_toArray, List.nil_append, List.cons_append]
  gi_wp2
  obtain ⟨V0, hV0⟩ : ∃ V, w.alloc (.cells #[.slice none 0 0] 42) = V := ⟨_, rfl⟩
  have rl : IsRow V0 w.heap.size 42 #[.slice none 0 0] := hV0 ▸ IsRow.made w _ _
  have bV : Below w.heap.size w V0 := hV0 ▸ alloc1 w _
  have sV : V0.heap.size = w.heap.size + 1 := by rw [← hV0]; simp
  have g0 : V0.cell? ⟨gs, 0, none⟩ = some (.slice a n cap) := (HG.out.below bV HG.out.inside).get 0
  rw [hV0]
  clear hV0
  refine wpIn_loop_rounds 2 ?_
  rw [roundsIn_succ]
  gi_wp2_with (refine ⟨trivial, ?_⟩; gi_at_call 18; refine (callsIn_wide.2 (sides_any a n cap _)).mono ?_; rintro e W2 ⟨rfl, rfl⟩)
  obtain ⟨W0, hW0⟩ : ∃ W0, (V0.alloc (.cells #[.int .i64 0] 3)).alloc (.cells #[.slice a n cap] 22) = W0 := ⟨_, rfl⟩
  have r1 : IsRow W0 w.heap.size 42 #[.slice none 0 0] := hW0 ▸ (rl.later _).later _
  have r2 : IsRow W0 (w.heap.size + 1) 3 #[.int .i64 (0 : Nat)] := by
    have := (IsRow.made V0 3 #[.int .i64 0]).later (.cells #[.slice a n cap] 22)
    rw [sV] at this
    exact hW0 ▸ this
  have rb : IsRow W0 (w.heap.size + 1 + 1) 22 #[.slice a n cap] := by
    have := IsRow.made (V0.alloc (.cells #[.int .i64 0] 3)) 22 #[.slice a n cap]
    rw [World.size_alloc, sV] at this
    exact hW0 ▸ this
  have b0 : Below w.heap.size w W0 := hW0 ▸ bV.trans ((alloc2 V0 _ _).mono bV.size)
  have hs0 : W0.heap.size = w.heap.size + 3 := by rw [← hW0]; simp [sV]
  have HLW : Pts W0 w.heap.size a l := HL.out.below b0
  rw [hW0]
  clear hW0 rl bV
  refine wpIn_rangeFunc_ownH rfl (by omega) (gf := 36) (lb := #[.pointer (some ⟨w.heap.size + 1 + 1, 0, none⟩)]) rfl trivial (enters_of Try.func36 (by kernel_rfl) rfl)
    (sides_stops 5 (by omega) a n cap l w.heap.size (w.heap.size + 1 + 1) W0 rb HLW b0.size HN.out h3 h2 hcap) KpT.trans (fun W l o o' h1 h2 h3 h4 => kpT_b (w := W0) W l o o' h1 h2 h3 h4) (Below.refl _ _) (fun _ => rfl)
    (fun pre W => InvS w W0 w.heap.size (w.heap.size + 1) 0 none ([] ++ pre.map fun k : Fin l.length => sdOf l 0 k.val) W)
    (fun _ _ _ => False)
    (InvS.own (fun pre : List (Fin l.length) => [] ++ pre.map fun k : Fin l.length => sdOf l 0 k.val) b0.size (fun d e => by cases e))
    (fun _ _ _ _ _ hs _ _ => hs)
    ⟨⟨_, r1, ownS_nil _ _⟩, r2, b0, Nat.le_refl _, fun d e => by cases e⟩
    (fun x a' W => ∃ Bx, W0.heap.size ≤ Bx ∧ IsRow W Bx 33 #[.int .i64 (cor l x.val).x, .int .i64 (cor l x.val).y, .int .i64 (nxt l x.val).x, .int .i64 (nxt l x.val).y] ∧
      a' = { tmps := #[.slice (some ⟨gs, 0, none⟩) 1 cp, undef, .slice none 0 0, .pointer (some ⟨w.heap.size, 0, none⟩), .pointer (some ⟨w.heap.size + 1, 0, none⟩), .slice a n cap, .int .i64 (x.val : Int), .pointer (some ⟨Bx, 0, none⟩), .slice (some ⟨gs, 0, none⟩) 1 cp, .int .i64 1, .int .i64 0, .bool true, .int .i64 0, .pointer (some ⟨gs, 0, none⟩), .slice a n cap, .slice a n cap, .func (.func 36) #[] #[.pointer (some ⟨w.heap.size + 1 + 1, 0, none⟩)], .int .i64 (x.val : Int), .agg #[.int .i64 (cor l x.val).x, .int .i64 (cor l x.val).y, .int .i64 (nxt l x.val).x, .int .i64 (nxt l x.val).y], undef, undef, undef, undef, undef, undef, undef, undef, undef, undef, undef, undef, undef, undef, undef, undef, undef, undef, undef, undef, undef, undef, undef], defers := [] })
    (fun x a' _ X Y row hs hg hr => by
      obtain ⟨Bx, h1, h2, h3⟩ := hs
      exact ⟨Bx, h1, Own.from (row_own Bx _ (fun _ : Unit => _)) W0.heap.size () X Y row h2 hg hr, h3⟩) ?assign ?body ?done ?stop
  case assign =>
    rintro y pre x W K hi hK
    gi_wp2
    exact hK _ _ ((KeepsOthers.alloc _ _).from _) (KpT.of_below (alloc1 _ _)) (hi.later (alloc1 _ _)) ⟨W.heap.size, hi.2.2.2.1, IsRow.made W _ _, rfl⟩
  case body =>
    rintro y pre ⟨k, hk⟩ a' W - - ⟨⟨v, i1, i2⟩, i3, i4, i5, i6⟩ ⟨Bx, hBx, rx, rfl⟩ hlt
    have HR := Lib.hid (Rnd.begin (W := W) i1 i2 i3 i4 i5 i6 rx)
    obtain ⟨d0, d1, d2, d3⟩ : W.cell? ⟨Bx, 0, none⟩ = some (.int .i64 (cor l k).x) ∧ W.cell? ⟨Bx, 1, none⟩ = some (.int .i64 (cor l k).y) ∧ W.cell? ⟨Bx, 2, none⟩ = some (.int .i64 (nxt l k).x) ∧ W.cell? ⟨Bx, 3, none⟩ = some (.int .i64 (nxt l k).y) := ⟨rx.get 0, rx.get 1, rx.get 2, rx.get 3⟩
    obtain ⟨c, hc⟩ : ∃ c, cmpN (cor l k) (nxt l k) = c := ⟨_, rfl⟩
    have C1 := Lib.hid ((compare_any (cor l k) (nxt l k)).to (by rw [hc]))
    have HC := Lib.hid hc
    have nBl : Bx ≠ w.heap.size := by omega
    have nBr : Bx ≠ w.heap.size + 1 := by omega
    have nBw : w.heap.size ≤ Bx := by omega
    clear hc i1 i2 i3 i4 i5 i6 rx hBx
    gi_wp2_with fail
    refine ⟨trivial, ?_⟩
    refine (CallsIn.inRound y (callsIn_wide.2 (C1.out _))).mono ?_
    rintro e V1 ⟨rfl, hb1⟩
    have HR1 := Lib.hid (HR.out.later hb1)
    clear d0 d1 d2 d3 hb1 HR
    obtain ⟨d0, d1, d2, d3⟩ : V1.cell? ⟨Bx, 0, none⟩ = some (.int .i64 (cor l k).x) ∧ V1.cell? ⟨Bx, 1, none⟩ = some (.int .i64 (cor l k).y) ∧ V1.cell? ⟨Bx, 2, none⟩ = some (.int .i64 (nxt l k).x) ∧ V1.cell? ⟨Bx, 3, none⟩ = some (.int .i64 (nxt l k).y) := ⟨HR1.out.mx.get 0, HR1.out.mx.get 1, HR1.out.mx.get 2, HR1.out.mx.get 3⟩
    have f0 := HR1.out.mx.open_ 0
    have f1 := HR1.out.mx.open_ 1
    have f2 := HR1.out.mx.open_ 2
    have f3 := HR1.out.mx.open_ 3
    gi_upto_if 24 with fail
    gi_cut [7] from 25 (fun s7 wx => s7 = .pointer (some ⟨Bx, 0, none⟩) ∧ Hid (Rnd w W0 W wx w.heap.size (w.heap.size + 1) Bx 0 none v ([] ++ pre.map fun k : Fin l.length => sdOf l 0 k.val) #[.int .i64 (sdOf l 0 k).a.x, .int .i64 (sdOf l 0 k).a.y, .int .i64 (sdOf l 0 k).b.x, .int .i64 (sdOf l 0 k).b.y]))
    case first =>
      by_cases hcp : c > 0
      · have HS := Lib.hid (HR1.out.swap nBw nBl nBr)
        have HE := Lib.hid (sdOf_swap (r := 0) HC.out hcp)
        gi_wp2_with fail
        gi_meet
        case rel => exact ⟨rfl, by rw [HE.out]; exact HS⟩
      · have HE := Lib.hid (sdOf_same (r := 0) HC.out hcp)
        have hcp' : c ≤ 0 := by omega
        gi_wp2_with fail
        gi_meet
        case rel => exact ⟨rfl, by rw [HE.out]; exact HR1⟩
    obtain ⟨rfl, HR2⟩ := hcut
    clear d0 d1 d2 d3 f0 f1 f2 f3 HR1
    have HSN := Lib.hid (sd_snoc [] pre ⟨k, hk⟩ (fun k : Fin l.length => sdOf l 0 k.val))
    have hL : Hid (([] ++ pre.map fun k : Fin l.length => sdOf l 0 k.val : List Sd).length + 1 ≤ 5000) := by
      show _ ≤ _
      have := HN.out
      simp
      omega
    obtain ⟨s, hs⟩ : ∃ s, sdOf l 0 k = s := ⟨_, rfl⟩
    have henc : Hid (encSd s = [.int .i64 s.a.x, .int .i64 s.a.y, .int .i64 s.b.x, .int .i64 s.b.y, .int .i64 0, .int .i64 k]) := encSd_eq (hs ▸ sdOf_rp l 0 k : s.r = 0 ∧ s.p = k)
    obtain ⟨L, hLL⟩ : ∃ L : List Sd, ([] ++ pre.map fun k : Fin l.length => sdOf l 0 k.val) = L := ⟨_, rfl⟩
    dsimp only at HSN
    rw [hs, hLL] at HSN
    rw [hs, hLL] at HR2
    rw [hLL] at hL
    clear hs hLL
    have q0 := HR2.out.m1.get 0
    have p0 := HR2.out.m1.open_ 0
    have q1 := HR2.out.m3.get 0
    obtain ⟨e0, e1, e2, e3⟩ : wc.cell? ⟨Bx, 0, none⟩ = some (.int .i64 s.a.x) ∧ wc.cell? ⟨Bx, 1, none⟩ = some (.int .i64 s.a.y) ∧ wc.cell? ⟨Bx, 2, none⟩ = some (.int .i64 s.b.x) ∧ wc.cell? ⟨Bx, 3, none⟩ = some (.int .i64 s.b.y) := ⟨HR2.out.mx.get 0, HR2.out.mx.get 1, HR2.out.mx.get 2, HR2.out.mx.get 3⟩
    obtain ⟨i0, hi0, hs0', hb0', hz0'⟩ := info_of side_info
    have HI := Lib.hid (And.intro hi0 (And.intro hs0' (And.intro hb0' hz0')))
    have hsz := HR2.out.m4.size
    have H9 := Lib.hid (HR2.out.later (alloc1 wc (.cells #[.int .i64 s.a.x, .int .i64 s.a.y, .int .i64 s.b.x, .int .i64 s.b.y, .int .i64 0, .int .i64 k] 45)))
    clear hi0 hs0' hb0' hz0'
    gi_wp2_with (gi_at_builtin; go_loud (refine wpListIn_append_own _ rfl _ _ 42 rfl w.heap.size 45 i0 _ 6 48 Try.underlying42 HI.out.1 HI.out.2.2.2 HI.out.2.1 HI.out.2.2.1 (by decide) (by decide) v L.length (flatS L) rfl H9.out.m2 ⟨wc.heap.size, 0, none⟩ 1 1 [.int .i64 s.a.x, .int .i64 s.a.y, .int .i64 s.b.x, .int .i64 s.b.y, .int .i64 0, .int .i64 k] rfl rfl (World.news_of_block (heap_alloc_new wc _)) (henc.out ▸ encSd_one s) (by have := hL.out; unfold maxLen; omega) (by have := hL.out; omega) (by simp; omega) ?_; intro v' w1 hown' hgrow _; obtain ⟨g', cap', hv'⟩ := ownsRow_succ hown'; subst hv'; have hr1 := IsRow.grown H9.out.m1 hgrow (H9.out.m2.ne H9.out.m1 (by decide)); have hq1 := hr1.get 0; have hp1 := hr1.open_ 0))
    rw [← henc.out] at hown'
    have hgrow' : (wc.alloc (.cells (encSd s).toArray 45)).grownBy w1 v.ownBlock := by rw [henc.out]; exact hgrow
    obtain ⟨z1, z2, z3⟩ := HR2.out.fin (Nat.le_refl _) (by omega) hown' hgrow'
    rw [← HSN.out] at z3
    exact ⟨z1, z2, z3⟩
  case done =>
    rintro D ys W hD rfl ⟨⟨v, i1, i2⟩, i3, i4, i5, i6⟩ hK
    have q0 := i1.get 0
    have HO : Hid (OwnS W w.heap.size v (sdsOf l 0)) := i2
    have hlen : (sdsOf l 0).length = l.length := by unfold sdsOf; simp
    have R1 := Lib.hid i1
    have B1 := Lib.hid i4
    have KD := Lib.hid hK
    clear i1 i2 i3 i4 i6 hK
    gi_wp2
    rw [roundsIn_succ]
    gi_wp2_with fail
    refine ⟨trivial, ?_⟩
    refine (callsIn_wide.2 (sortFunc_any w.heap.size v (sdsOf l 0) _ HO.out (by rw [hlen]; have := HN.out; omega) (by rw [hlen]; have := HN.out; omega))).mono ?_
    rintro e W2 ⟨rfl, l', hp, hasc, ho', hgr⟩
    have r2 : IsRow W2 w.heap.size 42 #[v] := IsRow.grown R1.out hgr (HO.out.ne R1.out (by decide))
    have q2 := r2.get 0
    have K2 : Hid (W2.heap[D]? = some (.deferred (some []))) := by
      refine (hgr.block D (Array.getElem?_eq_some_iff.1 KD.out).1 (fun e => ?_)).trans KD.out
      obtain ⟨_, cs, h⟩ := HO.out.row D e.symm
      have h1 := KD.out
      rw [show W.heap[D]? = some (.cells cs 45 (0, 0)) from h] at h1
      cases h1
    have B2 := Lib.hid (B1.out.grown hgr B1.out.size (fun k e => (HO.out.row k e).1))
    have O2 := Lib.hid ho'
    have HP := Lib.hid hp
    have HA := Lib.hid hasc
    clear q0 hgr ho' hp hasc
    gi_wp2
    refine ⟨by simp, .inl ⟨_, _, rfl, run_takeDeferred K2.out, ?_⟩⟩
    refine ⟨_, results_tmp rfl _ _ _, ⟨v, l', rfl, HP.out, HA.out, ?_⟩, B2.out.trans (belowK_b (w := w) (Nat.le_refl _) W2 D _ _ (by omega) K2.out rfl rfl)⟩
    refine O2.out.kept (grownBy_putObj' W2 D _) ?_
    cases hv : v.ownBlock with
    | none => exact .inl rfl
    | some g =>
      refine .inr (fun e => ?_)
      injection e with e
      subst e
      obtain ⟨_, cs, h⟩ := O2.out.row g hv
      have h1 := K2.out
      rw [show W2.heap[g]? = some (.cells cs 45 (0, 0)) from h] at h1
      cases h1
  case stop =>
    rintro D c pre W _ _ h _
    exact h.elim
end Go.Proofs.Ytlagolgmkmdhhaa.Rg
