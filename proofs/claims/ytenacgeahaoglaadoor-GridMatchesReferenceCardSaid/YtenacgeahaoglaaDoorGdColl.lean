/- grid: slices.AppendSeq and slices.Collect over the tiles of a rectangle. -/
import Derived.Test.YtenacgeahaoglaaDoorGdSeq
import Derived.Deep.AppendLies
import Derived.Deep.AppendSrc
namespace Go.Proofs.YtenacgeahaoglaaDoor.Gd
open Go.RowKit Go.Sort Go.Shelf
attribute [local go_sem] Oper.semAt_some
def enc3 (t : Tl) : List Value := [.int .i64 t.z, .int .i64 t.x, .int .i64 t.y]
def flatT (l : List Tl) : List Value := l.flatMap enc3
/-- an owned slice of tiles. -/
def OwnT (w : World) (base : Nat) (v : Value) (l : List Tl) : Prop := w.ownsRow base 25 3 v l.length (flatT l)
theorem flatT_app (l m : List Tl) : flatT (l ++ m) = flatT l ++ flatT m := by unfold flatT; rw [List.flatMap_append]
theorem OwnT.row {w : World} {base : Nat} {v : Value} {l : List Tl} (h : OwnT w base v l) : ∀ k, v.ownBlock = some k → base ≤ k ∧ ∃ cs, IsRow w k 25 cs := by
  intro k hk
  obtain ⟨_, ⟨rfl, _⟩ | ⟨g, cap, cur, rfl, hb, hg, _⟩⟩ := h
  · cases hk
  · injection hk with hk
    subst hk
    exact ⟨hb, cur, hg⟩
theorem OwnT.ne {w : World} {base : Nat} {v : Value} {l : List Tl} (h : OwnT w base v l) {g : Nat} {t : TypeId} {cs : Array Value} (hr : IsRow w g t cs) (ht : t ≠ 25) : v.ownBlock ≠ some g := fun e => by
  obtain ⟨_, ds, hd⟩ := h.row g e
  have hd' : w.heap[g]? = some (.cells ds 25 (0, 0)) := hd
  rw [show w.heap[g]? = some (.cells cs t (0, 0)) from hr] at hd'
  injection hd' with hd'
  injection hd' with _ e2 _
  exact ht e2
theorem OwnT.kept {w w' : World} {base : Nat} {v : Value} {l : List Tl} {row : Option Nat} (h : OwnT w base v l) (hg : w.grownBy w' row) (hne : v.ownBlock = none ∨ v.ownBlock ≠ row) : OwnT w' base v l := World.ownsRow.kept h hg hne
theorem OwnT.below {w w' : World} {base : Nat} {v : Value} {l : List Tl} (h : OwnT w base v l) (hb : Below w.heap.size w w') : OwnT w' base v l :=
  h.kept (row := none) (grown_of_below hb none) (by cases hv : v.ownBlock <;> simp)
theorem IsRow.grown {w w' : World} {g : Nat} {t : TypeId} {cs : Array Value} {row : Option Nat} (h : IsRow w g t cs) (hg : w.grownBy w' row) (hne : row ≠ some g) : IsRow w' g t cs := (hg.block g h.inside (fun e => hne e.symm)).trans h
theorem tile_info : (Tryd.prog.info? 25).map (fun i => (i.size, i.bytes, i.zero)) = some (3, 24, some (.agg #[.int .i64 0, .int .i64 0, .int .i64 0])) := by kernel_rfl
theorem OwnT.put {w : World} {base : Nat} {v : Value} {l : List Tl} (h : OwnT w base v l) {g : Nat} {t : TypeId} {cs : Array Value} (hr : IsRow w g t cs) (ht : t ≠ 25) (i : Nat) (u : Value) : OwnT (w.setCell ⟨g, i, none⟩ u) base v l :=
  h.kept (row := some g) ⟨rfl, rfl, rfl, Nat.le_of_eq (by simp), fun k _ hk => Below.heap_setCell w ⟨g, i, none⟩ u k (fun e => hk (by rw [e]))⟩ (.inr (h.ne hr ht))
theorem keeps_grown {W W' : World} {row : Option Nat} (B : Nat) (hg : W.grownBy W' row) (hr : ∀ k, row = some k → ∃ cs t, IsRow W k t cs) : KeepsFrom B W W' :=
  (KeepsOthers.of_grownBy hg (fun j o e ho => by
    obtain ⟨cs, t, h⟩ := hr j e
    rw [show W.heap[j]? = some (.cells cs t (0, 0)) from h] at ho
    injection ho with ho
    subst ho
    rfl)).from _
theorem ownT_snoc {w : World} {base : Nat} {v : Value} {L : List Tl} {s : Tl} (h : w.ownsRow base 25 3 v (L.length + 1) (flatT L ++ enc3 s)) : OwnT w base v (L ++ [s]) := by
  unfold OwnT
  rw [List.length_append, flatT_app]
  unfold flatT at h ⊢
  simpa using h
theorem ownT_nil (w : World) (base : Nat) : OwnT w base (.slice none 0 0) [] := World.ownsRow_nil w base _ _
theorem enc3_one (s : Tl) : ∀ u ∈ enc3 s, u.oneCell' = true := by intro u hu; simp [enc3] at hu; rcases hu with rfl | rfl | rfl <;> rfl
/-- what stands between two rounds. -/
def InvT (w W0 : World) (Lb : Nat) (L : List Tl) (W : World) : Prop :=
  (∃ v, IsRow W Lb 35 #[v] ∧ OwnT W w.heap.size v L) ∧ Below w.heap.size w W ∧ W0.heap.size ≤ W.heap.size
theorem InvT.own {w W0 : World} {Lb : Nat} (hw : w.heap.size ≤ W0.heap.size) : OwnFrom W0.heap.size (fun pre W => InvT w W0 Lb pre W) := by
  intro pre X Y row hs hg hr
  obtain ⟨⟨v, h1, h2⟩, h4, h5⟩ := hs
  have hr' : ∀ r, row = some r → ∃ o : Obj, X.heap[r]? = some o ∧ o.isCells = false := fun r e => (hr r e).2
  have h0 : v.ownBlock = none ∨ v.ownBlock ≠ row := by
    cases hv : v.ownBlock with
    | none => exact .inl rfl
    | some g =>
      refine .inr (fun e => ?_)
      obtain ⟨o, ho, hc⟩ := hr' g e.symm
      obtain ⟨_, ds, hd⟩ := h2.row g hv
      rw [show X.heap[g]? = some (.cells ds 25 (0, 0)) from hd] at ho
      injection ho with ho
      subst ho
      cases hc
  exact ⟨⟨v, row_own _ _ (fun _ : Unit => #[v]) () X Y row h1 hg hr', h2.kept hg h0⟩, ownFrom_below (Nat.le_refl _) hw () X Y row h4 hg hr, Nat.le_trans h5 hg.size⟩
theorem InvT.later {w W0 W W' : World} {Lb : Nat} {L : List Tl} (h : InvT w W0 Lb L W) (hb : Below W.heap.size W W') : InvT w W0 Lb L W' := by
  obtain ⟨⟨v, h1, h2⟩, h4, h5⟩ := h
  exact ⟨⟨v, h1.below hb h1.inside, h2.below hb⟩, h4.trans (hb.mono h4.size), Nat.le_trans h5 hb.size⟩
/-- what stands in a round. -/
structure Rnd (w W0 W U : World) (Lb : Nat) (v : Value) (L : List Tl) : Prop where
  m1 : IsRow U Lb 35 #[v]
  m2 : OwnT U w.heap.size v L
  m4 : Below w.heap.size w U
  m5 : W0.heap.size ≤ U.heap.size
  ks : KeepsFrom W0.heap.size W U
  kp : KpA w.heap.size W U
section
variable {w W0 W U : World} {Lb : Nat} {v : Value} {L : List Tl}
theorem Rnd.begin (h1 : IsRow W Lb 35 #[v]) (h2 : OwnT W w.heap.size v L) (h4 : Below w.heap.size w W) (h5 : W0.heap.size ≤ W.heap.size) : Rnd w W0 W W Lb v L :=
  ⟨h1, h2, h4, h5, KeepsFrom.refl _ _, KpA.refl _⟩
theorem Rnd.later {U' : World} (H : Rnd w W0 W U Lb v L) (hb : Below U.heap.size U U') : Rnd w W0 W U' Lb v L :=
  ⟨H.m1.below hb H.m1.inside, H.m2.below hb, H.m4.trans (hb.mono H.m4.size), Nat.le_trans H.m5 hb.size, H.ks.trans (keeps_of_below _ hb), H.kp.trans (KpA.of_below hb)⟩
/-- the round's end: the tile appended, and the list's box written. -/
theorem Rnd.fin {s : Tl} {w1 : World} {v' : Value} (H : Rnd w W0 W U Lb v L) (hLb : w.heap.size ≤ Lb) (hown : w1.ownsRow w.heap.size 25 3 v' (L.length + 1) (flatT L ++ enc3 s))
    (hgrow : (U.alloc (.cells (enc3 s).toArray 25)).grownBy w1 v.ownBlock) :
    KeepsFrom W0.heap.size W (w1.setCell ⟨Lb, 0, none⟩ v') ∧ KpA w.heap.size W (w1.setCell ⟨Lb, 0, none⟩ v') ∧ InvT w W0 Lb (L ++ [s]) (w1.setCell ⟨Lb, 0, none⟩ v') := by
  have H1 := H.later (alloc1 U (.cells (enc3 s).toArray 25))
  have hr : ∀ k, v.ownBlock = some k → ∃ cs t, IsRow (U.alloc (.cells (enc3 s).toArray 25)) k t cs := fun k e => by obtain ⟨_, cs, h⟩ := H1.m2.row k e; exact ⟨cs, _, h⟩
  have r1 : IsRow w1 Lb 35 #[v] := IsRow.grown H1.m1 hgrow (H1.m2.ne H1.m1 (by decide))
  have b1 : Below w.heap.size w w1 := H1.m4.grown hgrow H1.m4.size (fun k e => (H1.m2.row k e).1)
  refine ⟨(H1.ks.trans (keeps_grown _ hgrow hr)).trans ((KeepsOthers.setCell _ _ _).from _), (H1.kp.trans (KpA.grown hgrow (fun k e => (H1.m2.row k e).1))).trans (KpA.set (p := ⟨Lb, 0, none⟩) hLb _), ?_⟩
  exact ⟨⟨v', r1.put 0 _, (ownT_snoc hown).put r1 (by decide) 0 _⟩, b1.setCell (p := ⟨Lb, 0, none⟩) hLb _, by have h8 := Nat.le_trans H1.m5 hgrow.size; simpa using h8⟩
end
set_option maxRecDepth 100000 in
set_option maxHeartbeats 4000000 in
theorem appendSeq_any (b1 b2 : Nat) (f l : Tl) (w : World) (h1 : IsRow w b1 25 (cT f)) (h2 : IsRow w b2 25 (cT l))
    (hf : -1000000000 ≤ f.x ∧ f.x ≤ 1000000000 ∧ -1000000000 ≤ f.y ∧ f.y ≤ 1000000000) (hl : -1000000000 ≤ l.x ∧ l.x ≤ 1000000000 ∧ -1000000000 ≤ l.y ∧ l.y ≤ 1000000000) (hN : (rect f l).length ≤ 5000) :
    Calls Tryd.prog 49 #[.slice none 0 0, .func (.func 50) #[] #[.pointer (some ⟨b1, 0, none⟩), .pointer (some ⟨b2, 0, none⟩)]] w fun e w' => (∃ v, e = .returned v ∧ OwnT w' w.heap.size v (rect f l)) ∧ Below w.heap.size w w' := by
  refine (callsIn_wide (n := 6)).1 ?_
  refine callsIn_of_wp_marks Tryd.func49 rfl trivial ?_ rfl
  simp only [Tryd.ntmps49, List.size_toArray, List.length_cons, List.length_nil, Nat.reduceAdd, Nat.reduceSub, Array.replicate_succ, Array.replicate_zero, List.push_toArray, List.append_toArray, List.nil_append, List.cons_append]
  gi_wp2
  obtain ⟨W0, hW0⟩ : ∃ V, w.alloc (.cells #[.slice none 0 0] 35) = V := ⟨_, rfl⟩
  have r1 : IsRow W0 w.heap.size 35 #[.slice none 0 0] := hW0 ▸ IsRow.made w _ _
  have b0 : Below w.heap.size w W0 := hW0 ▸ alloc1 w _
  have hs0 : W0.heap.size = w.heap.size + 1 := by rw [← hW0]; simp
  have i1 := h1.inside
  have i2 := h2.inside
  have k1 := h1.below b0 i1
  have k2 := h2.below b0 i2
  rw [hW0]
  clear hW0 h1 h2
  refine wpIn_rangeFunc_ownH rfl (by omega) (gf := 50) (lb := #[.pointer (some ⟨b1, 0, none⟩), .pointer (some ⟨b2, 0, none⟩)]) rfl trivial (enters_of Tryd.func50 (by kernel_rfl) rfl)
    (between_stops 5 (by omega) b1 b2 f l w.heap.size W0 k1 k2 i1 i2 hf hl) KpA.trans (fun W l o o' h1 h2 h3 h4 => kpA_b (w := W0) W l o o' h1 h2 h3 h4) (Below.refl _ _) (fun _ => rfl)
    (fun pre W => InvT w W0 w.heap.size pre W)
    (fun _ _ _ => False)
    (InvT.own b0.size)
    (fun _ _ _ _ _ hs _ _ => hs)
    ⟨⟨_, r1, ownT_nil _ _⟩, b0, Nat.le_refl _⟩
    (fun x a' W => ∃ Bx, W0.heap.size ≤ Bx ∧ IsRow W Bx 25 #[.int .i64 x.z, .int .i64 x.x, .int .i64 x.y] ∧
      a' = { tmps := #[.slice none 0 0, .func (.func 50) #[] #[.pointer (some ⟨b1, 0, none⟩), .pointer (some ⟨b2, 0, none⟩)], .pointer (some ⟨w.heap.size, 0, none⟩), undef, .slice none 0 0, .pointer (some ⟨Bx, 0, none⟩), .func (.func 50) #[] #[.pointer (some ⟨b1, 0, none⟩), .pointer (some ⟨b2, 0, none⟩)], .agg #[.int .i64 x.z, .int .i64 x.x, .int .i64 x.y], undef, undef, undef, undef, undef], defers := [] })
    (fun x a' _ X Y row hs hg hr => by
      obtain ⟨Bx, h1, h2, h3⟩ := hs
      exact ⟨Bx, h1, Own.from (row_own Bx _ (fun _ : Unit => _)) W0.heap.size () X Y row h2 hg hr, h3⟩) ?assign ?body ?done ?stop
  case assign =>
    rintro y pre x W K hi hK
    gi_wp2
    exact hK _ _ ((KeepsOthers.alloc _ _).from _) (KpA.of_below (alloc1 _ _)) (hi.later (alloc1 _ _)) ⟨W.heap.size, hi.2.2, IsRow.made W _ _, rfl⟩
  case body =>
    rintro y pre x a' W - - ⟨⟨v, i1, i2⟩, i4, i5⟩ ⟨Bx, hBx, rx, rfl⟩ hlt
    have HR := Lib.hid (Rnd.begin (W := W) i1 i2 i4 i5)
    have hL := Lib.hid (show pre.length + 1 ≤ 5000 by omega)
    obtain ⟨e0, e1, e2, _, _, _⟩ := facts3 rx
    have q0 := i1.get 0
    have p0 := i1.open_ 0
    have ib := rx.inside
    have iL := i1.inside
    obtain ⟨i0, hi0, hs0', hb0', hz0'⟩ := info_of tile_info
    have HI := Lib.hid (And.intro hi0 (And.intro hs0' (And.intro hb0' hz0')))
    have H9 := Lib.hid (HR.out.later (alloc1 W (.cells #[.int .i64 x.z, .int .i64 x.x, .int .i64 x.y] 25)))
    clear i1 i2 i4 i5 rx hi0 hs0' hb0' hz0' hlt
    gi_wp2_with (gi_at_builtin; go_loud (refine wpListIn_append_own _ rfl _ _ 35 rfl w.heap.size 25 i0 _ 3 24 Tryd.underlying35 HI.out.1 HI.out.2.2.2 HI.out.2.1 HI.out.2.2.1 (by decide) (by decide) v pre.length (flatT pre) rfl H9.out.m2 ⟨W.heap.size, 0, none⟩ 1 1 [.int .i64 x.z, .int .i64 x.x, .int .i64 x.y] rfl rfl (World.news_of_block (heap_alloc_new W _)) (enc3_one x) (by have := hL.out; unfold maxLen; omega) (by have := hL.out; omega) (by simp; omega) ?_; intro v' w1 hown' hgrow _; obtain ⟨g', cap', hv'⟩ := ownsRow_succ hown'; subst hv'; have hr1 := IsRow.grown H9.out.m1 hgrow (H9.out.m2.ne H9.out.m1 (by decide)); have hq1 := hr1.get 0; have hp1 := hr1.open_ 0))
    exact HR.out.fin (s := x) (Nat.le_refl _) hown' hgrow
  case done =>
    rintro D ys W hD rfl ⟨⟨v, i1, i2⟩, i4, i5⟩ hK
    have q0 := i1.get 0
    gi_wp2
    refine ⟨by simp, .inl ⟨_, _, rfl, run_takeDeferred hK, ?_⟩⟩
    have O3 : OwnT (W.putObj D (.deferred none)) w.heap.size v (rect f l) := i2.kept (row := some D) (grownBy_putObj' W D _) (.inr (fun e => by
      obtain ⟨_, ds, hd⟩ := i2.row D e
      rw [show W.heap[D]? = some (.cells ds 25 (0, 0)) from hd] at hK
      cases hK))
    exact ⟨_, results_tmp rfl _ _ _, ⟨v, rfl, O3⟩, i4.trans (belowK_b (w := w) (Nat.le_refl _) W D _ _ (by omega) hK rfl rfl)⟩
  case stop =>
    rintro D c pre W _ _ h _
    exact h.elim
end Go.Proofs.YtenacgeahaoglaaDoor.Gd
