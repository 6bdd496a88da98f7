/- Sign by contract. -/
import Derived.Test.YtanlpcdljclnmaaDoorSlVerify
import Derived.Test.YtanlpcdljclnmaaDoorSlRound
namespace Go.Proofs.YtanlpcdljclnmaaDoor.Sl
open Go.RowKit Go.Shelf
open Go.Proofs.YtanlpcdljclnmaaDoor.Dg hiding intOf
attribute [local go_sem] Oper.semAt_some

theorem Own.cap {w : World} {base m c n : Nat} {a : Option Addr} {L : List B} (h : Own w base (.slice a m c) n L) : n ≤ c ∧ c ≤ maxLen := by
  obtain ⟨_, _, ⟨hv, h0⟩ | ⟨g, cap, cur, hv, _, _, hnc, hcm, _⟩⟩ := h
  · injection hv with h1 h2 h3
    subst h2 h3
    exact ⟨by omega, by unfold maxLen; omega⟩
  · injection hv with h1 h2 h3
    subst h3
    exact ⟨hnc, hcm⟩
theorem own_own {β : Type} (base : Nat) (v : β → Value) (n : β → Nat) (L : β → List B) : Go.Own (fun (s : β) W => Own W base (v s) (n s) (L s)) := fun s X Y row hs hg hr => by
  obtain ⟨h1, h2, ⟨hv, h0⟩ | ⟨g, cap, cur, hv, hb, hg', rest⟩⟩ := hs
  · exact ⟨h1, h2, .inl ⟨hv, h0⟩⟩
  · refine ⟨h1, h2, .inr ⟨g, cap, cur, hv, hb, ?_, rest⟩⟩
    rw [hg.block g (Array.getElem?_eq_some_iff.1 hg').1 (fun e => by obtain ⟨o, ho, hc⟩ := hr g e.symm; rw [hg'] at ho; cases ho; cases hc)]
    exact hg'
def sigAt (sec : B) (i : Nat) (m : B) (k : Nat) : B := chainN (startOf sec i k) (dig m k)
def sigTo (sec : B) (i : Nat) (m : B) (pre : List (Fin 18)) : List B := pre.map fun k => sigAt sec i m k.val
theorem sigTo_snoc (sec : B) (i : Nat) (m : B) (pre : List (Fin 18)) (k : Fin 18) : sigTo sec i m (pre ++ [k]) = sigTo sec i m pre ++ [sigAt sec i m k.val] := by simp [sigTo]
theorem sigTo_full (sec : B) (i : Nat) (m : B) : sigTo sec i m (List.finRange 18) = sigOf sec i m := by
  refine eq_map_range [] _ 18 _ (by simp [sigTo]) fun k hk => ?_
  unfold sigTo
  rw [List.getD_eq_getElem?_getD, List.getElem?_map, List.getElem?_eq_getElem (by simpa using hk)]
  simp [sigAt]
theorem two_of {X w' : World} {p q : Addr} {x y : Value} (hb : Below X.heap.size X w') (h : X.cell? p = some x ∧ X.cell? q = some y) : w'.cell? p = some x ∧ w'.cell? q = some y :=
  ⟨(hb.cell (World.block_lt_of_cell? _ _ h.1)).trans h.1, (hb.cell (World.block_lt_of_cell? _ _ h.2)).trans h.2⟩
theorem two_set {w : World} {b c g : Nat} {x y u v z : Value} (h : w.cell? ⟨b, 0, none⟩ = some x ∧ w.cell? ⟨c, 0, none⟩ = some y) (hb : b < g) (hc : c < g) :
    (((w.setCell ⟨g, 0, none⟩ u).setCell ⟨g, 1, none⟩ v).setCell ⟨g, 2, none⟩ z).cell? ⟨b, 0, none⟩ = some x ∧ (((w.setCell ⟨g, 0, none⟩ u).setCell ⟨g, 1, none⟩ v).setCell ⟨g, 2, none⟩ z).cell? ⟨c, 0, none⟩ = some y := by
  have e : ∀ d, d < g → ∀ (w : World) (k : Nat) (u : Value), (w.setCell ⟨g, k, none⟩ u).cell? ⟨d, 0, none⟩ = w.cell? ⟨d, 0, none⟩ := fun d hd w k u => World.cell?_setCell_other w ⟨g, k, none⟩ ⟨d, 0, none⟩ u (fun e => by injection e; omega)
  rw [e b hb, e b hb, e b hb, e c hc, e c hc, e c hc]
  exact h
theorem three_of {X w' : World} {p q r : Addr} {x y z : Value} (hb : Below X.heap.size X w') (h : X.cell? p = some x ∧ X.cell? q = some y ∧ X.cell? r = some z) : w'.cell? p = some x ∧ w'.cell? q = some y ∧ w'.cell? r = some z :=
  ⟨(hb.cell (World.block_lt_of_cell? _ _ h.1)).trans h.1, (hb.cell (World.block_lt_of_cell? _ _ h.2.1)).trans h.2.1, (hb.cell (World.block_lt_of_cell? _ _ h.2.2)).trans h.2.2⟩
theorem three_grown {X w' : World} {p q r : Addr} {x y z : Value} {row : Option Nat} {N : Nat} (hg : X.grownBy w' row) (hr : ∀ k, row = some k → N ≤ k) (hp : p.block < N) (hq : q.block < N) (hr' : r.block < N) (h : X.cell? p = some x ∧ X.cell? q = some y ∧ X.cell? r = some z) : w'.cell? p = some x ∧ w'.cell? q = some y ∧ w'.cell? r = some z :=
  ⟨hg.cell h.1 (fun e => by have := hr _ e.symm; omega), hg.cell h.2.1 (fun e => by have := hr _ e.symm; omega), hg.cell h.2.2 (fun e => by have := hr _ e.symm; omega)⟩
theorem row_kept {X w' : World} {g : Nat} {t : TypeId} {cs : Array Value} (h : IsRow X g t cs) (hb : Below X.drew.heap.size X.drew w') : IsRow w' g t cs := IsRow.below (w := X.drew) h hb h.inside
theorem row_held {X w' : World} {g : Nat} {t : TypeId} {cs : Array Value} (h : IsRow X g t cs) (hb : Below X.heap.size X w') : IsRow w' g t cs := h.below hb h.inside
theorem store_facts {w' : World} {g : Nat} {t : TypeId} {a b c : Value} (h : IsRow w' g t #[a, b, c]) :
    w'.cell? ⟨g, 0, none⟩ = some a ∧ w'.cell? ⟨g, 1, none⟩ = some b ∧ w'.cell? ⟨g, 2, none⟩ = some c ∧ w'.frozen? ⟨g, 0, none⟩ = false ∧ w'.frozen? ⟨g, 1, none⟩ = false ∧ w'.frozen? ⟨g, 2, none⟩ = false :=
  ⟨h.get 0, h.get 1, h.get 2, h.open_ 0, h.open_ 1, h.open_ 2⟩
/-- what stands behind the seal's first statement: the boxes, the seal with its index and path. -/
structure Begun (w w' : World) (sec : B) (h i bt : Nat) (p : Option Addr) (cp : Nat) : Prop where
  rs : IsRow w' w.heap.size 9 #[.string ⟨sec.toArray⟩]
  ri : IsRow w' (w.heap.size + 1) 3 #[.int .i64 i]
  rr : IsRow w' (w.heap.size + 1 + 1) 29 #[.int .i64 0, .slice none 0 0, .slice none 0 0]
  rt : IsRow w' bt 29 #[.int .i64 i, .slice none 0 0, .slice p h cp]
  lt : w.heap.size + 3 ≤ bt
  op : Own w' w.heap.size (.slice p h cp) h (pathOf sec h i)
  bb : Below w.heap.size w w'
theorem set_three {w : World} {g : Nat} {t : TypeId} {a b c x y z : Value} (h : IsRow w g t #[a, b, c]) : IsRow (((w.setCell ⟨g, 0, none⟩ x).setCell ⟨g, 1, none⟩ y).setCell ⟨g, 2, none⟩ z) g t #[x, y, z] :=
  ((h.put 0 x).put 1 y).put 2 z
theorem row_ne {w : World} {g g' : Nat} {t t' : TypeId} {cs cs' : Array Value} (h : IsRow w g t cs) (h' : IsRow w g' t' cs') (hne : t ≠ t') : g ≠ g' := by
  rintro rfl
  unfold IsRow at h h'
  rw [h] at h'
  injection h' with h'
  injection h' with _ ht
  exact hne ht
theorem own_ne {w : World} {base n : Nat} {v : Value} {L : List B} {g : Nat} {t : TypeId} {cs : Array Value} (h : Own w base v n L) (hg : IsRow w g t cs) (hne : 9 ≠ t) : ∀ k, v.ownBlock = some k → k ≠ g := by
  intro k hk
  obtain ⟨_, _, ⟨rfl, _⟩ | ⟨g', cap, cur, rfl, _, hh, _⟩⟩ := h
  · simp [Value.ownBlock] at hk
  · have : g' = k := by simpa [Value.ownBlock] using hk
    subst this
    exact row_ne (cs := cur) hh hg hne
theorem begun_of {w W0 w2 : World} {sec : B} {h i bt : Nat} {p : Option Addr} {cp : Nat} {a b c : Value}
    (rs : IsRow w2 w.heap.size 9 #[.string ⟨sec.toArray⟩]) (ri : IsRow w2 (w.heap.size + 1) 3 #[.int .i64 i]) (rr : IsRow w2 (w.heap.size + 1 + 1) 29 #[.int .i64 0, .slice none 0 0, .slice none 0 0])
    (rt : IsRow w2 bt 29 #[a, b, c]) (lt : w.heap.size + 3 ≤ bt) (op : Own w2 w.heap.size (.slice p h cp) h (pathOf sec h i)) (bb : Below w.heap.size w w2) (_ : W0 = w2) :
    Begun w (((w2.setCell ⟨bt, 0, none⟩ (.int .i64 i)).setCell ⟨bt, 1, none⟩ (.slice none 0 0)).setCell ⟨bt, 2, none⟩ (.slice p h cp)) sec h i bt p cp := by
  have ne := own_ne op rt (by decide)
  have g3 : w2.grownBy (((w2.setCell ⟨bt, 0, none⟩ (.int .i64 i)).setCell ⟨bt, 1, none⟩ (.slice none 0 0)).setCell ⟨bt, 2, none⟩ (.slice p h cp)) (some bt) :=
    ⟨rfl, rfl, rfl, by simp [World.setCell], fun k hk hne => by
      have e : k ≠ bt := fun e => hne (by rw [e])
      rw [Below.heap_setCell _ ⟨bt, 2, none⟩ _ k e, Below.heap_setCell _ ⟨bt, 1, none⟩ _ k e, Below.heap_setCell _ ⟨bt, 0, none⟩ _ k e]⟩
  refine ⟨((rs.putOther (by simp; omega) _).putOther (by simp; omega) _).putOther (by simp; omega) _, ((ri.putOther (by simp; omega) _).putOther (by simp; omega) _).putOther (by simp; omega) _,
    ((rr.putOther (by simp; omega) _).putOther (by simp; omega) _).putOther (by simp; omega) _, set_three rt, lt, op.kept g3 ?_, bb.grown g3 bb.size (fun k e => by injection e; omega)⟩
  cases hv : (Value.slice p h cp).ownBlock with
  | none => exact .inl rfl
  | some k => exact .inr (fun e => ne k hv (by injection e))
/-- what holds between two rounds. -/
structure Kept (w W : World) (base : Nat) (sec m : B) (h i bt : Nat) (p : Option Addr) (cp : Nat) (pre : List (Fin 18)) : Prop where
  rs : IsRow W w.heap.size 9 #[.string ⟨sec.toArray⟩]
  ri : IsRow W (w.heap.size + 1) 3 #[.int .i64 i]
  rr : IsRow W (w.heap.size + 1 + 1) 29 #[.int .i64 0, .slice none 0 0, .slice none 0 0]
  rt : ∃ v, IsRow W bt 29 #[.int .i64 i, v, .slice p h cp] ∧ Own W base v pre.length (sigTo sec i m pre)
  op : Own W w.heap.size (.slice p h cp) h (pathOf sec h i)
  bb : Below w.heap.size w W
  sz : base ≤ W.heap.size
theorem kept_own {w : World} {base : Nat} {sec m : B} {h i bt : Nat} {p : Option Addr} {cp : Nat} (hb : w.heap.size ≤ base) : OwnFrom base (fun pre W => Kept w W base sec m h i bt p cp pre) := fun s X Y row hs hg hr => by
  have hr' : ∀ r, row = some r → ∃ o : Obj, X.heap[r]? = some o ∧ o.isCells = false := fun r e => (hr r e).2
  obtain ⟨rs, ri, rr, ⟨v, rt, ov⟩, op, bb, sz⟩ := hs
  exact ⟨row_own _ _ (fun _ : Unit => _) () X Y row rs hg hr', row_own _ _ (fun _ : Unit => _) () X Y row ri hg hr', row_own _ _ (fun _ : Unit => _) () X Y row rr hg hr',
    ⟨v, row_own _ _ (fun _ : Unit => _) () X Y row rt hg hr', own_own base (fun _ : Unit => v) (fun _ => _) (fun _ => _) () X Y row ov hg hr'⟩,
    own_own w.heap.size (fun _ : Unit => _) (fun _ => _) (fun _ => _) () X Y row op hg hr', ownFrom_below (Nat.le_refl _) hb s X Y row bb hg hr, Nat.le_trans sz hg.size⟩
theorem Own.row {w : World} {base n : Nat} {v : Value} {L : List B} (h : Own w base v n L) : ∀ k, v.ownBlock = some k → ∃ cs, IsRow w k 9 cs := by
  intro k hk
  obtain ⟨_, _, ⟨rfl, _⟩ | ⟨g', cap, cur, rfl, _, hh, _⟩⟩ := h
  · simp [Value.ownBlock] at hk
  · have : g' = k := by simpa [Value.ownBlock] using hk
    subst this
    exact ⟨cur, hh⟩
theorem kf_grown {W W' : World} {N : Nat} {row : Option Nat} (hg : W.grownBy W' row) (hr : ∀ k, row = some k → ∃ t cs, IsRow W k t cs) : KeepsFrom N W W' :=
  ⟨hg.size, fun j o _ hj ho => by
    rw [hg.block j (Array.getElem?_eq_some_iff.1 hj).1 (fun e => by
      obtain ⟨t, cs, hc⟩ := hr j e.symm
      rw [show W.heap[j]? = _ from hc] at hj
      injection hj with hj
      subst hj
      cases ho)]
    exact hj⟩
theorem set_grown (w : World) (g k : Nat) (u : Value) : w.grownBy (w.setCell ⟨g, k, none⟩ u) (some g) :=
  ⟨rfl, rfl, rfl, by simp [World.setCell], fun j _ hne => Below.heap_setCell w ⟨g, k, none⟩ u j (fun e => hne (by rw [e]))⟩
theorem none_or {v : Value} {g : Nat} (h : ∀ k, v.ownBlock = some k → k ≠ g) : v.ownBlock = none ∨ v.ownBlock ≠ some g := by
  cases hv : v.ownBlock with
  | none => exact .inl rfl
  | some k => exact .inr (fun e => h k hv (by injection e))
theorem round_end {w W Wb Wc : World} {base : Nat} {sec m y : B} {h i bt : Nat} {p : Option Addr} {cp : Nat} {pre : List (Fin 18)} {x : Fin 18} {v v' : Value}
    (rs : IsRow W w.heap.size 9 #[.string ⟨sec.toArray⟩]) (ri : IsRow W (w.heap.size + 1) 3 #[.int .i64 i]) (rr : IsRow W (w.heap.size + 1 + 1) 29 #[.int .i64 0, .slice none 0 0, .slice none 0 0])
    (rt : IsRow W bt 29 #[.int .i64 i, v, .slice p h cp]) (ov : Own W base v pre.length (sigTo sec i m pre)) (op : Own W w.heap.size (.slice p h cp) h (pathOf sec h i)) (bb : Below w.heap.size w W) (hsz' : base ≤ W.heap.size)
    (hbt : w.heap.size + 3 ≤ bt) (hbase : bt < base) (hopl : ∀ k, (Value.slice p h cp).ownBlock = some k → k < base)
    (hbl : Below W.heap.size W Wb) (o : Obj) (hg : (Wb.alloc o).grownBy Wc v.ownBlock) (ho : Own Wc base v' (pre.length + 1) (sigTo sec i m pre ++ [y])) (hy : y = sigAt sec i m x.val) :
    KeepsFrom base W (Wc.setCell ⟨bt, 1, none⟩ v') ∧ Below w.heap.size W (Wc.setCell ⟨bt, 1, none⟩ v') ∧ Kept w (Wc.setCell ⟨bt, 1, none⟩ v') base sec m h i bt p cp (pre ++ [x]) := by
  have b1 : Below W.heap.size W (Wb.alloc o) := hbl.trans ((below_new Wb o).mono hbl.size)
  have hsz := bb.size
  have vne : ∀ g t cs, IsRow W g t cs → 9 ≠ t ∨ g < base → some g ≠ v.ownBlock := by
    intro g t cs hrow hd e
    rcases hd with hd | hd
    · exact own_ne ov hrow hd g e.symm rfl
    · have := (ov.lt g e.symm).1; omega
  have keep : ∀ g t cs, IsRow W g t cs → g ≠ bt → some g ≠ v.ownBlock → IsRow (Wc.setCell ⟨bt, 1, none⟩ v') g t cs := fun g t cs hrow hne hv => by
    have r1 := hrow.below b1 hrow.inside
    have r2 : IsRow Wc g t cs := (hg.block g r1.inside hv).trans r1
    exact r2.putOther hne _
  have rtc : IsRow Wc bt 29 #[.int .i64 i, v, .slice p h cp] := by
    have r1 := rt.below b1 rt.inside
    exact (hg.block bt r1.inside (vne bt _ _ rt (.inr hbase))).trans r1
  have opc : Own Wc w.heap.size (.slice p h cp) h (pathOf sec h i) := by
    refine (op.later b1).kept hg ?_
    cases hv : v.ownBlock with
    | none => cases hq : (Value.slice p h cp).ownBlock <;> simp
    | some k => exact none_or fun q hq => by have := hopl q hq; have := (ov.lt k hv).1; omega
  refine ⟨?_, ?_, ⟨keep _ _ _ rs (by omega) (vne _ _ _ rs (.inr (by omega))), keep _ _ _ ri (by omega) (vne _ _ _ ri (.inr (by omega))), keep _ _ _ rr (by omega) (vne _ _ _ rr (.inr (by omega))),
    ⟨v', rtc.put 1 v', ?_⟩, opc.kept (set_grown Wc bt 1 v') (none_or (own_ne opc rtc (by decide))), ?_, Nat.le_trans hsz' (Nat.le_trans b1.size (Nat.le_trans hg.size (set_grown Wc bt 1 v').size))⟩⟩
  · have k1 : KeepsFrom base W (Wb.alloc o) := kf_grown (grown_of_below b1 none) (fun k e => by cases e)
    have k2 : KeepsFrom base (Wb.alloc o) Wc := kf_grown hg (fun k e => by
      obtain ⟨cs, hc⟩ := (ov.later b1).row k e
      exact ⟨_, cs, hc⟩)
    exact (k1.trans k2).trans (kf_grown (set_grown Wc bt 1 v') (fun k e => by injection e with e; subst e; exact ⟨_, _, rtc⟩))
  · exact ((b1.mono hsz).grown hg (Nat.le_trans hsz b1.size) (fun k hk => by have := (ov.lt k hk).1; omega)).setCell (p := ⟨bt, 1, none⟩) (by simp; omega) _
  · rw [sigTo_snoc, ← hy, List.length_append, List.length_singleton]
    exact ho.kept (set_grown Wc bt 1 v') (none_or fun k hk => by have := (ho.lt k hk).1; omega)
  · exact bb.trans (((b1.mono hsz).grown hg (Nat.le_trans hsz b1.size) (fun k hk => by have := (ov.lt k hk).1; omega)).setCell (p := ⟨bt, 1, none⟩) (by simp; omega) _)
set_option maxRecDepth 100000 in
set_option maxHeartbeats 8000000 in
theorem sign_any (sec m : B) (h i : Nat) (w : World) (ht : Tab w) (hs : sec.length ≤ 1000) (hm : m.length ≤ 1000) (hh : h ≤ 8) (hi : i < 2 ^ h) :
    Calls Tryd.prog 7 #[.string ⟨sec.toArray⟩, .int .i64 h, .int .i64 i, .string ⟨m.toArray⟩] w fun e w' => ∃ a c p cp, e = .returned (.tuple #[.agg #[.int .i64 i, .slice a 18 c, .slice p h cp], .int .i64 0]) ∧
      Txt w' w'.heap.size a (sigOf sec i m) ∧ Txt w' w'.heap.size p (pathOf sec h i) ∧ (18 ≤ c ∧ c ≤ maxLen) ∧ (h ≤ cp ∧ cp ≤ maxLen) ∧ Below w.heap.size w w' := by
  have HB8 : Hid ((decide (0 ≤ (h : Int)) && decide ((h : Int) ≤ 8)) = true) := by show _ = _; simp; omega
  have HI : Hid (inB (i : Int) h = true) := by
    show _ = _
    unfold inB
    have e : ((2 ^ h : Nat) : Int) = 2 ^ h := by simp
    simp; omega
  have hi256 : i < 256 := by have := pow_le h 0 hh; simp only [Nat.sub_zero] at this; omega
  have HIL := Lib.hid hi
  have HT := Lib.hid ht
  clear hi ht
  refine (callsIn_wide (n := 6)).1 ?_
  refine callsIn_of_wp_marks Tryd.func7 rfl trivial ?_ rfl
  simp only [Tryd.ntmps7, List.size_toArray, List.length_cons, List.length_nil, Nat.reduceAdd, Nat.reduceSub, Array.replicate_succ, Array.replicate_zero, List.push_toArray, List.append_toArray, List.nil_append, List.cons_append]
  gi_wp2_with fail
  refine ⟨trivial, ?_⟩
  refine (callsIn_wide.2 (isHeight_of (h : Int) true _ HB8.out)).mono ?_
  rintro e w' ⟨rfl, rfl⟩
  gi_wp2_with fail
  refine ⟨trivial, ?_⟩
  refine (callsIn_wide.2 (isIndex_of (i : Int) h true _ hh HI.out)).mono ?_
  rintro e w' ⟨rfl, rfl⟩
  gi_wp2_with fail
  obtain ⟨W0, hW0⟩ : ∃ W0, ((w.alloc (.cells #[.string ⟨sec.toArray⟩] 9)).alloc (.cells #[.int .i64 i] 3)).alloc (.cells #[.int .i64 0, .slice none 0 0, .slice none 0 0] 29) = W0 := ⟨_, rfl⟩
  have rs : IsRow W0 w.heap.size 9 #[.string ⟨sec.toArray⟩] := hW0 ▸ ((IsRow.made w _ _).later _).later _
  have ri : IsRow W0 (w.heap.size + 1) 3 #[.int .i64 i] := by
    have := (IsRow.made (w.alloc (.cells #[.string ⟨sec.toArray⟩] 9)) 3 #[.int .i64 i]).later (.cells #[.int .i64 0, .slice none 0 0, .slice none 0 0] 29)
    rw [World.size_alloc] at this
    exact hW0 ▸ this
  have rr : IsRow W0 (w.heap.size + 1 + 1) 29 #[.int .i64 0, .slice none 0 0, .slice none 0 0] := by
    have := IsRow.made ((w.alloc (.cells #[.string ⟨sec.toArray⟩] 9)).alloc (.cells #[.int .i64 i] 3)) 29 #[.int .i64 0, .slice none 0 0, .slice none 0 0]
    rw [World.size_alloc, World.size_alloc] at this
    exact hW0 ▸ this
  have B0 : Below w.heap.size w W0 := hW0 ▸ (((Below.refl _ w).alloc (Nat.le_refl _) _).alloc (by simp) _).alloc (by simp; omega) _
  have hs0 : w.heap.size + 3 ≤ W0.heap.size := by rw [← hW0]; simp
  rw [hW0]
  clear hW0
  refine wpIn_wide.2 ?_
  refine Code.wp_mono (Q := fun e a' w' => e = .normal ∧ ∃ (bt : Nat) (p : Option Addr) (cp : Nat) (kv : Value), Begun w w' sec h i bt p cp ∧ a' = { tmps := #[.string ⟨sec.toArray⟩, .int .i64 h, .int .i64 i, .string ⟨m.toArray⟩, .pointer (some ⟨w.heap.size, 0, none⟩), undef, .pointer (some ⟨w.heap.size + 1, 0, none⟩), undef, .pointer (some ⟨w.heap.size + 1 + 1, 0, none⟩), .int .i64 0, .pointer (some ⟨bt, 0, none⟩), undef, undef,
    .int .i64 h, .bool true, .bool false, .bool false, .int .i64 i, .int .i64 h, .bool true, .bool false, .bool false, undef, .int .i64 i, .string ⟨sec.toArray⟩, .int .i64 h, kv, .int .i64 i, .slice p h cp, .agg #[.int .i64 i, .slice none 0 0, .slice p h cp], undef, undef, undef, undef, undef, undef, undef, undef, undef, undef, undef, undef, undef, undef, undef, undef], defers := [] }) ?imp ?main
  case main =>
    have HTR1 : Tab W0.drew := Tab.at_ (Tab.at_ HT.out B0) (below_drew' W0)
    have HTR2 : ∀ o, Tab (W0.alloc o).drew := fun o => Tab.at_ (Tab.at_ (Tab.at_ HT.out B0) (below_new W0 o)) (below_drew' _)
    have c0 : W0.cell? ⟨w.heap.size, 0, none⟩ = some (.string ⟨sec.toArray⟩) := rs.get 0
    have c1 : W0.cell? ⟨w.heap.size + 1, 0, none⟩ = some (.int .i64 i) := ri.get 0
    have KB1 : W0.drew.cell? ⟨w.heap.size, 0, none⟩ = some (.string ⟨sec.toArray⟩) ∧ W0.drew.cell? ⟨w.heap.size + 1, 0, none⟩ = some (.int .i64 i) := ⟨c0, c1⟩
    have KB2 : ∀ o, (W0.alloc o).drew.cell? ⟨w.heap.size, 0, none⟩ = some (.string ⟨sec.toArray⟩) ∧ (W0.alloc o).drew.cell? ⟨w.heap.size + 1, 0, none⟩ = some (.int .i64 i) := fun o => two_alloc ⟨c0, c1⟩ o
    have HKB1 := Lib.hid KB1
    have HKB2 := Lib.hid KB2
    clear KB1 KB2
    go_region_held3 (fun w' => w'.cell? ⟨w.heap.size, 0, none⟩ = some (.string ⟨sec.toArray⟩) ∧ w'.cell? ⟨w.heap.size + 1, 0, none⟩ = some (.int .i64 i)) (first | exact KS.out | exact two_alloc KS.out _ | exact two_set KS.out (by omega) (by omega) | go_keep)
      (first
        | (go_at_call 15; refine (keys_any sec h _ ?_ hs hh).mono ?_; (first | exact HTR1 | exact HTR2 _); rintro e w1 ⟨ka, kn, kc, rfl, hkn, hko, hkb⟩; have HKN := Lib.hid hkn; clear hkn;
           (have KS : Hid (w1.cell? ⟨w.heap.size, 0, none⟩ = some (.string ⟨sec.toArray⟩) ∧ w1.cell? ⟨w.heap.size + 1, 0, none⟩ = some (.int .i64 i)) := by first | exact two_of hkb HKB1.out | exact two_of hkb (HKB2.out _));
           (have HT1 : Tab w1 := by first | exact Tab.at_ HTR1 hkb | exact Tab.at_ (HTR2 _) hkb); have HT1a := fun o => Tab.at_ HT1 (below_new w1 o);
           (have X1 : Txt w1 w1.heap.size ka (keysOf sec (2 ^ h)) := hko.txt.2); have X1a := fun o => X1.later (below_new w1 o); (have LT1 : w.heap.size + 3 ≤ w1.heap.size := by have := hkb.size; simp at this; omega);
           (first | have RK := Lib.hid (row_kept (IsRow.made W0 29 #[.int .i64 0, .slice none 0 0, .slice none 0 0]) hkb) | have RK := Lib.hid trivial))
        | (go_at_call 17; refine (path_any ka kn kc h i (keysOf sec (2 ^ h)) _ ?_ ?_ HKN.out (keysOf_len _ _) hh HIL.out (keysOf_small _ _)).mono ?_; (first | exact HT1 | exact HT1a _); (first | exact X1 | exact X1a _); rintro e w2 ⟨pa, pc, rfl, hpo, hpb⟩;
           (have KS2 : Hid (w2.cell? ⟨w.heap.size, 0, none⟩ = some (.string ⟨sec.toArray⟩) ∧ w2.cell? ⟨w.heap.size + 1, 0, none⟩ = some (.int .i64 i)) := by first | exact two_of hpb KS.out | exact two_of hpb (two_alloc KS.out _)); clear KS; have KS := KS2;
           (first | (have SF := Lib.hid (row_held (IsRow.made w1 29 #[.int .i64 0, .slice none 0 0, .slice none 0 0]) hpb); obtain ⟨s0, s1, s2, t0, t1, t2⟩ := store_facts SF.out) | (have SF := Lib.hid (row_held RK.out hpb); obtain ⟨s0, s1, s2, t0, t1, t2⟩ := store_facts SF.out) | skip)))
    · have b1 : Below W0.heap.size W0 w1 := Below.trans (below_drew' W0) hkb
      have b2 : Below W0.heap.size W0 w2 := b1.trans (hpb.mono b1.size)
      have b3 := b2.trans ((below_new w2 (.cells #[.int .i64 i, .slice none 0 0, .slice pa h pc] 29)).mono b2.size)
      exact ⟨rfl, w2.heap.size, pa, pc, _, ⟨rs.below b3 rs.inside, ri.below b3 ri.inside, rr.below b3 rr.inside, IsRow.made _ _ _, by have := b2.size; omega, (hpo.down (by omega)).later (below_new _ _), B0.trans (b3.mono B0.size)⟩, rfl⟩
    · have b1 : Below W0.heap.size W0 w1 := Below.trans (below_drew' W0) hkb
      have b1a := b1.trans ((below_new w1 (.cells #[.int .i64 0, .slice none 0 0, .slice none 0 0] 29)).mono b1.size)
      have b2 : Below W0.heap.size W0 w2 := b1a.trans (hpb.mono b1a.size)
      exact ⟨rfl, w1.heap.size, pa, pc, _, begun_of (rs.below b2 rs.inside) (ri.below b2 ri.inside) (rr.below b2 rr.inside) SF.out (by omega) (hpo.down (by simp; omega)) (B0.trans (b2.mono B0.size)) rfl, rfl⟩
    · have b0 := below_new W0 (.cells #[.int .i64 0, .slice none 0 0, .slice none 0 0] 29)
      have b1 : Below W0.heap.size W0 w1 := (b0.trans ((below_drew' _).mono b0.size)).trans (hkb.mono b0.size)
      have b2 : Below W0.heap.size W0 w2 := b1.trans (hpb.mono b1.size)
      exact ⟨rfl, W0.heap.size, pa, pc, _, begun_of (rs.below b2 rs.inside) (ri.below b2 ri.inside) (rr.below b2 rr.inside) SF.out (by omega) (hpo.down (by omega)) (B0.trans (b2.mono B0.size)) rfl, rfl⟩
  case imp =>
    rintro e a' w' ⟨rfl, bt, p, cp, kv, hB, rfl⟩
    gi_wp2_with (refine ⟨trivial, ?_⟩; gi_at_call 18; refine (callsIn_wide.2 (digits_any m _)).mono ?_; rintro e W1 ⟨rfl, rfl⟩)
    obtain ⟨rs, ri, rr, rt, hlt, hop, hbb⟩ := hB
    obtain ⟨W1, hW1⟩ : ∃ W1, w'.alloc (.cells #[.string ⟨m.toArray⟩] 9) = W1 := ⟨_, rfl⟩
    have bn : Below w'.heap.size w' W1 := hW1 ▸ below_new _ _
    have rm : IsRow W1 w'.heap.size 9 #[.string ⟨m.toArray⟩] := hW1 ▸ IsRow.made _ _ _
    have hs1 : W1.heap.size = w'.heap.size + 1 := by rw [← hW1]; simp
    have rs1 := rs.below bn rs.inside
    have ri1 := ri.below bn ri.inside
    have rr1 := rr.below bn rr.inside
    have rt1 := rt.below bn rt.inside
    have op1 := hop.later bn
    have bb1 := hbb.trans (bn.mono hbb.size)
    have btl := rt.inside
    have rm0 := rm.get 0
    have opl : ∀ k, (Value.slice p h cp).ownBlock = some k → k < W1.heap.size := fun k hk => (op1.lt k hk).2
    rw [hW1]
    clear hW1 rs ri rr rt hop hbb bn rm
    refine wpIn_rangeFunc_ownG rfl (by omega) (gf := 34) (lb := #[.pointer (some ⟨w'.heap.size, 0, none⟩)]) rfl trivial (enters_of Tryd.func34 (by kernel_rfl) rfl)
      (digits_stops 5 (by omega) m hm w.heap.size w'.heap.size W1 (by omega) rm0) belowK_t (belowK_b (by have := bb1.size; omega)) (Below.refl _ _) (fun _ => rfl)
      (fun pre W => Kept w W W1.heap.size sec m h i bt p cp pre)
      (fun _ _ _ => False)
      (kept_own (Nat.le_trans bb1.size (Nat.le_refl _)))
      (fun _ _ _ _ _ hs _ _ => hs)
      ⟨rs1, ri1, rr1, ⟨_, rt1, Own.nil _ _⟩, op1, bb1, Nat.le_refl _⟩
      (fun x => { tmps := #[.string ⟨sec.toArray⟩, .int .i64 h, .int .i64 i, .string ⟨m.toArray⟩, .pointer (some ⟨w.heap.size, 0, none⟩), undef, .pointer (some ⟨w.heap.size + 1, 0, none⟩), undef, .pointer (some ⟨w.heap.size + 1 + 1, 0, none⟩), .int .i64 0, .pointer (some ⟨bt, 0, none⟩), .int .i64 (x.val : Int), .int .i64 (dig m x.val : Int),
        .int .i64 h, .bool true, .bool false, .bool false, .int .i64 i, .int .i64 h, .bool true, .bool false, .bool false, undef, .int .i64 i, .string ⟨sec.toArray⟩, .int .i64 h, kv, .int .i64 i, .slice p h cp, .agg #[.int .i64 i, .slice none 0 0, .slice p h cp], .string ⟨m.toArray⟩, .func (.func 34) #[] #[.pointer (some ⟨w'.heap.size, 0, none⟩)], .int .i64 (x.val : Int), .int .i64 (dig m x.val : Int), undef, undef, undef, undef, undef, undef, undef, undef, undef, undef, undef, undef], defers := [] }) ?assign ?body ?done ?stop
    case assign =>
      intro l x W K hK
      gi_wp2
      exact hK
    case body =>
      rintro l pre x W hk hpre
      obtain ⟨k, hk18⟩ := x
      obtain ⟨rs, ri, rr, ⟨v, rt, ov⟩, op, bb, hbase⟩ := hk
      have hd := dig_lt m k hk18
      have hsz := bb.size
      have HTR : Tab W.drew := Tab.at_ (Tab.at_ HT.out bb) (below_drew' W)
      have s1 : W.drew.cell? ⟨bt, 1, none⟩ = some v ∧ W.drew.cell? ⟨w.heap.size, 0, none⟩ = some (.string ⟨sec.toArray⟩) ∧ W.drew.cell? ⟨w.heap.size + 1, 0, none⟩ = some (.int .i64 i) := ⟨rt.get 1, rs.get 0, ri.get 0⟩
      gi_wp2
      refine Round.wpIn_region_round (fun w' => w'.cell? ⟨bt, 1, none⟩ = some v ∧ w'.cell? ⟨w.heap.size, 0, none⟩ = some (.string ⟨sec.toArray⟩) ∧ w'.cell? ⟨w.heap.size + 1, 0, none⟩ = some (.int .i64 i)) 11 (by kernel_rfl) (by kernel_rfl) (fun ⟨_, _, h⟩ => h) ?_
      have SS := s1
      refine Round.E_take 0 (.pointer (some ⟨bt, 1, none⟩)) rfl (by kernel_rfl) (by kernel_rfl) (by kernel_rfl) (by kernel_rfl) (fun _ _ _ h => h) (Or.inl ⟨by rfl, fun w hSw => by (try dsimp only at hSw); go_simp⟩) SS ?_
      try simp only [Act.put, List.setIfInBounds_toArray]
      refine Round.E_take 1 (v) rfl (by kernel_rfl) (by kernel_rfl) (by kernel_rfl) (by kernel_rfl) (fun _ _ _ h => h) (Or.inl ⟨by rfl, fun w hSw => by (try dsimp only at hSw); go_simp⟩) SS ?_
      try simp only [Act.put]
      refine Round.E_take 2 (.string ⟨sec.toArray⟩) rfl (by kernel_rfl) (by kernel_rfl) (by kernel_rfl) (by kernel_rfl) (fun _ _ _ h => h) (Or.inl ⟨by rfl, fun w hSw => by (try dsimp only at hSw); go_simp⟩) SS ?_
      try simp only [Act.put]
      refine Round.E_take 3 (.int .i64 i) rfl (by kernel_rfl) (by kernel_rfl) (by kernel_rfl) (by kernel_rfl) (fun _ _ _ h => h) (Or.inl ⟨by rfl, fun w hSw => by (try dsimp only at hSw); go_simp⟩) SS ?_
      try simp only [Act.put]
      refine Round.E_take 4 (.int .i64 k) rfl (by kernel_rfl) (by kernel_rfl) (by kernel_rfl) (by kernel_rfl) (fun _ _ _ h => h) (Or.inl ⟨by rfl, fun w hSw => by (try dsimp only at hSw); go_simp⟩) SS ?_
      try simp only [Act.put]
      refine Round.E_take 6 (.int .i64 (dig m k)) rfl (by kernel_rfl) (by kernel_rfl) (by kernel_rfl) (by kernel_rfl) (fun _ _ _ h => h) (Or.inl ⟨by rfl, fun w hSw => by (try dsimp only at hSw); go_simp⟩) SS ?_
      try simp only [Act.put]
      clear SS
      refine Round.E_one 5 (by kernel_rfl) rfl (fun K hK => ?_)
      go_simp
      refine (start_any sec i k _ HTR hs (by omega) (by omega)).mono ?_
      rintro e w1 ⟨rfl, hb1⟩
      have s2 := three_of hb1 s1
      have b1 : Below W.heap.size W w1 := Below.trans (below_drew' W) hb1
      clear hb1 s1 HTR
      go_wp2_with fail
      refine hK.out _ _ (fun _ => s2) ?_
      clear hK K
      try simp only [Act.put, List.setIfInBounds_toArray, List.set_cons_zero, List.set_cons_succ]
      refine Round.E_one 7 (by kernel_rfl) rfl (fun K hK => ?_)
      go_simp
      refine (chain_any (startOf sec i k) (dig m k) _ (Nat.le_trans (dsum_small _) (by decide)) (by omega)).mono ?_
      rintro e w2 ⟨rfl, hb2⟩
      have s3 := three_of hb2 s2
      have b2 : Below W.heap.size W w2 := b1.trans (hb2.mono b1.size)
      clear hb2 s2 b1
      go_wp2_with fail
      refine hK.out _ _ (fun _ => s3) ?_
      clear hK K
      try simp only [Act.put, List.setIfInBounds_toArray, List.set_cons_zero, List.set_cons_succ]
      refine Round.E_one 8 (by kernel_rfl) rfl (fun K hK => ?_)
      go_simp
      have s4 := three_of (below_new w2 (.cells #[.string ⟨(chainN (startOf sec i k) (dig m k)).toArray⟩] 9)) s3
      have b3 := b2.trans ((below_new w2 (.cells #[.string ⟨(chainN (startOf sec i k) (dig m k)).toArray⟩] 9)).mono b2.size)
      refine hK.out _ _ (fun _ => s4) ?_
      clear hK K
      try simp only [Act.put, List.setIfInBounds_toArray, List.set_cons_zero, List.set_cons_succ]
      refine Round.E_one 9 (by kernel_rfl) rfl (fun K hK => ?_)
      refine step_app1 (by rfl) _ _ (by rfl) W1.heap.size v pre.length (sigTo sec i m pre) (chainN (startOf sec i k) (dig m k)) w2.heap.size (by rfl) (Own.later (ov.later b2) (below_new w2 _)) (by rfl) (heap_alloc_new w2 _) (by omega) (Nat.le_trans hbase (Nat.le_trans b2.size (below_new w2 _).size)) ?_
      intro g cap w3 ho3 hg3 hlt3 hsz3
      have s5 := three_grown (N := W1.heap.size) hg3 (fun k hk => (hlt3 k hk).1) (by show bt < _; omega) (by show w.heap.size < _; omega) (by show w.heap.size + 1 < _; omega) s4
      refine hK.out _ _ (fun _ => s5) ?_
      clear hK K
      try simp only [Act.put, List.setIfInBounds_toArray]
      have SS := s5
      refine Round.E_take 10 (.pointer (some ⟨bt, 1, none⟩)) rfl (by kernel_rfl) (by kernel_rfl) (by kernel_rfl) (by kernel_rfl) (fun _ _ _ h => h) (Or.inl ⟨by rfl, fun w hSw => by (try dsimp only at hSw); go_simp⟩) SS ?_
      try simp only [Act.put]
      clear SS
      have r3 := rt.below b3 rt.inside
      have rt3 : IsRow w3 bt 29 #[.int .i64 i, v, .slice p h cp] := (hg3.block bt r3.inside (fun e => by have := (hlt3 _ e.symm).1; omega)).trans r3
      have f3 := rt3.open_ 1
      have c3 : w3.cell? ⟨bt, 1, none⟩ = some v := rt3.get 1
      have fin := round_end (x := ⟨k, hk18⟩) rs ri rr rt ov op bb hbase hlt (by omega) opl b2 _ hg3 ho3 rfl
      have FIN := Lib.hid fin
      clear s5 s3 s4 fin rt3 r3 rs ri rr rt ov op
      refine Round.E_one 11 (by kernel_rfl) rfl (fun K hK => ?_)
      go_simp
      refine hK.out _ _ (fun h => absurd rfl h) ?_
      clear hK K
      refine Round.E_done (by kernel_rfl) ?_ _
      exact FIN.out
    case done =>
      rintro D ys W hD rfl hk hK
      obtain ⟨rs, ri, rr, ⟨v, rt, ov⟩, op, bb, hbase⟩ := hk
      rw [sigTo_full, List.length_finRange] at ov
      obtain ⟨a2, c2, hv⟩ := ov.form
      subst hv
      have hDl : D < W.heap.size := (Array.getElem?_eq_some_iff.1 hK).1
      obtain ⟨q0, q1, q2, g0, g1, g2⟩ := store_facts rr
      obtain ⟨r0, r1, r2, _, _, _⟩ := store_facts rt
      have bsz := bb1.size
      have KD : Hid ((((W.setCell ⟨w.heap.size + 1 + 1, 0, none⟩ (.int .i64 i)).setCell ⟨w.heap.size + 1 + 1, 1, none⟩ (.slice a2 18 c2)).setCell ⟨w.heap.size + 1 + 1, 2, none⟩ (.slice p h cp)).heap[D]? = some (.deferred (some []))) := by
        show _ = _
        have e : ∀ (X : World) (k : Nat) (u : Value), (X.setCell ⟨w.heap.size + 1 + 1, k, none⟩ u).heap[D]? = X.heap[D]? := fun X k u => Below.heap_setCell X ⟨w.heap.size + 1 + 1, k, none⟩ u D (by simp only; omega)
        rw [e, e, e]
        exact hK
      have RR : Hid (IsRow (((W.setCell ⟨w.heap.size + 1 + 1, 0, none⟩ (.int .i64 i)).setCell ⟨w.heap.size + 1 + 1, 1, none⟩ (.slice a2 18 c2)).setCell ⟨w.heap.size + 1 + 1, 2, none⟩ (.slice p h cp)) (w.heap.size + 1 + 1) 29 #[.int .i64 i, .slice a2 18 c2, .slice p h cp]) := set_three rr
      have ne1 := own_ne ov rr (by decide)
      have ne2 := own_ne op rr (by decide)
      have g3 : W.grownBy (((W.setCell ⟨w.heap.size + 1 + 1, 0, none⟩ (.int .i64 i)).setCell ⟨w.heap.size + 1 + 1, 1, none⟩ (.slice a2 18 c2)).setCell ⟨w.heap.size + 1 + 1, 2, none⟩ (.slice p h cp)) (some (w.heap.size + 1 + 1)) :=
        ⟨rfl, rfl, rfl, by simp [World.setCell], fun k hk hne => by
          have e : k ≠ w.heap.size + 1 + 1 := fun e => hne (by rw [e])
          rw [Below.heap_setCell _ ⟨w.heap.size + 1 + 1, 2, none⟩ _ k e, Below.heap_setCell _ ⟨w.heap.size + 1 + 1, 1, none⟩ _ k e, Below.heap_setCell _ ⟨w.heap.size + 1 + 1, 0, none⟩ _ k e]⟩
      have OV := Lib.hid (ov.kept g3 (none_or ne1))
      have OP := Lib.hid (op.kept g3 (none_or ne2))
      have BB := Lib.hid (bb.grown g3 bb.size (fun k e => by injection e; omega))
      clear rs ri rr rt ov op bb ne1 ne2 g3 rs1 ri1 rr1 rt1 op1
      gi_wp2
      generalize (((W.setCell ⟨w.heap.size + 1 + 1, 0, none⟩ (.int .i64 i)).setCell ⟨w.heap.size + 1 + 1, 1, none⟩ (.slice a2 18 c2)).setCell ⟨w.heap.size + 1 + 1, 2, none⟩ (.slice p h cp)) = W3 at *
      refine ⟨by simp, .inl ⟨_, _, rfl, run_takeDeferred KD.out, ?_⟩⟩
      have R4 : IsRow (W3.putObj D (.deferred none)) (w.heap.size + 1 + 1) 29 #[.int .i64 i, .slice a2 18 c2, .slice p h cp] := (World.putObj_heap_other (by omega)).trans RR.out
      obtain ⟨z0, z1, z2, _, _, _⟩ := store_facts R4
      refine ⟨.tuple #[.agg #[.int .i64 i, .slice a2 18 c2, .slice p h cp], .int .i64 0], ?_, a2, c2, p, cp, rfl, ?_, ?_, OV.out.cap, OP.out.cap, ?_⟩
      · simp [results, Tryd.f7, go_sem, z0, z1, z2]
      · exact (own_own W1.heap.size (fun _ : Unit => _) (fun _ => _) (fun _ => _) () W3 _ (some D) OV.out (grownBy_putObj' W3 D _) (fun r e => by injection e with e; subst e; exact ⟨_, KD.out, rfl⟩)).txt.2
      · exact (own_own w.heap.size (fun _ : Unit => _) (fun _ => _) (fun _ => _) () W3 _ (some D) OP.out (grownBy_putObj' W3 D _) (fun r e => by injection e with e; subst e; exact ⟨_, KD.out, rfl⟩)).txt.2
      · exact BB.out.trans (belowK_b (w := w) (Nat.le_refl _) W3 D _ _ (by omega) KD.out rfl rfl)
    case stop =>
      rintro D c pre W _ _ h _
      exact h.elim
end Go.Proofs.YtanlpcdljclnmaaDoor.Sl
