/- Merged: LawFrame, IxOpen. -/
import Derived.Test.YteghhfkllclghaaChecked
import Derived.WalkKit
import Derived.ProofKit
import Derived.OpenShut
import Derived.Below
import Derived.ChangeSame
import Derived.Carry
import Derived.LaidMore
import Derived.LaidOnce
import Derived.Stop.LaidErr
import Derived.Deep.DeepHandedRow
import Derived.Lib.LaidTab
import Derived.Test.YteghhfkllclghaaIxMk
import Derived.Lib.SmallJoins
import Derived.Deep.SlicePairs
import Derived.Deep.Strs
import Derived.ChangeMaps5
/- What every law's last step shares: a law that returns true, and leaves all that there was as it was, meets its row. No law is named here. -/
namespace Go.Proofs.Yteghhfkllclghaa.Frame
open Go.ChangeShapes Go.WideShapes Go.RowKit
theorem own : ownKnob Try.prog.godebug = none := by kernel_rfl
theorem laidOut : laidOutB Try.prog = true := by kernel_rfl
section
variable {H : Type} {enc : TypeId × Value → H} {P : Program}
theorem args_later (hl : laidOutB P = true) {W W' : World} (hb : Below W.heap.size W W') : ∀ {ts : List TypeId} {vs : List Value} {ds : List (DataW H)} {ps : List MemPlace},
    (∀ t ∈ ts, P.readableRec t = true ∧ t < P.types.size) → (∀ x ∈ ps, x.block < W.heap.size) → DataW.TrodAll enc P W 0 (fun _ => true) true ts vs ds ps →
    DataW.TrodAll enc P W' 0 (fun b => decide (b < W.heap.size)) true ts vs ds ps := by
  intro ts
  induction ts with
  | nil =>
    intro vs ds ps _ _ h
    obtain ⟨rfl, rfl, rfl⟩ := trodAll_nil h
    exact trodAll_mk0
  | cons t ts ih =>
    intro vs ds ps hr hlt h
    obtain ⟨v, vs', d, ds', p, q, rfl, rfl, rfl, h0, hrest⟩ := trodAll_cons h
    have h1 := hr t (by simp)
    exact trodAll_cons_mk (Below.trod hl h1.1 h1.2 h0 hb fun x hx => hlt x (by simp [hx])) (ih (fun u hu => hr u (by simp [hu])) (fun x hx => hlt x (by simp [hx])) hrest)
/-- A law that returns true, behind which all older blocks stand as they stood. -/
theorem law_post {f : Func} {s : ChangeSpec} {tb : TypeId} {W W' : World} {args : Array Value} {ds gs : List (DataW H)} {before : List MemPlace}
    (hl : laidOutB P = true) (hr : ∀ t ∈ f.params.toList, P.readableRec t = true ∧ t < P.types.size) (hres : f.resultTypes = #[tb]) (htb : P.underlying tb = some .bool)
    (hvars : s.vars = []) (hfn : ∀ xs : List (DataW H), xs.length = f.params.toList.length → s.fn H xs = { results := [.lit (.bool true)], args := xs })
    (hW : DataW.Whole enc P f.params.toList s.vars false W args.toList ds gs before) (hb : Below W.heap.size W W') :
    s.post enc P f false true false false W args (.bool true) W' := by
  have hlt : ∀ p ∈ before, p.block < W.heap.size := fun p hp => hW.lt p hp
  have hW' := hW
  obtain ⟨p, q, hA, hV, rfl, _, _⟩ := hW
  rw [hvars] at hV
  obtain ⟨rfl, rfl⟩ := trodVars_none hV
  have hlen : ∀ {ts : List TypeId} {vs : List Value} {ds : List (DataW H)} {ps : List MemPlace}, DataW.TrodAll enc P W 0 (fun _ => true) true ts vs ds ps → ds.length = ts.length := by
    intro ts
    induction ts with
    | nil => intro vs ds ps h; obtain ⟨rfl, rfl, rfl⟩ := trodAll_nil h; rfl
    | cons t ts ih => intro vs ds ps h; obtain ⟨v, vs', d, ds', p, q, rfl, rfl, rfl, _, hrest⟩ := trodAll_cons h; simp [ih hrest]
  have e := hfn ds (hlen hA)
  refine ⟨ds, [], p ++ [], [], p, [], hW', ?_, ?_, ?_, World.keptBut_mono (fun x hx => ⟨hx, .inr (.inl (by simpa using hx))⟩) (hb.frame (· ∈ p ++ [])), fun h => by cases h⟩
  · rw [List.append_nil, e, hres]
    exact trodAll_cons_mk (shut_bool htb true) trodAll_mk0
  · rw [List.append_nil, e]
    exact args_later hl hb hr (fun x hx => hlt x (by simp [hx])) hA
  · rw [List.append_nil, e, hvars]
    rfl
end
end Go.Proofs.Yteghhfkllclghaa.Frame
/- How operations, boxes and points among a law's arguments are opened. -/
namespace Go.Proofs.Yteghhfkllclghaa.Frame
open Go.ChangeShapes Go.WideShapes Go.RowKit Go.WideMaps Go.WideElems Go.Joins Go.Deep
instance : Inhabited Ix.Opn := ⟨⟨false, [], ⟨0, 0, 0, 0⟩⟩⟩
section
variable {H : Type} {enc : TypeId × Value → H} {P : Program}
theorem two_ints {t : TypeId} {f0 f1 : Field} {W : World} {n : Nat} {c0 c1 : Value} {x : DataW H × List MemPlace} (hs : P.underlying t = some (.struct #[f0, f1])) (hone : oneCellFields P #[f0, f1] = true)
    (h0 : P.underlying f0.type = some (.int .i64)) (h1 : P.underlying f1.type = some (.int .i64)) (h : DataW.trod enc P W 0 (fun _ => true) true n t [c0, c1] = some x) : ∃ a b : Int, c0 = .int .i64 a ∧ c1 = .int .i64 b := by
  obtain ⟨y0, y1, m, _, _, g0, g1⟩ := trod_struct2 hs h
  obtain ⟨o0, k0⟩ := hone_of hone 0 f0 rfl
  obtain ⟨o1, k1⟩ := hone_of hone 1 f1 rfl
  rw [o0, k0] at g0
  rw [o1, k1] at g1
  obtain ⟨a, e0, _, _⟩ := DataW.trod_int h0 g0
  obtain ⟨b, e1, _, _⟩ := DataW.trod_int h1 g1
  simp at e0 e1
  exact ⟨a, b, e0, e1⟩
theorem ixpt_of {t : TypeId} {f0 f1 : Field} {W : World} {b0 : Nat} {v : Value} {d : DataW H} {p : List MemPlace} (hs : P.underlying t = some (.struct #[f0, f1])) (hone : oneCellFields P #[f0, f1] = true) (hC : P.cellsOf t = 2)
    (h0 : P.underlying f0.type = some (.int .i64)) (h1 : P.underlying f1.type = some (.int .i64)) (hv : Value.okWide P W .any b0 t v) (h : DataW.Trod enc P W 0 (fun _ => true) true t v d p) :
    ∃ x y : Int, v = Ix.vP x y := by
  obtain ⟨v0, v1, y0, y1, n, rfl, _, _, g0, g1⟩ := open_agg2 hs hone hC hv h
  obtain ⟨a, e0, _, _⟩ := DataW.trod_int h0 g0
  obtain ⟨b, e1, _, _⟩ := DataW.trod_int h1 g1
  simp only [List.cons.injEq, and_true] at e0 e1
  subst e0 e1
  exact ⟨a, b, rfl⟩
theorem four_ints {t : TypeId} {f0 f1 g0 g1 : Field} {W : World} {n : Nat} {c0 c1 c2 c3 : Value} {x : DataW H × List MemPlace} (hs : P.underlying t = some (.struct #[f0, f1])) (ho : f0.offset = 0) (ho1 : f1.offset = 2) (hf : f1.type = f0.type)
    (hs2 : P.underlying f0.type = some (.struct #[g0, g1])) (hone : oneCellFields P #[g0, g1] = true) (hC2 : P.cellsOf f0.type = 2)
    (h0 : P.underlying g0.type = some (.int .i64)) (h1 : P.underlying g1.type = some (.int .i64)) (h : DataW.trod enc P W 0 (fun _ => true) true n t [c0, c1, c2, c3] = some x) :
    ∃ b : Ix.Bx, c0 = .int .i64 b.a ∧ c1 = .int .i64 b.b ∧ c2 = .int .i64 b.c ∧ c3 = .int .i64 b.d := by
  obtain ⟨y0, y1, n, _, _, k0, k1⟩ := trod_struct2 hs h
  rw [ho, hC2] at k0
  rw [ho1, hf, hC2] at k1
  obtain ⟨a, b, e0, e1⟩ := two_ints hs2 hone h0 h1 k0
  obtain ⟨c, d, e2, e3⟩ := two_ints hs2 hone h0 h1 k1
  exact ⟨⟨a, b, c, d⟩, e0, e1, e2, e3⟩
theorem ixbox_of {t : TypeId} {f0 f1 g0 g1 : Field} {W : World} {b0 : Nat} {v : Value} {d : DataW H} {p : List MemPlace} (hs : P.underlying t = some (.struct #[f0, f1])) (hC : P.cellsOf t = 4) (ho : f0.offset = 0) (ho1 : f1.offset = 2) (hf : f1.type = f0.type)
    (hs2 : P.underlying f0.type = some (.struct #[g0, g1])) (hone : oneCellFields P #[g0, g1] = true) (hC2 : P.cellsOf f0.type = 2)
    (h0 : P.underlying g0.type = some (.int .i64)) (h1 : P.underlying g1.type = some (.int .i64)) (hv : Value.okWide P W .any b0 t v) (h : DataW.Trod enc P W 0 (fun _ => true) true t v d p) :
    ∃ b : Ix.Bx, v = Ix.vB b := by
  obtain ⟨cs, rfl, hsz⟩ := okWide_struct hs hv
  obtain ⟨c0, c1, c2, c3, rfl⟩ := array4 (hsz.trans hC)
  obtain ⟨fuel, hfu⟩ := h
  obtain ⟨b, e0, e1, e2, e3⟩ := four_ints hs ho ho1 hf hs2 hone hC2 h0 h1 hfu
  subst e0 e1 e2 e3
  exact ⟨b, rfl⟩
theorem six_cells {e : TypeId} {m0 m1 m2 f0 f1 g0 g1 : Field} {W : World} {n : Nat} {c0 c1 c2 c3 c4 c5 : Value} {x : DataW H × List MemPlace} (he : P.underlying e = some (.struct #[m0, m1, m2])) (o0 : m0.offset = 0) (o1 : m1.offset = 1) (o2 : m2.offset = 2)
    (k0 : P.cellsOf m0.type = 1) (k1 : P.cellsOf m1.type = 1) (k2 : P.cellsOf m2.type = 4) (b0 : P.underlying m0.type = some .bool) (b1 : P.underlying m1.type = some .string)
    (hs : P.underlying m2.type = some (.struct #[f0, f1])) (ho : f0.offset = 0) (ho1 : f1.offset = 2) (hf : f1.type = f0.type)
    (hs2 : P.underlying f0.type = some (.struct #[g0, g1])) (hone : oneCellFields P #[g0, g1] = true) (hC2 : P.cellsOf f0.type = 2)
    (h0 : P.underlying g0.type = some (.int .i64)) (h1 : P.underlying g1.type = some (.int .i64)) (h : DataW.trod enc P W 0 (fun _ => true) true n e [c0, c1, c2, c3, c4, c5] = some x) :
    ∃ o : Ix.Opn, c0 = .bool o.drop ∧ c1 = .string ⟨o.id.toArray⟩ ∧ c2 = .int .i64 o.box.a ∧ c3 = .int .i64 o.box.b ∧ c4 = .int .i64 o.box.c ∧ c5 = .int .i64 o.box.d := by
  obtain ⟨y0, y1, y2, m, _, _, q0, q1, q2⟩ := trod_struct3 he h
  rw [o0, k0] at q0
  rw [o1, k1] at q1
  rw [o2, k2] at q2
  obtain ⟨d, e0, _⟩ := DataW.trod_bool b0 q0
  obtain ⟨s, e1, _⟩ := DataW.trod_string b1 q1
  obtain ⟨b, e2, e3, e4, e5⟩ := four_ints hs ho ho1 hf hs2 hone hC2 h0 h1 q2
  simp at e0 e1
  exact ⟨⟨d, s.data.toList, b⟩, e0, by rw [e1], e2, e3, e4, e5⟩
theorem array6 {α : Type} {a : Array α} (h : a.size = 6) : ∃ c0 c1 c2 c3 c4 c5, a = #[c0, c1, c2, c3, c4, c5] := by
  obtain ⟨l⟩ := a
  match l, h with
  | [c0, c1, c2, c3, c4, c5], _ => exact ⟨c0, c1, c2, c3, c4, c5, rfl⟩
theorem ixop_of {e : TypeId} {m0 m1 m2 f0 f1 g0 g1 : Field} {W : World} {bb : Nat} {v : Value} {d : DataW H} {p : List MemPlace} (he : P.underlying e = some (.struct #[m0, m1, m2])) (hC : P.cellsOf e = 6) (o0 : m0.offset = 0) (o1 : m1.offset = 1) (o2 : m2.offset = 2)
    (k0 : P.cellsOf m0.type = 1) (k1 : P.cellsOf m1.type = 1) (k2 : P.cellsOf m2.type = 4) (b0 : P.underlying m0.type = some .bool) (b1 : P.underlying m1.type = some .string)
    (hs : P.underlying m2.type = some (.struct #[f0, f1])) (ho : f0.offset = 0) (ho1 : f1.offset = 2) (hf : f1.type = f0.type)
    (hs2 : P.underlying f0.type = some (.struct #[g0, g1])) (hone : oneCellFields P #[g0, g1] = true) (hC2 : P.cellsOf f0.type = 2)
    (h0 : P.underlying g0.type = some (.int .i64)) (h1 : P.underlying g1.type = some (.int .i64)) (hv : Value.okWide P W .any bb e v) (h : DataW.Trod enc P W 0 (fun _ => true) true e v d p) : ∃ o : Ix.Opn, v = Ix.opV o := by
  obtain ⟨cs, rfl, hsz⟩ := okWide_struct he hv
  obtain ⟨c0, c1, c2, c3, c4, c5, rfl⟩ := array6 (hsz.trans hC)
  obtain ⟨fuel, hfu⟩ := h
  obtain ⟨o, e0, e1, e2, e3, e4, e5⟩ := six_cells he o0 o1 o2 k0 k1 k2 b0 b1 hs ho ho1 hf hs2 hone hC2 h0 h1 hfu
  subst e0 e1 e2 e3 e4 e5
  exact ⟨o, rfl⟩
theorem ixops_of {t e : TypeId} {m0 m1 m2 f0 f1 g0 g1 : Field} {W : World} {bb : Nat} {v : Value} {d : DataW H} {p : List MemPlace} (ht : P.underlying t = some (.slice e)) (he : P.underlying e = some (.struct #[m0, m1, m2])) (ce : P.cellsOf e = 6) (o0 : m0.offset = 0) (o1 : m1.offset = 1) (o2 : m2.offset = 2)
    (k0 : P.cellsOf m0.type = 1) (k1 : P.cellsOf m1.type = 1) (k2 : P.cellsOf m2.type = 4) (b0 : P.underlying m0.type = some .bool) (b1 : P.underlying m1.type = some .string)
    (hs : P.underlying m2.type = some (.struct #[f0, f1])) (ho : f0.offset = 0) (ho1 : f1.offset = 2) (hf : f1.type = f0.type)
    (hs2 : P.underlying f0.type = some (.struct #[g0, g1])) (hone : oneCellFields P #[g0, g1] = true) (hC2 : P.cellsOf f0.type = 2)
    (h0 : P.underlying g0.type = some (.int .i64)) (h1 : P.underlying g1.type = some (.int .i64)) (hok : Value.okWide P W .any bb t v) (h : DataW.Trod enc P W 0 (fun _ => true) true t v d p) :
    ∃ a n cap l, v = .slice a n cap ∧ List.length l = n ∧ n ≤ cap ∧ cap ≤ maxLen ∧ Ix.OpsT W W.heap.size a l := by
  obtain ⟨a0, len, cap, rfl⟩ := okWide_slice ht hok
  obtain ⟨fuel, hfu⟩ := h
  rcases open_slice ht hfu with ⟨hcs, _⟩ | ⟨a, len', cap', m, n, D, Pl, hcs, _, hl, hm, hz, _, hx⟩
  · simp [Value.cells] at hcs
    obtain ⟨rfl, rfl, rfl⟩ := hcs
    exact ⟨none, 0, 0, [], rfl, rfl, Nat.le_refl _, Nat.zero_le _, fun h => absurd h (by simp)⟩
  · simp [Value.cells] at hcs
    obtain ⟨rfl, rfl, rfl⟩ := hcs
    have hlm : len ≤ m := by rw [hz]; split <;> omega
    have each : ∀ i, i < len → ∃ s : Ix.Opn, W.cell? (a.add (i * 6)) = some (.bool s.drop) ∧ W.cell? (a.add (i * 6 + 1)) = some (.string ⟨s.id.toArray⟩) ∧ W.cell? (a.add (i * 6 + 2)) = some (.int .i64 s.box.a) ∧ W.cell? (a.add (i * 6 + 3)) = some (.int .i64 s.box.b) ∧ W.cell? (a.add (i * 6 + 4)) = some (.int .i64 s.box.c) ∧ W.cell? (a.add (i * 6 + 5)) = some (.int .i64 s.box.d) := by
      intro i hi
      obtain ⟨cs', h2, h3⟩ := hx i (by omega)
      rw [ce] at h2
      obtain ⟨_, hlen, hcell⟩ := World.cells?_some h2
      match cs', hlen with
      | [c0, c1, c2, c3, c4, c5], _ =>
        obtain ⟨o, e0, e1, e2, e3, e4, e5⟩ := six_cells he o0 o1 o2 k0 k1 k2 b0 b1 hs ho ho1 hf hs2 hone hC2 h0 h1 h3
        subst e0 e1 e2 e3 e4 e5
        have d0 := hcell 0 (by omega)
        have d1 := hcell 1 (by omega)
        have d2 := hcell 2 (by omega)
        have d3 := hcell 3 (by omega)
        have d4 := hcell 4 (by omega)
        have d5 := hcell 5 (by omega)
        rw [add_add] at d0 d1 d2 d3 d4 d5
        exact ⟨o, by simpa using d0, by simpa using d1, by simpa using d2, by simpa using d3, by simpa using d4, by simpa using d5⟩
    obtain ⟨q, hq⟩ := choose_lt each
    refine ⟨some a, len, cap, (List.range len).map q, rfl, by simp, hl, hm, ?_⟩
    intro hpos
    simp at hpos
    obtain ⟨b, off, spot⟩ := a
    have e0 := (hq 0 hpos).1
    have hspot : spot = none := by simpa [Addr.add] using World.cell?_spot e0
    subst hspot
    refine ⟨b, off, rfl, ?_, fun k s hk => ?_⟩
    · have := World.block_lt_of_cell? _ _ e0
      simpa [Addr.add] using this
    · rw [List.getElem?_map] at hk
      cases hr : (List.range len)[k]? with
      | none => rw [hr] at hk; cases hk
      | some i =>
        rw [hr] at hk
        obtain ⟨hil, hi⟩ := List.getElem?_eq_some_iff.1 hr
        simp at hil hi
        subst hi
        simp at hk
        subst hk
        have ad : ∀ j, (⟨b, off, none⟩ : Addr).add j = ⟨b, off + j, none⟩ := fun j => by unfold Addr.add; split <;> simp_all
        have := hq k hil
        rw [ad, ad, ad, ad, ad, ad] at this
        exact this
end
end Go.Proofs.Yteghhfkllclghaa.Frame
