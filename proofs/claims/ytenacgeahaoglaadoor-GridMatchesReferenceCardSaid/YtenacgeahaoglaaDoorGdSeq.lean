/- grid: the range function between; slices.Collect of tiles. -/
import Derived.Test.YtenacgeahaoglaaDoorGdHead
import Derived.RangeFuncNested
import Derived.RangeFuncBound
import Derived.RangeFuncCalls
import Derived.RangeFuncLeaves
import Derived.Shelf.Abstract
import Derived.Shelf.RegionOpen
import Derived.OwnWalkIn
import Derived.TacticsInMore
import Derived.LoopNIn
import Derived.LoopIn
import Derived.Sort.OwnSorted
import Derived.Sort.CutIn
namespace Go.Proofs.YtenacgeahaoglaaDoor.Gd
open Go.RowKit Go.Sort Go.Shelf
attribute [local go_sem] Oper.semAt_some
theorem info_of {P : Program} {t : TypeId} {n b : Nat} {z : Value} (h : (P.info? t).map (fun i => (i.size, i.bytes, i.zero)) = some (n, b, some z)) : ∃ i, P.info? t = some i ∧ i.size = n ∧ i.bytes = b ∧ i.zero = some z := by
  cases hi : P.info? t with
  | none => rw [hi] at h; cases h
  | some i =>
    rw [hi] at h
    simp only [Option.map_some, Option.some.injEq, Prod.mk.injEq] at h
    exact ⟨i, rfl, h.1, h.2.1, h.2.2⟩
theorem row_own {β : Type} (g : Nat) (t : TypeId) (f : β → Array Value) : Go.Own (fun (s : β) W => IsRow W g t (f s)) := fun s X Y row hs hg hr =>
  (hg.block g hs.inside (fun e => by obtain ⟨o, ho, hc⟩ := hr g e.symm; rw [show X.heap[g]? = _ from hs] at ho; cases ho; cases hc)).trans hs
theorem keeps_of_below {W W' : World} (B : Nat) (h : Below W.heap.size W W') : KeepsFrom B W W' := ⟨h.size, fun _ _ _ hk _ => (h.block _ (Array.getElem?_eq_some_iff.1 hk).1).trans hk⟩
/-- all rows below A stay as they are. -/
def KpA (A : Nat) (W W' : World) : Prop := W.heap.size ≤ W'.heap.size ∧ ∀ k cs t f, k < A → W.heap[k]? = some (.cells cs t f) → W'.heap[k]? = some (.cells cs t f)
section
variable {A : Nat} {W W' W'' : World}
theorem KpA.refl (W : World) : KpA A W W := ⟨Nat.le_refl _, fun _ _ _ _ _ h => h⟩
theorem KpA.trans (h : KpA A W W') (k : KpA A W' W'') : KpA A W W'' := ⟨Nat.le_trans h.1 k.1, fun _ _ _ _ hi hc => k.2 _ _ _ _ hi (h.2 _ _ _ _ hi hc)⟩
theorem KpA.of_below (h : Below W.heap.size W W') : KpA A W W' := ⟨h.size, fun i _ _ _ _ hc => (h.block i (Array.getElem?_eq_some_iff.1 hc).1).trans hc⟩
theorem KpA.set {p : Addr} (hA : A ≤ p.block) (v : Value) : KpA A W (W.setCell p v) :=
  ⟨by simp, fun i _ _ _ hi hc => (Below.heap_setCell W p v i (by omega)).trans hc⟩
theorem KpA.grown {row : Option Nat} (hg : W.grownBy W' row) (hr : ∀ k, row = some k → A ≤ k) : KpA A W W' :=
  ⟨hg.size, fun i _ _ _ hi hc => (hg.block i (Array.getElem?_eq_some_iff.1 hc).1 (fun e => by have := hr i e.symm; omega)).trans hc⟩
theorem kpA_b {w : World} (W : World) (l : Nat) (o o' : Obj) (_ : w.heap.size ≤ l) (h : W.heap[l]? = some o) (hc : o.isCells = false) (_ : o.isWalk = false) : KpA A W (W.putObj l o') := by
  have hg := grownBy_putObj' W l o'
  refine ⟨hg.size, fun i cs t f _ hi => ?_⟩
  refine (hg.block i (Array.getElem?_eq_some_iff.1 hi).1 (fun e => ?_)).trans hi
  injection e with e
  subst e
  rw [h] at hi
  injection hi with hi
  subst hi
  cases hc
theorem KpA.row {g : Nat} {t : TypeId} {cs : Array Value} (h : KpA A W W') (hr : IsRow W g t cs) (hi : g < A) : IsRow W' g t cs := h.2 g cs t (0, 0) hi hr
end
theorem grown_below (w w' : World) (h : Below w.heap.size w w') (row : Option Nat) : w.grownBy w' row := grown_of_below h row
set_option maxRecDepth 100000 in
set_option maxHeartbeats 1000000 in
theorem between_any (f l : Tl) (w : World) :
    Calls Tryd.prog 39 #[vT f, vT l] w fun e w' => e = .returned (.func (.func 50) #[] #[.pointer (some ⟨w.heap.size, 0, none⟩), .pointer (some ⟨w.heap.size + 1, 0, none⟩)]) ∧ (w.alloc (.cells (cT f) 25)).alloc (.cells (cT l) 25) = w' := by
  unfold vT cT
  go_enter Tryd.func39, Tryd.ntmps39
  go_wp2
  go_ret
  exact ⟨rfl, rfl⟩
/-- what the iterator hands to a round. -/
abbrev encT (t : Tl) : Array Value := #[.agg #[.int .i64 t.z, .int .i64 t.x, .int .i64 t.y]]
set_option maxRecDepth 100000 in
set_option maxHeartbeats 2000000 in
theorem between_stops (m : Nat) (hm : 1 ≤ m) (b1 b2 : Nat) (f l : Tl) (A : Nat) (w : World) (h1 : IsRow w b1 25 (cT f)) (h2 : IsRow w b2 25 (cT l)) (hb1 : b1 < A) (hb2 : b2 < A)
    (hf : -1000000000 ≤ f.x ∧ f.x ≤ 1000000000 ∧ -1000000000 ≤ f.y ∧ f.y ≤ 1000000000) (hl : -1000000000 ≤ l.x ∧ l.x ≤ 1000000000 ∧ -1000000000 ≤ l.y ∧ l.y ≤ 1000000000) :
    SeqStopsK Fence.wide m Tryd.prog 50 #[.pointer (some ⟨b1, 0, none⟩), .pointer (some ⟨b2, 0, none⟩)] encT (KpA A) (fun xs => xs = rect f l) (fun _ => True) (rect f l).length w := fun y J Jx W hW hJ hJx hY h0 => by
  have R1 : IsRow W b1 25 (cT f) := h1.below hW h1.inside
  have R2 : IsRow W b2 25 (cT l) := h2.below hW h2.inside
  obtain ⟨nx, hnx⟩ : ∃ n, (l.x - f.x + 1).toNat = n := ⟨_, rfl⟩
  obtain ⟨ny, hny⟩ : ∃ n, (l.y - f.y + 1).toNat = n := ⟨_, rfl⟩
  have HN := Lib.hid (rect_len f l)
  have HP := Lib.hid (part_len f l)
  have HX := Lib.hid (part_next f l)
  have HS := Lib.hid (part_step f l)
  have HA := Lib.hid (part_all f l)
  rw [hnx] at HN HP HX
  rw [hny] at HN HA
  have H0 := Lib.hid (show J (part f l 0 0) W from h0)
  have HR1 := Lib.hid R1
  have HR2 := Lib.hid R2
  clear R1 R2 h1 h2 hW h0
  obtain ⟨fz, fx, fy⟩ := f
  obtain ⟨lz, lx, ly⟩ := l
  dsimp only [cT] at *
  obtain ⟨f1, f2, f3, f4⟩ := hf
  obtain ⟨l1, l2, l3, l4⟩ := hl
  obtain ⟨c0, c1, c2, _, _, _⟩ := facts3 HR1.out
  obtain ⟨d0, d1, d2, _, _, _⟩ := facts3 HR2.out
  refine callsIn_of_wp Tryd.func50 rfl trivial ?_ rfl
  simp only [Tryd.ntmps50, List.size_toArray, List.length_cons, List.length_nil, Nat.reduceAdd, Nat.reduceSub, Array.replicate_succ, Array.replicate_zero, List.push_toArray, List.append_toArray, List.nil_append, List.cons_append]
  gi_wp2
  clear c0 c1 c2 d0 d1 d2
  gi_loopw [4] (fun s wr => ∃ j : Nat, j ≤ ny ∧ s = .int .i64 (fy + (j : Int)) ∧ Hid (KpA A W wr) ∧ Hid (J (part ⟨fz, fx, fy⟩ ⟨lz, lx, ly⟩ j 0) wr)) (fun s _ => (ly + 1 - intOf s).toNat)
  case atStart => exact ⟨0, by omega, by simp, Lib.hid (KpA.refl _), H0⟩
  case round =>
    obtain ⟨j, hj, rfl, hb, hJs⟩ := hrel
    obtain ⟨c0, c1, c2, _, _, _⟩ := facts3 (hb.out.row HR1.out hb1)
    obtain ⟨d0, d1, d2, _, _, _⟩ := facts3 (hb.out.row HR2.out hb2)
    by_cases hlt : j < ny
    · have hle : fy + (j : Int) ≤ ly := by omega
      have hwy : IntKind.i64.wrap (fy + (j : Int) + 1) = fy + (j : Int) + 1 := IntWalk.i64_in _ (by omega)
      gi_wp2_with fail
      clear c0 c1 c2 d0 d1 d2
      gi_loopw [5] (fun s wr' => ∃ i : Nat, i ≤ nx ∧ s = .int .i64 (fx + (i : Int)) ∧ Hid (KpA A W wr') ∧ Hid (J (part ⟨fz, fx, fy⟩ ⟨lz, lx, ly⟩ j i) wr')) (fun s _ => (lx + 1 - intOf s).toNat)
      case atStart => exact ⟨0, by omega, by simp, hb, hJs⟩
      case round =>
        clear hb hJs
        obtain ⟨i, hi, rfl, hb, hJs⟩ := hrel
        obtain ⟨c0, c1, c2, _, _, _⟩ := facts3 (hb.out.row HR1.out hb1)
        obtain ⟨d0, d1, d2, _, _, _⟩ := facts3 (hb.out.row HR2.out hb2)
        by_cases hlx : i < nx
        · have hlex : fx + (i : Int) ≤ lx := by omega
          have hwx : IntKind.i64.wrap (fx + (i : Int) + 1) = fx + (i : Int) + 1 := IntWalk.i64_in _ (by omega)
          have hlen : (part ⟨fz, fx, fy⟩ ⟨lz, lx, ly⟩ j i).length < (rect ⟨fz, fx, fy⟩ ⟨lz, lx, ly⟩).length := by
            rw [HP.out, HN.out]
            have : (j + 1) * nx ≤ ny * nx := Nat.mul_le_mul_right nx (by omega)
            rw [Nat.add_mul, Nat.one_mul] at this
            omega
          obtain ⟨fn, tmps, assign, body, hy, hR⟩ := hY _ ⟨fz, fx + (i : Int), fy + (j : Int)⟩ wr hJs.out hlen
          dsimp only [encT] at hy
          have HST := Lib.hid (show part ⟨fz, fx, fy⟩ ⟨lz, lx, ly⟩ j (i + 1) = part ⟨fz, fx, fy⟩ ⟨lz, lx, ly⟩ j i ++ [⟨fz, fx + (i : Int), fy + (j : Int)⟩] from HS.out j i)
          clear hlen
          gi_wp2_with fail
          refine hR.mono ?_
          rintro e W3 (⟨rfl, hJ3, hK3⟩ | ⟨rfl, hJx3⟩)
          · have HK3 := Lib.hid (hb.out.trans hK3)
            have HJ3 := Lib.hid hJ3
            rw [← HST.out] at HJ3
            clear hJ3 hK3 hR hy c0 c1 c2 d0 d1 d2 hb hJs
            gi_wp2
            go_roundw
            case rel => exact ⟨i + 1, by omega, by go_num, HK3, HJ3⟩
            case measure => simp [intOf]; omega
          · clear hR hy c0 c1 c2 d0 d1 d2
            gi_wp2
            refine bodyPost_ret (results_none rfl _ _ _) rfl ?_
            exact ⟨⟨_, rfl⟩, .inr ⟨_, trivial, hJx3⟩⟩
        · obtain rfl : i = nx := by omega
          have hgt : ¬ fx + (i : Int) ≤ lx := by omega
          have hgt' : lx < fx + (i : Int) := by omega
          have HJ3 := Lib.hid hJs.out
          rw [HX.out] at HJ3
          clear hJs
          gi_wp2
          go_roundw
          case rel => exact ⟨j + 1, by omega, by go_num, hb, HJ3⟩
          case measure => simp [intOf]; omega
    · obtain rfl : j = ny := by omega
      have hgt : ¬ fy + (j : Int) ≤ ly := by omega
      have hgt' : ly < fy + (j : Int) := by omega
      have HJ3 := Lib.hid hJs.out
      rw [HA.out] at HJ3
      clear hJs hJ hJx hY
      gi_wp2
      go_end0
      exact ⟨⟨_, rfl⟩, by first | exact .inl HJ3.out | exact .inl ⟨_, rfl, HJ3.out⟩⟩
end Go.Proofs.YtenacgeahaoglaaDoor.Gd
