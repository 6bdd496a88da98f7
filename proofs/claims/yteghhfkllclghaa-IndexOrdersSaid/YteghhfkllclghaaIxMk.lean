/- index: the laws' operations: do, built, short, box. -/
import Derived.Test.YteghhfkllclghaaIxLaw
namespace Go.Proofs.Yteghhfkllclghaa.Ix
open Go.RowKit Go.Sort
/-- an operation. -/
structure Opn where
  drop : Bool
  id : Id
  box : Bx
def opC (o : Opn) : Array Value := #[.bool o.drop, .string ⟨o.id.toArray⟩, .int .i64 o.box.a, .int .i64 o.box.b, .int .i64 o.box.c, .int .i64 o.box.d]
def opV (o : Opn) : Value := .agg (opC o)
def opR (o : Opn) (S : List It) : List It := if o.drop then dropS o.id S else putR o.id o.box S
def opE (o : Opn) (S : List It) : Int := if o.drop then dropE o.id S else putE o.id o.box S
def opsR (l : List Opn) (S : List It) : List It := l.foldl (fun S o => opR o S) S
theorem facts6 {w : World} {g : Nat} {t : TypeId} {a b c d e f : Value} (h : IsRow w g t #[a, b, c, d, e, f]) :
    w.cell? ⟨g, 0, none⟩ = some a ∧ w.cell? ⟨g, 1, none⟩ = some b ∧ w.cell? ⟨g, 2, none⟩ = some c ∧ w.cell? ⟨g, 3, none⟩ = some d ∧ w.cell? ⟨g, 4, none⟩ = some e ∧ w.cell? ⟨g, 5, none⟩ = some f := ⟨h.get 0, h.get 1, h.get 2, h.get 3, h.get 4, h.get 5⟩
set_option maxRecDepth 100000 in
set_option maxHeartbeats 1000000 in
theorem do_any {w : World} {b0 x n : Nat} {S : List It} (h : IxA w b0 x n S) (o : Opn) (hi : o.id.length ≤ 1000) (hn : n < 100000) :
    Calls Try.prog 15 #[ptr x, opV o] w fun e w' => e = .returned (.int .i64 (opE o S)) ∧ IxA w' b0 x (n + 1) (opR o S) ∧ Below b0 w w' := by
  obtain ⟨dr, i, b⟩ := o
  dsimp only at hi
  obtain ⟨W, hW⟩ : ∃ W, w.alloc (.cells #[.bool dr, .string ⟨i.toArray⟩, .int .i64 b.a, .int .i64 b.b, .int .i64 b.c, .int .i64 b.d] 35) = W := ⟨_, rfl⟩
  have hB : Below w.heap.size w W := hW ▸ alloc1 _ _
  have R0 : IsRow W w.heap.size 35 #[.bool dr, .string ⟨i.toArray⟩, .int .i64 b.a, .int .i64 b.b, .int .i64 b.c, .int .i64 b.d] := hW ▸ IsRow.made _ _ _
  have HW := Lib.hid hW
  have hb0 : b0 ≤ w.heap.size := by have := h.lt; omega
  have BB := Lib.hid (hB.mono hb0)
  obtain ⟨c0, c1, c2, c3, c4, c5⟩ := facts6 R0
  have h2 := h.below hB
  have KD := Lib.hid (dropA h2 i hi hn)
  have KP := Lib.hid (putA h2 i b hi hn)
  clear hW hB R0 h h2 hb0
  unfold ptr vB at KP
  unfold ptr at KD
  unfold ptr opV opC
  cases dr with
  | true =>
    go_enter Try.func15, Try.ntmps15
    go_upto_region 1 with fail
    rw [HW.out]
    go_wp2_with (refine KD.out.mono ?_; rintro e w1 ⟨rfl, h1, b1⟩)
    go_ret
    exact ⟨rfl, h1, BB.out.trans b1⟩
  | false =>
    go_enter Try.func15, Try.ntmps15
    go_upto_region 1 with fail
    rw [HW.out]
    go_wp2_with (refine KP.out.mono ?_; rintro e w1 ⟨rfl, h1, b1⟩)
    go_ret
    exact ⟨rfl, h1, BB.out.trans b1⟩
/-- a slice of operations in memory below B. -/
def OpsT (w : World) (B : Nat) (ao : Option Addr) (l : List Opn) : Prop := 0 < l.length → ∃ g off, ao = some ⟨g, off, none⟩ ∧ g < B ∧ ∀ (k : Nat) (o : Opn), l[k]? = some o →
  w.cell? ⟨g, off + k * 6, none⟩ = some (.bool o.drop) ∧ w.cell? ⟨g, off + k * 6 + 1, none⟩ = some (.string ⟨o.id.toArray⟩) ∧ w.cell? ⟨g, off + k * 6 + 2, none⟩ = some (.int .i64 o.box.a) ∧
  w.cell? ⟨g, off + k * 6 + 3, none⟩ = some (.int .i64 o.box.b) ∧ w.cell? ⟨g, off + k * 6 + 4, none⟩ = some (.int .i64 o.box.c) ∧ w.cell? ⟨g, off + k * 6 + 5, none⟩ = some (.int .i64 o.box.d)
theorem OpsT.below {w w' : World} {B B' : Nat} {ao : Option Addr} {l : List Opn} (h : OpsT w B ao l) (hb : Below B' w w') (hB : B ≤ B') : OpsT w' B ao l := fun h0 => by
  obtain ⟨g, off, e, hg, hc⟩ := h h0
  have hk : ∀ i, w'.cell? ⟨g, i, none⟩ = w.cell? ⟨g, i, none⟩ := fun i => hb.cell (p := ⟨g, i, none⟩) (Nat.lt_of_lt_of_le hg hB)
  exact ⟨g, off, e, hg, fun k o ho => by rw [hk, hk, hk, hk, hk, hk]; exact hc k o ho⟩
theorem opsR_snoc (l : List Opn) (k : Nat) (h : k < l.length) : opsR (l.take (k + 1)) [] = opR l[k] (opsR (l.take k) []) := by
  unfold opsR
  rw [List.take_succ_eq_append_getElem h, List.foldl_append]; rfl
set_option maxRecDepth 100000 in
set_option maxHeartbeats 1000000 in
theorem built_any (ao : Option Addr) (n cap : Nat) (l : List Opn) (w : World) (hn : l.length = n) (ha : OpsT w w.heap.size ao l) (hc : n ≤ cap) (hn2 : n ≤ 1000) (hi : ∀ o ∈ l, o.id.length ≤ 1000) :
    Calls Try.prog 23 #[.slice ao n cap] w fun e w' => ∃ x, e = .returned (ptr x) ∧ IxA w' w.heap.size x n (opsR l []) ∧ Below w.heap.size w w' := by
  have HA := Lib.hid ha
  have HN := Lib.hid hn
  have HI := Lib.hid hi
  have hc' : (n : Int) ≤ (cap : Int) := by omega
  have KN := newA w
  clear ha hn hi
  unfold ptr at KN ⊢
  go_enter Try.func23, Try.ntmps23
  go_wp2_with (refine KN.mono ?_; rintro e w1 ⟨x, rfl, h1, b1⟩)
  have H1 := Lib.hid h1
  have B1 := Lib.hid b1
  clear h1 b1 KN
  go_loopw [4] (fun i wr => ∃ k : Nat, k ≤ n ∧ i = .int .i64 k ∧ Hid (IxA wr w.heap.size x k (opsR (l.take k) [])) ∧ Hid (Below w.heap.size w wr)) (fun i _ => n - (intOf i).toNat)
  case atStart => exact ⟨0, by omega, rfl, H1, B1⟩
  case round =>
    clear H1 B1
    obtain ⟨k, hk, rfl, HX, HW⟩ := hrel
    by_cases hlt : k < n
    · have hkl : k < l.length := by rw [HN.out]; exact hlt
      obtain ⟨g, off, e, hg, hcells⟩ := (HA.out.below HW.out (Nat.le_refl _)) (by omega)
      subst e
      obtain ⟨c0, c1, c2, c3, c4, c5⟩ := hcells k _ (List.getElem?_eq_getElem hkl)
      have KD := Lib.hid (do_any HX.out l[k] (HI.out _ (List.getElem_mem hkl)) (by omega))
      rw [← opsR_snoc l k hkl] at KD
      have hlt2 : (k : Int) < (n : Int) := by omega
      generalize l[k] = oo at *
      obtain ⟨od, oi, ⟨ba, bb, bc, bd⟩⟩ := oo
      dsimp only at c0 c1 c2 c3 c4 c5
      unfold opV opC ptr at KD
      dsimp only at KD
      clear hcells hkl
      go_wp2_with (refine KD.out.mono ?_; rintro e w2 ⟨rfl, h2, b2⟩)
      have H2 := Lib.hid h2
      have B2 := Lib.hid (HW.out.trans b2)
      clear h2 b2 KD
      go_roundw
      case rel => exact ⟨k + 1, by omega, by go_num, H2, B2⟩
      case measure => simp [intOf]; omega
    · obtain rfl : k = n := by omega
      have H3 := HX.out
      rw [← HN.out, List.take_length, HN.out] at H3
      have H4 := Lib.hid H3
      clear H3
      go_wp2
      go_ret
      exact ⟨_, rfl, H4.out, HW.out⟩
end Go.Proofs.Yteghhfkllclghaa.Ix
namespace Go.Proofs.Yteghhfkllclghaa.Ix
open Go.RowKit Go.Sort
def shortB (l : List Opn) : Bool := l.all fun o => decide (o.id.length ≤ 100)
set_option maxRecDepth 100000 in
set_option maxHeartbeats 1000000 in
theorem short_any (ao : Option Addr) (n cap m : Nat) (l : List Opn) (w : World) (hn : l.length = n) (ha : OpsT w w.heap.size ao l) (hc : n ≤ cap) (hm : m ≤ 1000) :
    Calls Try.prog 10 #[.slice ao n cap, .int .i64 m] w fun e w' => e = .returned (.bool (decide (n ≤ m) && shortB l)) ∧ w = w' := by
  have HA := Lib.hid ha
  have HN := Lib.hid hn
  have hc' : (n : Int) ≤ (cap : Int) := by omega
  clear ha hn
  obtain ⟨R, hR⟩ : ∃ R, (decide (n ≤ m) && shortB l) = R := ⟨_, rfl⟩
  rw [hR]
  have HRR := Lib.hid hR
  clear hR
  by_cases hnm : n ≤ m
  · have hz : (n : Int) ≤ (m : Int) := by omega
    have HR : Hid (shortB l = R) := Lib.hid (by rw [← HRR.out, decide_eq_true hnm, Bool.true_and])
    clear HRR
    go_enter Try.func10, Try.ntmps10
    go_wp2
    go_loop [5] (fun i => ∃ k : Nat, k ≤ n ∧ i = .int .i64 k ∧ Hid (shortB (l.take k) = true)) (fun i => n - (intOf i).toNat)
    case atStart => exact ⟨0, by omega, rfl, Lib.hid rfl⟩
    case round =>
      obtain ⟨k, hk, rfl, HI⟩ := hrel
      by_cases hlt : k < n
      · have hkl : k < l.length := by rw [HN.out]; exact hlt
        obtain ⟨g, off, e, hg, hcells⟩ := HA.out (by omega)
        subst e
        obtain ⟨c0, c1, c2, c3, c4, c5⟩ := hcells k _ (List.getElem?_eq_getElem hkl)
        have hlt2 : (k : Int) < (n : Int) := by omega
        have hs : shortB (l.take (k + 1)) = decide (l[k].id.length ≤ 100) := by
          unfold shortB
          have h := HI.out
          unfold shortB at h
          rw [List.take_succ_eq_append_getElem hkl, List.all_append, h]
          simp
        by_cases h100 : l[k].id.length ≤ 100
        · have HS := Lib.hid (show shortB (l.take (k + 1)) = true by rw [hs, decide_eq_true h100])
          have hi2 : ¬ (100 : Int) < ((ByteArray.mk l[k].id.toArray).size : Int) := by simp [ByteArray.size]; omega
          clear hs hcells c0 c2 c3 c4 c5
          generalize ByteArray.mk l[k].id.toArray = ss at *
          clear h100 hkl
          go_wp2
          go_round
          case rel => exact ⟨k + 1, by omega, by go_num, HS⟩
          case measure => simp [intOf]; omega
        · have HS := Lib.hid (show shortB l = false by
            unfold shortB
            rw [List.all_eq_false]
            exact ⟨l[k], List.getElem_mem hkl, by simp; omega⟩)
          have hi2 : (100 : Int) < ((ByteArray.mk l[k].id.toArray).size : Int) := by simp [ByteArray.size]; omega
          clear hs hcells c0 c2 c3 c4 c5
          generalize ByteArray.mk l[k].id.toArray = ss at *
          clear h100 hkl
          obtain rfl : false = R := HS.out.symm.trans HR.out
          go_wp2
          go_ret
          exact ⟨rfl, rfl⟩
      · obtain rfl : k = n := by omega
        have HS : Hid (shortB l = true) := Lib.hid (by
          have := HI.out
          rw [← HN.out, List.take_length] at this
          exact this)
        obtain rfl : true = R := HS.out.symm.trans HR.out
        go_wp2
        go_ret
        exact ⟨rfl, rfl⟩
  · have hz : ¬ (n : Int) ≤ (m : Int) := by omega
    have hz2 : (0 : Int) < (n : Int) := by omega
    obtain rfl : false = R := by rw [← HRR.out, decide_eq_false hnm, Bool.false_and]
    clear HRR
    go_enter Try.func10, Try.ntmps10
    go_wp2
    go_loop [5] (fun i => i = .int .i64 0) (fun i => 0)
    case atStart => exact rfl
    case round =>
      obtain rfl := hrel
      go_wp2
      go_ret
      exact ⟨rfl, rfl⟩
end Go.Proofs.Yteghhfkllclghaa.Ix
namespace Go.Proofs.Yteghhfkllclghaa.Ix
open Go.RowKit Go.Sort
theorem infoBx : (Try.prog.info? 26).map (·.size) = some 4 := by kernel_rfl
set_option maxRecDepth 100000 in
set_option maxHeartbeats 1000000 in
theorem mkbox_any (a b c d : Int) (w : World) : Calls Try.prog 31 #[.int .i64 a, .int .i64 b, .int .i64 c, .int .i64 d] w fun e w' => e = .returned (vB ⟨a, b, c, d⟩) ∧ Below w.heap.size w w' := by
  obtain ⟨W, hW⟩ : ∃ W, w.alloc (.cells #[.int .i64 0, .int .i64 0, .int .i64 0, .int .i64 0] 26) = W := ⟨_, rfl⟩
  have B0 := Lib.hid (show Below w.heap.size w W from hW ▸ alloc1 _ _)
  have R0 := Lib.hid (show IsRow W w.heap.size 26 #[.int .i64 0, .int .i64 0, .int .i64 0, .int .i64 0] from hW ▸ IsRow.made _ _ _)
  have HW := Lib.hid hW
  obtain ⟨d0, d1, d2, d3, f0, f1, f2, f3⟩ := row_facts R0.out
  clear hW
  go_enter Try.func31, Try.ntmps31
  go_upto_region 1 with fail
  rw [HW.out]
  go_wp2
  have hr := set4 R0.out (.int .i64 a) (.int .i64 b) (.int .i64 c) (.int .i64 d)
  have hb := below4 B0.out (Nat.le_refl w.heap.size) (.int .i64 a) (.int .i64 b) (.int .i64 c) (.int .i64 d)
  refine bodyPost_ret (results_cell_row rfl _ _ w.heap.size _ _ (0, 0) _ rfl hr Try.underlying26 rfl infoBx) rfl ?_
  exact ⟨rfl, hb⟩
end Go.Proofs.Yteghhfkllclghaa.Ix
