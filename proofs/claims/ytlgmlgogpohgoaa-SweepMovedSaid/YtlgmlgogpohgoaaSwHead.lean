/- The reference's Same; the law's side and head; sweep.All of too many segments. -/
import Derived.Test.YtlgmlgogpohgoaaSwAll
import Derived.Test.YtlgmlgogpohgoaaSwLaws
import Derived.BigQuiet
namespace Go.Proofs.Ytlgmlgogpohgoaa.Sw
open Go.RowKit Go.Sort Go.Shelf
open Go.Proofs.Ytlgmlgogpohgoaa.Geo hiding intOf
set_option maxRecDepth 100000 in
set_option maxHeartbeats 2000000 in
theorem many_any (a : Option Addr) (n cap : Nat) (w : World) (h2 : 20000 < n) :
    Calls Try.prog 28 #[.slice a n cap] w fun e w' => e = .returned (.tuple #[.slice none 0 0, .int .i64 2]) ∧ Below w.heap.size w w' := by
  have h1 : (20000 : Int) < (n : Int) := by omega
  go_enter Try.func28, Try.ntmps28
  go_wp2
  go_ret2
  exact ⟨rfl, alloc1 _ _⟩
theorem infoSegB : (Try.prog.info? 36).map (·.size) = some 4 := by kernel_rfl
set_option maxRecDepth 100000 in
set_option maxHeartbeats 2000000 in
theorem side_any (a b c d : Int) : Answers Try.prog 35 #[.int .i64 a, .int .i64 b, .int .i64 c, .int .i64 d] (.agg #[.int .i64 a, .int .i64 b, .int .i64 c, .int .i64 d]) := by
  intro w
  obtain ⟨W, hW⟩ : ∃ W, w.alloc (.cells #[.int .i64 0, .int .i64 0, .int .i64 0, .int .i64 0] 36) = W := ⟨_, rfl⟩
  have r0 : IsRow W w.heap.size 36 #[.int .i64 0, .int .i64 0, .int .i64 0, .int .i64 0] := hW ▸ IsRow.made _ _ _
  have hb : Below w.heap.size w W := hW ▸ alloc1 _ _
  have HW := Lib.hid hW
  clear hW
  go_enter Try.func35, Try.ntmps35
  go_upto_region 1 with fail
  rw [HW.out]
  obtain ⟨d0, d1, d2, d3, f0, f1, f2, f3⟩ := row_facts r0
  have R0 := Lib.hid r0
  have HB := Lib.hid hb
  clear r0 hb HW
  go_wp2
  have hr := (((R0.out.put 0 (.int .i64 a)).put 1 (.int .i64 b)).put 2 (.int .i64 c)).put 3 (.int .i64 d)
  have hb := (((HB.out.setCell (p := ⟨w.heap.size, 0, none⟩) (Nat.le_refl _) (.int .i64 a)).setCell (p := ⟨w.heap.size, 1, none⟩) (Nat.le_refl _) (.int .i64 b)).setCell (p := ⟨w.heap.size, 2, none⟩) (Nat.le_refl _) (.int .i64 c)).setCell (p := ⟨w.heap.size, 3, none⟩) (Nat.le_refl _) (.int .i64 d)
  refine bodyPost_ret (results_cell_row rfl _ _ w.heap.size _ _ (0, 0) _ rfl hr Try.underlying36 rfl infoSegB) rfl ?_
  exact ⟨by simp, hb⟩
theorem mets_at {w : World} {base : Nat} {v : Value} {L : List Met} (h : OwnM w base v L) : ∃ a cap, v = .slice a L.length cap ∧ ∀ k m, L[k]? = some m → ∃ g, a = some ⟨g, 0, none⟩ ∧ g < w.heap.size ∧
    w.cell? ⟨g, k * 3, none⟩ = some (.int .i64 m.a) ∧ w.cell? ⟨g, k * 3 + 1, none⟩ = some (.int .i64 m.b) ∧ w.cell? ⟨g, k * 3 + 2, none⟩ = some (.int .i64 m.k) := by
  obtain ⟨a, cap, rfl, _, _, h3⟩ := Own.shape h
  refine ⟨a, cap, rfl, fun k m hk => ?_⟩
  rcases h3 with ⟨_, _, rfl⟩ | ⟨g, rfl, _, hg⟩
  · simp at hk
  · exact ⟨g, rfl, hg, Own.cells h encM_len (j := 0) hk (by decide), Own.cells h encM_len (j := 1) hk (by decide), Own.cells h encM_len (j := 2) hk (by decide)⟩
set_option maxRecDepth 100000 in
set_option maxHeartbeats 2000000 in
/-- Same of two lists that are equal. -/
theorem same_any (b1 b2 : Nat) (v1 v2 : Value) (L : List Met) (w : World) (h1 : OwnM w b1 v1 L) (h2 : OwnM w b2 v2 L) (hn : L.length ≤ 1000000000) :
    Calls Try.prog 30 #[v1, v2] w fun e w' => e = .returned (.bool true) ∧ Below w.heap.size w w' := by
  obtain ⟨a1, c1, rfl, k1⟩ := mets_at h1
  obtain ⟨a2, c2, rfl, k2⟩ := mets_at h2
  have K1 := Lib.hid k1
  have K2 := Lib.hid k2
  clear h1 h2 k1 k2
  go_enter Try.func30, Try.ntmps30
  go_wp2
  go_loopw [5] (fun i wr => ∃ k : Nat, k ≤ L.length ∧ i = .int .i64 k ∧ Hid (Below w.heap.size w wr)) (fun i _ => L.length - (intOf i).toNat)
  case atStart => exact ⟨0, by omega, rfl, Lib.hid (Below.refl _ _)⟩
  case round =>
    obtain ⟨k, hk, rfl, hb⟩ := hrel
    by_cases hlt : k < L.length
    · obtain ⟨m, hm⟩ : ∃ m, L[k]? = some m := ⟨_, List.getElem?_eq_getElem hlt⟩
      obtain ⟨g1, rfl, hg1, x0, x1, x2⟩ := K1.out k m hm
      obtain ⟨g2, rfl, hg2, y0, y1, y2⟩ := K2.out k m hm
      have p0 := (hb.out.cell (p := ⟨g1, k * 3, none⟩) hg1).trans x0
      have p1 := (hb.out.cell (p := ⟨g1, k * 3 + 1, none⟩) hg1).trans x1
      have p2 := (hb.out.cell (p := ⟨g1, k * 3 + 2, none⟩) hg1).trans x2
      have q0 := (hb.out.cell (p := ⟨g2, k * 3, none⟩) hg2).trans y0
      have q1 := (hb.out.cell (p := ⟨g2, k * 3 + 1, none⟩) hg2).trans y1
      have q2 := (hb.out.cell (p := ⟨g2, k * 3 + 2, none⟩) hg2).trans y2
      clear x0 x1 x2 y0 y1 y2 hm
      go_upto_region 6 with fail
      go_quiet (fail)
      have hb2 := Lib.hid (below_drew hb.out nq)
      obtain ⟨W3, hW3⟩ : ∃ W3, wr.drewN nq = W3 := ⟨_, rfl⟩
      rw [hW3] at hb2 ⊢
      clear hW3 p0 p1 p2 q0 q1 q2 hb
      go_wp2
      go_roundw
      case rel => exact ⟨k + 1, by omega, by go_num, hb2⟩
      case measure => simp [intOf]; omega
    · obtain rfl : k = L.length := by omega
      go_wp2
      go_ret
      exact ⟨rfl, hb.out⟩
end Go.Proofs.Ytlgmlgogpohgoaa.Sw
