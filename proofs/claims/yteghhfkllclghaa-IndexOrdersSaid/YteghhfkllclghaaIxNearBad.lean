/- index: Near that answers nothing. -/
import Derived.Test.YteghhfkllclghaaIxBox
namespace Go.Proofs.Yteghhfkllclghaa.Ix
open Go.RowKit Go.Sort
set_option maxRecDepth 100000 in
set_option maxHeartbeats 2000000 in
theorem near_bad (w : World) (x m n : Nat) (t : Option (Tr Value)) (D : DataW Value) (lk : Id → Option (Nat × Nat)) (S : List It) (px py k : Int) (h : Idx w x m n t D lk S) (hbad : t = none ∨ k ≤ 0 ∨ nearP px py = false) :
    Calls Try.prog 21 #[ptr x, vP px py, .int .i64 k] w fun e w' => e = .returned (.slice none 0 0) ∧ Below w.heap.size w w' := by
  obtain ⟨W, hW⟩ : ∃ W, w.alloc (.cells #[.int .i64 px, .int .i64 py] 24) = W := ⟨_, rfl⟩
  have HW := Lib.hid hW
  have hB : Below w.heap.size w W := hW ▸ alloc1 _ _
  have B0 := Lib.hid hB
  have R0 := hW ▸ IsRow.made w 24 #[.int .i64 px, .int .i64 py]
  have p0 := IsRow.get R0 0
  have p1 := IsRow.get R0 1
  have x0 : W.cell? ⟨x, 0, none⟩ = some (rootV t) := (h.below hB).row.get 0
  have k1 := Lib.hid (isNear_any px py W)
  clear hW hB R0 h
  unfold ptr
  unfold vP at k1 ⊢
  cases t with
  | none =>
    have x0' : W.cell? ⟨x, 0, none⟩ = some (.pointer none) := x0
    clear x0 hbad k1
    go_enter Try.func21, Try.ntmps21
    go_upto_region 1 with fail
    rw [HW.out]
    go_wp2
    go_ret
    exact ⟨rfl, B0.out⟩
  | some tt =>
    have x0' : W.cell? ⟨x, 0, none⟩ = some (.pointer (some ⟨tt.blk, 0, none⟩)) := x0
    clear x0
    by_cases hk : k ≤ 0
    · clear hbad k1
      go_enter Try.func21, Try.ntmps21
      go_upto_region 1 with fail
      rw [HW.out]
      go_wp2
      go_ret
      exact ⟨rfl, B0.out⟩
    · have hv : nearP px py = false := by
        rcases hbad with e | e | e
        · cases e
        · exact absurd e hk
        · exact e
      rw [hv] at k1
      clear hbad hv
      go_enter Try.func21, Try.ntmps21
      go_upto_region 1 with fail
      rw [HW.out]
      go_wp2_with fail
      refine k1.out.mono ?_
      rintro e w1 ⟨rfl, bb⟩
      have B1 := Lib.hid (B0.out.trans (bb.mono B0.out.size))
      clear bb k1
      go_wp2
      go_ret
      exact ⟨rfl, B1.out⟩
end Go.Proofs.Yteghhfkllclghaa.Ix
