/- The reference's Sign, where it refuses. -/
import Derived.Test.YtmladmljibcagaaDoorSlRefF
namespace Go.Proofs.YtmladmljibcagaaDoor.Sl
open Go.RowKit
open Go.Proofs.YtmladmljibcagaaDoor.Dg hiding intOf
set_option maxRecDepth 100000 in
set_option maxHeartbeats 4000000 in
theorem refsign_no (sec m : B) (h i : Int) (w : World) (hh : h < 0 ∨ 8 < h ∨ (∃ k : Nat, h = (k : Int) ∧ k ≤ 8 ∧ inB i k = false)) :
    Calls Tryd.prog 16 #[.string ⟨sec.toArray⟩, .int .i64 h, .int .i64 i, .string ⟨m.toArray⟩] w fun e w' => e = .returned (.tuple #[.agg #[.int .i64 0, .slice none 0 0, .slice none 0 0], .int .i64 1]) ∧ Below w.heap.size w w' := by
  have fin := Lib.hid (below_new w (.cells #[.int .i64 0, .slice none 0 0, .slice none 0 0] 24))
  have R := IsRow.made w 24 #[.int .i64 0, .slice none 0 0, .slice none 0 0]
  obtain ⟨z0, z1, z2, _, _, _⟩ := store_facts R
  go_enter Tryd.func16, Tryd.ntmps16
  rcases hh with hh | hh | ⟨k, rfl, hk, hb⟩
  · go_wp2
    exact ⟨rfl, .tuple #[.agg #[.int .i64 0, .slice none 0 0, .slice none 0 0], .int .i64 1], by simp [results, Tryd.f16, go_sem, z0, z1, z2], rfl, fin.out⟩
  · have h0 : ¬ h < 0 := by omega
    go_wp2
    exact ⟨rfl, .tuple #[.agg #[.int .i64 0, .slice none 0 0, .slice none 0 0], .int .i64 1], by simp [results, Tryd.f16, go_sem, z0, z1, z2], rfl, fin.out⟩
  · have h0 : ¬ (k : Int) < 0 := by omega
    have h8 : ¬ (8 : Int) < (k : Int) := by omega
    by_cases hi : i < 0
    · go_wp2
      exact ⟨rfl, .tuple #[.agg #[.int .i64 0, .slice none 0 0, .slice none 0 0], .int .i64 1], by simp [results, Tryd.f16, go_sem, z0, z1, z2], rfl, fin.out⟩
    · obtain ⟨q, hq⟩ : ∃ q, 2 ^ k = q := ⟨_, rfl⟩
      have hq' : (2 : Int) ^ k = (q : Int) := by rw [← hq]; simp
      have hge : (q : Int) ≤ i := by
        unfold inB at hb
        rw [hq'] at hb
        simp at hb
        omega
      clear hb hq'
      have HQ := Lib.hid hq
      clear hq
      go_wp2_with fail
      refine (power_of k q _ hk HQ.out).mono ?_
      rintro e w' ⟨rfl, rfl⟩
      go_wp2
      exact ⟨rfl, .tuple #[.agg #[.int .i64 0, .slice none 0 0, .slice none 0 0], .int .i64 1], by simp [results, Tryd.f16, go_sem, z0, z1, z2], rfl, fin.out⟩
end Go.Proofs.YtmladmljibcagaaDoor.Sl
