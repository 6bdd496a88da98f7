/- Sign by contract where an argument is not as required. -/
import Derived.Test.YtanlpcdljclnmaaDoorSlSign
namespace Go.Proofs.YtanlpcdljclnmaaDoor.Sl
open Go.RowKit Go.Shelf
open Go.Proofs.YtanlpcdljclnmaaDoor.Dg hiding intOf
attribute [local go_sem] Oper.semAt_some
set_option maxRecDepth 100000 in
set_option maxHeartbeats 2000000 in
theorem sign_no (sec m : B) (h i : Int) (w : World) (hh : (decide (0 ≤ h) && decide (h ≤ 8)) = false ∨ (∃ k : Nat, h = (k : Int) ∧ k ≤ 8 ∧ inB i k = false)) :
    Calls Tryd.prog 7 #[.string ⟨sec.toArray⟩, .int .i64 h, .int .i64 i, .string ⟨m.toArray⟩] w fun e w' => e = .returned (.tuple #[.agg #[.int .i64 0, .slice none 0 0, .slice none 0 0], .int .i64 1]) ∧ Below w.heap.size w w' := by
  have fin : Below w.heap.size w (((w.alloc (.cells #[.string ⟨sec.toArray⟩] 9)).alloc (.cells #[.int .i64 i] 3)).alloc (.cells #[.int .i64 0, .slice none 0 0, .slice none 0 0] 29)) := (((Below.refl _ w).alloc (Nat.le_refl _) _).alloc (by simp) _).alloc (by simp; omega) _
  have rr : IsRow (((w.alloc (.cells #[.string ⟨sec.toArray⟩] 9)).alloc (.cells #[.int .i64 i] 3)).alloc (.cells #[.int .i64 0, .slice none 0 0, .slice none 0 0] 29)) (w.heap.size + 1 + 1) 29 #[.int .i64 0, .slice none 0 0, .slice none 0 0] := by
    have := IsRow.made ((w.alloc (.cells #[.string ⟨sec.toArray⟩] 9)).alloc (.cells #[.int .i64 i] 3)) 29 #[.int .i64 0, .slice none 0 0, .slice none 0 0]
    rw [World.size_alloc, World.size_alloc] at this
    exact this
  have HF := Lib.hid fin
  have HR := Lib.hid rr
  clear fin rr
  refine (callsIn_wide (n := 6)).1 ?_
  refine callsIn_of_wp_marks Tryd.func7 rfl trivial ?_ rfl
  simp only [Tryd.ntmps7, List.size_toArray, List.length_cons, List.length_nil, Nat.reduceAdd, Nat.reduceSub, Array.replicate_succ, Array.replicate_zero, List.push_toArray, List.append_toArray, List.nil_append, List.cons_append]
  rcases hh with hh | ⟨k, rfl, hk, hh⟩
  · have HH := Lib.hid hh
    clear hh
    gi_wp2_with fail
    refine ⟨trivial, ?_⟩
    refine (callsIn_wide.2 (isHeight_of h false _ HH.out)).mono ?_
    rintro e w' ⟨rfl, rfl⟩
    gi_wp2
    refine ⟨trivial, ?_⟩
    gi_wp2
    obtain ⟨z0, z1, z2, _, _, _⟩ := store_facts HR.out
    exact ⟨.tuple #[.agg #[.int .i64 0, .slice none 0 0, .slice none 0 0], .int .i64 1], by simp [results, Tryd.f7, go_sem, z0, z1, z2], rfl, HF.out⟩
  · have HH := Lib.hid hh
    clear hh
    gi_wp2_with fail
    refine ⟨trivial, ?_⟩
    refine (callsIn_wide.2 (isHeight_of (k : Int) true _ (by simp; omega))).mono ?_
    rintro e w' ⟨rfl, rfl⟩
    gi_wp2_with fail
    refine ⟨trivial, ?_⟩
    refine (callsIn_wide.2 (isIndex_of i k false _ hk HH.out)).mono ?_
    rintro e w' ⟨rfl, rfl⟩
    gi_wp2
    obtain ⟨z0, z1, z2, _, _, _⟩ := store_facts HR.out
    exact ⟨.tuple #[.agg #[.int .i64 0, .slice none 0 0, .slice none 0 0], .int .i64 1], by simp [results, Tryd.f7, go_sem, z0, z1, z2], rfl, HF.out⟩
end Go.Proofs.YtanlpcdljclnmaaDoor.Sl
