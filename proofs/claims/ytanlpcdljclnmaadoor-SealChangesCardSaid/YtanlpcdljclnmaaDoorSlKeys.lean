/- The one-time keys of a secret, and the public key, by contract. -/
import Derived.Test.YtanlpcdljclnmaaDoorSlTree
namespace Go.Proofs.YtanlpcdljclnmaaDoor.Sl
open Go.RowKit
open Go.Proofs.YtanlpcdljclnmaaDoor.Dg hiding intOf

/-- an array of 18 strings of which the first k are laid. -/
def part (f : Nat → B) (k : Nat) : List B := (List.range 18).map fun j => if j < k then f j else []
theorem part_zero (f : Nat → B) : (strv (part f 0)).toArray = #[.string ⟨#[]⟩, .string ⟨#[]⟩, .string ⟨#[]⟩, .string ⟨#[]⟩, .string ⟨#[]⟩, .string ⟨#[]⟩, .string ⟨#[]⟩, .string ⟨#[]⟩, .string ⟨#[]⟩, .string ⟨#[]⟩, .string ⟨#[]⟩, .string ⟨#[]⟩, .string ⟨#[]⟩, .string ⟨#[]⟩, .string ⟨#[]⟩, .string ⟨#[]⟩, .string ⟨#[]⟩, .string ⟨#[]⟩] := rfl
theorem part_step (f : Nat → B) (k : Nat) : (strv (part f k)).toArray.setIfInBounds k (.string ⟨(f k).toArray⟩) = (strv (part f (k + 1))).toArray := by
  rw [List.setIfInBounds_toArray]
  congr 1
  unfold strv part
  refine List.ext_getElem (by simp) fun j h1 h2 => ?_
  simp only [List.length_map, List.length_range] at h2
  rw [List.getElem_set]
  simp only [List.getElem_map, List.getElem_range]
  by_cases e : k = j
  · subst e; rw [if_pos rfl, if_pos (by omega)]
  · rw [if_neg e]
    congr 3
    by_cases hj : j < k
    · rw [if_pos hj, if_pos (by omega)]
    · rw [if_neg hj, if_neg (by omega)]
theorem part_full (f : Nat → B) : part f 18 = (List.range 18).map f := List.map_congr_left fun _ hj => if_pos (List.mem_range.1 hj)
theorem part_len (f : Nat → B) (k : Nat) : (strv (part f k)).length = 18 := by simp [strv, part]
theorem few_ends {L : List B} (hl : L.length = 18) (h : ∀ x ∈ L, x.length ≤ 1000) : fewB L := ⟨by omega, h⟩
theorem dsum_small (x : B) : (dsum x).length ≤ 1000 := by rw [dsum_length]; decide
theorem endsOf_small (sec : B) (i : Nat) : ∀ x ∈ endsOf sec i, x.length ≤ 1000 := by
  intro x hx
  simp only [endsOf, List.mem_map] at hx
  obtain ⟨k, _, rfl⟩ := hx
  exact chainN_len _ (dsum_small _) (by decide) _
theorem keysOf_succ (sec : B) (i : Nat) : keysOf sec (i + 1) = keysOf sec i ++ [keyOf sec i] := range_map_succ _ _
theorem keysOf_small (sec : B) (n : Nat) : ∀ x ∈ keysOf sec n, x.length ≤ 1000 := by
  intro x hx
  simp only [keysOf, List.mem_map] at hx
  obtain ⟨k, _, rfl⟩ := hx
  exact dsum_small _
set_option maxRecDepth 100000 in
set_option maxHeartbeats 2000000 in
theorem keys_any (sec : B) (h : Nat) (w : World) (ht : Tab w) (hs : sec.length ≤ 1000) (hh : h ≤ 8) :
    Calls Tryd.prog 15 #[.string ⟨sec.toArray⟩, .int .i64 h] w fun e w' => ∃ a' n c', e = .returned (.slice a' n c') ∧ n = 2 ^ h ∧ Own w' w.heap.size (.slice a' n c') n (keysOf sec (2 ^ h)) ∧ Below w.heap.size w w' := by
  obtain ⟨m, hm⟩ : ∃ m : Nat, m = 2 ^ h := ⟨_, rfl⟩
  have hm256 : m ≤ 256 := by have := pow_le h 0 hh; rw [hm]; simpa using this
  have hw : wrap64 ((2 : Int) ^ h) = (m : Int) := by rw [wrap_pow h hh, hm]; simp
  rw [← hm]
  have HT := Lib.hid ht
  have HW := Lib.hid hw
  clear hm ht hw
  go_enter Tryd.func15, Tryd.ntmps15
  go_wp2
  rw [HW.out]
  go_loopw [5, 11] (fun v i wr => ∃ k : Nat, k ≤ m ∧ i = .int .i64 k ∧ Hid (Own wr w.heap.size v k (keysOf sec k)) ∧ Hid (Below w.heap.size w wr)) (fun _ i _ => m - (intOf i).toNat)
  case atStart => exact ⟨0, by omega, rfl, Own.nil _ _, Below.refl _ _⟩
  case round =>
    obtain ⟨i, hi, rfl, hown, hb⟩ := hrel
    obtain ⟨wo, rfl⟩ : ∃ wo : World, wo = wr := ⟨_, rfl⟩
    by_cases hlt : i < m
    · have hsz := hb.out.size
      go_wp2
      go_loopw [14] (fun j wr => ∃ k : Nat, k ≤ 18 ∧ j = .int .i64 k ∧ Hid (IsRow wr wo.heap.size 59 (strv (part (fun k => chainN (startOf sec i k) 15) k)).toArray) ∧ Hid (Below wo.heap.size wo wr)) (fun j _ => 18 - (intOf j).toNat)
      case atStart => exact ⟨0, by omega, rfl, IsRow.made _ _ _, below_new _ _⟩
      case round =>
        obtain ⟨k, hk, rfl, hrow, hb2⟩ := hrel
        by_cases hlt2 : k < 18
        · have HTR : Hid (Tab wr) := Tab.below (Tab.below HT.out hb.out (Nat.le_refl _)) hb2.out (Nat.le_refl _)
          go_wp2_with fail
          refine (start_any sec i k _ HTR.out hs (by omega) (by omega)).mono ?_
          rintro e w1 ⟨rfl, hb3⟩
          have R1 : Hid (IsRow w1 wo.heap.size 59 (strv (part (fun k => chainN (startOf sec i k) 15) k)).toArray) := hrow.out.below hb3 hrow.out.inside
          have B1 : Hid (Below wo.heap.size wo w1) := hb2.out.trans (hb3.mono hb2.out.size)
          clear hrow hb2 hb3 HTR
          go_wp2_with fail
          refine (chain_any (startOf sec i k) 15 _ (Nat.le_trans (dsum_small _) (by decide)) (by decide)).mono ?_
          rintro e w2 ⟨rfl, hb4⟩
          have R2 : IsRow w2 wo.heap.size 59 (strv (part (fun k => chainN (startOf sec i k) 15) k)).toArray := R1.out.below hb4 R1.out.inside
          have B2 := B1.out.trans (hb4.mono B1.out.size)
          have f2 : w2.frozen? ⟨wo.heap.size, k, none⟩ = false := R2.open_ k
          have c2 : w2.cell? ⟨wo.heap.size, k, none⟩ = some ((strv (part (fun k => chainN (startOf sec i k) 15) k))[k]'(by rw [part_len]; exact hlt2)) := by
            rw [R2.get k]; simp
          have R3 := Lib.hid (R2.put k (.string ⟨(chainN (startOf sec i k) 15).toArray⟩))
          rw [part_step (fun k => chainN (startOf sec i k) 15) k] at R3
          have B3 : Hid (Below wo.heap.size wo (w2.setCell ⟨wo.heap.size, k, none⟩ (.string ⟨(chainN (startOf sec i k) 15).toArray⟩))) := B2.setCell (p := ⟨wo.heap.size, k, none⟩) (Nat.le_refl _) _
          clear R1 B1 R2 B2 hb4
          go_wp2
          go_roundw
          case rel => exact ⟨k + 1, by omega, by go_num, R3, B3⟩
          case measure => simp [intOf]; omega
        · obtain rfl : k = 18 := by omega
          rw [part_full] at hrow
          have T1 : Hid (Txt wr wr.heap.size (some ⟨wo.heap.size, 0, none⟩) (endsOf sec i)) := Txt.of_row hrow.out hrow.out.inside
          have HTR : Hid (Tab wr) := Tab.below (Tab.below HT.out hb.out (Nat.le_refl _)) hb2.out (Nat.le_refl _)
          clear hrow
          go_wp2_with fail
          refine (key_any (some ⟨wo.heap.size, 0, none⟩) 18 18 (endsOf sec i) _ HTR.out T1.out (endsOf_len _ _).symm (few_ends (endsOf_len _ _) (endsOf_small _ _))).mono ?_
          rintro e w1 ⟨rfl, hb3⟩
          have B1 := hb2.out.trans (hb3.mono hb2.out.size)
          have O1 : Own w1 w.heap.size _ i (keysOf sec i) := hown.out.later B1
          clear T1 HTR hb2 hb3
          have hs1 := Nat.le_trans hsz B1.size
          go_wp2_with (at_builtin; refine wpList_app1 rfl _ _ (by rfl) w.heap.size _ i _ (keyOf sec i) w1.heap.size (by rfl) (Own.later O1 (below_new w1 _)) (by rfl) (heap_alloc_new w1 _) (by omega) (Nat.le_trans hs1 (below_new w1 _).size) ?_; intro g cap w2 ho2 hg2 hlt2 hsz2)
          have O2 : Hid (Own w2 w.heap.size (.slice (some ⟨g, 0, none⟩) (i + 1) cap) (i + 1) (keysOf sec (i + 1))) := by
            show Own _ _ _ _ _
            rw [keysOf_succ]
            exact ho2
          have BB := hb.out.trans (B1.mono hsz)
          have B2 : Hid (Below w.heap.size w w2) := (BB.alloc BB.size _).grown hg2 (Nat.le_trans hs1 (below_new w1 _).size) (fun k hk => (hlt2 k hk).1)
          clear ho2 hg2 hlt2 BB B1 O1
          go_roundw
          case rel => exact ⟨i + 1, by omega, by go_num, O2, B2⟩
          case measure => simp [intOf]; omega
    · obtain rfl : i = m := by omega
      obtain ⟨a2, c2, hv⟩ := hown.out.form
      rw [hv] at hown ⊢
      go_wp2
      go_ret
      exact ⟨_, _, _, rfl, rfl, hown.out, hb.out⟩
set_option maxRecDepth 100000 in
set_option maxHeartbeats 1000000 in
theorem public_any (sec : B) (h : Nat) (w : World) (ht : Tab w) (hs : sec.length ≤ 1000) (hh : h ≤ 8) :
    Calls Tryd.prog 6 #[.string ⟨sec.toArray⟩, .int .i64 h] w fun e w' => e = .returned (.tuple #[.string ⟨(pubOf sec h).toArray⟩, .int .i64 0]) ∧ Below w.heap.size w w' := by
  have hb : (decide (0 ≤ (h : Int)) && decide ((h : Int) ≤ 8)) = true := by simp; omega
  have HB := Lib.hid hb
  clear hb
  go_enter Tryd.func6, Tryd.ntmps6
  go_wp2_with fail
  refine (isHeight_any (h : Int) _).mono ?_
  rintro e w' ⟨rfl, rfl⟩
  rw [HB.out]
  go_wp2_with fail
  refine (keys_any sec h _ ht hs hh).mono ?_
  rintro e w1 ⟨a1, n1, c1, rfl, hn, ho, hb1⟩
  have HN := Lib.hid hn
  have HT1 : Hid (Tab w1) := Tab.below ht hb1 (Nat.le_refl _)
  have HB1 := Lib.hid hb1
  have TX : Hid (Txt w1 w1.heap.size a1 (keysOf sec (2 ^ h))) := ho.txt.2
  clear hn ht hb1 ho
  go_wp2_with fail
  refine (root_any a1 n1 c1 h (keysOf sec (2 ^ h)) _ HT1.out TX.out HN.out (keysOf_len _ _) hh (keysOf_small _ _)).mono ?_
  rintro e w2 ⟨rfl, hb2⟩
  go_wp2
  go_ret2
  exact ⟨rfl, HB1.out.trans (hb2.mono HB1.out.size)⟩
set_option maxRecDepth 100000 in
set_option maxHeartbeats 1000000 in
theorem public_no (sec : B) (h : Int) (w : World) (hh : h < 0 ∨ 8 < h) :
    Calls Tryd.prog 6 #[.string ⟨sec.toArray⟩, .int .i64 h] w fun e w' => e = .returned (.tuple #[.string ⟨#[]⟩, .int .i64 1]) ∧ w = w' := by
  have hb : (decide (0 ≤ h) && decide (h ≤ 8)) = false := by simp; omega
  have HB := Lib.hid hb
  clear hb
  go_enter Tryd.func6, Tryd.ntmps6
  go_wp2_with fail
  refine (isHeight_any h _).mono ?_
  rintro e w' ⟨rfl, rfl⟩
  rw [HB.out]
  go_wp2
  go_ret2
  exact ⟨rfl, rfl⟩
end Go.Proofs.YtanlpcdljclnmaaDoor.Sl
