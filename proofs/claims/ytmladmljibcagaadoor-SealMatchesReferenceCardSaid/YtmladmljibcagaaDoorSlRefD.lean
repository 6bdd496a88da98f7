/- The reference's Start, Key, Keys, up, Root, parent, Public. -/
import Derived.Test.YtmladmljibcagaaDoorSlSoundWalk
namespace Go.Proofs.YtmladmljibcagaaDoor.Sl
open Go.RowKit
open Go.Proofs.YtmladmljibcagaaDoor.Dg hiding intOf

set_option maxRecDepth 100000 in
set_option maxHeartbeats 2000000 in
theorem refstart_any (sec : B) (i k : Nat) (w : World) (hs : sec.length ≤ 1000) (hi : i ≤ 1000) (hk : k ≤ 1000) :
    Calls Tryd.prog 39 #[.string ⟨sec.toArray⟩, .int .i64 i, .int .i64 k] w fun e w' => e = .returned (.string ⟨(startOf sec i k).toArray⟩) ∧ Below w.heap.size w w' := by
  go_enter Tryd.func39, Tryd.ntmps39
  go_wp2_with fail
  refine (decimal_any i _ (by omega)).mono ?_
  rintro e w' ⟨rfl, rfl⟩
  go_wp2_with fail
  refine (decimal_any k _ (by omega)).mono ?_
  rintro e w' ⟨rfl, rfl⟩
  go_wp2_with fail
  have bx := below_new w (.cells (strv [sec, Lib.itoa (i : Int), Lib.itoa (k : Int)]).toArray 9)
  refine (reflistB (some ⟨w.heap.size, 0, none⟩) 3 3 [sec, Lib.itoa (i : Int), Lib.itoa (k : Int)] _ (row_list w _ _ _ rfl) rfl (few_start sec i k hs (by omega) (by omega))).mono ?_
  rintro e w1 ⟨rfl, hb1⟩
  have H3 := Lib.hid (bx.trans (hb1.mono bx.size))
  clear hb1 bx
  go_wp2
  go_ret
  exact ⟨rfl, H3.out⟩
set_option maxRecDepth 100000 in
set_option maxHeartbeats 2000000 in
theorem refkey_any (sec : B) (i : Nat) (w : World) (hs : sec.length ≤ 1000) (hi : i ≤ 1000) :
    Calls Tryd.prog 56 #[.string ⟨sec.toArray⟩, .int .i64 i] w fun e w' => e = .returned (.string ⟨(keyOf sec i).toArray⟩) ∧ Below w.heap.size w w' := by
  go_enter Tryd.func56, Tryd.ntmps56
  go_wp2
  go_loopw [5, 6] (fun v j wr => ∃ k : Nat, k ≤ 18 ∧ j = .int .i64 k ∧ Hid (Own wr w.heap.size v k (endsTo sec i k)) ∧ Hid (Below w.heap.size w wr)) (fun _ j _ => 18 - (intOf j).toNat)
  case atStart => exact ⟨0, by omega, rfl, Own.nil _ _, Below.refl _ _⟩
  case round =>
    obtain ⟨k, hk, rfl, hown, hb⟩ := hrel
    by_cases hlt : k < 18
    · go_wp2_with fail
      refine (refstart_any sec i k _ hs hi (by omega)).mono ?_
      rintro e w1 ⟨rfl, hb1⟩
      have O1 := Lib.hid (hown.out.later hb1)
      have B1 := Lib.hid (hb.out.trans (hb1.mono hb.out.size))
      clear hown hb hb1
      go_wp2_with fail
      refine (refchain_any (startOf sec i k) 15 _ (Nat.le_trans (dsum_small _) (by decide)) (by decide)).mono ?_
      rintro e w' ⟨rfl, rfl⟩
      go_wp2_with (at_builtin; refine wpList_app1 rfl _ _ (by rfl) w.heap.size _ k _ (chainN (startOf sec i k) 15) w1.heap.size (by rfl) (Own.later O1.out (below_new w1 _)) (by rfl) (heap_alloc_new w1 _) (by omega) (Nat.le_trans B1.out.size (below_new w1 _).size) ?_; intro g cap w2 ho2 hg2 hlt2 hsz2)
      have O2 : Hid (Own w2 w.heap.size (.slice (some ⟨g, 0, none⟩) (k + 1) cap) (k + 1) (endsTo sec i (k + 1))) := by
        show Own _ _ _ _ _
        rw [endsTo_succ]
        exact ho2
      have B2 : Hid (Below w.heap.size w w2) := (B1.out.alloc B1.out.size _).grown hg2 (Nat.le_trans B1.out.size (below_new w1 _).size) (fun k hk => (hlt2 k hk).1)
      clear ho2 hg2 hlt2 hsz2 O1 B1
      go_roundw
      case rel => exact ⟨k + 1, by omega, by go_num, O2, B2⟩
      case measure => simp [intOf]; omega
    · obtain rfl : k = 18 := by omega
      obtain ⟨ge, ce, rfl⟩ := hown.out.pos (by decide)
      go_wp2_with fail
      refine (reflistB _ 18 ce (endsTo sec i 18) _ hown.out.txt.2 (map_range_len _ _).symm ⟨by rw [show (endsTo sec i 18).length = 18 from map_range_len _ _]; decide, ends_small sec i 18⟩).mono ?_
      rintro e w1 ⟨rfl, hb1⟩
      have B1 := Lib.hid (hb.out.trans (hb1.mono hb.out.size))
      clear hown hb hb1
      go_wp2
      go_ret
      exact ⟨rfl, B1.out⟩
set_option maxRecDepth 100000 in
set_option maxHeartbeats 2000000 in
theorem refkeys_any (sec : B) (h : Nat) (w : World) (hs : sec.length ≤ 1000) (hh : h ≤ 8) :
    Calls Tryd.prog 30 #[.string ⟨sec.toArray⟩, .int .i64 h] w fun e w' => ∃ g n c, e = .returned (.slice (some ⟨g, 0, none⟩) n c) ∧ n = 2 ^ h ∧ Own w' w.heap.size (.slice (some ⟨g, 0, none⟩) n c) n (keysOf sec (2 ^ h)) ∧ Below w.heap.size w w' := by
  obtain ⟨m, hm⟩ : ∃ m : Nat, 2 ^ h = m := ⟨_, rfl⟩
  have hm256 : m ≤ 256 := by rw [← hm]; exact Nat.pow_le_pow_right (n := 2) (by decide) hh
  have hm0 : 0 < m := by rw [← hm]; exact Nat.two_pow_pos h
  have HM := Lib.hid hm
  rw [hm]
  clear hm
  go_enter Tryd.func30, Tryd.ntmps30
  go_wp2
  go_loopw [5, 6] (fun v j wr => ∃ k : Nat, k ≤ m ∧ j = .int .i64 k ∧ Hid (Own wr w.heap.size v k (keysOf sec k)) ∧ Hid (Below w.heap.size w wr)) (fun _ j _ => m - (intOf j).toNat)
  case atStart => exact ⟨0, by omega, rfl, Own.nil _ _, Below.refl _ _⟩
  case round =>
    obtain ⟨k, hk, rfl, hown, hb⟩ := hrel
    by_cases hlt : k < m
    · go_wp2_with fail
      refine (power_of h m _ hh HM.out).mono ?_
      rintro e w' ⟨rfl, rfl⟩
      go_wp2_with fail
      refine (refkey_any sec k _ hs (by omega)).mono ?_
      rintro e w1 ⟨rfl, hb1⟩
      have O1 := Lib.hid (hown.out.later hb1)
      have B1 := Lib.hid (hb.out.trans (hb1.mono hb.out.size))
      clear hown hb hb1
      go_wp2_with (at_builtin; refine wpList_app1 rfl _ _ (by rfl) w.heap.size _ k _ (keyOf sec k) w1.heap.size (by rfl) (Own.later O1.out (below_new w1 _)) (by rfl) (heap_alloc_new w1 _) (by omega) (Nat.le_trans B1.out.size (below_new w1 _).size) ?_; intro g cap w2 ho2 hg2 hlt2 hsz2)
      have O2 : Hid (Own w2 w.heap.size (.slice (some ⟨g, 0, none⟩) (k + 1) cap) (k + 1) (keysOf sec (k + 1))) := by
        show Own _ _ _ _ _
        rw [keysOf_succ]
        exact ho2
      have B2 : Hid (Below w.heap.size w w2) := (B1.out.alloc B1.out.size _).grown hg2 (Nat.le_trans B1.out.size (below_new w1 _).size) (fun k hk => (hlt2 k hk).1)
      clear ho2 hg2 hlt2 hsz2 O1 B1
      go_roundw
      case rel => exact ⟨k + 1, by omega, by go_num, O2, B2⟩
      case measure => simp [intOf]; omega
    · obtain rfl : m = k := by omega
      obtain ⟨ge, ce, rfl⟩ := hown.out.pos hm0
      go_wp2_with fail
      refine (power_of h m _ hh HM.out).mono ?_
      rintro e w' ⟨rfl, rfl⟩
      go_wp2
      go_ret
      exact ⟨_, _, _, rfl, rfl, hown.out, hb.out⟩
set_option maxRecDepth 100000 in
set_option maxHeartbeats 2000000 in
theorem parent_any (t o : B) (b : Bool) (w : World) (ht : t.length ≤ 1000) (ho : o.length ≤ 1000) :
    Calls Tryd.prog 46 #[.string ⟨t.toArray⟩, .string ⟨o.toArray⟩, .bool b] w fun e w' => e = .returned (.string ⟨(dsum (if b = true then nodeT o t else nodeT t o)).toArray⟩) ∧ Below w.heap.size w w' := by
  go_enter Tryd.func46, Tryd.ntmps46
  cases b with
  | true =>
    go_wp2_with fail
    have bx := below_new w (.cells (strv [nodeB, o, t]).toArray 9)
    refine (reflistB (some ⟨w.heap.size, 0, none⟩) 3 3 [nodeB, o, t] _ (row_list w _ _ _ rfl) rfl (few_node ho ht)).mono ?_
    rintro e w3 ⟨rfl, hb4⟩
    have H3 := Lib.hid (bx.trans (hb4.mono bx.size))
    clear hb4 bx
    go_wp2
    go_ret
    exact ⟨rfl, H3.out⟩
  | false =>
    go_wp2_with fail
    have bx := below_new w (.cells (strv [nodeB, t, o]).toArray 9)
    refine (reflistB (some ⟨w.heap.size, 0, none⟩) 3 3 [nodeB, t, o] _ (row_list w _ _ _ rfl) rfl (few_node ht ho)).mono ?_
    rintro e w3 ⟨rfl, hb4⟩
    have H3 := Lib.hid (bx.trans (hb4.mono bx.size))
    clear hb4 bx
    go_wp2
    go_ret
    exact ⟨rfl, H3.out⟩
end Go.Proofs.YtmladmljibcagaaDoor.Sl
