/- P4.2, RingAreas: its walk. -/
import Derived.Test.YtlgmlgogpohgoaaRgLawTurn
import Derived.Test.YtlgmlgogpohgoaaRgRing
namespace Go.Proofs.Ytlgmlgogpohgoaa.Rg
open Go.RowKit Go.Sort Go.Shelf
open Go.Proofs.Ytlgmlgogpohgoaa.Geo hiding intOf Apart
theorem twice_small (l : List Pt) : -17592186044416000 ≤ twiceN l ∧ twiceN l ≤ 17592186044416000 := by
  unfold twiceN
  split
  · rename_i hf
    obtain ⟨_, h2, hn⟩ := fits_parts hf
    have := tw_bound hn (List.finRange l.length)
    rw [List.length_finRange] at this
    omega
  · omega
set_option maxRecDepth 100000 in
set_option maxHeartbeats 8000000 in
theorem areas_any (a : Option Addr) (n cap q : Nat) (l : List Pt) (w : World) (hl : Pts w w.heap.size a l) (hn : n = l.length) (hc : n ≤ cap) (hm : cap ≤ maxLen) (hq : q < 256) :
    Calls Try.prog 4 #[.slice a n cap, .int .u8 q] w fun e w' => e = .returned (.bool true) ∧ Below w.heap.size w w' := by
  have L0 := Lib.hid hl
  have HN := Lib.hid hn
  clear hl hn
  by_cases h40 : 40 < n
  · have i1 : (40 : Int) < (n : Int) := by omega
    go_enter Try.func4, Try.ntmps4
    go_wp2_with fail
    refine (head_any w).mono ?_
    rintro e w1 ⟨rfl, b1⟩
    go_wp2
    go_ret
    exact ⟨rfl, b1⟩
  · have i1 : ¬ (40 : Int) < (n : Int) := by omega
    obtain ⟨N, hN⟩ : ∃ N, twiceN l = N := ⟨_, rfl⟩
    have hb := twice_small l
    rw [hN] at hb
    obtain ⟨hb1, hb2⟩ := hb
    have T1 := Lib.hid hN
    have T2 := Lib.hid (show twiceN l.reverse = -N by rw [twice_reverse, hN])
    have T3 := Lib.hid (show twiceN (l.drop (q % n) ++ l.take (q % n)) = N by
      rw [HN.out]
      by_cases h0 : l.length = 0
      · rw [List.eq_nil_of_length_eq_zero h0] at hN ⊢; simp; exact hN
      · rw [twice_turn l _ (Nat.le_of_lt (Nat.mod_lt _ (by omega))), hN])
    have hwn : IntKind.i64.wrap (-N) = -N := IntWalk.i64_in _ (by omega)
    have HNZ := Lib.hid (fun (h : N = 0) => (show simpleN l = false by
      cases hs : simpleN l with
      | false => rfl
      | true => exact absurd (hN.trans h) (twice_ne hs)))
    clear hN
    go_enter Try.func4, Try.ntmps4
    go_wp2_with fail
    refine (head_any w).mono ?_
    rintro e w1 ⟨rfl, b1⟩
    have L1 := Lib.hid (L0.out.later b1)
    have B1 := Lib.hid b1
    clear b1 L0
    go_wp2_with fail
    refine (tw_is a n cap l w1 T1.out L1.out HN.out hc hm).mono ?_
    rintro e w2 ⟨rfl, b2⟩
    have L2 := Lib.hid (L1.out.later b2)
    have B2 := Lib.hid (B1.out.trans (b2.mono B1.out.size))
    clear b2 L1 B1
    go_wp2_with fail
    refine (back_of a n cap l w2 L2.out HN.out (by omega)).mono ?_
    rintro e w3 ⟨⟨a3, c3, rfl, h31, h32, hp3, hn3⟩, b3⟩
    have L3 := Lib.hid (L2.out.later b3)
    have B3 := Lib.hid (B2.out.trans (b3.mono B2.out.size))
    have P3 := Lib.hid hp3
    have N3 := Lib.hid hn3
    clear b3 L2 B2 hp3 hn3
    go_wp2_with fail
    refine (tw_is a3 n c3 l.reverse w3 T2.out P3.out N3.out h31 h32).mono ?_
    rintro e w4 ⟨rfl, b4⟩
    have L4 := Lib.hid (L3.out.later b4)
    have B4 := Lib.hid (B3.out.trans (b4.mono B3.out.size))
    clear b4 L3 B3 P3 N3 h31 h32
    go_wp2_with fail
    refine (lawTurned_of a n cap q l w4 L4.out HN.out hc (by omega) hq).mono ?_
    rintro e w5 ⟨⟨a5, c5, rfl, h51, h52, hp5, hn5⟩, b5⟩
    have L5 := Lib.hid (L4.out.later b5)
    have B5 := Lib.hid (B4.out.trans (b5.mono B4.out.size))
    have P5 := Lib.hid hp5
    have N5 := Lib.hid hn5
    clear b5 L4 B4 hp5 hn5
    go_wp2_with fail
    refine (tw_is a5 n c5 _ w5 T3.out P5.out N5.out h51 h52).mono ?_
    rintro e w6 ⟨rfl, b6⟩
    have L6 := Lib.hid (L5.out.later b6)
    have B6 := Lib.hid (B5.out.trans (b6.mono B5.out.size))
    clear b6 L5 B5 P5 N5 h51 h52
    by_cases hN0 : N = 0
    · have z1 : (N != 0) = false := by simp [hN0]
      have HS := Lib.hid (HNZ.out hN0)
      clear hN0
      go_wp2_with fail
      refine (sm_is a n cap l w6 HS.out L6.out HN.out hc hm).mono ?_
      rintro e w7 ⟨rfl, b7⟩
      have B7 := Lib.hid (B6.out.trans (b7.mono B6.out.size))
      clear b7 L6 B6
      go_wp2
      go_ret
      exact ⟨rfl, B7.out⟩
    · have z1 : (N != 0) = true := by simp [hN0]
      clear hN0
      go_wp2
      go_ret
      exact ⟨rfl, B6.out⟩
theorem areas_u8 (a : Option Addr) (n cap : Nat) (l : List Pt) (x : Int) (W : World) (hl : Pts W W.heap.size a l) (hn : n = l.length) (hc : n ≤ cap) (hm : cap ≤ maxLen) (hx : 0 ≤ x ∧ x ≤ 255) :
    Calls Try.prog 4 #[.slice a n cap, .int .u8 x] W fun e w' => e = .returned (.bool true) ∧ Below W.heap.size W w' := by
  obtain ⟨q, rfl⟩ : ∃ q : Nat, x = (q : Int) := ⟨x.toNat, by omega⟩
  exact areas_any a n cap q l W hl hn hc hm (by omega)
end Go.Proofs.Ytlgmlgogpohgoaa.Rg
