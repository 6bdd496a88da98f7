/- P5.1, SweepMatchesReference: its walk. -/
import Derived.Test.YtlgmlgogpohgoaaSwRef
namespace Go.Proofs.Ytlgmlgogpohgoaa.Sw
open Go.RowKit Go.Sort Go.Shelf
open Go.Proofs.Ytlgmlgogpohgoaa.Geo hiding intOf
set_option maxRecDepth 100000 in
set_option maxHeartbeats 8000000 in
theorem matches_any (a : Option Addr) (n cap : Nat) (l : List Sg) (W : World) (hl : Segs W W.heap.size a l) (hn : n = l.length) :
    Calls Try.prog 9 #[.slice a n cap] W fun e w' => e = .returned (.bool true) ∧ Below W.heap.size W w' := by
  subst hn
  have HL := Lib.hid hl
  clear hl
  by_cases h60 : 60 < l.length
  · have h1 : (60 : Int) < (l.length : Int) := by omega
    go_enter Try.func9, Try.ntmps9
    go_wp2_with fail
    refine (head_any _).mono ?_
    rintro e w1 ⟨rfl, b1⟩
    go_wp2
    go_ret
    exact ⟨rfl, b1⟩
  · have h1 : ¬ (60 : Int) < (l.length : Int) := by omega
    go_enter Try.func9, Try.ntmps9
    go_wp2_with fail
    refine (head_any _).mono ?_
    rintro e w1 ⟨rfl, b1⟩
    have L1 := Lib.hid (HL.out.later b1)
    have B1 := Lib.hid b1
    clear b1 HL
    go_wp2_with fail
    refine (all_any a _ cap l w1 L1.out rfl (by omega)).mono ?_
    rintro e w2 ⟨⟨v, rfl, ho⟩, b2⟩
    have L2 := Lib.hid (L1.out.later b2)
    have B2 := Lib.hid (B1.out.trans (b2.mono B1.out.size))
    have O2 := Lib.hid ho
    clear b2 ho L1 B1
    go_wp2_with fail
    refine (refall_any a _ cap l w2 L2.out rfl (by omega)).mono ?_
    rintro e w3 ⟨⟨v', rfl, ho⟩, b3⟩
    have B3 := Lib.hid (B2.out.trans (b3.mono B2.out.size))
    have O3 := Lib.hid (Own.below O2.out b3)
    have P3 := Lib.hid ho
    have hal := ans_len l
    have hll : l.length * l.length ≤ 60 * 60 := Nat.mul_le_mul (by omega) (by omega)
    clear b3 ho L2 B2 O2
    go_wp2_with fail
    refine (same_any _ _ v v' (ansN l) w3 O3.out P3.out (by omega)).mono ?_
    rintro e w4 ⟨rfl, b4⟩
    have B4 := Lib.hid (B3.out.trans (b4.mono B3.out.size))
    clear b4 B3 O3 P3
    go_wp2
    go_ret
    exact ⟨rfl, B4.out⟩
end Go.Proofs.Ytlgmlgogpohgoaa.Sw
