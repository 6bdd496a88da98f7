/- The examples at the head of each law: they hold. Few: at most 30 short texts. -/
import Derived.Test.YtjaaffchlaillaaDoorDgJoin
import Derived.Test.YtjaaffchlaillaaDoorDgIs
namespace Go.Proofs.YtjaaffchlaillaaDoor.Dg
open Go.RowKit
theorem is_of (s : ByteArray) (b : Bool) (w : World) (hs : s.size ≤ maxLen) (hb : isDig s.data.toList = b) :
    Calls Tryd.prog 14 #[.string s] w fun e w' => e = .returned (.bool b) ∧ w = w' := hb ▸ is_any s w hs
theorem sum_of (s : ByteArray) (l : List UInt8) (w : World) (hs : s.size ≤ maxLen) (hl : s.data.toList = l) :
    Calls Tryd.prog 10 #[.string s] w fun e w' => e = .returned (.string ⟨(dsum l).toArray⟩) ∧ Below w.heap.size w w' := hl ▸ sum_any s w hs
def exA : ByteArray := ⟨#[97]⟩
def exB : ByteArray := ⟨#[98, 99]⟩
theorem dsum_ne {l l' : List UInt8} (hl : l.length ≤ 7) (hl' : l'.length ≤ 7) (h : l ≠ l') : (dsum l == dsum l') = false := by
  rw [beq_eq_false_iff_ne]
  exact fun e => h (dsum_short hl hl' e)
theorem itoa_small {n : Nat} (h : n < 10) : Lib.itoa (n : Int) = [UInt8.ofNat (48 + n)] := by
  unfold Lib.itoa
  rw [if_neg (by omega), Int.toNat_natCast, Lib.decDigits_one h]
set_option maxHeartbeats 1000000 in
theorem head_any (w : World) (ht : Tab w) :
    Calls Tryd.prog 8 #[] w fun e w' => e = .returned (.bool true) ∧ Below w.heap.size w w' := by
  go_enter Tryd.func8, Tryd.ntmps8
  go_wp2_with fail
  refine (is_of _ true _ (by decide) (by decide)).mono ?_
  rintro e w' ⟨rfl, rfl⟩
  go_wp2_with fail
  refine (is_of _ false _ (by decide) (by decide)).mono ?_
  rintro e w' ⟨rfl, rfl⟩
  go_wp2_with fail
  refine (is_of _ false _ (by decide) (by decide)).mono ?_
  rintro e w' ⟨rfl, rfl⟩
  go_wp2_with fail
  have ht1 : Tab (w.alloc (.cells #[.string exA, .string exB] 9)) := ht.below ((Below.refl w.heap.size w).alloc (Nat.le_refl _) _) (Nat.le_refl _)
  have hs1 : Strs (w.alloc (.cells #[.string exA, .string exB] 9)) (w.alloc (.cells #[.string exA, .string exB] 9)).heap.size (some ⟨w.heap.size, 0, none⟩) [exA, exB] := by
    intro _
    refine ⟨_, 0, rfl, by simp, fun i s hi => ?_⟩
    rw [Nat.zero_add]
    have hc := (IsRow.made w 9 #[.string exA, .string exB]).get i
    match i, hi with
    | 0, hi => simp at hi; subst hi; exact hc
    | 1, hi => simp at hi; subst hi; exact hc
  have hj : joined (lists [exA, exB]) = [49, 58, 97, 50, 58, 98, 99] := by
    have e1 := itoa_small (n := 1) (by decide)
    have e2 := itoa_small (n := 2) (by decide)
    show Lib.itoa ((1 : Nat) : Int) ++ 58 :: ([97] ++ (Lib.itoa ((2 : Nat) : Int) ++ 58 :: ([98, 99] ++ []))) = _
    rw [e1, e2]
    rfl
  have hl := list_any (some ⟨w.heap.size, 0, none⟩) 2 [exA, exB] _ ht1 hs1 (by decide) (by rw [hj]; decide)
  rw [hj] at hl
  refine hl.mono ?_
  rintro e w1 ⟨rfl, hb1⟩
  have H1 : Hid (Below w.heap.size w w1) := ((Below.refl w.heap.size w).alloc (Nat.le_refl _) _).trans (hb1.mono (by simp))
  clear ht1 hs1 hj hl hb1 ht
  have eq1 : (dsum [49, 58, 97, 50, 58, 98, 99] == dsum [49, 58, 97, 50, 58, 98, 99]) = true := beq_self_eq_true _
  have ne1 : (dsum [] == dsum [0]) = false := dsum_ne (by decide) (by decide) (by decide)
  have ne2 : (dsum [1] == dsum []) = false := dsum_ne (by decide) (by decide) (by decide)
  have E1 := Lib.hid eq1
  have E2 := Lib.hid ne1
  have E3 := Lib.hid ne2
  clear eq1 ne1 ne2
  go_wp2_with fail
  refine (sum_of _ [49, 58, 97, 50, 58, 98, 99] _ (by decide) (by decide)).mono ?_
  rintro e w2 ⟨rfl, hb2⟩
  have H2 : Hid (Below w.heap.size w w2) := H1.out.trans (hb2.mono H1.out.size)
  clear H1 hb2
  generalize dsum [49, 58, 97, 50, 58, 98, 99] = d1 at *
  go_wp2_with fail
  refine (sum_of _ [] _ (by decide) (by decide)).mono ?_
  rintro e w3 ⟨rfl, hb3⟩
  have H3 : Hid (Below w.heap.size w w3) := H2.out.trans (hb3.mono H2.out.size)
  clear H2 hb3 E1
  generalize dsum [] = d2 at *
  go_wp2_with fail
  refine (sum_of _ [0] _ (by decide) (by decide)).mono ?_
  rintro e w4 ⟨rfl, hb4⟩
  have H4 : Hid (Below w.heap.size w w4) := H3.out.trans (hb4.mono H3.out.size)
  have e2 := E2.out
  clear H3 hb4 E2
  generalize dsum [0] = d3 at *
  go_wp2_with fail
  refine (sum_of _ [1] _ (by decide) (by decide)).mono ?_
  rintro e w5 ⟨rfl, hb5⟩
  have H5 : Hid (Below w.heap.size w w5) := H4.out.trans (hb5.mono H4.out.size)
  have e3 := E3.out
  clear H4 hb5 E3 e2
  go_wp2_with fail
  refine (sum_of _ [] _ (by decide) (by decide)).mono ?_
  rintro e w6 ⟨rfl, hb6⟩
  have H6 : Hid (Below w.heap.size w w6) := H5.out.trans (hb6.mono H5.out.size)
  clear H5 hb6
  go_wp2
  go_ret
  exact ⟨rfl, H6.out⟩
end Go.Proofs.YtjaaffchlaillaaDoor.Dg
