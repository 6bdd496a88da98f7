/- tag: around: the tags on both sides of a key. -/
import Derived.Test.YtlknbjaippfemaaTgSearch
import Derived.Deep.RegionHeld3
namespace Go.Proofs.Ytlknbjaippfemaa.Tg
open Go.RowKit
open Lx (IsRow alloc1 drew_below)
theorem TagsT.take {w : World} {Z : Nat} {ao : Option Addr} {l : List T} (h : TagsT w Z ao l) (k : Nat) : TagsT w Z ao (l.take k) := fun h0 => by
  rw [List.length_take] at h0
  obtain ⟨g, off, rfl, hg, hc⟩ := h (by omega)
  refine ⟨g, off, rfl, hg, fun j t hj => ?_⟩
  rw [List.getElem?_take] at hj
  split at hj
  · exact hc _ _ hj
  · cases hj
theorem TagsT.drop {w : World} {Z g off : Nat} {l : List T} (h : TagsT w Z (some ⟨g, off, none⟩) l) (k : Nat) (hk : k < l.length) : TagsT w Z (some ⟨g, off + k * 2, none⟩) (l.drop k) := fun _ => by
  obtain ⟨g', off', e, hg, hc⟩ := h (by omega)
  injection e with e
  injection e with e1 e2
  subst e1 e2
  refine ⟨g, off + k * 2, rfl, hg, fun j t hj => ?_⟩
  rw [List.getElem?_drop] at hj
  have := hc _ _ hj
  rw [show off + k * 2 + j * 2 = off + (k + j) * 2 by omega]
  exact this
/-- a part of a slice of tags. -/
def Part (w : World) (v : Value) (l : List T) : Prop := ∃ a n c, v = .slice a n c ∧ n = l.length ∧ n ≤ c ∧ TagsT w w.heap.size a l
set_option maxRecDepth 100000 in
set_option maxHeartbeats 4000000 in
theorem around_any (ao : Option Addr) (n cap : Nat) (l : List T) (key : B) (w : World) (hn : l.length = n) (ha : TagsT w w.heap.size ao l) (hc : n ≤ cap) (hm : n ≤ 100000) (hl : Inc l) :
    Calls Try.prog 24 #[.slice ao n cap, .string ⟨key.toArray⟩] w fun e w' => (∃ v1 v2, e = .returned (.tuple #[v1, v2]) ∧ Part w' v1 (lowT l key) ∧ Part w' v2 (upT l key)) ∧ Below w.heap.size w w' := by
  have HA := Lib.hid ha
  have HN := Lib.hid hn
  have HI := Lib.hid hl
  have HC := Lib.hid hc
  have hc' : (n : Int) ≤ (cap : Int) := by omega
  have hm' : (n : Int) ≤ 100000 := by omega
  have KS := Lib.hid (search_any ao n cap l key w hn ha hc hm hl)
  clear hn ha hl
  go_enter Try.func24, Try.ntmps24
  go_upto_region 1 with fail
  go_wp2_with (refine KS.out.mono ?_; rintro e w2 ⟨⟨i, f, rfl, hcut, hf1, hf2⟩, B2⟩)
  · have hf : f = true := by assumption
    subst hf
    obtain ⟨hi, he⟩ := hf1 rfl
    have LO := Lib.hid hcut.low
    have UP := Lib.hid (hcut.up_found HI.out hi he)
    obtain ⟨g, off, rfl, hg, x0, x1⟩ := HA.out.at_ hi
    have hi' := hi
    rw [HN.out] at hi'
    have BB := Lib.hid (B2.trans ((drew_below w2).mono B2.size))
    have H2 := Lib.hid (HA.out.later BB.out)
    clear hf1 hf2 hcut hi he x0 x1 B2 hc
    have i1 : (0 : Int) ≤ (i : Int) := by omega
    have i2 : (i : Int) ≤ (n : Int) := by omega
    have i3 : (i : Int) ≤ (cap : Int) := by omega
    have i4 : (i : Int) + 1 ≤ (n : Int) := by omega
    have i5 : (i : Int) + 1 ≤ (cap : Int) := by omega
    by_cases hq : cap = i + 1
    · go_region
      go_wp2
      go_ret2
      have hn : n = i + 1 := by omega
      refine ⟨⟨_, _, rfl, ⟨_, _, _, rfl, ?_, ?_, ?_⟩, ⟨_, _, _, rfl, ?_, ?_, ?_⟩⟩, BB.out⟩
      · rw [LO.out, List.length_take, HN.out]; omega
      · omega
      · rw [LO.out]; exact H2.out.take i
      · rw [UP.out, List.length_drop, HN.out]
      · omega
      · rw [UP.out, List.drop_eq_nil_of_le (by rw [HN.out]; omega)]; exact TagsT.nil
    · go_region
      go_wp2
      go_ret2
      refine ⟨⟨_, _, rfl, ⟨_, _, _, rfl, ?_, ?_, ?_⟩, ⟨_, _, _, rfl, ?_, ?_, ?_⟩⟩, BB.out⟩
      · rw [LO.out, List.length_take, HN.out]; omega
      · omega
      · rw [LO.out]; exact H2.out.take i
      · rw [UP.out, List.length_drop, HN.out]
      · have := HC.out; omega
      · rw [UP.out]
        by_cases h0 : i + 1 < l.length
        · exact H2.out.drop (i + 1) h0
        · rw [List.drop_eq_nil_of_le (by omega)]; exact TagsT.nil
  · have hf : f = false := by cases f with
      | false => rfl
      | true => contradiction
    subst hf
    have hne := hf2 rfl
    have LO := Lib.hid hcut.low
    have UP := Lib.hid (hcut.up_none HI.out hne)
    have hi' := hcut.1
    rw [HN.out] at hi'
    have BB := Lib.hid (B2.trans ((drew_below w2).mono B2.size))
    have H2 := Lib.hid (HA.out.later BB.out)
    clear hf1 hf2 hcut hne B2 hc
    have i1 : (0 : Int) ≤ (i : Int) := by omega
    have i2 : (i : Int) ≤ (n : Int) := by omega
    have i3 : (i : Int) ≤ (cap : Int) := by omega
    by_cases hz : i < n
    · have hz2 : i < l.length := by rw [HN.out]; exact hz
      obtain ⟨g, off, rfl, hg, x0, x1⟩ := HA.out.at_ hz2
      clear x0 x1
      have hq : ¬ cap = i := by omega
      go_region
      go_wp2
      go_ret2
      refine ⟨⟨_, _, rfl, ⟨_, _, _, rfl, ?_, ?_, ?_⟩, ⟨_, _, _, rfl, ?_, ?_, ?_⟩⟩, BB.out⟩
      · rw [LO.out, List.length_take, HN.out]; omega
      · omega
      · rw [LO.out]; exact H2.out.take i
      · rw [UP.out, List.length_drop, HN.out]
      · have := HC.out; omega
      · rw [UP.out]
        exact H2.out.drop i hz2
    · obtain rfl : i = n := by omega
      by_cases hq : cap = i
      · cases ao with
        | none =>
          go_region
          go_wp2
          go_ret2
          refine ⟨⟨_, _, rfl, ⟨_, _, _, rfl, ?_, ?_, ?_⟩, ⟨_, _, _, rfl, ?_, ?_, ?_⟩⟩, BB.out⟩
          · rw [LO.out, List.length_take, HN.out]; omega
          · have := HC.out; omega
          · rw [LO.out]; exact H2.out.take i
          · rw [UP.out, List.length_drop, HN.out]; omega
          · omega
          · rw [UP.out, List.drop_eq_nil_of_le (by rw [HN.out]; omega)]; exact TagsT.nil
        | some ad =>
          go_region
          go_wp2
          go_ret2
          refine ⟨⟨_, _, rfl, ⟨_, _, _, rfl, ?_, ?_, ?_⟩, ⟨_, _, _, rfl, ?_, ?_, ?_⟩⟩, BB.out⟩
          · rw [LO.out, List.length_take, HN.out]; omega
          · have := HC.out; omega
          · rw [LO.out]; exact H2.out.take i
          · rw [UP.out, List.length_drop, HN.out]; omega
          · omega
          · rw [UP.out, List.drop_eq_nil_of_le (by rw [HN.out]; omega)]; exact TagsT.nil
      · cases ao with
        | none =>
          go_region
          go_wp2
          go_ret2
          refine ⟨⟨_, _, rfl, ⟨_, _, _, rfl, ?_, ?_, ?_⟩, ⟨_, _, _, rfl, ?_, ?_, ?_⟩⟩, BB.out⟩
          · rw [LO.out, List.length_take, HN.out]; omega
          · have := HC.out; omega
          · rw [LO.out]; exact H2.out.take i
          · rw [UP.out, List.length_drop, HN.out]; omega
          · omega
          · rw [UP.out, List.drop_eq_nil_of_le (by rw [HN.out]; omega)]; exact TagsT.nil
        | some ad =>
          go_region
          go_wp2
          go_ret2
          refine ⟨⟨_, _, rfl, ⟨_, _, _, rfl, ?_, ?_, ?_⟩, ⟨_, _, _, rfl, ?_, ?_, ?_⟩⟩, BB.out⟩
          · rw [LO.out, List.length_take, HN.out]; omega
          · have := HC.out; omega
          · rw [LO.out]; exact H2.out.take i
          · rw [UP.out, List.length_drop, HN.out]; omega
          · omega
          · rw [UP.out, List.drop_eq_nil_of_le (by rw [HN.out]; omega)]; exact TagsT.nil
end Go.Proofs.Ytlknbjaippfemaa.Tg
