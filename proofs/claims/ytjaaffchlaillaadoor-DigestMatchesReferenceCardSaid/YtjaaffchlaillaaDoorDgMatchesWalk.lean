/- P1.1, DigestMatchesReference: its walk. -/
import Derived.Test.YtjaaffchlaillaaDoorDgRefSum
import Derived.Test.YtjaaffchlaillaaDoorDgHead
namespace Go.Proofs.YtjaaffchlaillaaDoor.Dg
open Go.RowKit
set_option maxHeartbeats 1000000 in
theorem matches_any (text : ByteArray) (a : Option Addr) (cap : Nat) (l : List ByteArray) (w : World) (hs : text.size ≤ maxLen) (hl : Strs w w.heap.size a l) (hn : l.length ≤ maxLen) (ht : Tab w) :
    Calls Tryd.prog 3 #[.string text, .slice a l.length cap] w fun e w' => e = .returned (.bool true) ∧ Below w.heap.size w w' := by
  unfold maxLen at hs
  go_enter Tryd.func3, Tryd.ntmps3
  go_wp2_with fail
  refine (head_any w ht).mono ?_
  rintro e w1 ⟨rfl, hb1⟩
  have H1 := Lib.hid hb1
  have hl1 : Strs w1 w1.heap.size a l := (hl.below hb1).more hb1.size
  have ht1 : Tab w1 := ht.below hb1 (Nat.le_refl _)
  clear hb1 ht hl
  by_cases h2000 : text.size ≤ 2000
  · go_wp2_with fail
    refine (few_any a cap 200 l _ hl1 hn).mono ?_
    rintro e w' ⟨rfl, rfl⟩
    cases hf : few l 200 with
    | false =>
      clear hl1 ht1
      go_wp2
      go_ret
      exact ⟨rfl, H1.out⟩
    | true =>
      have hj := few_len hf
      have HF := Lib.hid hf
      clear hf
      go_wp2_with fail
      refine (sum_any text _ (by unfold maxLen; omega)).mono ?_
      rintro e w2 ⟨rfl, hb2⟩
      have H2 : Hid (Below w.heap.size w w2) := H1.out.trans (hb2.mono H1.out.size)
      have hl2 : Strs w2 w2.heap.size a l := (hl1.below hb2).more hb2.size
      have ht2 : Tab w2 := ht1.below hb2 (Nat.le_refl _)
      clear H1 hb2 hl1 ht1
      go_wp2_with fail
      refine (refsum_any text _ (by omega)).mono ?_
      rintro e w' ⟨rfl, rfl⟩
      generalize dsum text.data.toList = D1 at *
      go_wp2_with fail
      refine (list_any a cap l _ ht2 hl2 hn (by omega)).mono ?_
      rintro e w3 ⟨rfl, hb3⟩
      have H3 : Hid (Below w.heap.size w w3) := H2.out.trans (hb3.mono H2.out.size)
      have hl3 : Strs w3 w3.heap.size a l := (hl2.below hb3).more hb3.size
      clear H2 hb3 hl2 ht2
      go_wp2_with fail
      refine (reflist_any a cap l _ hl3 HF.out).mono ?_
      rintro e w4 ⟨rfl, hb4⟩
      have H4 : Hid (Below w.heap.size w w4) := H3.out.trans (hb4.mono H3.out.size)
      clear H3 hb4 hl3
      generalize dsum (joined (lists l)) = D2 at *
      go_wp2_with fail
      refine (is_any text _ (by unfold maxLen; omega)).mono ?_
      rintro e w' ⟨rfl, rfl⟩
      go_wp2_with fail
      refine (refis_any text _).mono ?_
      rintro e w' ⟨rfl, rfl⟩
      generalize isDig text.data.toList = D3 at *
      go_wp2
      go_ret
      exact ⟨rfl, H4.out⟩
  · clear hl1 ht1
    go_wp2
    go_ret
    exact ⟨rfl, H1.out⟩
end Go.Proofs.YtjaaffchlaillaaDoor.Dg
