/- P1.2, DigestForm: its walk. -/
import Derived.Test.YtjaaffchlaillaaDoorDgHead
import Derived.Test.YtjaaffchlaillaaDoorDgRef
import Derived.Lib.QuietBelow
namespace Go.Proofs.YtjaaffchlaillaaDoor.Dg
open Go.RowKit Go.Sort
theorem size_three {S : ByteArray} {k : Nat} (h : S.size ≤ 16) : (S.extract 0 k ++ ⟨#[65]⟩ ++ S.extract (k + 1) S.size).size ≤ maxLen := by
  have e : (ByteArray.mk #[65]).size = 1 := rfl
  rw [ByteArray.size_append, ByteArray.size_append, ByteArray.size_extract, ByteArray.size_extract, e]
  unfold maxLen
  omega
theorem isDig_A (A B : ByteArray) : isDig (A ++ ⟨#[65]⟩ ++ B).data.toList = false := by
  have h : (A ++ ⟨#[65]⟩ ++ B).data.toList.all isHexB = false := by
    rw [List.all_eq_false]
    exact ⟨65, by simp, by decide⟩
  rw [isDig, h, Bool.and_false]
theorem third {S : ByteArray} {k : Nat} (h : S.size ≤ 16) : ∃ X, X = S.extract 0 k ++ ⟨#[65]⟩ ++ S.extract (k + 1) S.size ∧ X.size ≤ maxLen ∧ isDig X.data.toList = false :=
  ⟨_, rfl, size_three h, isDig_A _ _⟩
theorem size_one (S : ByteArray) (c : UInt8) : (S ++ ⟨#[c]⟩).size = S.size + 1 := by rw [ByteArray.size_append]; rfl
set_option maxHeartbeats 1000000 in
theorem form_any (text : ByteArray) (a : Option Addr) (cap : Nat) (l : List ByteArray) (x : UInt8) (w : World) (hs : text.size ≤ maxLen) (hl : Strs w w.heap.size a l) (hn : l.length ≤ maxLen) (ht : Tab w) :
    Calls Tryd.prog 4 #[.string text, .slice a l.length cap, .int .u8 x.toNat] w fun e w' => e = .returned (.bool true) ∧ Below w.heap.size w w' := by
  unfold maxLen at hs
  go_enter Tryd.func4, Tryd.ntmps4
  go_wp2_with fail
  refine (head_any w ht).mono ?_
  rintro e w1 ⟨rfl, hb1⟩
  have H1 := Lib.hid hb1
  have hl1 : Strs w1 w1.heap.size a l := (hl.below hb1).more hb1.size
  have ht1 : Tab w1 := ht.below hb1 (Nat.le_refl _)
  clear hb1 ht hl
  by_cases h2000 : text.size ≤ 2000
  · go_wp2_with fail
    refine (few_any a cap 200 l _ hl1 hn).mono ?_
    rintro e w' ⟨rfl, rfl⟩
    cases hf : few l 200 with
    | false =>
      clear hl1 ht1
      go_wp2
      go_ret
      exact ⟨rfl, H1.out⟩
    | true =>
      have hj := few_len hf
      clear hf
      go_wp2_with fail
      refine (sum_of text _ _ (by unfold maxLen; omega) rfl).mono ?_
      rintro e w2 ⟨rfl, hb2⟩
      have H2 : Hid (Below w.heap.size w w2) := H1.out.trans (hb2.mono H1.out.size)
      have hl2 : Strs w2 w2.heap.size a l := (hl1.below hb2).more hb2.size
      have ht2 : Tab w2 := ht1.below hb2 (Nat.le_refl _)
      clear H1 hb2 hl1 ht1
      have hS : (ByteArray.mk (dsum text.data.toList).toArray).size = 16 := by rw [str_len, dsum_length]
      have HD : Hid (isDig (ByteArray.mk (dsum text.data.toList).toArray).data.toList = true) := isDig_dsum text.data.toList
      generalize hgs : (ByteArray.mk (dsum text.data.toList).toArray) = S at *
      have e16 : ((S.size : Int) != 16) = false := by rw [hS]; decide
      clear hgs
      have HS := Lib.hid hS
      have n1 : ¬ 9223372036854775807 < S.size + 1 := by omega
      have l1 : 16 ≤ S.size := by omega
      have l2 : S.size ≤ 16 := by omega
      have l3 : 1 ≤ S.size := by omega
      clear hS
      go_wp2
      have hat : (wrap64 (x.toNat : Int)).tmod 16 = ((x.toNat % 16 : Nat) : Int) := by
        have hx := x.toNat_lt
        rw [show wrap64 (x.toNat : Int) = (x.toNat : Int) by unfold wrap64; omega]
        exact Int.ofNat_tmod x.toNat 16 |>.symm
      rw [hat]
      have hlt := Nat.mod_lt x.toNat (show 0 < 16 by decide)
      clear hat
      generalize x.toNat % 16 = k at *
      have quiet : ∀ (X : ByteArray) (b : Bool) (_ : X.size ≤ maxLen) (_ : isDig X.data.toList = b) d os, Calls Tryd.prog 14 #[.string X] (grow (redrawn w2 d) os) fun e w'' => e = .returned (.bool b) ∧ ∃ p : Regrown, w'' = grow (redrawn w2 p.d) p.os :=
        fun X b h1 h2 d os => Calls.regrown_of ((is_of X b _ h1 h2).mono fun e w' ⟨he, hw⟩ => ⟨he, hw ▸ Below.refl _ _⟩)
      have cS := quiet S true (by rw [HS.out]; unfold maxLen; omega) HD.out
      have cL : ∀ d os, Calls Tryd.prog 12 #[.slice a l.length cap] (grow (redrawn w2 d) os) fun e w'' => e = .returned (.string ⟨(dsum (joined (lists l))).toArray⟩) ∧ ∃ p : Regrown, w'' = grow (redrawn w2 p.d) p.os :=
        fun d os => Calls.regrown_of (list_any a cap l _ (ht2.below (below_regrown w2 d os) (Nat.le_refl _)) ((hl2.below (below_regrown w2 d os)).more (below_regrown w2 d os).size) hn (by omega))
      have hT : (ByteArray.mk (dsum (joined (lists l))).toArray).size = 16 := by rw [str_len, dsum_length]
      have cT := quiet ⟨(dsum (joined (lists l))).toArray⟩ true (by rw [hT]; unfold maxLen; omega) (isDig_dsum _)
      have LEN : ∀ (X : ByteArray), X.size ≤ maxLen → X.size ≠ 16 → ∀ d os, Calls Tryd.prog 14 #[.string X] (grow (redrawn w2 d) os) fun e w'' => e = .returned (.bool false) ∧ ∃ p : Regrown, w'' = grow (redrawn w2 p.d) p.os :=
        fun X h1 h2 => quiet X false h1 (by unfold isDig; rw [len_data]; simp [h2])
      generalize (ByteArray.mk (dsum (joined (lists l))).toArray) = T at *
      clear hT
      have QQ := Lib.hid quiet
      have LL := Lib.hid LEN
      clear quiet LEN hl2 ht2
      have k1 : k ≤ S.size := by omega
      have k2 : k + 1 ≤ S.size := by omega
      have i1 : (1 : Int) ≤ (S.size : Int) := by omega
      have i2 : (k : Int) ≤ (S.size : Int) := by omega
      have i3 : (k : Int) + 1 ≤ (S.size : Int) := by omega
      have i4 : (0 : Int) ≤ (k : Int) + 1 := by omega
      have w1 : IntKind.i64.wrap ((k : Int) + 1) = (k : Int) + 1 := IntWalk.i64_in _ (by omega)
      have w2' : ((k : Int) + 1).toNat = k + 1 := by omega
      have c1 := LL.out (S ++ ⟨#[48]⟩) (by rw [size_one]; unfold maxLen; omega) (by rw [size_one, HS.out]; decide)
      have c2 := LL.out (S.extract 1 S.size) (by rw [ByteArray.size_extract, HS.out]; decide) (by rw [ByteArray.size_extract, HS.out]; decide)
      have n2 : ¬ 9223372036854775807 < k + 1 := by omega
      have n4 : ¬ 9223372036854775807 < S.size := by omega
      have n3 : ¬ 9223372036854775807 < k + 1 + (S.size - (k + 1)) := by omega
      obtain ⟨X3, hX3, x1, x2⟩ := third (S := S) (k := k) l2
      have c3 := QQ.out X3 false x1 x2
      rw [hX3] at c3
      clear hX3 x1 x2
      refine wp_region_quiet_below (by kernel_rfl) (by kernel_rfl) ?_
      repeat (quiet_step (first | with_reducible exact cS _ _ | with_reducible exact cL _ _ | with_reducible exact cT _ _ | with_reducible exact c1 _ _ | with_reducible exact c2 _ _ | with_reducible exact c3 _ _))
      refine wpQuiet_nil ?_
      intro _ hw'
      obtain ⟨⟨dq, osq⟩, hw''⟩ := hw'
      subst hw''
      go_wp2
      go_ret
      exact ⟨rfl, H2.out.trans ((below_regrown w2 dq osq).mono H2.out.size)⟩
  · clear hl1 ht1
    go_wp2
    go_ret
    exact ⟨rfl, H1.out⟩
end Go.Proofs.YtjaaffchlaillaaDoor.Dg
