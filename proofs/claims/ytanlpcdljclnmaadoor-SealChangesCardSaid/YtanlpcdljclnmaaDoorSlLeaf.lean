/- The small functions of seal by contract. -/
import Derived.Test.YtanlpcdljclnmaaDoorSlKit
namespace Go.Proofs.YtanlpcdljclnmaaDoor.Sl
open Go.RowKit
open Go.Proofs.YtanlpcdljclnmaaDoor.Dg hiding intOf

set_option maxRecDepth 100000 in
set_option maxHeartbeats 400000 in
theorem isHeight_any (h : Int) (w : World) :
    Calls Tryd.prog 13 #[.int .i64 h] w fun e w' => e = .returned (.bool (decide (0 ≤ h) && decide (h ≤ 8))) ∧ w = w' := by
  go_enter Tryd.func13, Tryd.ntmps13
  go_wp2
  all_goals go_ret
  all_goals exact ⟨ret_bool (by rw [Bool.eq_iff_iff]; simp; omega), rfl⟩
def inB (i : Int) (h : Nat) : Bool := decide (0 ≤ i) && decide (i < 2 ^ h)
theorem wrap_pow (h : Nat) (hh : h ≤ 8) : wrap64 ((2 : Int) ^ h) = 2 ^ h := by
  have : ∀ h : Fin 9, wrap64 ((2 : Int) ^ h.val) = 2 ^ h.val := by decide +kernel
  exact this ⟨h, by omega⟩
set_option maxRecDepth 100000 in
set_option maxHeartbeats 400000 in
theorem isIndex_any (i : Int) (h : Nat) (w : World) (hh : h ≤ 8) :
    Calls Tryd.prog 16 #[.int .i64 i, .int .i64 h] w fun e w' => e = .returned (.bool (inB i h)) ∧ w = w' := by
  go_enter Tryd.func16, Tryd.ntmps16
  go_wp2
  all_goals go_ret
  · have h0 : 0 ≤ i := by assumption
    exact ⟨ret_bool (by unfold inB; rw [wrap_pow h hh]; simp [h0]), rfl⟩
  · have h0 : ¬ 0 ≤ i := by omega
    exact ⟨ret_bool (by unfold inB; simp [h0]), rfl⟩
set_option maxRecDepth 100000 in
set_option maxHeartbeats 400000 in
theorem value_any (c : UInt8) (w : World) (hc : isHexB c = true) :
    Calls Tryd.prog 36 #[.int .u8 c.toNat] w fun e w' => e = .returned (.int .i64 (valueB c)) ∧ w = w' := by
  have hx := c.toNat_lt
  have h2 : (48 ≤ c.toNat ∧ c.toNat ≤ 57) ∨ (97 ≤ c.toNat ∧ c.toNat ≤ 102) := by
    unfold isHexB at hc
    simpa using hc
  clear hc
  go_enter Tryd.func36, Tryd.ntmps36
  go_wp2
  all_goals go_ret
  all_goals exact ⟨ret_int (by unfold valueB; split <;> omega), rfl⟩
theorem chainN_len (x : B) {m : Nat} (hx : x.length ≤ m) (hm : 16 ≤ m) (k : Nat) : (chainN x k).length ≤ m := by
  cases k with
  | zero => exact hx
  | succ k => rw [chainN, dsum_length]; exact hm
set_option maxRecDepth 100000 in
set_option maxHeartbeats 400000 in
theorem chain_any (x : B) (n : Nat) (w : World) (hx : x.length ≤ 1000000) (hn : n ≤ 1000) :
    Calls Tryd.prog 19 #[.string ⟨x.toArray⟩, .int .i64 n] w fun e w' => e = .returned (.string ⟨(chainN x n).toArray⟩) ∧ Below w.heap.size w w' := by
  go_enter Tryd.func19, Tryd.ntmps19
  go_wp2
  go_loopw [0, 6] (fun t i wr => ∃ k : Nat, k ≤ n ∧ i = .int .i64 k ∧ t = .string ⟨(chainN x k).toArray⟩ ∧ Hid (Below w.heap.size w wr)) (fun _ i _ => n - (intOf i).toNat)
  case atStart => exact ⟨0, by omega, rfl, rfl, Below.refl _ _⟩
  case round =>
    obtain ⟨k, hk, rfl, rfl, hb⟩ := hrel
    by_cases hlt : k < n
    · go_wp2_with fail
      refine (sumB (chainN x k) _ (chainN_len x hx (by decide) k)).mono ?_
      rintro e w1 ⟨rfl, hb1⟩
      have B1 : Hid (Below w.heap.size w w1) := hb.out.trans (hb1.mono hb.out.size)
      clear hb hb1
      go_wp2
      go_roundw
      case rel => exact ⟨k + 1, by omega, by go_num, rfl, B1⟩
      case measure => simp [intOf]; omega
    · obtain rfl : k = n := by omega
      go_wp2
      go_ret
      exact ⟨rfl, hb.out⟩
theorem itoa_len (n : Nat) (hn : n ≤ 1000000) : (Lib.itoa (n : Int)).length ≤ 21 := by
  have := Lib.itoa_length_le (n : Int) (by omega) (by omega)
  omega
theorem few_start (sec : B) (i k : Nat) (hs : sec.length ≤ 1000) (hi : i ≤ 1000000) (hk : k ≤ 1000000) : fewB [sec, Lib.itoa (i : Int), Lib.itoa (k : Int)] := by
  have h1 := itoa_len i hi
  have h2 := itoa_len k hk
  refine ⟨by simp, fun x hx => ?_⟩
  simp only [List.mem_cons, List.not_mem_nil, or_false] at hx
  rcases hx with rfl | rfl | rfl <;> omega
set_option maxRecDepth 100000 in
set_option maxHeartbeats 400000 in
theorem start_any (sec : B) (i k : Nat) (w : World) (ht : Tab w) (hs : sec.length ≤ 1000) (hi : i ≤ 1000) (hk : k ≤ 1000) :
    Calls Tryd.prog 20 #[.string ⟨sec.toArray⟩, .int .i64 i, .int .i64 k] w fun e w' => e = .returned (.string ⟨(startOf sec i k).toArray⟩) ∧ Below w.heap.size w w' := by
  go_enter Tryd.func20, Tryd.ntmps20
  go_wp2_with fail
  refine (itoa_any i _ (by omega) ht).mono ?_
  rintro e w1 ⟨rfl, hb1⟩
  have ht1 := Lib.hid (ht.below hb1 (Nat.le_refl _))
  have H1 := Lib.hid hb1
  clear hb1 ht
  go_wp2_with fail
  refine (itoa_any k _ (by omega) ht1.out).mono ?_
  rintro e w2 ⟨rfl, hb2⟩
  have ht2 := Lib.hid (ht1.out.below hb2 (Nat.le_refl _))
  have H2 : Hid (Below w.heap.size w w2) := H1.out.trans (hb2.mono H1.out.size)
  clear hb2 ht1 H1
  go_wp2_with fail
  have hb3 : Below w2.heap.size w2 (w2.alloc (.cells (strv [sec, Lib.itoa (i : Int), Lib.itoa (k : Int)]).toArray 9)) := (Below.refl _ _).alloc (Nat.le_refl _) _
  refine (listB (some ⟨w2.heap.size, 0, none⟩) 3 3 [sec, Lib.itoa (i : Int), Lib.itoa (k : Int)] _ (ht2.out.below hb3 (Nat.le_refl _)) (row_list w2 _ _ _ rfl) rfl (few_start sec i k hs (by omega) (by omega))).mono ?_
  rintro e w3 ⟨rfl, hb4⟩
  have H3 : Hid (Below w.heap.size w w3) := (H2.out.trans (hb3.mono H2.out.size)).trans (hb4.mono (by have := H2.out.size; simp; omega))
  clear hb3 hb4 ht2 H2
  go_wp2
  go_ret
  exact ⟨rfl, H3.out⟩
theorem few_node {a b : B} (ha : a.length ≤ 1000) (hb : b.length ≤ 1000) : fewB [nodeB, a, b] := by
  refine ⟨by simp, fun x hx => ?_⟩
  simp only [List.mem_cons, List.not_mem_nil, or_false] at hx
  rcases hx with rfl | rfl | rfl
  · decide
  · exact ha
  · exact hb
set_option maxRecDepth 100000 in
set_option maxHeartbeats 400000 in
theorem node_any (a b : B) (w : World) (ht : Tab w) (ha : a.length ≤ 1000) (hb : b.length ≤ 1000) :
    Calls Tryd.prog 40 #[.string ⟨a.toArray⟩, .string ⟨b.toArray⟩] w fun e w' => e = .returned (.string ⟨(nodeOf a b).toArray⟩) ∧ Below w.heap.size w w' := by
  go_enter Tryd.func40, Tryd.ntmps40
  go_wp2_with fail
  have hb3 : Below w.heap.size w (w.alloc (.cells (strv [nodeB, a, b]).toArray 9)) := (Below.refl _ _).alloc (Nat.le_refl _) _
  refine (listB (some ⟨w.heap.size, 0, none⟩) 3 3 [nodeB, a, b] _ (ht.below hb3 (Nat.le_refl _)) (row_list w _ _ _ rfl) rfl (few_node ha hb)).mono ?_
  rintro e w3 ⟨rfl, hb4⟩
  have H3 : Hid (Below w.heap.size w w3) := hb3.trans (hb4.mono (by simp))
  clear hb3 hb4 ht
  go_wp2
  go_ret
  exact ⟨rfl, H3.out⟩
set_option maxRecDepth 100000 in
set_option maxHeartbeats 400000 in
theorem key_any (a : Option Addr) (n cap : Nat) (L : List B) (w : World) (ht : Tab w) (hl : Txt w w.heap.size a L) (hn : n = L.length) (hf : fewB L) :
    Calls Tryd.prog 33 #[.slice a n cap] w fun e w' => e = .returned (.string ⟨(dl L).toArray⟩) ∧ Below w.heap.size w w' := by
  have HN := Lib.hid hn
  clear hn
  go_enter Tryd.func33, Tryd.ntmps33
  go_wp2_with fail
  refine (listB a n cap L _ ht hl HN.out hf).mono ?_
  rintro e w3 ⟨rfl, hb4⟩
  go_wp2
  go_ret
  exact ⟨rfl, hb4⟩
end Go.Proofs.YtanlpcdljclnmaaDoor.Sl
