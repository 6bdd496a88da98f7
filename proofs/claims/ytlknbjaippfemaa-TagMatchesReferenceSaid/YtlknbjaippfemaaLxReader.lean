/- lexer: the reader: class, take. -/
import Derived.Test.YtlknbjaippfemaaLxTab
namespace Go.Proofs.Ytlknbjaippfemaa.Lx
open Go.RowKit
/-- a reader of the text s at i. -/
def rowR (s : ByteArray) (i : Nat) : Array Value := #[.string s, .int .i64 (i : Int)] ++ tabC
def Rdr (w : World) (g : Nat) (s : ByteArray) (i : Nat) : Prop := IsRow w g 103 (rowR s i)
theorem rowR_size (s : ByteArray) (i : Nat) : (rowR s i).size = 258 := by unfold rowR tabC; simp [tabOf_size]
section
variable {w w' : World} {g : Nat} {s : ByteArray} {i : Nat}
theorem Rdr.text (h : Rdr w g s i) : w.cell? ⟨g, 0, none⟩ = some (.string s) := by rw [IsRow.get h]; unfold rowR; rw [Array.getElem?_append_left (by simp)]; rfl
theorem Rdr.at_ (h : Rdr w g s i) : w.cell? ⟨g, 1, none⟩ = some (.int .i64 (i : Int)) := by rw [IsRow.get h]; unfold rowR; rw [Array.getElem?_append_left (by simp)]; rfl
theorem Rdr.cls (h : Rdr w g s i) (c : UInt8) : w.cell? ⟨g, 2 + c.toNat, none⟩ = some (.int .u8 (cls c : Int)) := by
  rw [IsRow.get h]
  unfold rowR tabC
  rw [Array.getElem?_append_right (by simp)]
  have := c.toNat_lt
  rw [show 2 + c.toNat - (#[.string s, .int .i64 (i : Int)] : Array Value).size = c.toNat by simp, tabOf_get _ _ this]
  unfold clsN
  simp
theorem Rdr.put (h : Rdr w g s i) (j : Nat) : Rdr (w.setCell ⟨g, 1, none⟩ (.int .i64 (j : Int))) g s j := by
  have h1 := IsRow.put h 1 (.int .i64 (j : Int))
  unfold Rdr
  have e : (rowR s i).setIfInBounds 1 (.int .i64 (j : Int)) = rowR s j := by
    apply Array.ext_getElem?
    intro k
    rw [Array.getElem?_setIfInBounds]
    by_cases hk : 1 = k
    · subst hk
      rw [if_pos rfl, rowR_size, if_pos (by decide)]
      unfold rowR; rw [Array.getElem?_append_left (by simp)]; rfl
    · rw [if_neg hk]
      unfold rowR
      match k, hk with
      | 0, _ => rw [Array.getElem?_append_left (by simp), Array.getElem?_append_left (by simp)]; rfl
      | 1, h => exact absurd rfl h
      | k + 2, _ => rw [Array.getElem?_append_right (by simp), Array.getElem?_append_right (by simp)]; rfl
  rw [e] at h1
  exact h1
theorem Rdr.below (h : Rdr w g s i) (hb : Below w.heap.size w w') : Rdr w' g s i := IsRow.below h hb (IsRow.inside h)
theorem Rdr.inside (h : Rdr w g s i) : g < w.heap.size := IsRow.inside h
theorem Rdr.open_ (h : Rdr w g s i) (k : Nat) : w.frozen? ⟨g, k, none⟩ = false := IsRow.open_ h k
end
/-- the class of the next byte; the end has none. -/
def hdc : B → Nat
  | [] => 0
  | c :: _ => cls c
set_option maxRecDepth 100000 in
set_option maxHeartbeats 400000 in
theorem class_any (g : Nat) (s : ByteArray) (i : Nat) (w : World) (h : Rdr w g s i) (hi : i ≤ s.size) :
    Calls Try.prog 72 #[.pointer (some ⟨g, 0, none⟩)] w fun e w' => e = .returned (.int .u8 (hdc (s.data.toList.drop i))) ∧ Below w.heap.size w w' := by
  have c0 := h.text
  have c1 := h.at_
  by_cases he : i < s.size
  · have c2 := h.cls s[i]
    have hd := Lib.hid (show hdc (s.data.toList.drop i) = cls s[i] by rw [drop_at s i he]; rfl)
    have hne : ((i : Int) == (s.size : Int)) = false := by rw [beq_eq_false_iff_ne]; omega
    have hx := s[i].toNat_lt
    clear h
    go_enter Try.func72, Try.ntmps72
    go_wp2
    go_quiet (fail)
    go_wp2
    go_quiet (fail)
    go_wp2
    go_ret
    exact ⟨ret_int (by rw [hd.out]), by first | exact below_drewN (Below.refl _ w) _ | exact below_drewN (below_drewN (Below.refl _ w) _) _⟩
  · obtain rfl : i = s.size := by omega
    have hd := Lib.hid (show hdc (s.data.toList.drop s.size) = 0 by rw [List.drop_of_length_le (by simp)]; rfl)
    have hne : ((s.size : Int) == (s.size : Int)) = true := by simp
    clear h
    go_enter Try.func72, Try.ntmps72
    go_wp2
    go_quiet (fail)
    go_wp2
    go_ret
    exact ⟨ret_int (by rw [hd.out]; rfl), by first | exact below_drewN (Below.refl _ w) _ | exact below_drewN (below_drewN (Below.refl _ w) _) _⟩
set_option maxRecDepth 100000 in
set_option maxHeartbeats 400000 in
theorem take_any (g m : Nat) (p : UInt8 → Bool) (hp : ∀ l : B, (bits .and .u8 (hdc l : Int) (m : Int) != 0) = hd p l) (s : ByteArray) (i : Nat) (w : World) (h : Rdr w g s i) (hi : i ≤ s.size) (hm : s.size ≤ 20000) :
    Calls Try.prog 73 #[.pointer (some ⟨g, 0, none⟩), .int .u8 m] w fun e w' => e = .returned (.string (s.extract i (i + run p (s.data.toList.drop i)))) ∧ w.grownBy w' (some g) ∧ Rdr w' g s (i + run p (s.data.toList.drop i)) := by
  obtain ⟨n, hn⟩ : ∃ n, run p (s.data.toList.drop i) = n := ⟨_, rfl⟩
  have hnl : i + n ≤ s.size := by
    have := run_le p (s.data.toList.drop i)
    simp at this
    omega
  rw [hn]
  have HN := Lib.hid hn
  have HP := Lib.hid hp
  have HR := Lib.hid h
  have c1 := h.at_
  clear hn hp h
  go_enter Try.func73, Try.ntmps73
  go_wp2
  clear c1
  go_loopg [] n (fun q wr => ∃ j : Nat, j + q = n ∧ Hid (run p (s.data.toList.drop (i + j)) = q) ∧ Hid (w.grownBy wr (some g)) ∧ Hid (Rdr wr g s (i + j)))
  case atStart => exact ⟨0, by omega, HN, Lib.hid (grown_refl _ _), HR⟩
  case round =>
    clear HN HR
    obtain ⟨j, hj, HJ, HG, HR⟩ := hrel
    have K0 := class_any g s (i + j) wr HR.out (by omega)
    have hq := HP.out (s.data.toList.drop (i + j))
    cases hb : hd p (s.data.toList.drop (i + j)) with
    | true =>
      rw [hb] at hq
      obtain ⟨hlt, hrun⟩ : i + j < s.size ∧ run p (s.data.toList.drop (i + j)) = run p (s.data.toList.drop (i + j + 1)) + 1 := by
        by_cases hlt : i + j < s.size
        · refine ⟨hlt, ?_⟩
          rw [drop_at s _ hlt] at hb ⊢
          exact run_step hb
        · rw [List.drop_of_length_le (by simp; omega)] at hb; cases hb
      have HJ2 := Lib.hid hrun
      have hgk : 1 ≤ gk := by have := HJ.out; omega
      have hw1 : IntKind.i64.wrap ((i : Int) + (j : Int) + 1) = (i : Int) + (j : Int) + 1 := IntWalk.i64_in _ (by omega)
      obtain ⟨N, hN⟩ : ∃ N, hdc (s.data.toList.drop (i + j)) = N := ⟨_, rfl⟩
      rw [hN] at K0 hq
      have HJ0 := Lib.hid hj
      clear hb hrun hN hj HP
      go_wp2_with ((with_reducible refine K0.mono ?_); rintro e w2 ⟨rfl, hb2⟩; have R2 := HR.out.below hb2; have d1 := R2.at_; have d2 := R2.open_ 1)
      have e3 : (i : Int) + (j : Int) + 1 = ((i + j + 1 : Nat) : Int) := by omega
      have R3 : Hid (Rdr (w2.setCell ⟨g, 1, none⟩ (.int .i64 ((i : Int) + (j : Int) + 1))) g s (i + j + 1)) := by rw [e3]; exact R2.put _
      have G3 := Lib.hid (grown_trans (grown_trans HG.out (grown_of_below hb2 _)) (grown_put w2 g 1 (.int .i64 ((i : Int) + (j : Int) + 1))))
      clear hw1
      go_roundg (gk - 1)
      case rel => exact ⟨j + 1, by have := HJ0.out; omega, Lib.hid (by have := HJ.out; have := HJ2.out; rw [show i + (j + 1) = i + j + 1 by omega]; omega), G3, R3⟩
      case measure => omega
    | false =>
      rw [hb] at hq
      have hrun : run p (s.data.toList.drop (i + j)) = 0 := by
        cases hl : s.data.toList.drop (i + j) with
        | nil => rfl
        | cons c l => rw [hl] at hb; exact run_none hb
      obtain rfl : j = n := by have := HJ.out; omega
      obtain ⟨N, hN⟩ : ∃ N, hdc (s.data.toList.drop (i + j)) = N := ⟨_, rfl⟩
      rw [hN] at K0 hq
      clear hb hrun hN hj HP HJ
      go_wp2_with ((with_reducible refine K0.mono ?_); rintro e w2 ⟨rfl, hb2⟩; have R2 := HR.out.below hb2; have d0 := R2.text; have d1 := R2.at_)
      have G3 := Lib.hid (grown_trans HG.out (grown_of_below hb2 _))
      have R3 := Lib.hid R2
      clear R2 hb2 HR HG hq K0
      have l1 : (i : Int) ≤ ((i + j : Nat) : Int) := by omega
      have l2 : ((i + j : Nat) : Int) ≤ (s.size : Int) := by omega
      go_quiet (fail)
      go_wp2
      go_ret
      exact ⟨rfl, grown_trans G3.out (grown_of_below (below_drewN (Below.refl _ _) _) _), R3.out.below (below_drewN (Below.refl _ _) _)⟩
end Go.Proofs.Ytlknbjaippfemaa.Lx
