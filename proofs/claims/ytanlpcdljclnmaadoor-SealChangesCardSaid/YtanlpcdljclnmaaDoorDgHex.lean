/- digest.hexadecimal by contract. -/
import Derived.Test.YtanlpcdljclnmaaDoorDgNext
import Derived.Laws.BytesString
namespace Go.Proofs.YtanlpcdljclnmaaDoor.Dg
open Go.RowKit
theorem digit_of (a : Int) (d : Nat) (w : World) (ha : a = ((d : Nat) : Int)) (hd : d < 16) :
    Calls Tryd.prog 51 #[.int .u8 a] w fun e w' => e = .returned (.int .u8 ((hexd d).toNat : Int)) ∧ w = w' := by
  subst ha; exact digit_any d w hd
theorem hid_put {B : Nat} {w w' : World} (h : Hid (Below B w w')) {i : Nat} (u : Value) : Hid (Below B w (w'.setCell ⟨B, i, none⟩ u)) := h.out.setCell (p := ⟨B, i, none⟩) (Nat.le_refl _) u
theorem and15 (y : Nat) (h : y < 18446744073709551616) : bits .and .u64 (y : Int) 15 % 256 = ((y % 16 : Nat) : Int) := by
  rw [show bits .and .u64 (y : Int) 15 = ((y &&& 15 : Nat) : Int) from u64_and_nat y 15 h (by decide), nat_mask4]
  omega
/-- the row while the last k digits of x are laid. -/
def laidHex (x k : Nat) : List Value := List.replicate (16 - k) (.int .u8 0) ++ (hexN x k).map fun c => .int .u8 (c.toNat : Int)
theorem laidHex_length (x k : Nat) (h : k ≤ 16) : (laidHex x k).length = 16 := by simp [laidHex, hexN_length]; omega
theorem laidHex_zero (x : Nat) : (laidHex x 0).toArray = #[.int .u8 0, .int .u8 0, .int .u8 0, .int .u8 0, .int .u8 0, .int .u8 0, .int .u8 0, .int .u8 0, .int .u8 0, .int .u8 0, .int .u8 0, .int .u8 0, .int .u8 0, .int .u8 0, .int .u8 0, .int .u8 0] := rfl
theorem laidHex_step (x k : Nat) (h : k < 16) : (laidHex x k).set (15 - k) (.int .u8 ((hexd (x / 16 ^ k % 16)).toNat : Int)) = laidHex x (k + 1) := by
  unfold laidHex
  rw [show 16 - k = (15 - k) + 1 by omega, List.replicate_succ', List.append_assoc, List.set_append_right _ _ (by simp)]
  simp [hexN, show 16 - (k + 1) = 15 - k by omega]
theorem laidHex_full (x : Nat) : laidHex x 16 = (hexN x 16).map fun c => .int .u8 (c.toNat : Int) := by simp [laidHex]
set_option maxRecDepth 100000 in
set_option maxHeartbeats 400000 in
theorem hex_any (x : Nat) (w : World) (hx : x < M) :
    Calls Tryd.prog 46 #[.int .u64 x] w fun e w' => e = .returned (.string ⟨(hexN x 16).toArray⟩) ∧ Below w.heap.size w w' := by
  unfold M at hx
  go_enter Tryd.func46, Tryd.ntmps46
  go_wp2
  go_loopw [0, 5] (fun n i wr => ∃ k : Nat, k ≤ 16 ∧ i = .int .i64 k ∧ n = .int .u64 ((x / 16 ^ k : Nat) : Int) ∧ Hid (IsRow wr w.heap.size 71 (laidHex x k).toArray) ∧ Hid (Below w.heap.size w wr)) (fun _ i _ => 16 - (intOf i).toNat)
  case atStart => exact ⟨0, by omega, rfl, by simp, IsRow.made _ _ _, (Below.refl _ _).alloc (Nat.le_refl _) _⟩
  case round =>
    obtain ⟨k, hk, rfl, rfl, hrow, hb⟩ := hrel
    by_cases hlt : k < 16
    · have c1 : wr.cell? ⟨w.heap.size, 15 - k, none⟩ = some ((laidHex x k).getD (15 - k) .nilIface) := by
        rw [hrow.out.get]
        have : 15 - k < (laidHex x k).length := by rw [laidHex_length x k hk]; omega
        simp [this]
      have f1 : wr.frozen? ⟨w.heap.size, 15 - k, none⟩ = false := hrow.out.open_ _
      have hi : (15 - (k : Int)).toNat = 15 - k := by omega
      have hy16 : x / 16 ^ (k + 1) = x / 16 ^ k / 16 := by rw [Nat.pow_succ, Nat.div_div_eq_div_mul]
      have hyl : x / 16 ^ k < 18446744073709551616 := Nat.lt_of_le_of_lt (Nat.div_le_self _ _) hx
      have hrow' := Lib.hid (hrow.out.put (15 - k) (.int .u8 ((hexd (x / 16 ^ k % 16)).toNat : Int)))
      rw [List.setIfInBounds_toArray, laidHex_step x k hlt] at hrow'
      have HY := Lib.hid hy16
      clear hrow hy16
      generalize x / 16 ^ k = y at *
      go_wp2_with fail
      refine (digit_of _ (y % 16) _ ?ha1 ?hb1).mono ?hc1
      case ha1 => exact and15 y hyl
      case hb1 => exact Nat.mod_lt _ (by decide)
      case hc1 =>
        rintro e w' ⟨rfl, rfl⟩
        go_wp2
        go_round
        case rel =>
          exact ⟨k + 1, by omega, by go_num, val_int (by rw [HY.out]; simp), hrow', hid_put hb _⟩
        case measure => simp [intOf]; omega
    · obtain rfl : k = 16 := by omega
      have hconv := run_string_of_row (P := Tryd.prog) wr 64 9 5 w.heap.size 16 16 _ _ (hexN x 16) hrow.out (by rw [laidHex_full, List.take_of_length_le (by simp [hexN_length])]) (hexN_length _ _) Tryd.underlying64 Tryd.underlying5 Tryd.underlying9
      go_wp2
      go_ret
      exact ⟨rfl, hb.out⟩
end Go.Proofs.YtanlpcdljclnmaaDoor.Dg
