/- The smallest functions of the digest's program, by contract: mix, digit, isDigit; the reference's mix. -/
import Derived.Test.YtanlpcdljclnmaaDoorProg
import Derived.Test.YtanlpcdljclnmaaDoorChecked
import Derived.Test.YtanlpcdljclnmaaDoorDgMathB
import Derived.WalkKit
import Derived.WalkSpells
import Derived.WalkLawsBesides
import Derived.Lib.Hide
import Derived.ChangeAlike
namespace Go.Proofs.YtanlpcdljclnmaaDoor.Dg
open Go.RowKit
theorem len_data (s : ByteArray) : s.data.toList.length = s.size := by simp
def intOf : Value → Int | .int _ q => q | _ => 0
theorem ret_int {k : IntKind} {a b : Int} (h : a = b) : Ending.returned (.int k a) = .returned (.int k b) := by rw [h]
theorem ret_str {a b : List UInt8} (h : a = b) : Ending.returned (.string ⟨a.toArray⟩) = .returned (.string ⟨b.toArray⟩) := by rw [h]
theorem ret_bool {a b : Bool} (h : a = b) : Ending.returned (.bool a) = .returned (.bool b) := by rw [h]
theorem wrap_nat (x c : Nat) : IntKind.u64.wrap ((x : Int) * (c : Int)) = ((x * c % M : Nat) : Int) := by
  rw [IntKind.wrap_u64, Int.natCast_emod, Int.natCast_mul]; rfl
theorem xor_nat (x d : Nat) (hx : x < M) : bits .xor .u64 (x : Int) ((x : Int) / (d : Int)) = ((x ^^^ x / d : Nat) : Int) := xorShift_u64 x d hx
theorem step_eq (x c d : Nat) : bits .xor .u64 (IntKind.u64.wrap ((x : Int) * (c : Int))) (IntKind.u64.wrap ((x : Int) * (c : Int)) / (d : Int)) = ((step x c d : Nat) : Int) := by
  rw [wrap_nat, xor_nat _ _ (Nat.mod_lt _ (by decide))]; rfl
theorem mix_eq (x : Nat) : bits .xor .u64 (IntKind.u64.wrap (bits .xor .u64 (IntKind.u64.wrap ((x : Int) * 2862933555777941757)) (IntKind.u64.wrap ((x : Int) * 2862933555777941757) / 4294967296) * 3935559000370003845))
    (IntKind.u64.wrap (bits .xor .u64 (IntKind.u64.wrap ((x : Int) * 2862933555777941757)) (IntKind.u64.wrap ((x : Int) * 2862933555777941757) / 4294967296) * 3935559000370003845) / 536870912) = ((mixN x : Nat) : Int) := by
  have h1 := step_eq x 2862933555777941757 4294967296
  have h2 := step_eq (step x 2862933555777941757 4294967296) 3935559000370003845 536870912
  rw [← h1] at h2
  exact h2
set_option maxRecDepth 100000 in
set_option maxHeartbeats 400000 in
theorem mix_any (x : Nat) (w : World) :
    Calls Tryd.prog 45 #[.int .u64 x] w fun e w' => e = .returned (.int .u64 (mixN x)) ∧ w = w' := by
  go_enter Tryd.func45, Tryd.ntmps45
  go_wp2
  go_ret
  exact ⟨ret_int (mix_eq x), rfl⟩
set_option maxRecDepth 100000 in
set_option maxHeartbeats 400000 in
theorem refmix_any (x : Nat) (w : World) :
    Calls Tryd.prog 41 #[.int .u64 x] w fun e w' => e = .returned (.int .u64 (mixN x)) ∧ w = w' := by
  go_enter Tryd.func41, Tryd.ntmps41
  go_wp2
  go_ret
  exact ⟨ret_int (mix_eq x), rfl⟩
set_option maxRecDepth 100000 in
set_option maxHeartbeats 400000 in
theorem digit_any (x : Nat) (w : World) (hx : x < 16) :
    Calls Tryd.prog 51 #[.int .u8 x] w fun e w' => e = .returned (.int .u8 ((hexd x).toNat : Int)) ∧ w = w' := by
  have hd : (hexd x).toNat = if x < 10 then 48 + x else 87 + x := by
    have : ∀ d : Fin 16, (hexd d.val).toNat = if d.val < 10 then 48 + d.val else 87 + d.val := by decide
    exact this ⟨x, hx⟩
  have HD := Lib.hid hd
  clear hd
  go_enter Tryd.func51, Tryd.ntmps51
  go_wp2
  all_goals go_ret
  · have h : (x : Int) < 10 := by assumption
    exact ⟨ret_int (by rw [HD.out, if_pos (by omega)]; omega), rfl⟩
  · have h : ¬ (x : Int) < 10 := by omega
    exact ⟨ret_int (by rw [HD.out, if_neg (by omega)]; omega), rfl⟩
set_option maxRecDepth 100000 in
set_option maxHeartbeats 400000 in
theorem isDigit_any (c : UInt8) (w : World) :
    Calls Tryd.prog 56 #[.int .u8 c.toNat] w fun e w' => e = .returned (.bool (isHexB c)) ∧ w = w' := by
  have hx := c.toNat_lt
  go_enter Tryd.func56, Tryd.ntmps56
  go_wp2
  all_goals go_ret
  all_goals exact ⟨ret_bool (by rw [Bool.eq_iff_iff]; simp [isHexB]; omega), rfl⟩
end Go.Proofs.YtanlpcdljclnmaaDoor.Dg
