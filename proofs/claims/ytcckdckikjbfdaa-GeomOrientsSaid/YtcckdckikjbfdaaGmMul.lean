/- bits.Mul64: the product of two numbers of 64 bits, in two halves. -/
import Derived.Test.YtcckdckikjbfdaaGmKit
import Derived.Shelf.Bits.Mul64
namespace Go.Proofs.Ytcckdckikjbfdaa.Geo
open Go.RowKit Go.Sort
set_option maxRecDepth 100000 in
set_option maxHeartbeats 1000000 in
theorem mul64_any (x y : Nat) (w : World) (hx : x < 18446744073709551616) (hy : y < 18446744073709551616) :
    Calls Try.prog 55 #[.int .u64 x, .int .u64 y] w fun e w' => e = .returned (.tuple #[.int .u64 ((x * y / 18446744073709551616 : Nat) : Int), .int .u64 ((x * y % 18446744073709551616 : Nat) : Int)]) ∧ w = w' := by
  obtain ⟨k1, k2, k3, k4⟩ := Lib.mul64_hi x y hx hy
  have m1 := Lib.half_mul_le (a := x / 4294967296) (b := y / 4294967296) (by omega) (by omega)
  have m2 := Lib.half_mul_le (a := x / 4294967296) (b := y % 4294967296) (by omega) (by omega)
  have m3 := Lib.half_mul_le (a := x % 4294967296) (b := y / 4294967296) (by omega) (by omega)
  have wrapped : ∀ n : Nat, n < 18446744073709551616 → IntKind.u64.wrap (n : Int) = (n : Int) := Mul64.wrapN
  have n1 := wrapped (x / 4294967296 * (y / 4294967296)) (by omega)
  have n2 := wrapped (x / 4294967296 * (y % 4294967296)) (by omega)
  have n3 := wrapped (x % 4294967296 * (y / 4294967296)) (by omega)
  have n4 := wrapped _ k1
  have n5 := wrapped _ k2
  have n6 := wrapped _ k3
  have n7 := wrapped (x / 4294967296 * (y / 4294967296) + (x / 4294967296 * (y % 4294967296) + x % 4294967296 * (y % 4294967296) / 4294967296) / 4294967296) (by omega)
  have n8 := wrapped (x / 4294967296 * (y / 4294967296) + (x / 4294967296 * (y % 4294967296) + x % 4294967296 * (y % 4294967296) / 4294967296) / 4294967296 + ((x / 4294967296 * (y % 4294967296) + x % 4294967296 * (y % 4294967296) / 4294967296) % 4294967296 + x % 4294967296 * (y / 4294967296)) / 4294967296) (by omega)
  have b1 := Mul64.maskN _ k2
  go_enter Try.func55, Try.ntmps55
  go_wp2
  simp only [Mul64.maskN x hx, Mul64.maskN y hy, Mul64.divN, Mul64.mulN, Mul64.addN, n1, n2, n3, n4, n5, n6, n7, n8, b1, Mul64.wrapM (x * y)]
  rw [k4]
  go_ret2
  exact ⟨rfl, rfl⟩
end Go.Proofs.Ytcckdckikjbfdaa.Geo
