/- Plain mathematics of digests: no program is named here. Numbers are natural numbers below 2^64, texts are lists of bytes. -/
import Derived.Lib.ItoaNum
namespace Go.Proofs.YtanlpcdljclnmaaDoor.Dg

abbrev M : Nat := 18446744073709551616
/-- One step of mixing: times c modulo 2^64, then xor with itself shifted to the right (d = 2^s). -/
def step (x c d : Nat) : Nat := (x * c % M) ^^^ (x * c % M / d)
def mixN (x : Nat) : Nat := step (step x 2862933555777941757 4294967296) 3935559000370003845 536870912
/-- n bytes of l from place p on, as a number; bytes behind the end are 0. -/
def bl (l : List UInt8) (p : Nat) : Nat → Nat
  | 0 => 0
  | n + 1 => bl l p n * 256 + (l.getD (p + n) 0).toNat
def st (l : List UInt8) : Nat → Nat
  | 0 => 1181783497276652981 ^^^ l.length
  | k + 1 => mixN (st l k ^^^ bl l (8 * k) 8)
def hexd (d : Nat) : UInt8 := UInt8.ofNat (if d < 10 then 48 + d else 87 + d)
/-- the last n hexadecimal digits of x. -/
def hexN (x : Nat) : Nat → List UInt8
  | 0 => []
  | n + 1 => hexd (x / 16 ^ n % 16) :: hexN x n
def dsum (l : List UInt8) : List UInt8 := hexN (st l (l.length / 8 + 1)) 16
def isHexB (c : UInt8) : Bool := (decide (48 ≤ c.toNat) && decide (c.toNat ≤ 57)) || (decide (97 ≤ c.toNat) && decide (c.toNat ≤ 102))
def isDig (l : List UInt8) : Bool := l.length == 16 && l.all isHexB
def joined : List (List UInt8) → List UInt8
  | [] => []
  | x :: r => Lib.itoa x.length ++ 58 :: (x ++ joined r)

/-! ### sizes -/
theorem xor_lt {a b : Nat} (ha : a < M) (hb : b < M) : a ^^^ b < M := Nat.xor_lt_two_pow (n := 64) ha hb
theorem step_lt (x c d : Nat) : step x c d < M := by
  unfold step
  exact xor_lt (Nat.mod_lt _ (by decide)) (Nat.lt_of_le_of_lt (Nat.div_le_self _ _) (Nat.mod_lt _ (by decide)))
theorem mixN_lt (x : Nat) : mixN x < M := step_lt _ _ _
theorem byte_lt (c : UInt8) : c.toNat < 256 := c.toNat_lt
theorem bl_lt (l : List UInt8) (p n : Nat) : bl l p n < 256 ^ n := by
  induction n with
  | zero => simp [bl]
  | succ n ih =>
    have h := byte_lt (l.getD (p + n) 0)
    have e : 256 ^ (n + 1) = 256 ^ n * 256 := Nat.pow_succ ..
    rw [bl, e]
    omega
theorem bl8_lt (l : List UInt8) (p : Nat) : bl l p 8 < M := by have := bl_lt l p 8; simpa using this
theorem st_lt (l : List UInt8) (k : Nat) (hl : l.length < M) : st l k < M := by
  cases k with
  | zero => exact xor_lt (by decide) hl
  | succ k => exact mixN_lt _
theorem hexN_length (x n : Nat) : (hexN x n).length = n := by
  induction n with
  | zero => rfl
  | succ n ih => simp [hexN, ih]
theorem dsum_length (l : List UInt8) : (dsum l).length = 16 := hexN_length _ _

/-! ### digits -/
theorem hexd_isHex (d : Nat) (h : d < 16) : isHexB (hexd d) = true := by
  have : ∀ d : Fin 16, isHexB (hexd d.val) = true := by decide
  exact this ⟨d, h⟩
theorem hexd_inj {a b : Nat} (ha : a < 16) (hb : b < 16) (h : hexd a = hexd b) : a = b := by
  have : ∀ a b : Fin 16, hexd a.val = hexd b.val → a = b := by decide
  exact congrArg Fin.val (this ⟨a, ha⟩ ⟨b, hb⟩ h)
theorem hexN_isHex (x n : Nat) : (hexN x n).all isHexB = true := by
  induction n with
  | zero => rfl
  | succ n ih => simp [hexN, ih, hexd_isHex _ (Nat.mod_lt _ (by decide))]
theorem isDig_dsum (l : List UInt8) : isDig (dsum l) = true := by
  unfold isDig
  rw [dsum_length]
  simp only [dsum, hexN_isHex, beq_self_eq_true, Bool.and_self]
theorem hexN_inj (n : Nat) : ∀ {x y : Nat}, x < 16 ^ n → y < 16 ^ n → hexN x n = hexN y n → x = y := by
  have gen : ∀ (n x y : Nat), hexN x n = hexN y n → x % 16 ^ n = y % 16 ^ n := by
    intro n
    induction n with
    | zero => intro x y _; simp [Nat.mod_one]
    | succ n ih =>
      intro x y h
      simp only [hexN, List.cons.injEq] at h
      have h1 := hexd_inj (Nat.mod_lt _ (by decide)) (Nat.mod_lt _ (by decide)) h.1
      have h2 := ih x y h.2
      rw [Nat.pow_succ, Nat.mod_mul, Nat.mod_mul, h1, h2]
  intro x y hx hy h
  have := gen n x y h
  rwa [Nat.mod_eq_of_lt hx, Nat.mod_eq_of_lt hy] at this

/-! ### mixing is one to one -/
theorem mul_inj {c i : Nat} (hc : c * i % M = 1) {x y : Nat} (hx : x < M) (hy : y < M) (h : x * c % M = y * c % M) : x = y := by
  have back : ∀ x, x < M → (x * c % M) * i % M = x := by
    intro x hx
    rw [Nat.mod_mul_mod, Nat.mul_assoc, Nat.mul_mod, hc, Nat.mul_one, Nat.mod_mod, Nat.mod_eq_of_lt hx]
  rw [← back x hx, ← back y hy, h]
/-- x xor (x shifted by s) gives x back, as far as the highest s * k bits go. -/
theorem shift_inj (s : Nat) (hs : 0 < s) {x y : Nat} (hx : x < 2 ^ 64) (hy : y < 2 ^ 64) (h : x ^^^ (x / 2 ^ s) = y ^^^ (y / 2 ^ s)) : x = y := by
  have hb : ∀ i, (x.testBit i ^^ x.testBit (s + i)) = (y.testBit i ^^ y.testBit (s + i)) := by
    intro i
    have := congrArg (fun n => n.testBit i) h
    simpa only [Nat.testBit_xor, Nat.testBit_div_two_pow, Nat.add_comm i s] using this
  have up : ∀ k i, 64 ≤ i + k → x.testBit i = y.testBit i := by
    intro k
    induction k with
    | zero =>
      intro i hi
      have a : ∀ z, z < 2 ^ 64 → z.testBit i = false := fun z hz => Nat.testBit_lt_two_pow (Nat.lt_of_lt_of_le hz (Nat.pow_le_pow_right (by decide) (by omega)))
      rw [a x hx, a y hy]
    | succ k ih =>
      intro i hi
      have e := ih (s + i) (by omega)
      have hh := hb i
      rw [e] at hh
      revert hh
      cases x.testBit i <;> cases y.testBit i <;> cases y.testBit (s + i) <;> simp
  exact Nat.eq_of_testBit_eq fun i => up 64 i (by omega)
theorem mixN_inj {x y : Nat} (hx : x < M) (hy : y < M) (h : mixN x = mixN y) : x = y := by
  have h1 := shift_inj 29 (by decide) (Nat.mod_lt _ (by decide)) (Nat.mod_lt _ (by decide)) (show _ = _ from h)
  have h2 := mul_inj (i := 13700500150304694605) (by decide) (step_lt _ _ _) (step_lt _ _ _) h1
  have h3 := shift_inj 32 (by decide) (Nat.mod_lt _ (by decide)) (Nat.mod_lt _ (by decide)) (show _ = _ from h2)
  exact mul_inj (i := 16133697096952638549) (by decide) hx hy h3
theorem xor_inj_left {a b c : Nat} (h : a ^^^ b = a ^^^ c) : b = c := by
  have := congrArg (fun n => a ^^^ n) h
  simpa [← Nat.xor_assoc] using this
theorem xor_inj_right {a b c : Nat} (h : b ^^^ a = c ^^^ a) : b = c := xor_inj_left (a := a) (by rwa [Nat.xor_comm a b, Nat.xor_comm a c])
end Go.Proofs.YtanlpcdljclnmaaDoor.Dg
