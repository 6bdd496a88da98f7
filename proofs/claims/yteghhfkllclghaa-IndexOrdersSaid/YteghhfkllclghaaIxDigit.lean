/- index: digits. -/
import Derived.Test.YteghhfkllclghaaIxLeaf
import Derived.Test.YteghhfkllclghaaIxShelf
import Derived.Lib.ItoaNum
import Derived.Laws.BitsAllLaws
namespace Go.Proofs.Yteghhfkllclghaa.Ix
open Go.RowKit Go.Sort
theorem four_index_0 (x y z u : Value) (w : World) : (Instr.index 119 (.agg #[x, y, z, u]) (.int .i64 0)).run Try.prog w = .ok x w := by kernel_rfl
theorem four_index_1 (x y z u : Value) (w : World) : (Instr.index 119 (.agg #[x, y, z, u]) (.int .i64 1)).run Try.prog w = .ok y w := by kernel_rfl
theorem four_index_2 (x y z u : Value) (w : World) : (Instr.index 119 (.agg #[x, y, z, u]) (.int .i64 2)).run Try.prog w = .ok z w := by kernel_rfl
theorem four_index_3 (x y z u : Value) (w : World) : (Instr.index 119 (.agg #[x, y, z, u]) (.int .i64 3)).run Try.prog w = .ok u w := by kernel_rfl
theorem four_index (b : Bx) (r : Nat) (h : r < 4) (w : World) : (Instr.index 119 (v4 b) (.int .i64 r)).run Try.prog w = .ok (.int .u32 (cN b r)) w := by
  match r, h with
  | 0, _ => exact four_index_0 _ _ _ _ w
  | 1, _ => exact four_index_1 _ _ _ _ w
  | 2, _ => exact four_index_2 _ _ _ _ w
  | 3, _ => exact four_index_3 _ _ _ _ w
theorem co_mod (b : Bx) (i : Nat) : co b i = co b (i % 4) := by unfold co; rw [Nat.mod_mod]
theorem cN_mod (b : Bx) (i : Nat) : cN b i = cN b (i % 4) := by unfold cN; rw [co_mod]
theorem cN_lt {b : Bx} (hv : validB b = true) (i : Nat) : cN b i < 4294967296 := by
  rw [valid_iff] at hv
  unfold cN co
  split <;> omega
theorem dig_bits {b : Bx} (hv : validB b = true) {i r q : Nat} (hr : i % 4 = r) (hq : i / 4 = q) : wrap64 (bits .and .u32 ((cN b r : Int) / 2 ^ (31 - q)) 1) = (dig b i : Int) := by
  have hl := cN_lt hv r
  have e : ((cN b r : Int) / 2 ^ (31 - q)) = ((cN b r / 2 ^ (31 - q) : Nat) : Int) := by simp
  have hlt : cN b r / 2 ^ (31 - q) < 4294967296 := Nat.lt_of_le_of_lt (Nat.div_le_self _ _) hl
  rw [e, show (1 : Int) = ((1 : Nat) : Int) from rfl, u32_and_nat _ _ hlt (by decide), Nat.and_one_is_mod]
  unfold dig
  rw [cN_mod b i, hr, hq]
  unfold wrap64
  omega
set_option maxRecDepth 100000 in
set_option maxHeartbeats 1000000 in
theorem digit_any {b : Bx} (hv : validB b = true) (i : Nat) (hi : i < 128) : Answers Try.prog 54 #[vB b, .int .i64 i] (.int .i64 (dig b i)) := by
  intro w
  have k1 := fun W => coordinates_any hv W
  obtain ⟨r, hr⟩ : ∃ r, i % 4 = r := ⟨_, rfl⟩
  obtain ⟨q, hq⟩ : ∃ q, i / 4 = q := ⟨_, rfl⟩
  have hr4 : r < 4 := by omega
  have hq32 : q < 32 := by omega
  have hix := fun W => four_index b r hr4 W
  have e1 : (i : Int).tmod 4 = (r : Int) := by rw [Int.tmod_eq_emod_of_nonneg (by omega)]; omega
  have e2 : (i : Int).tdiv 4 = (q : Int) := by rw [Int.tdiv_eq_ediv_of_nonneg (by omega)]; omega
  have HE := Lib.hid (dig_bits hv hr hq)
  obtain ⟨W, hW, hB, hR⟩ := box_row w 26 b
  have HW := Lib.hid hW
  have HB := Lib.hid hB
  clear hW hB hR hr hq
  unfold cB at HW
  unfold vB
  unfold vB at k1
  go_enter Try.func54, Try.ntmps54
  go_wp2_with fail
  rw [HW.out]
  refine (k1 _).mono ?_
  rintro e w1 ⟨rfl, b1⟩
  have B1 := Lib.hid (HB.out.trans (b1.mono HB.out.size))
  clear b1 HB HW k1
  go_wp2_with fail
  go_ret
  exact ⟨ret_int HE.out, B1.out⟩
/-- the leading zeros of x xor y. -/
def lz (x y : Nat) : Nat := 32 - Lib.bitLen (x ^^^ y)
theorem lz_spec {x y : Nat} (hx : x < 4294967296) (hy : y < 4294967296) : Lib.bitLen (x ^^^ y) ≤ 32 ∧ lz x y ≤ 32 ∧ (∀ k, k < lz x y → x / 2 ^ (31 - k) % 2 = y / 2 ^ (31 - k) % 2) ∧ (lz x y < 32 → x / 2 ^ (31 - lz x y) % 2 ≠ y / 2 ^ (31 - lz x y) % 2) := by
  have hz : x ^^^ y < 2 ^ 32 := Nat.xor_lt_two_pow hx hy
  have hle := Lib.bitLen_le (x ^^^ y) 32 (by decide) hz
  have tb : ∀ n i : Nat, n / 2 ^ i % 2 = if n.testBit i then 1 else 0 := fun n i => by
    rw [Nat.testBit_eq_decide_div_mod_eq]
    by_cases h : n / 2 ^ i % 2 = 1
    · simp [h]
    · simp [h]; omega
  by_cases h0 : x ^^^ y = 0
  · have e : x = y := by
      apply Nat.eq_of_testBit_eq
      intro i
      have := congrArg (fun n => n.testBit i) h0
      simp only [Nat.testBit_xor, Nat.zero_testBit] at this
      simpa using this
    subst e
    refine ⟨hle, by unfold lz; omega, fun _ _ => rfl, fun h => ?_⟩
    exfalso
    unfold lz at h
    rw [h0] at h
    have : Lib.bitLen 0 = 0 := Lib.bitLenAux_zero 64
    omega
  · obtain ⟨b1, b2, b3⟩ := Lib.bitLenAux_bounds 64 (x ^^^ y) (Nat.lt_of_lt_of_le hz (by decide)) h0
    change 1 ≤ Lib.bitLen _ at b1
    change 2 ^ (Lib.bitLen _ - 1) ≤ _ at b2
    change _ < 2 ^ Lib.bitLen _ at b3
    refine ⟨hle, by unfold lz; omega, fun k hk => ?_, fun _ => ?_⟩
    · unfold lz at hk
      have : (x ^^^ y).testBit (31 - k) = false := Nat.testBit_lt_two_pow (Nat.lt_of_lt_of_le b3 (Nat.pow_le_pow_right (by decide) (by omega)))
      rw [Nat.testBit_xor] at this
      rw [tb, tb]
      simp at this
      rw [this]
    · unfold lz
      have e : 31 - (32 - Lib.bitLen (x ^^^ y)) = Lib.bitLen (x ^^^ y) - 1 := by omega
      rw [e, tb, tb]
      have ht : (x ^^^ y).testBit (Lib.bitLen (x ^^^ y) - 1) = true := by
        have h1 := Nat.testBit_eq_decide_div_mod_eq (x := x ^^^ y) (i := Lib.bitLen (x ^^^ y) - 1)
        rw [h1, decide_eq_true_iff]
        have hp : 0 < 2 ^ (Lib.bitLen (x ^^^ y) - 1) := Nat.pow_pos (by decide)
        have e2 : 2 ^ Lib.bitLen (x ^^^ y) = 2 ^ (Lib.bitLen (x ^^^ y) - 1) * 2 := by rw [← Nat.pow_succ]; congr 1; omega
        have d1 : 1 ≤ (x ^^^ y) / 2 ^ (Lib.bitLen (x ^^^ y) - 1) := (Nat.le_div_iff_mul_le hp).2 (by omega)
        have d2 : (x ^^^ y) / 2 ^ (Lib.bitLen (x ^^^ y) - 1) < 2 := (Nat.div_lt_iff_lt_mul hp).2 (by omega)
        omega
      rw [Nat.testBit_xor] at ht
      intro h
      revert ht h
      cases x.testBit (Lib.bitLen (x ^^^ y) - 1) <;> cases y.testBit (Lib.bitLen (x ^^^ y) - 1) <;> simp
/-- what differ has found after n coordinates. -/
def dMin (p q : Bx) : Nat → Nat
  | 0 => 128
  | n + 1 => min (dMin p q n) (4 * lz (cN p n) (cN q n) + n)
theorem dMin_le (p q : Bx) : ∀ n, dMin p q n ≤ 128
  | 0 => Nat.le_refl _
  | n + 1 => by unfold dMin; have := dMin_le p q n; omega
theorem dMin_at (p q : Bx) : ∀ {n i}, i < n → dMin p q n ≤ 4 * lz (cN p i) (cN q i) + i
  | n + 1, i, h => by
    unfold dMin
    by_cases e : i = n
    · subst e; omega
    · have := dMin_at p q (n := n) (i := i) (by omega); omega
theorem dMin_ex (p q : Bx) : ∀ n, dMin p q n = 128 ∨ ∃ i, i < n ∧ dMin p q n = 4 * lz (cN p i) (cN q i) + i
  | 0 => .inl rfl
  | n + 1 => by
    unfold dMin
    rcases dMin_ex p q n with h | ⟨i, h1, h2⟩ <;> by_cases g : dMin p q n ≤ 4 * lz (cN p n) (cN q n) + n
    · left; omega
    · right; exact ⟨n, by omega, by omega⟩
    · right; exact ⟨i, by omega, by omega⟩
    · right; exact ⟨n, by omega, by omega⟩
theorem dMin_is {p q : Bx} (hp : validB p = true) (hq : validB q = true) : dMin p q 4 = difN p q := by
  refine (dif_is (dMin_le p q 4) (fun j hj => ?_) fun h => ?_).symm
  · have h1 := dMin_at p q (n := 4) (i := j % 4) (by omega)
    have hs := (lz_spec (cN_lt hp (j % 4)) (cN_lt hq (j % 4))).2.2.1 (j / 4) (by omega)
    unfold dig
    rw [cN_mod p j, cN_mod q j]
    exact hs
  · rcases dMin_ex p q 4 with e | ⟨i, hi, e⟩
    · omega
    · have hs := (lz_spec (cN_lt hp i) (cN_lt hq i)).2.2.2 (by omega)
      have e1 : dMin p q 4 / 4 = lz (cN p i) (cN q i) := by omega
      have e2 : dMin p q 4 % 4 = i := by omega
      unfold dig
      rw [cN_mod p (dMin p q 4), cN_mod q (dMin p q 4), e2, e1]
      exact hs
set_option maxRecDepth 100000 in
set_option maxHeartbeats 2000000 in
theorem differ_any {p q : Bx} (hp : validB p = true) (hq : validB q = true) : Answers Try.prog 52 #[vB p, vB q] (.int .i64 (difN p q)) := by
  intro w
  have HE := Lib.hid (dMin_is hp hq)
  have HP := Lib.hid hp
  have HQ := Lib.hid hq
  have k1 := Lib.hid (fun W => coordinates_any hq W)
  have k2 := Lib.hid (fun W => coordinates_any hp W)
  obtain ⟨W, hW, hB, r0, r1⟩ := two_made w 26 26 (cB p) (cB q)
  have HW := Lib.hid hW
  have HB := Lib.hid hB
  have R0 := Lib.hid r0
  clear hW hB r0 r1 hp hq
  unfold cB at HW R0
  unfold vB
  unfold vB at k1 k2
  go_enter Try.func52, Try.ntmps52
  go_wp2_with fail
  rw [HW.out]
  refine (k1.out _).mono ?_
  rintro e w1 ⟨rfl, b1⟩
  have B1 := Lib.hid (HB.out.trans (b1.mono HB.out.size))
  have R1 := Lib.hid (R0.out.below b1 R0.out.inside)
  clear b1 HB HW k1 R0
  have hv4 : v4 q = .agg #[.int .u32 (cN q 0), .int .u32 (cN q 1), .int .u32 (cN q 2), .int .u32 (cN q 3)] := rfl
  rw [hv4]
  clear hv4
  go_upto_region 3 with fail
  obtain ⟨W2, hW2⟩ : ∃ W2, w1.alloc (.cells #[.int .u32 (cN q 0), .int .u32 (cN q 1), .int .u32 (cN q 2), .int .u32 (cN q 3)] 119) = W2 := ⟨_, rfl⟩
  have B2 := Lib.hid (show Below w.heap.size w W2 from hW2 ▸ B1.out.alloc B1.out.size _)
  have R2 := Lib.hid (show IsRow W2 w.heap.size 26 #[.int .i64 p.a, .int .i64 p.b, .int .i64 p.c, .int .i64 p.d] from hW2 ▸ R1.out.later _)
  have Q2 := Lib.hid (show IsRow W2 w1.heap.size 119 #[.int .u32 (cN q 0), .int .u32 (cN q 1), .int .u32 (cN q 2), .int .u32 (cN q 3)] from hW2 ▸ IsRow.made _ _ _)
  rw [hW2]
  clear hW2 B1 R1
  obtain ⟨g, hg⟩ : ∃ g, w1.heap.size = g := ⟨_, rfl⟩
  rw [hg] at Q2 ⊢
  clear hg
  obtain ⟨x0, x1, x2, x3, _, _, _, _⟩ := row_facts R2.out
  go_wp2_with fail
  refine (k2.out _).mono ?_
  rintro e w3 ⟨rfl, b3⟩
  have B3 := Lib.hid (B2.out.trans (b3.mono B2.out.size))
  have Q3 := Lib.hid (Q2.out.below b3 Q2.out.inside)
  clear b3 B2 R2 Q2 k2 x0 x1 x2 x3
  go_wp2_with fail
  go_loopw [5, 13] (fun f k wr => ∃ n : Nat, n ≤ 4 ∧ k = .int .i64 n ∧ f = .int .i64 (dMin p q n) ∧ wr = w3) (fun _ k _ => 4 - (intOf k).toNat)
  case atStart => exact ⟨0, by omega, rfl, rfl, rfl⟩
  case round =>
    obtain ⟨n, hn, rfl, rfl, rfl⟩ := hrel
    by_cases hlt : n < 4
    · have hix := fun W => four_index p n hlt W
      have hq : wr.cell? ⟨g, n, none⟩ = some (.int .u32 (cN q n)) := by
        rw [Q3.out.get n]
        match n, hlt with
        | 0, _ => rfl
        | 1, _ => rfl
        | 2, _ => rfl
        | 3, _ => rfl
      have l1 := cN_lt HP.out n
      have l2 := cN_lt HQ.out n
      obtain ⟨s1, s2, _, _⟩ := lz_spec l1 l2
      have hx := u32_xor_nat _ _ l1 l2
      have hxl : cN p n ^^^ cN q n < 4294967296 := Nat.xor_lt_two_pow (n := 32) l1 l2
      have hL : (32 : Int) - (Lib.bitLen (cN p n ^^^ cN q n) : Int) = ((lz (cN p n) (cN q n) : Nat) : Int) := by unfold lz; omega
      have kz := Lib.hid (fun W => Try.bits_LeadingZeros32 ((cN p n ^^^ cN q n : Nat) : Int) W (by omega) (by omega))
      have HM := Lib.hid (show dMin p q (n + 1) = min (dMin p q n) (4 * lz (cN p n) (cN q n) + n) from rfl)
      have hd := dMin_le p q n
      obtain ⟨D, hD⟩ : ∃ D, dMin p q n = D := ⟨_, rfl⟩
      obtain ⟨Z, hZ⟩ : ∃ Z, lz (cN p n) (cN q n) = Z := ⟨_, rfl⟩
      rw [hD, hZ] at HM
      rw [hD] at hd ⊢
      rw [hZ] at hL s2
      have kz2 := Lib.hid (fun W => (kz.out W).mono (R' := fun e w' => e = .returned (.int .i64 (Z : Int)) ∧ w' = W) (fun e w' ⟨h1, h2⟩ => ⟨by rw [h1, Int.toNat_natCast, hL], h2⟩))
      have hm : ∀ ts t w, (Builtin.min_ ts t #[.int .i64 (D : Int), .int .i64 (4 * (Z : Int) + (n : Int))]).run Try.prog w = .ok (.int .i64 ((dMin p q (n + 1) : Nat) : Int)) w := fun ts t w => by
        rw [run_min_int2, HM.out]; congr 2; omega
      clear hD hZ s1 hL kz l1 l2
      go_wp2_with fail
      refine (kz2.out _).mono ?_
      rintro e w4 ⟨rfl, rfl⟩
      clear kz2
      go_wp2
      go_roundw
      case rel => exact ⟨n + 1, by omega, by go_num, by simp⟩
      case measure => simp [intOf]; omega
    · obtain rfl : n = 4 := by omega
      go_wp2
      go_ret
      exact ⟨ret_int (by rw [HE.out]), B3.out⟩
end Go.Proofs.Yteghhfkllclghaa.Ix
