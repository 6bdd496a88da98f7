/- Plain mathematics of digests: when two texts have one digest. -/
import Derived.Test.YtanlpcdljclnmaaDoorDgMath
namespace Go.Proofs.YtanlpcdljclnmaaDoor.Dg

theorem bl_inj {l l' : List UInt8} {p p' : Nat} : ∀ {n : Nat}, bl l p n = bl l' p' n → ∀ i, i < n → l.getD (p + i) 0 = l'.getD (p' + i) 0 := by
  intro n
  induction n with
  | zero => intro _ i hi; omega
  | succ n ih =>
    intro h i hi
    simp only [bl] at h
    have h1 := byte_lt (l.getD (p + n) 0)
    have h2 := byte_lt (l'.getD (p' + n) 0)
    by_cases e : i = n
    · subst e
      exact UInt8.toNat_inj.1 (by omega)
    · exact ih (by omega) i (by omega)
theorem bl_congr {l l' : List UInt8} {p p' : Nat} : ∀ {n : Nat}, (∀ i, i < n → l.getD (p + i) 0 = l'.getD (p' + i) 0) → bl l p n = bl l' p' n := by
  intro n
  induction n with
  | zero => intro _; rfl
  | succ n ih =>
    intro h
    rw [bl, bl, ih fun i hi => h i (by omega), h n (by omega)]
theorem ext_getD {l l' : List UInt8} (hlen : l.length = l'.length) (h : ∀ i, l.getD i 0 = l'.getD i 0) : l = l' := by
  refine List.ext_getElem hlen fun i h1 h2 => ?_
  have := h i
  simpa [List.getD_eq_getElem?_getD, h1, h2] using this
theorem getD_long {l : List UInt8} {i : Nat} (h : l.length ≤ i) : l.getD i 0 = 0 := by
  rw [List.getD_eq_getElem?_getD, List.getElem?_eq_none h]; rfl

theorem st_of_dsum {l l' : List UInt8} (hl : l.length < M) (hl' : l'.length < M) (h : dsum l = dsum l') : st l (l.length / 8 + 1) = st l' (l'.length / 8 + 1) :=
  hexN_inj 16 (st_lt _ _ hl) (st_lt _ _ hl') h

/-- P1.3: texts of at most 7 bytes. -/
theorem dsum_short {l l' : List UInt8} (hl : l.length ≤ 7) (hl' : l'.length ≤ 7) (h : dsum l = dsum l') : l = l' := by
  have h1 := st_of_dsum (by unfold M; omega) (by unfold M; omega) h
  rw [show l.length / 8 = 0 by omega, show l'.length / 8 = 0 by omega] at h1
  have lt : ∀ x : List UInt8, x.length ≤ 7 → st x 0 ^^^ bl x (8 * 0) 8 < M := fun x hx => xor_lt (st_lt x 0 (by unfold M; omega)) (bl8_lt _ _)
  have h2 := mixN_inj (lt l hl) (lt l' hl') h1
  simp only [st, Nat.xor_assoc] at h2
  have h3 := xor_inj_left h2
  have low : ∀ x : List UInt8, x.length ≤ 7 → bl x (8 * 0) 8 % 2 ^ 8 = 0 := by
    intro x hx
    rw [show bl x (8 * 0) 8 = bl x (8 * 0) 7 * 256 + (x.getD (8 * 0 + 7) 0).toNat from rfl, getD_long (by omega)]
    have : (0 : UInt8).toNat = 0 := rfl
    omega
  have h4 := congrArg (· % 2 ^ 8) h3
  simp only [Nat.xor_mod_two_pow, low l hl, low l' hl', Nat.xor_zero] at h4
  have h5 : l.length = l'.length := by omega
  rw [h5] at h3
  have h6 := bl_inj (xor_inj_left h3)
  refine ext_getD h5 fun i => ?_
  by_cases hi : i < 8
  · simpa using h6 i hi
  · rw [getD_long (by omega), getD_long (by omega)]

/-- P1.4: texts of one length that agree outside of the block q. -/
theorem dsum_block {l l' : List UInt8} (q : Nat) (hlen : l.length = l'.length) (hl : l.length < M) (hout : ∀ i, ¬ (8 * q ≤ i ∧ i < 8 * q + 8) → l.getD i 0 = l'.getD i 0) (h : dsum l = dsum l') : l = l' := by
  have h1 := st_of_dsum hl (hlen ▸ hl) h
  rw [← hlen] at h1
  have hl' : l'.length < M := hlen ▸ hl
  have blk : ∀ k, k ≠ q → bl l (8 * k) 8 = bl l' (8 * k) 8 := fun k hk => bl_congr fun i hi => hout _ (by omega)
  have inj : ∀ k, st l (k + 1) = st l' (k + 1) → st l k ^^^ bl l (8 * k) 8 = st l' k ^^^ bl l' (8 * k) 8 := fun k hk =>
    mixN_inj (xor_lt (st_lt _ _ hl) (bl8_lt _ _)) (xor_lt (st_lt _ _ hl') (bl8_lt _ _)) hk
  have down : ∀ k, st l (q + 1 + k) = st l' (q + 1 + k) → st l (q + 1) = st l' (q + 1) := by
    intro k
    induction k with
    | zero => exact id
    | succ k ih =>
      intro hk
      have e := inj (q + 1 + k) hk
      rw [blk _ (by omega)] at e
      exact ih (xor_inj_right e)
  have up : ∀ k, k ≤ q → st l k = st l' k := by
    intro k
    induction k with
    | zero => intro _; simp only [st, hlen]
    | succ k ih =>
      intro hk
      rw [st, st, ih (by omega), blk k (by omega)]
  have hq : bl l (8 * q) 8 = bl l' (8 * q) 8 := by
    by_cases hlt : q ≤ l.length / 8
    · obtain ⟨k, hk⟩ := Nat.le.dest hlt
      have e := inj q (down k (by rw [show q + 1 + k = l.length / 8 + 1 by omega]; exact h1))
      rw [up q (Nat.le_refl _)] at e
      exact xor_inj_left e
    · exact bl_congr fun i hi => by rw [getD_long (by omega), getD_long (by omega)]
  have hin := bl_inj hq
  refine ext_getD hlen fun i => ?_
  by_cases hi : 8 * q ≤ i ∧ i < 8 * q + 8
  · have := hin (i - 8 * q) (by omega)
    rwa [show 8 * q + (i - 8 * q) = i by omega] at this
  · exact hout i hi

/-! ### joined texts -/
def dval (l : List UInt8) : Nat := l.foldl (fun a c => a * 10 + (c.toNat - 48)) 0
theorem dval_snoc (l : List UInt8) (c : UInt8) : dval (l ++ [c]) = dval l * 10 + (c.toNat - 48) := by simp [dval]
theorem dec_facts : ∀ (f n : Nat), n < 10 ^ f → dval (Lib.decDigits n) = n ∧ ∀ c ∈ Lib.decDigits n, 48 ≤ c.toNat ∧ c.toNat ≤ 57 := by
  have one : ∀ d : Fin 10, 48 ≤ (UInt8.ofNat (48 + d.val)).toNat ∧ (UInt8.ofNat (48 + d.val)).toNat ≤ 57 ∧ (UInt8.ofNat (48 + d.val)).toNat - 48 = d.val := by decide
  intro f
  induction f with
  | zero =>
    intro n hn
    obtain rfl : n = 0 := by simpa using hn
    rw [Lib.decDigits_one (by decide)]
    exact ⟨rfl, by simp⟩
  | succ f ih =>
    intro n hn
    rw [Nat.pow_succ] at hn
    by_cases h : n < 10
    · have o := one ⟨n, h⟩
      rw [Lib.decDigits_one h]
      refine ⟨?_, ?_⟩
      · rw [show [UInt8.ofNat (48 + n)] = [] ++ [UInt8.ofNat (48 + n)] from rfl, dval_snoc]
        simp only [dval, List.foldl_nil] at *
        omega
      · intro c hc
        simp only [List.mem_singleton] at hc
        subst hc
        exact ⟨o.1, o.2.1⟩
    · obtain ⟨i1, i2⟩ := ih (n / 10) (by omega)
      have o := one ⟨n % 10, Nat.mod_lt _ (by decide)⟩
      rw [Lib.decDigits, dif_neg h]
      refine ⟨?_, ?_⟩
      · rw [dval_snoc, i1]
        simp only at o
        omega
      · intro c hc
        rcases List.mem_append.1 hc with hc | hc
        · exact i2 c hc
        · simp only [List.mem_singleton] at hc
          subst hc
          exact ⟨o.1, o.2.1⟩
theorem dec_bytes (n : Nat) : ∀ c ∈ Lib.itoa n, 48 ≤ c.toNat ∧ c.toNat ≤ 57 := by
  have e : Lib.itoa n = Lib.decDigits n := by unfold Lib.itoa; rw [if_neg (by omega)]; simp
  rw [e]
  exact (dec_facts n n (Nat.lt_pow_self (by decide))).2
theorem itoa_inj {a b : Nat} (h : Lib.itoa a = Lib.itoa b) : a = b := by
  have e : ∀ n : Nat, Lib.itoa n = Lib.decDigits n := fun n => by unfold Lib.itoa; rw [if_neg (by omega)]; simp
  rw [e, e] at h
  rw [← (dec_facts a a (Nat.lt_pow_self (by decide))).1, ← (dec_facts b b (Nat.lt_pow_self (by decide))).1, h]
/-- cut at the first byte c: what stands before it, and behind it, is told. -/
theorem cut_inj {c : UInt8} : ∀ {p q r s : List UInt8}, c ∉ p → c ∉ q → p ++ c :: r = q ++ c :: s → p = q ∧ r = s := by
  intro p
  induction p with
  | nil =>
    intro q r s _ hq h
    cases q with
    | nil => simpa using h
    | cons y q => simp only [List.nil_append, List.cons_append, List.cons.injEq] at h; exact absurd (by simp [h.1]) hq
  | cons x p ih =>
    intro q r s hp hq h
    cases q with
    | nil => simp only [List.nil_append, List.cons_append, List.cons.injEq] at h; exact absurd (by simp [← h.1]) hp
    | cons y q =>
      simp only [List.cons_append, List.cons.injEq] at h
      obtain ⟨e1, e2⟩ := ih (fun hc => hp (by simp [hc])) (fun hc => hq (by simp [hc])) h.2
      exact ⟨by rw [h.1, e1], e2⟩
theorem itoa_no58 (n : Nat) : (58 : UInt8) ∉ Lib.itoa n := fun h => by have := dec_bytes n _ h; revert this; decide
theorem itoa_ne_nil (n : Nat) : Lib.itoa n ≠ [] := by
  have e : Lib.itoa n = Lib.decDigits n := by unfold Lib.itoa; rw [if_neg (by omega)]; simp
  intro h
  rw [e] at h
  have := Lib.decDigits_length n
  rw [h] at this
  have := Lib.nDigits_pos n
  simp at *
  omega
/-- P1.5: different lists have different joined texts. -/
theorem joined_inj : ∀ {l m : List (List UInt8)}, joined l = joined m → l = m := by
  intro l
  induction l with
  | nil =>
    intro m h
    cases m with
    | nil => rfl
    | cons y m => simp [joined, itoa_ne_nil] at h
  | cons x l ih =>
    intro m h
    cases m with
    | nil => simp [joined, itoa_ne_nil] at h
    | cons y m =>
      obtain ⟨h1, h2⟩ := cut_inj (itoa_no58 _) (itoa_no58 _) h
      obtain ⟨h3, h4⟩ := List.append_inj h2 (itoa_inj h1)
      rw [h3, ih h4]
theorem itoa_one {n : Nat} (h : n < 10) : (Lib.itoa n).length = 1 := by
  have e : Lib.itoa n = Lib.decDigits n := by unfold Lib.itoa; rw [if_neg (by omega)]; simp
  rw [e, Lib.decDigits_one h]; rfl
/-- P1.5: lists of one element of at most 9 bytes, which agree in the first 6. -/
theorem dsum_nine {x y : List UInt8} (hl : x.length ≤ 9) (hxy : x.length = y.length) (h6 : ∀ i, i < 6 → x.getD i 0 = y.getD i 0) (h : dsum (joined [x]) = dsum (joined [y])) : x = y := by
  have len : ∀ z : List UInt8, (joined [z]).length = (Lib.itoa z.length).length + 1 + z.length := fun z => by simp [joined]; omega
  have hx1 := itoa_one (n := x.length) (by omega)
  have e : joined [x] = joined [y] := by
    refine dsum_block 1 (by rw [len, len, hxy]) (by rw [len, hx1]; unfold M; omega) (fun i hi => ?_) h
    have at_ : ∀ (z : List UInt8) (j : Nat), (Lib.itoa z.length).length = 1 → (joined [z]).getD (j + 2) 0 = z.getD j 0 := by
      intro z j hz
      rw [show joined [z] = (Lib.itoa z.length ++ [58]) ++ z by simp [joined]]
      rw [List.getD_eq_getElem?_getD, List.getElem?_append_right (by simp [hz]), List.getD_eq_getElem?_getD]
      simp [hz]
    have at0 : ∀ (z : List UInt8) (j : Nat), (Lib.itoa z.length).length = 1 → j < 2 → (joined [z]).getD j 0 = (Lib.itoa z.length ++ [58]).getD j 0 := by
      intro z j hz hj
      rw [show joined [z] = (Lib.itoa z.length ++ [58]) ++ z by simp [joined]]
      rw [List.getD_eq_getElem?_getD, List.getElem?_append_left (by simp [hz]; omega), List.getD_eq_getElem?_getD]
    have hy1 := itoa_one (n := y.length) (by omega)
    by_cases h2 : i < 2
    · rw [at0 x i hx1 h2, at0 y i hy1 h2, hxy]
    · obtain ⟨j, rfl⟩ : ∃ j, i = j + 2 := ⟨i - 2, by omega⟩
      rw [at_ x j hx1, at_ y j hy1]
      by_cases hj : j < 6
      · exact h6 j hj
      · rw [getD_long (by omega), getD_long (by omega)]
  exact (List.cons.inj (joined_inj e)).1
end Go.Proofs.YtanlpcdljclnmaaDoor.Dg
