/- Plain mathematics of the texts of tiles: cut at a slash, numerals; what both sides read is the tile. -/
import Derived.Test.YtenacgeahaoglaaDoorGdMath
import Derived.Lib.IndexMore
import Derived.Lib.AtoiAllCases
import Derived.Lib.ItoaMem
namespace Go.Proofs.YtenacgeahaoglaaDoor.Gd
open Go.Lib
theorem dig_all : ∀ (n : Nat), ∀ c ∈ decDigits n, 48 ≤ c.toNat ∧ c.toNat ≤ 57 := by
  intro n
  induction n using Nat.strongRecOn with
  | _ n ih =>
    intro c hc
    rw [decDigits] at hc
    split at hc
    · rw [List.mem_singleton] at hc
      subst hc
      rw [UInt8.toNat_ofNat']
      omega
    · rcases List.mem_append.1 hc with h | h
      · exact ih (n / 10) (by omega) c h
      · rw [List.mem_singleton] at h
        subst h
        rw [UInt8.toNat_ofNat']
        omega
theorem idx_hit : ∀ (d r : List UInt8), (∀ c ∈ d, c ≠ 47) → Lib.index (d ++ 47 :: r) [47] = (d.length : Int)
  | [], r, _ => by unfold Lib.index; simp
  | c :: d, r, h => by
    have ih := idx_hit d r fun x hx => h x (by simp [hx])
    have hc : ¬ (47 : UInt8) = c := fun e => h c (by simp) e.symm
    show Lib.index (c :: (d ++ 47 :: r)) [47] = _
    unfold Lib.index
    rw [ih]
    have hne : ((d.length : Int) == -1) = false := by rw [beq_eq_false_iff_ne]; omega
    simp [hc, hne]
theorem idx_miss : ∀ (d : List UInt8), (∀ c ∈ d, c ≠ 47) → Lib.index d [47] = -1
  | [], _ => rfl
  | c :: d, h => by
    have ih := idx_miss d fun x hx => h x (by simp [hx])
    have hc : ¬ (47 : UInt8) = c := fun e => h c (by simp) e.symm
    unfold Lib.index
    rw [ih]
    simp [hc]
theorem cut_hit {d : List UInt8} (r : List UInt8) (h : ∀ c ∈ d, c ≠ 47) : Lib.cut (d ++ 47 :: r) [47] = (d, r, true) := by
  unfold Lib.cut
  rw [idx_hit d r h, if_pos (by omega)]
  simp
theorem cut_miss {d : List UInt8} (h : ∀ c ∈ d, c ≠ 47) : Lib.cut d [47] = (d, [], false) := by
  unfold Lib.cut
  rw [idx_miss d h, if_neg (by omega)]
theorem dig_ne (n : Nat) : ∀ c ∈ decDigits n, c ≠ 47 := fun c hc e => by
  have := dig_all n c hc
  subst e
  exact absurd this.1 (by decide)
theorem parse_snoc (acc : Nat) (l : List UInt8) (c : UInt8) : parseUint10 acc (l ++ [c]) = match parseUint10 acc l with | .ok m => parseUint10 m [c] | x => x := by
  induction l generalizing acc with
  | nil => simp only [List.nil_append]; rfl
  | cons x l ih =>
    simp only [List.cons_append, parseUint10]
    split
    · split
      · rfl
      · split
        · rfl
        · exact ih _
    · rfl
theorem parse_dec : ∀ (n : Nat), n < 1000000000000000000 → parseUint10 0 (decDigits n) = .ok n := by
  intro n
  induction n using Nat.strongRecOn with
  | _ n ih =>
    intro hn
    rw [decDigits]
    split
    · have e : (UInt8.ofNat (48 + n)).toNat = 48 + n := by rw [UInt8.toNat_ofNat']; omega
      simp only [parseUint10, e]
      rw [if_pos (by omega), if_neg (by omega), if_neg (by omega)]
      congr 1; omega
    · rw [parse_snoc, ih (n / 10) (by omega) (by omega)]
      have e : (UInt8.ofNat (48 + n % 10)).toNat = 48 + n % 10 := by rw [UInt8.toNat_ofNat']; omega
      simp only [parseUint10, e]
      rw [if_pos (by omega), if_neg (by omega), if_neg (by omega)]
      congr 1; omega
theorem dec_cons (n : Nat) : ∃ c r, decDigits n = c :: r ∧ 48 ≤ c.toNat ∧ c.toNat ≤ 57 := by
  cases h : decDigits n with
  | nil =>
    rw [decDigits] at h
    split at h <;> simp at h
  | cons c r => exact ⟨c, r, rfl, dig_all n c (by rw [h]; simp)⟩
/-- what strconv.Atoi answers, with an error or without. -/
def nv (l : List UInt8) : Int := match atoiAll l with | .ok v => v | .range => atoiSat l | _ => 0
theorem nv_dec (n : Nat) (h : n < 1000000000000000000) : nv (decDigits n) = n := by
  have hp := parse_dec n h
  obtain ⟨c, r, e, h1, h2⟩ := dec_cons n
  unfold nv
  rw [e] at hp ⊢
  rw [atoiAll_plain c r (by omega) (by omega)]
  have : parseMag (c :: r) = .ok n := by unfold parseMag; rw [if_neg (by simp)]; exact hp
  rw [this]
  simp only [signless]
  rw [if_neg (by omega)]
/-- the text of a tile. -/
def txtN (t : Tl) : List UInt8 := itoa t.z ++ 47 :: (itoa t.x ++ 47 :: itoa t.y)
theorem okT_nats {t : Tl} (h : okT t) : ∃ a b c : Nat, t = ⟨a, b, c⟩ ∧ a ≤ 17 ∧ b < 131072 ∧ c < 131072 := by
  obtain ⟨z, x, y⟩ := t
  obtain ⟨⟨h1, h2⟩, h3, h4, h5, h6⟩ := h
  have hc := cnt_bounds (z := z) ⟨h1, h2⟩
  dsimp only at *
  refine ⟨z.toNat, x.toNat, y.toNat, ?_, by omega, by omega, by omega⟩
  congr 1 <;> omega
theorem txt_nat (a b c : Nat) : txtN ⟨a, b, c⟩ = decDigits a ++ 47 :: (decDigits b ++ 47 :: decDigits c) := by
  unfold txtN
  rw [itoa_nonneg, itoa_nonneg, itoa_nonneg]
theorem dec_len {n : Nat} (h : n < 1000000) : (decDigits n).length ≤ 6 := by
  have aux : ∀ k n : Nat, n < 10 ^ (k + 1) → (decDigits n).length ≤ k + 1 := by
    intro k
    induction k with
    | zero => intro n hn; rw [decDigits, dif_pos (by omega)]; simp
    | succ k ih =>
      intro n hn
      rw [decDigits]
      split
      · simp
      · rw [List.length_append]
        have := ih (n / 10) (by rw [Nat.pow_succ] at hn; omega)
        simp; omega
  exact aux 5 n (by simpa using h)
theorem txt_len {t : Tl} (h : okT t) : (txtN t).length ≤ 20 := by
  obtain ⟨a, b, c, rfl, h1, h2, h3⟩ := okT_nats h
  rw [txt_nat]
  have := dec_len (n := a) (by omega)
  have := dec_len (n := b) (by omega)
  have := dec_len (n := c) (by omega)
  simp only [List.length_append, List.length_cons]
  omega
/-- the tile that is read by cutting. -/
def cp (l : List UInt8) : Tl := ⟨nv (Lib.cut l [47]).1, nv (Lib.cut (Lib.cut l [47]).2.1 [47]).1, nv (Lib.cut (Lib.cut (Lib.cut l [47]).2.1 [47]).2.1 [47]).1⟩
theorem cp_txt {t : Tl} (h : okT t) : cp (txtN t) = t := by
  obtain ⟨a, b, c, rfl, h1, h2, h3⟩ := okT_nats h
  rw [txt_nat]
  unfold cp
  simp only [cut_hit _ (dig_ne a), cut_hit _ (dig_ne b), cut_miss (dig_ne c)]
  rw [nv_dec a (by omega), nv_dec b (by omega), nv_dec c (by omega)]
def textR (t : Tl) : List UInt8 × Int := if okT t then (txtN t, 0) else ([], 1)
def parseR (l : List UInt8) : Tl × Int := if okT (cp l) ∧ txtN (cp l) = l then (cp l, 0) else (zT, 5)
theorem parse_text {t : Tl} (h : okT t) : parseR (txtN t) = (t, 0) := by
  unfold parseR
  rw [cp_txt h, if_pos ⟨h, rfl⟩]
/-- what a text is of: of at most one tile. -/
theorem parseR_iff {l : List UInt8} {t : Tl} (h : okT t) (e : txtN t = l) : parseR l = (t, 0) := by subst e; exact parse_text h
/-- the reference's reading: byte by byte. -/
def stp (a : Int) (c : UInt8) : Int := min (10 * a + ((c.toNat : Int) - 48)) 10000000
def rfold (k : Nat) (a b c : Int) : List UInt8 → Option (Int × Int × Int)
  | [] => some (a, b, c)
  | x :: r => if x = 47 then rfold (k + 1) a b c r else if 48 ≤ x.toNat ∧ x.toNat ≤ 57 ∧ k < 3 then rfold k (if k = 0 then stp a x else a) (if k = 1 then stp b x else b) (if k = 2 then stp c x else c) r else none
theorem stp_dec : ∀ (n : Nat), n < 10000000 → (decDigits n).foldl stp 0 = n := by
  intro n
  induction n using Nat.strongRecOn with
  | _ n ih =>
    intro hn
    rw [decDigits]
    split
    · have e : (UInt8.ofNat (48 + n)).toNat = 48 + n := by rw [UInt8.toNat_ofNat']; omega
      simp only [List.foldl_cons, List.foldl_nil, stp, e]
      omega
    · rw [List.foldl_append, ih (n / 10) (by omega) (by omega)]
      have e : (UInt8.ofNat (48 + n % 10)).toNat = 48 + n % 10 := by rw [UInt8.toNat_ofNat']; omega
      simp only [List.foldl_cons, List.foldl_nil, stp, e]
      omega
theorem rfold_digits (k : Nat) (hk : k < 3) : ∀ (d r : List UInt8) (a b c : Int), (∀ x ∈ d, 48 ≤ x.toNat ∧ x.toNat ≤ 57) →
    rfold k a b c (d ++ r) = rfold k (if k = 0 then d.foldl stp a else a) (if k = 1 then d.foldl stp b else b) (if k = 2 then d.foldl stp c else c) r
  | [], r, a, b, c, _ => by simp
  | x :: d, r, a, b, c, h => by
    have hx := h x (by simp)
    have h47 : ¬ x = 47 := fun e => by subst e; exact absurd hx.1 (by decide)
    rw [List.cons_append, rfold, if_neg h47, if_pos ⟨hx.1, hx.2, hk⟩, rfold_digits k hk d r _ _ _ fun y hy => h y (by simp [hy])]
    have : k = 0 ∨ k = 1 ∨ k = 2 := by omega
    rcases this with rfl | rfl | rfl <;> simp
theorem rfold_txt {t : Tl} (h : okT t) : rfold 0 0 0 0 (txtN t) = some (t.z, t.x, t.y) := by
  obtain ⟨a, b, c, rfl, h1, h2, h3⟩ := okT_nats h
  rw [txt_nat, rfold_digits 0 (by decide) _ _ _ _ _ (dig_all a)]
  rw [rfold, if_pos rfl, rfold_digits 1 (by decide) _ _ _ _ _ (dig_all b)]
  rw [rfold, if_pos rfl, ← List.append_nil (decDigits c), rfold_digits 2 (by decide) _ _ _ _ _ (dig_all c)]
  simp [rfold, stp_dec a (by omega), stp_dec b (by omega), stp_dec c (by omega)]
def refR (l : List UInt8) : Tl × Int := match rfold 0 0 0 0 l with | none => (zT, 5) | some (a, b, c) => if okT ⟨a, b, c⟩ ∧ txtN ⟨a, b, c⟩ = l then (⟨a, b, c⟩, 0) else (zT, 5)
theorem ref_same (l : List UInt8) : refR l = parseR l := by
  unfold refR
  cases hr : rfold 0 0 0 0 l with
  | none =>
    unfold parseR
    rw [if_neg]
    rintro ⟨h, e⟩
    have := rfold_txt h
    rw [e, hr] at this
    cases this
  | some p =>
    obtain ⟨a, b, c⟩ := p
    dsimp only
    by_cases hok : okT ⟨a, b, c⟩ ∧ txtN ⟨a, b, c⟩ = l
    · rw [if_pos hok, parseR_iff hok.1 hok.2]
    · rw [if_neg hok]
      unfold parseR
      rw [if_neg]
      rintro ⟨h, e⟩
      have h2 := rfold_txt h
      rw [e, hr] at h2
      injection h2 with h2
      have e1 : Tl.mk a b c = cp l := by
        have q1 := congrArg Prod.fst h2
        have q2 := congrArg (fun p => p.2.1) h2
        have q3 := congrArg (fun p => p.2.2) h2
        dsimp only at q1 q2 q3
        rw [q1, q2, q3]
      rw [e1] at hok
      exact hok ⟨h, e⟩
end Go.Proofs.YtenacgeahaoglaaDoor.Gd
