/- Plain mathematics of seals: chains, keys, trees, paths; when two different texts with one digest are among those that were digested. No program is named here. -/
import Derived.Test.YtanlpcdljclnmaaDoorDgMathB
namespace Go.Proofs.YtanlpcdljclnmaaDoor.Sl
open Go.Proofs.YtanlpcdljclnmaaDoor.Dg

abbrev B := List UInt8
def dl (l : List B) : B := dsum (joined l)
def chainN (t : B) : Nat → B
  | 0 => t
  | n + 1 => dsum (chainN t n)
def startT (sec : B) (i k : Nat) : B := joined [sec, Lib.itoa (i : Int), Lib.itoa (k : Int)]
def startOf (sec : B) (i k : Nat) : B := dsum (startT sec i k)
def endsOf (sec : B) (i : Nat) : List B := (List.range 18).map fun k => chainN (startOf sec i k) 15
def keyOf (sec : B) (i : Nat) : B := dl (endsOf sec i)
def keysOf (sec : B) (n : Nat) : List B := (List.range n).map (keyOf sec)
def nodeB : B := [110, 111, 100, 101]
def nodeT (a b : B) : B := joined [nodeB, a, b]
def nodeOf (a b : B) : B := dsum (nodeT a b)
/-- the level of a tree that stands above a level: pair i of it. -/
def aboveOf (l : List B) : List B := (List.range (l.length / 2)).map fun j => nodeOf (l.getD (2 * j) []) (l.getD (2 * j + 1) [])
def lev (l : List B) : Nat → List B
  | 0 => l
  | d + 1 => aboveOf (lev l d)
def rootN (n : Nat) (l : List B) : B := (lev l n).getD 0 []
def sib (i : Nat) : Nat := if i % 2 = 0 then i + 1 else i - 1
def pathN (n : Nat) (l : List B) (i : Nat) : List B := (List.range n).map fun d => (lev l d).getD (sib (i / 2 ^ d)) []
/-- what one goes on to from t by the element p, i being the index at this level. -/
def upT (t p : B) (i : Nat) : B := if i % 2 = 1 then nodeT p t else nodeT t p
def val (t : B) (ps : List B) (i : Nat) : Nat → B
  | 0 => t
  | d + 1 => dsum (upT (val t ps i d) (ps.getD d []) (i / 2 ^ d))
def valueB (c : UInt8) : Nat := if c.toNat < 97 then c.toNat - 48 else c.toNat - 87
def sumOf (m : B) (k : Nat) : Nat := ((dsum m).take k).foldl (fun a c => a + (15 - valueB c)) 0
def dig (m : B) (k : Nat) : Nat := if k < 16 then valueB ((dsum m).getD k 0) else if k = 16 then sumOf m 16 / 16 else sumOf m 16 % 16
def sigOf (sec : B) (i : Nat) (m : B) : List B := (List.range 18).map fun k => chainN (startOf sec i k) (dig m k)
def pubOf (sec : B) (h : Nat) : B := rootN h (keysOf sec (2 ^ h))
def pathOf (sec : B) (h i : Nat) : List B := pathN h (keysOf sec (2 ^ h)) i
/-- the ends that the elements of a seal lead to. -/
def signEnds (m : B) (sig : List B) : List B := (List.range 18).map fun k => chainN (sig.getD k []) (15 - dig m k)
def signer (m : B) (sig : List B) : B := dl (signEnds m sig)
def formed (idx : Int) (sig path : List B) : Bool := decide (sig.length = 18) && decide (path.length ≤ 8) && (decide (0 ≤ idx) && decide (idx < 2 ^ path.length)) && sig.all isDig && path.all isDig
def rootBy (m : B) (idx : Nat) (sig path : List B) : B := val (signer m sig) path idx path.length
def verB (pub m : B) (idx : Int) (sig path : List B) : Bool := formed idx sig path && decide (rootBy m idx.toNat sig path = pub)

/-! ### lists by index -/
theorem map_range_getD {β : Type} (f : Nat → β) (z : β) (n k : Nat) (h : k < n) : ((List.range n).map f).getD k z = f k := by
  simp [List.getD_eq_getElem?_getD, List.getElem?_map, List.getElem?_range h]
theorem map_range_len {β : Type} (f : Nat → β) (n : Nat) : ((List.range n).map f).length = n := by simp
theorem map_range_ext {β : Type} (f g : Nat → β) (n : Nat) (h : (List.range n).map f = (List.range n).map g) (k : Nat) (hk : k < n) : f k = g k := by
  have e := congrArg (fun l => l[k]?) h
  simpa [List.getElem?_map, List.getElem?_range hk] using e
theorem eq_map_range {β : Type} (z : β) (l : List β) (n : Nat) (f : Nat → β) (hl : l.length = n) (h : ∀ k, k < n → l.getD k z = f k) : l = (List.range n).map f := by
  refine List.ext_getElem (by simp [hl]) fun k h1 h2 => ?_
  have := h k (by omega)
  rw [List.getD_eq_getElem?_getD, List.getElem?_eq_getElem h1, Option.getD_some] at this
  simpa using this
theorem aboveOf_len (l : List B) : (aboveOf l).length = l.length / 2 := by simp [aboveOf]
theorem aboveOf_getD (l : List B) (j : Nat) (h : j < l.length / 2) : (aboveOf l).getD j [] = nodeOf (l.getD (2 * j) []) (l.getD (2 * j + 1) []) := map_range_getD _ _ _ _ h
theorem lev_len (l : List B) (n : Nat) (h : l.length = 2 ^ n) : ∀ d, d ≤ n → (lev l d).length = 2 ^ (n - d) := by
  intro d
  induction d with
  | zero => intro _; simpa [lev] using h
  | succ d ih =>
    intro hd
    rw [lev, aboveOf_len, ih (by omega), show n - d = (n - (d + 1)) + 1 by omega, Nat.pow_succ]
    omega
theorem lev_getD (l : List B) (n : Nat) (h : l.length = 2 ^ n) (d j : Nat) (hd : d < n) (hj : j < 2 ^ (n - (d + 1))) : (lev l (d + 1)).getD j [] = nodeOf ((lev l d).getD (2 * j) []) ((lev l d).getD (2 * j + 1) []) := by
  rw [lev, aboveOf_getD]
  rw [lev_len l n h d (by omega), show n - d = (n - (d + 1)) + 1 by omega, Nat.pow_succ]
  omega
theorem keysOf_len (sec : B) (n : Nat) : (keysOf sec n).length = n := by simp [keysOf]
theorem keysOf_getD (sec : B) (n i : Nat) (h : i < n) : (keysOf sec n).getD i [] = keyOf sec i := map_range_getD _ _ _ _ h

/-! ### digits -/
theorem isHexB_value (c : UInt8) (h : isHexB c = true) : valueB c < 16 := by
  unfold isHexB at h
  unfold valueB
  simp only [Bool.or_eq_true, Bool.and_eq_true, decide_eq_true_eq] at h
  split <;> omega
theorem sumOf_le (m : B) : ∀ k, sumOf m k ≤ 15 * k := by
  intro k
  unfold sumOf
  have gen : ∀ (l : List UInt8) (a : Nat), l.foldl (fun a c => a + (15 - valueB c)) a ≤ a + 15 * l.length := by
    intro l
    induction l with
    | nil => intro a; simp
    | cons c l ih => intro a; have := ih (a + (15 - valueB c)); simp only [List.foldl_cons, List.length_cons]; omega
  have := gen ((dsum m).take k) 0
  have h2 : ((dsum m).take k).length ≤ k := List.length_take_le _ _
  have h3 : 15 * ((dsum m).take k).length ≤ 15 * k := Nat.mul_le_mul_left _ h2
  omega
theorem dig_lt (m : B) (k : Nat) (h : k < 18) : dig m k < 16 := by
  unfold dig
  have hs := sumOf_le m 16
  split
  · rename_i h16
    have hl := dsum_length m
    have hd := hexN_isHex (st m (m.length / 8 + 1)) 16
    apply isHexB_value
    have hk : k < (dsum m).length := by omega
    rw [List.getD_eq_getElem?_getD, List.getElem?_eq_getElem hk]
    exact List.all_eq_true.1 hd _ (List.getElem_mem hk)
  · split <;> omega
theorem sumOf_succ (m : B) (k : Nat) (h : k < 16) : sumOf m (k + 1) = sumOf m k + (15 - dig m k) := by
  have hk : k < (dsum m).length := by rw [dsum_length]; exact h
  unfold sumOf dig
  rw [if_pos h, List.take_succ_eq_append_getElem hk, List.foldl_append, List.getD_eq_getElem?_getD, List.getElem?_eq_getElem hk]
  rfl

/-! ### correctness -/
theorem chain_add (t : B) (a b : Nat) : chainN (chainN t a) b = chainN t (a + b) := by
  induction b with
  | zero => rfl
  | succ b ih => rw [chainN, ih]; rfl
theorem isDig_chain (t : B) (h : isDig t = true) (n : Nat) : isDig (chainN t n) = true := by
  cases n with
  | zero => exact h
  | succ n => exact isDig_dsum _
theorem sigOf_len (sec : B) (i : Nat) (m : B) : (sigOf sec i m).length = 18 := map_range_len _ _
theorem sigOf_getD (sec : B) (i : Nat) (m : B) (k : Nat) (h : k < 18) : (sigOf sec i m).getD k [] = chainN (startOf sec i k) (dig m k) := map_range_getD _ _ _ _ h
theorem pathN_len (n : Nat) (l : List B) (i : Nat) : (pathN n l i).length = n := map_range_len _ _
theorem signEnds_own (sec : B) (i : Nat) (m : B) : signEnds m (sigOf sec i m) = endsOf sec i := by
  refine List.map_congr_left fun k hk => ?_
  have hk : k < 18 := List.mem_range.1 hk
  rw [sigOf_getD _ _ _ _ hk, chain_add]
  have := dig_lt m k hk
  rw [show dig m k + (15 - dig m k) = 15 by omega]
theorem div_two_pow (i d : Nat) : i / 2 ^ d / 2 = i / 2 ^ (d + 1) := by rw [Nat.pow_succ, Nat.div_div_eq_div_mul]
theorem pow_split (n d : Nat) (h : d < n) : 2 ^ (n - d) = 2 ^ (n - (d + 1)) * 2 := by rw [show n - d = (n - (d + 1)) + 1 by omega, Nat.pow_succ]
theorem idx_lt (n i d : Nat) (hi : i < 2 ^ n) (h : d ≤ n) : i / 2 ^ d < 2 ^ (n - d) := by
  rw [Nat.div_lt_iff_lt_mul (Nat.two_pow_pos d), ← Nat.pow_add, show n - d + d = n by omega]
  exact hi
theorem val_own (n : Nat) (l : List B) (i : Nat) (hl : l.length = 2 ^ n) (hi : i < 2 ^ n) : ∀ d, d ≤ n → val (l.getD i []) (pathN n l i) i d = (lev l d).getD (i / 2 ^ d) [] := by
  intro d
  induction d with
  | zero => intro _; simp [val, lev]
  | succ d ih =>
    intro hd
    have h1 := idx_lt n i (d + 1) hi hd
    rw [val, ih (by omega), lev_getD l n hl d (i / 2 ^ (d + 1)) (by omega) h1, ← div_two_pow]
    rw [show (pathN n l i).getD d [] = (lev l d).getD (sib (i / 2 ^ d)) [] from map_range_getD _ _ _ _ (by omega)]
    unfold upT nodeOf sib
    generalize i / 2 ^ d = q
    by_cases hq : q % 2 = 1
    · rw [if_pos hq, if_neg (by omega), show 2 * (q / 2) = q - 1 by omega, show q - 1 + 1 = q by omega]
    · rw [if_neg hq, if_pos (by omega), show 2 * (q / 2) = q by omega]
theorem rootBy_own (sec : B) (h i : Nat) (m : B) (hi : i < 2 ^ h) : rootBy m i (sigOf sec i m) (pathOf sec h i) = pubOf sec h := by
  unfold rootBy signer pubOf rootN pathOf
  rw [signEnds_own, pathN_len]
  have e := val_own h (keysOf sec (2 ^ h)) i (keysOf_len _ _) hi h (Nat.le_refl _)
  rw [keysOf_getD _ _ _ hi, Nat.div_eq_of_lt hi] at e
  exact e
theorem isDig_dl (l : List B) : isDig (dl l) = true := isDig_dsum _
theorem isDig_lev (l : List B) (hl : ∀ x ∈ l, isDig x = true) : ∀ d, ∀ x ∈ lev l d, isDig x = true := by
  intro d
  cases d with
  | zero => exact hl
  | succ d =>
    intro x hx
    simp only [lev, aboveOf, List.mem_map] at hx
    obtain ⟨_, _, rfl⟩ := hx
    exact isDig_dsum _
theorem isDig_keys (sec : B) (n : Nat) : ∀ x ∈ keysOf sec n, isDig x = true := by
  intro x hx
  simp only [keysOf, List.mem_map] at hx
  obtain ⟨_, _, rfl⟩ := hx
  exact isDig_dsum _
theorem getD_mem {l : List B} {i : Nat} (h : i < l.length) : l.getD i [] ∈ l := by
  rw [List.getD_eq_getElem?_getD, List.getElem?_eq_getElem h]
  exact List.getElem_mem h
theorem isDig_pub (sec : B) (h : Nat) : isDig (pubOf sec h) = true := by
  unfold pubOf rootN
  exact isDig_lev _ (isDig_keys _ _) h _ (getD_mem (by rw [lev_len _ h (keysOf_len _ _) h (Nat.le_refl _)]; exact Nat.two_pow_pos _))
theorem isDig_sig (sec : B) (i : Nat) (m : B) : (sigOf sec i m).all isDig = true := by
  rw [List.all_eq_true]
  intro x hx
  simp only [sigOf, List.mem_map] at hx
  obtain ⟨k, _, rfl⟩ := hx
  exact isDig_chain _ (isDig_dsum _) _
theorem sib_lt (n d q : Nat) (hd : d < n) (hq : q < 2 ^ (n - d)) : sib q < 2 ^ (n - d) := by
  have := pow_split n d hd
  unfold sib
  split <;> omega
theorem isDig_path (sec : B) (h i : Nat) (hi : i < 2 ^ h) : (pathOf sec h i).all isDig = true := by
  rw [List.all_eq_true]
  intro x hx
  simp only [pathOf, pathN, List.mem_map, List.mem_range] at hx
  obtain ⟨d, hd, rfl⟩ := hx
  refine isDig_lev _ (isDig_keys _ _) d _ (getD_mem ?_)
  rw [lev_len _ h (keysOf_len _ _) d (by omega)]
  exact sib_lt h d _ hd (idx_lt h i d hi (by omega))
theorem formed_own (sec : B) (h i : Nat) (m : B) (hh : h ≤ 8) (hi : i < 2 ^ h) : formed (i : Int) (sigOf sec i m) (pathOf sec h i) = true := by
  unfold formed
  rw [isDig_sig, isDig_path _ _ _ hi, sigOf_len]
  have hl : (pathOf sec h i).length = h := pathN_len _ _ _
  rw [hl]
  have : (i : Int) < 2 ^ h := by
    have : ((i : Nat) : Int) < ((2 ^ h : Nat) : Int) := by omega
    simpa using this
  simp [hh, this]
theorem ver_own (sec : B) (h i : Nat) (m : B) (hh : h ≤ 8) (hi : i < 2 ^ h) : verB (pubOf sec h) m (i : Int) (sigOf sec i m) (pathOf sec h i) = true := by
  unfold verB
  rw [formed_own sec h i m hh hi, Int.toNat_natCast, rootBy_own sec h i m hi]
  simp
end Go.Proofs.YtanlpcdljclnmaaDoor.Sl
