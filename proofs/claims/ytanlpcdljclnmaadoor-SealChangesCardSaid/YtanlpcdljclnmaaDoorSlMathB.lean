/- Plain mathematics of seals: a seal that is accepted though it is not the one that was made shows two different texts with one digest. -/
import Derived.Test.YtanlpcdljclnmaaDoorSlMath
namespace Go.Proofs.YtanlpcdljclnmaaDoor.Sl
open Go.Proofs.YtanlpcdljclnmaaDoor.Dg

def Coll (L : List B) : Prop := ∃ x y, x ∈ L ∧ y ∈ L ∧ x ≠ y ∧ dsum x = dsum y
def chainL (t : B) (n : Nat) : List B := (List.range (n + 1)).map (chainN t)
def madeChain (sec : B) (i n k : Nat) : List B := startT sec i k :: chainL (startOf sec i k) n
def madeKey (sec : B) (n i : Nat) : List B := ((List.range 18).flatMap (madeChain sec i n)) ++ [joined (endsOf sec i)]
def madeKeys (sec : B) (c n : Nat) : List B := (List.range c).flatMap (madeKey sec n)
def upTexts (l : List B) : List B := (List.range (l.length / 2)).map fun j => nodeT (l.getD (2 * j) []) (l.getD (2 * j + 1) [])
def madeTree (l : List B) (d : Nat) : List B := (List.range d).flatMap fun e => upTexts (lev l e)
def made (sec : B) (h n : Nat) : List B := madeKeys sec (2 ^ h) n ++ madeTree (keysOf sec (2 ^ h)) h
def checkedChain (m : B) (sig : List B) (k : Nat) : List B := chainL (sig.getD k []) (15 - dig m k)
def checkedSig (m : B) (sig : List B) : List B := (List.range 18).flatMap (checkedChain m sig)
def checkedPath (t : B) (ps : List B) (i : Nat) : List B := (List.range ps.length).map fun d => upT (val t ps i d) (ps.getD d []) (i / 2 ^ d)
def checked (m : B) (i : Nat) (sig ps : List B) : List B := checkedSig m sig ++ [joined (signEnds m sig)] ++ checkedPath (signer m sig) ps i

theorem coll {L : List B} {x y : B} (hx : x ∈ L) (hy : y ∈ L) (h : dsum x = dsum y) (hn : ¬ Coll L) : x = y := by
  by_cases e : x = y
  · exact e
  · exact absurd ⟨x, y, hx, hy, e, h⟩ hn
theorem chain_back {L : List B} {a b : B} {p q : Nat} (hn : ¬ Coll L) : ∀ r, (∀ t, t < r → chainN a (p + t) ∈ L ∧ chainN b (q + t) ∈ L) → chainN a (p + r) = chainN b (q + r) → chainN a p = chainN b q := by
  intro r
  induction r with
  | zero => intro _ h; exact h
  | succ r ih =>
    intro hin h
    have := coll (hin r (by omega)).1 (hin r (by omega)).2 h hn
    exact ih (fun t ht => hin t (by omega)) this
theorem nodeT_inj {a b c d : B} (h : nodeT a b = nodeT c d) : a = c ∧ b = d := by
  have := joined_inj h
  simp only [List.cons.injEq, and_true, true_and] at this
  exact this
theorem dsum_of_nodeOf (a b : B) : nodeOf a b = dsum (nodeT a b) := rfl
theorem node_ne_18 {a b : B} {l : List B} (hl : l.length = 18) (h : nodeT a b = joined l) : False := by
  have := congrArg List.length (joined_inj h)
  simp [hl] at this

section
variable {L : List B} {n : Nat} {l ps : List B} {t : B} {i : Nat}
/-- From the root down: what one comes through is what stands in the tree. -/
theorem down (hn : ¬ Coll L) (hl : l.length = 2 ^ n) (hi : i < 2 ^ ps.length)
    (htree : ∀ d j, d < n → j < 2 ^ (n - (d + 1)) → nodeT ((lev l d).getD (2 * j) []) ((lev l d).getD (2 * j + 1) []) ∈ L)
    (hpath : ∀ d, d < ps.length → upT (val t ps i d) (ps.getD d []) (i / 2 ^ d) ∈ L) (hroot : val t ps i ps.length = rootN n l) :
    ∀ d, d ≤ n → d ≤ ps.length → val t ps i (ps.length - d) = (lev l (n - d)).getD (i / 2 ^ (ps.length - d)) [] ∧
      ∀ e, ps.length - d ≤ e → e < ps.length → ps.getD e [] = (lev l (n - (ps.length - e))).getD (sib (i / 2 ^ e)) [] := by
  intro d
  induction d with
  | zero =>
    intro _ _
    refine ⟨?_, fun e h1 h2 => by omega⟩
    rw [Nat.sub_zero, Nat.sub_zero, hroot, Nat.div_eq_of_lt hi]
    rfl
  | succ d ih =>
    intro h1 h2
    obtain ⟨iv, ip⟩ := ih (by omega) (by omega)
    obtain ⟨e, he⟩ : ∃ e, e = ps.length - (d + 1) := ⟨_, rfl⟩
    have e1 : ps.length - d = e + 1 := by omega
    have e2 : n - d = n - (d + 1) + 1 := by omega
    have hq : i / 2 ^ (e + 1) < 2 ^ (n - (n - (d + 1) + 1)) := by
      have := idx_lt ps.length i (e + 1) hi (by omega)
      rw [show ps.length - (e + 1) = d by omega] at this
      rwa [show n - (n - (d + 1) + 1) = d by omega]
    rw [e1, e2, val, lev_getD l n hl (n - (d + 1)) _ (by omega) hq] at iv
    have hx := coll (hpath e (by omega)) (htree (n - (d + 1)) _ (by omega) hq) iv hn
    rw [← he]
    have key : val t ps i e = (lev l (n - (d + 1))).getD (i / 2 ^ e) [] ∧ ps.getD e [] = (lev l (n - (d + 1))).getD (sib (i / 2 ^ e)) [] := by
      rw [← div_two_pow] at hx
      generalize i / 2 ^ e = q at *
      unfold upT at hx
      unfold sib
      by_cases hq : q % 2 = 1
      · rw [if_pos hq] at hx
        rw [if_neg (by omega)]
        obtain ⟨x1, x2⟩ := nodeT_inj hx
        rw [show 2 * (q / 2) = q - 1 by omega] at x1 x2
        rw [show q - 1 + 1 = q by omega] at x2
        exact ⟨x2, x1⟩
      · rw [if_neg hq] at hx
        rw [if_pos (by omega)]
        obtain ⟨x1, x2⟩ := nodeT_inj hx
        rw [show 2 * (q / 2) = q by omega] at x1 x2
        exact ⟨x1, x2⟩
    refine ⟨key.1, fun e' h3 h4 => ?_⟩
    by_cases hee : e' = e
    · subst hee
      rw [show n - (ps.length - e') = n - (d + 1) by omega]
      exact key.2
    · exact ip e' (by omega) h4
/-- Who comes to the root of a tree of keys from a key comes from one of its keys, by its path. -/
theorem tree (hn : ¬ Coll L) (hl : l.length = 2 ^ n) (hi : i < 2 ^ ps.length) (E : Nat → List B) (hE : ∀ j, j < 2 ^ n → (E j).length = 18 ∧ l.getD j [] = dl (E j) ∧ joined (E j) ∈ L)
    (ends : List B) (he : ends.length = 18) (hends : joined ends ∈ L) (ht : t = dl ends)
    (htree : ∀ d j, d < n → j < 2 ^ (n - (d + 1)) → nodeT ((lev l d).getD (2 * j) []) ((lev l d).getD (2 * j + 1) []) ∈ L)
    (hpath : ∀ d, d < ps.length → upT (val t ps i d) (ps.getD d []) (i / 2 ^ d) ∈ L) (hroot : val t ps i ps.length = rootN n l) :
    ps.length = n ∧ ps = pathN n l i ∧ ends = E i := by
  have hd := down hn hl hi htree hpath hroot
  rcases Nat.lt_trichotomy ps.length n with hlt | heq | hgt
  · exfalso
    obtain ⟨hv, _⟩ := hd ps.length (by omega) (Nat.le_refl _)
    rw [Nat.sub_self, Nat.pow_zero, Nat.div_one, val, show n - ps.length = n - ps.length - 1 + 1 by omega] at hv
    have hq : i < 2 ^ (n - (n - ps.length - 1 + 1)) := by rwa [show n - (n - ps.length - 1 + 1) = ps.length by omega]
    rw [lev_getD l n hl _ i (by omega) hq, ht] at hv
    exact node_ne_18 he (coll hends (htree _ i (by omega) hq) hv hn).symm
  · obtain ⟨hv, hp⟩ := hd n (Nat.le_refl _) (by omega)
    rw [heq] at hi
    refine ⟨heq, eq_map_range [] ps n _ heq fun k hk => ?_, ?_⟩
    · have := hp k (by omega) (by omega)
      rwa [show n - (ps.length - k) = k by omega] at this
    · rw [show ps.length - n = 0 by omega, Nat.sub_self, Nat.pow_zero, Nat.div_one, val, lev, (hE i hi).2.1, ht] at hv
      exact joined_inj (coll hends (hE i hi).2.2 hv hn)
  · exfalso
    obtain ⟨hv, _⟩ := hd n (Nat.le_refl _) (by omega)
    obtain ⟨e, he'⟩ : ∃ e, ps.length - n = e + 1 := ⟨ps.length - n - 1, by omega⟩
    have hq : i / 2 ^ (e + 1) < 2 ^ n := by
      have := idx_lt ps.length i (e + 1) hi (by omega)
      rwa [show ps.length - (e + 1) = n by omega] at this
    rw [he', Nat.sub_self, lev, val, (hE _ hq).2.1] at hv
    have hx := coll (hpath e (by omega)) (hE _ hq).2.2 hv hn
    unfold upT at hx
    split at hx <;> exact node_ne_18 (hE _ hq).1 hx
end

/-! ### membership -/
theorem mem_chainL (t : B) {n k : Nat} (h : k ≤ n) : chainN t k ∈ chainL t n := List.mem_map.2 ⟨k, List.mem_range.2 (by omega), rfl⟩
theorem mem_made_chain (sec : B) (h n : Nat) {i k j : Nat} (hi : i < 2 ^ h) (hk : k < 18) (hj : j ≤ n) : chainN (startOf sec i k) j ∈ made sec h n := by
  refine List.mem_append_left _ (List.mem_flatMap.2 ⟨i, List.mem_range.2 hi, List.mem_append_left _ (List.mem_flatMap.2 ⟨k, List.mem_range.2 hk, ?_⟩)⟩)
  exact List.mem_cons_of_mem _ (mem_chainL _ hj)
theorem mem_made_start (sec : B) (h n : Nat) {i k : Nat} (hi : i < 2 ^ h) (hk : k < 18) : startT sec i k ∈ made sec h n := by
  refine List.mem_append_left _ (List.mem_flatMap.2 ⟨i, List.mem_range.2 hi, List.mem_append_left _ (List.mem_flatMap.2 ⟨k, List.mem_range.2 hk, ?_⟩)⟩)
  exact List.mem_cons_self
theorem mem_made_ends (sec : B) (h n : Nat) {i : Nat} (hi : i < 2 ^ h) : joined (endsOf sec i) ∈ made sec h n :=
  List.mem_append_left _ (List.mem_flatMap.2 ⟨i, List.mem_range.2 hi, List.mem_append_right _ (List.mem_singleton.2 rfl)⟩)
theorem mem_made_node (sec : B) (h n : Nat) (d j : Nat) (hd : d < h) (hj : j < 2 ^ (h - (d + 1))) :
    nodeT ((lev (keysOf sec (2 ^ h)) d).getD (2 * j) []) ((lev (keysOf sec (2 ^ h)) d).getD (2 * j + 1) []) ∈ made sec h n := by
  refine List.mem_append_right _ (List.mem_flatMap.2 ⟨d, List.mem_range.2 hd, List.mem_map.2 ⟨j, List.mem_range.2 ?_, rfl⟩⟩)
  have := pow_split h d hd
  rw [lev_len _ h (keysOf_len _ _) d (by omega)]
  omega
theorem mem_checked_chain (m : B) (i : Nat) (sig ps : List B) {k j : Nat} (hk : k < 18) (hj : j ≤ 15 - dig m k) : chainN (sig.getD k []) j ∈ checked m i sig ps :=
  List.mem_append_left _ (List.mem_append_left _ (List.mem_flatMap.2 ⟨k, List.mem_range.2 hk, mem_chainL _ hj⟩))
theorem mem_checked_ends (m : B) (i : Nat) (sig ps : List B) : joined (signEnds m sig) ∈ checked m i sig ps :=
  List.mem_append_left _ (List.mem_append_right _ (List.mem_singleton.2 rfl))
theorem mem_checked_path (m : B) (i : Nat) (sig ps : List B) (d : Nat) (hd : d < ps.length) : upT (val (signer m sig) ps i d) (ps.getD d []) (i / 2 ^ d) ∈ checked m i sig ps :=
  List.mem_append_right _ (List.mem_map.2 ⟨d, List.mem_range.2 hd, rfl⟩)
theorem endsOf_len (sec : B) (i : Nat) : (endsOf sec i).length = 18 := map_range_len _ _
theorem signEnds_len (m : B) (sig : List B) : (signEnds m sig).length = 18 := map_range_len _ _
theorem endsOf_getD (sec : B) (i : Nat) {k : Nat} (h : k < 18) : (endsOf sec i).getD k [] = chainN (startOf sec i k) 15 := map_range_getD _ _ _ _ h
theorem signEnds_getD (m : B) (sig : List B) {k : Nat} (h : k < 18) : (signEnds m sig).getD k [] = chainN (sig.getD k []) (15 - dig m k) := map_range_getD _ _ _ _ h

/-! ### the theorems -/
theorem verB_parts {pub m : B} {idx : Int} {sig ps : List B} (h : verB pub m idx sig ps = true) :
    sig.length = 18 ∧ ps.length ≤ 8 ∧ 0 ≤ idx ∧ idx.toNat < 2 ^ ps.length ∧ sig.all isDig = true ∧ ps.all isDig = true ∧ rootBy m idx.toNat sig ps = pub := by
  unfold verB formed at h
  simp only [Bool.and_eq_true, decide_eq_true_eq] at h
  obtain ⟨⟨⟨⟨⟨h1, h2⟩, h3, h4⟩, h5⟩, h6⟩, h7⟩ := h
  refine ⟨h1, h2, h3, ?_, h5, h6, h7⟩
  have : ((2 ^ ps.length : Nat) : Int) = 2 ^ ps.length := by simp
  omega
/-- the key that a seal leads to is one of the secret's keys, by its path. -/
theorem accepted {L : List B} {sec m : B} {h i : Nat} {sig ps : List B} (hn : ¬ Coll L) (hi : i < 2 ^ ps.length) (hroot : rootBy m i sig ps = pubOf sec h)
    (hm : ∀ x ∈ made sec h 15, x ∈ L) (he : joined (signEnds m sig) ∈ L) (hp : ∀ d, d < ps.length → upT (val (signer m sig) ps i d) (ps.getD d []) (i / 2 ^ d) ∈ L) :
    ps.length = h ∧ ps = pathOf sec h i ∧ signEnds m sig = endsOf sec i :=
  tree hn (keysOf_len _ _) hi (endsOf sec) (fun _ hj => ⟨endsOf_len _ _, keysOf_getD _ _ _ hj, hm _ (mem_made_ends sec h 15 hj)⟩) _ (signEnds_len _ _) he rfl
    (fun d j hd hj => hm _ (mem_made_node sec h 15 d j hd hj)) hp hroot
/-- P2.3. -/
theorem sound {L : List B} {sec m : B} {h : Nat} {idx : Int} {sig ps : List B} (hn : ¬ Coll L) (hv : verB (pubOf sec h) m idx sig ps = true)
    (hm : ∀ x ∈ made sec h 15, x ∈ L) (hc : ∀ x ∈ checked m idx.toNat sig ps, x ∈ L) : idx.toNat < 2 ^ h ∧ ps = pathOf sec h idx.toNat ∧ sig = sigOf sec idx.toNat m := by
  obtain ⟨h1, _, _, h4, _, _, h7⟩ := verB_parts hv
  obtain ⟨a1, a2, a3⟩ := accepted hn h4 h7 hm (hc _ (mem_checked_ends _ _ _ _)) (fun d hd => hc _ (mem_checked_path _ _ _ _ d hd))
  rw [a1] at h4
  refine ⟨h4, a2, eq_map_range [] sig 18 _ h1 fun k hk => ?_⟩
  have hd := dig_lt m k hk
  have e := congrArg (fun l => l.getD k []) a3
  simp only [signEnds_getD m sig hk, endsOf_getD sec idx.toNat hk] at e
  have := chain_back (L := L) (a := sig.getD k []) (b := startOf sec idx.toNat k) (p := 0) (q := dig m k) hn (15 - dig m k) (fun t ht => ?_) (by
    rw [Nat.zero_add, show dig m k + (15 - dig m k) = 15 by omega]; exact e)
  · exact this
  · rw [Nat.zero_add]
    exact ⟨hc _ (mem_checked_chain _ _ _ _ hk (by omega)), hm _ (mem_made_chain sec h 15 h4 hk (by omega))⟩
theorem startT_not_dig (sec : B) (i k : Nat) : isDig (startT sec i k) = false := by
  have h : (startT sec i k).all isHexB = false := by
    rw [List.all_eq_false]
    refine ⟨58, ?_, by decide⟩
    unfold startT
    simp [joined]
  unfold isDig
  rw [h, Bool.and_false]
theorem valueB_inj {a b : UInt8} (ha : isHexB a = true) (hb : isHexB b = true) (h : valueB a = valueB b) : a = b := by
  unfold isHexB at ha hb
  unfold valueB at h
  simp only [Bool.or_eq_true, Bool.and_eq_true, decide_eq_true_eq] at ha hb
  refine UInt8.toNat_inj.1 ?_
  split at h <;> split at h <;> omega
theorem dsum_hex (m : B) {k : Nat} (hk : k < 16) : isHexB ((dsum m).getD k 0) = true := by
  have hl := dsum_length m
  have hd := hexN_isHex (st m (m.length / 8 + 1)) 16
  have hk : k < (dsum m).length := by omega
  rw [List.getD_eq_getElem?_getD, List.getElem?_eq_getElem hk]
  exact List.all_eq_true.1 hd _ (List.getElem_mem hk)
theorem digits_differ {m o : B} (h : dsum m ≠ dsum o) : ∃ k, k < 16 ∧ dig m k ≠ dig o k := by
  refine Classical.byContradiction fun hc => h ?_
  have he : ∀ k, k < 16 → dig m k = dig o k := fun k hk => Classical.byContradiction fun hne => hc ⟨k, hk, hne⟩
  refine ext_getD (by rw [dsum_length, dsum_length]) fun k => ?_
  by_cases hk : k < 16
  · have := he k hk
    unfold dig at this
    rw [if_pos hk, if_pos hk] at this
    exact valueB_inj (dsum_hex m hk) (dsum_hex o hk) this
  · rw [getD_long (by rw [dsum_length]; omega), getD_long (by rw [dsum_length]; omega)]
theorem made_more (sec : B) (h : Nat) {n n' : Nat} (hn : n ≤ n') : ∀ x ∈ made sec h n, x ∈ made sec h n' := by
  intro x hx
  rcases List.mem_append.1 hx with hx | hx
  · refine List.mem_append_left _ ?_
    obtain ⟨i, hi, hx⟩ := List.mem_flatMap.1 hx
    refine List.mem_flatMap.2 ⟨i, hi, ?_⟩
    rcases List.mem_append.1 hx with hx | hx
    · obtain ⟨k, hk, hx⟩ := List.mem_flatMap.1 hx
      refine List.mem_append_left _ (List.mem_flatMap.2 ⟨k, hk, ?_⟩)
      rcases List.mem_cons.1 hx with hx | hx
      · exact List.mem_cons.2 (.inl hx)
      · obtain ⟨j, hj, rfl⟩ := List.mem_map.1 hx
        exact List.mem_cons_of_mem _ (mem_chainL _ (by have := List.mem_range.1 hj; omega))
    · exact List.mem_append_right _ hx
  · exact List.mem_append_right _ hx
/-- no start is met again on its chain. -/
theorem no_cycle {L : List B} {sec : B} {h i k δ : Nat} (hn : ¬ Coll L) (hi : i < 2 ^ h) (hk : k < 18) (hm : ∀ x ∈ made sec h 30, x ∈ L) (hδ : δ < 31) (e : startOf sec i k = chainN (startOf sec i k) (δ + 1)) : False := by
  have := coll (hm _ (mem_made_start sec h 30 hi hk)) (hm _ (mem_made_chain sec h 30 hi hk (show δ ≤ 30 by omega))) e hn
  have h1 := startT_not_dig sec i k
  rw [this, isDig_chain (startOf sec i k) (isDig_dsum _)] at h1
  cases h1
/-- P2.4. -/
theorem binds {L : List B} {sec m o : B} {h i : Nat} (hi : i < 2 ^ h) (hd : dsum m ≠ dsum o) (hv : verB (pubOf sec h) o (i : Int) (sigOf sec i m) (pathOf sec h i) = true)
    (hm : ∀ x ∈ made sec h 30, x ∈ L) (hc : ∀ x ∈ checked o i (sigOf sec i m) (pathOf sec h i), x ∈ L) : Coll L := by
  refine Classical.byContradiction fun hn => ?_
  obtain ⟨_, _, _, h4, _, _, h7⟩ := verB_parts hv
  rw [Int.toNat_natCast] at h4 h7
  obtain ⟨a1, a2, a3⟩ := accepted hn h4 h7 (fun x hx => hm x (made_more sec h (by omega) x hx)) (hc _ (mem_checked_ends _ _ _ _)) (fun d hd => hc _ (mem_checked_path _ _ _ _ d hd))
  obtain ⟨k, hk, hne⟩ := digits_differ hd
  have hk : k < 18 := by omega
  have d1 := dig_lt m k hk
  have d2 := dig_lt o k hk
  have e := congrArg (fun l => l.getD k []) a3
  simp only [signEnds_getD _ _ hk, endsOf_getD sec i hk, sigOf_getD sec i m k hk, chain_add] at e
  have hin : ∀ j, j ≤ 30 → chainN (startOf sec i k) j ∈ L := fun j hj => hm _ (mem_made_chain sec h 30 hi hk hj)
  rcases Nat.lt_or_gt_of_ne hne with hlt | hgt
  · obtain ⟨δ, hδ⟩ : ∃ δ, dig o k - dig m k = δ + 1 := ⟨dig o k - dig m k - 1, by omega⟩
    rw [show dig m k + (15 - dig o k) = 15 - (δ + 1) by omega] at e
    refine no_cycle (δ := δ) hn hi hk hm (by omega) (chain_back (p := 0) (q := δ + 1) hn (15 - (δ + 1)) (fun t ht => ⟨hin _ (by omega), hin _ (by omega)⟩) ?_)
    rw [Nat.zero_add, show δ + 1 + (15 - (δ + 1)) = 15 by omega]
    exact e
  · obtain ⟨δ, hδ⟩ : ∃ δ, dig m k - dig o k = δ + 1 := ⟨dig m k - dig o k - 1, by omega⟩
    rw [show dig m k + (15 - dig o k) = 15 + (δ + 1) by omega] at e
    refine no_cycle (δ := δ) hn hi hk hm (by omega) (chain_back (p := 0) (q := δ + 1) hn 15 (fun t ht => ⟨hin _ (by omega), hin _ (by omega)⟩) ?_)
    rw [Nat.zero_add, show δ + 1 + 15 = 15 + (δ + 1) by omega]
    exact e.symm
/-- the texts that are digested when a secret's own seal is checked are those that were digested for its public key. -/
theorem own_path_made (sec : B) (h n i : Nat) (hi : i < 2 ^ h) (d : Nat) (hd : d < h) :
    upT (val (keyOf sec i) (pathOf sec h i) i d) ((pathOf sec h i).getD d []) (i / 2 ^ d) ∈ made sec h n := by
  have hv := val_own h (keysOf sec (2 ^ h)) i (keysOf_len _ _) hi d (by omega)
  rw [keysOf_getD _ _ _ hi] at hv
  have hp : (pathOf sec h i).getD d [] = (lev (keysOf sec (2 ^ h)) d).getD (sib (i / 2 ^ d)) [] := map_range_getD _ _ _ _ hd
  have hq := idx_lt h i (d + 1) hi (by omega)
  have hmem := mem_made_node sec h n d (i / 2 ^ (d + 1)) hd hq
  rw [show val (keyOf sec i) (pathOf sec h i) i d = (lev (keysOf sec (2 ^ h)) d).getD (i / 2 ^ d) [] from hv, hp]
  rw [← div_two_pow] at hmem
  generalize i / 2 ^ d = q at *
  unfold upT sib
  by_cases h2 : q % 2 = 1
  · rw [if_pos h2, if_neg (by omega)]
    rw [show 2 * (q / 2) = q - 1 by omega, show q - 1 + 1 = q by omega] at hmem
    exact hmem
  · rw [if_neg h2, if_pos (by omega)]
    rw [show 2 * (q / 2) = q by omega] at hmem
    exact hmem
theorem startT_inj {s s' : B} {i i' k k' : Nat} (h : startT s i k = startT s' i' k') : s = s' ∧ i = i' := by
  have := joined_inj h
  simp only [List.cons.injEq] at this
  exact ⟨this.1, itoa_inj this.2.1⟩
/-- P2.5. -/
theorem secrets {L : List B} {sec oth m : B} {h i : Nat} (hi : i < 2 ^ h) (hne : sec ≠ oth) (hv : verB (pubOf oth h) m (i : Int) (sigOf sec i m) (pathOf sec h i) = true)
    (hm : ∀ x ∈ made sec h 15, x ∈ L) (ho : ∀ x ∈ made oth h 15, x ∈ L) : Coll L := by
  refine Classical.byContradiction fun hn => hne ?_
  obtain ⟨_, _, _, h4, _, _, h7⟩ := verB_parts hv
  rw [Int.toNat_natCast] at h4 h7
  have hl : (pathOf sec h i).length = h := pathN_len _ _ _
  have hs : signer m (sigOf sec i m) = keyOf sec i := by unfold signer keyOf; rw [signEnds_own]
  obtain ⟨a1, a2, a3⟩ := accepted hn h4 h7 ho (by rw [signEnds_own]; exact hm _ (mem_made_ends sec h 15 hi)) (fun d hd => by
    rw [hs]; exact hm _ (own_path_made sec h 15 i hi d (by omega)))
  rw [signEnds_own] at a3
  have e := congrArg (fun l => l.getD 0 []) a3
  simp only [endsOf_getD sec i (show 0 < 18 by omega), endsOf_getD oth i (show 0 < 18 by omega)] at e
  have := chain_back (L := L) (a := startOf sec i 0) (b := startOf oth i 0) (p := 0) (q := 0) hn 15 (fun t ht => ?_) (by rw [Nat.zero_add]; exact e)
  · exact (startT_inj (coll (hm _ (mem_made_start sec h 15 hi (by omega))) (ho _ (mem_made_start oth h 15 hi (by omega))) this hn)).1
  · rw [Nat.zero_add]
    exact ⟨hm _ (mem_made_chain sec h 15 hi (by omega) (by omega)), ho _ (mem_made_chain oth h 15 hi (by omega) (by omega))⟩
/-- P2.3: no other seal. -/
theorem changes {L : List B} {sec m : B} {h i j : Nat} {sig ps : List B} (hi : i < 2 ^ h) (hv : verB (pubOf sec h) m (j : Int) sig ps = true)
    (hm : ∀ x ∈ made sec h 15, x ∈ L) (hc : ∀ x ∈ checked m j sig ps, x ∈ L) (hdiff : (j = i ∧ (sig ≠ sigOf sec i m ∨ ps ≠ pathOf sec h i)) ∨ (j ≠ i ∧ sig = sigOf sec i m)) : Coll L := by
  refine Classical.byContradiction fun hn => ?_
  obtain ⟨s1, s2, s3⟩ := sound hn hv hm (by rw [Int.toNat_natCast]; exact hc)
  rw [Int.toNat_natCast] at s1 s2 s3
  rcases hdiff with ⟨rfl, hd | hd⟩ | ⟨hne, hs⟩
  · exact hd s3
  · exact hd s2
  · rw [hs] at s3
    have e := congrArg (fun l => l.getD 0 []) s3
    simp only [sigOf_getD _ _ _ 0 (show 0 < 18 by omega)] at e
    have d := dig_lt m 0 (by omega)
    have := chain_back (L := L) (a := startOf sec i 0) (b := startOf sec j 0) (p := 0) (q := 0) hn (dig m 0) (fun t ht => ?_) (by rw [Nat.zero_add]; exact e)
    · exact hne (startT_inj (coll (hm _ (mem_made_start sec h 15 hi (by omega))) (hm _ (mem_made_start sec h 15 s1 (by omega))) this hn)).2.symm
    · rw [Nat.zero_add]
      exact ⟨hm _ (mem_made_chain sec h 15 hi (by omega) (by omega)), hm _ (mem_made_chain sec h 15 s1 (by omega) (by omega))⟩
end Go.Proofs.YtanlpcdljclnmaaDoor.Sl
