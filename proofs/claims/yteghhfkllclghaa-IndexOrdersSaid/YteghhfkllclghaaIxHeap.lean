/- Heaps in a list, by their order's Bool (plain mathematics). -/
namespace Go.Proofs.Yteghhfkllclghaa.Ix
section
variable {α : Type} {bf : α → α → Bool}
/-- a strict weak order. -/
structure Weak (bf : α → α → Bool) : Prop where
  asymm : ∀ a b, bf a b = true → bf b a = false
  trans : ∀ a b c, bf a b = true → bf b c = true → bf a c = true
  neg : ∀ a b c, bf a b = false → bf b c = false → bf a c = false
def par (i : Nat) : Nat := (i - 1) / 2
def HeapL (bf : α → α → Bool) (L : List α) (n : Nat) : Prop := ∀ i, 0 < i → i < n → ∀ a b, L[i]? = some a → L[par i]? = some b → bf a b = false
def swp (L : List α) (i j : Nat) : List α := match L[i]?, L[j]? with
  | some a, some b => (L.set i b).set j a
  | _, _ => L
theorem swp_len (L : List α) (i j : Nat) : (swp L i j).length = L.length := by
  unfold swp
  split
  · simp
  · rfl
theorem swp_eq {L : List α} {i j : Nat} {a b : α} (hi : L[i]? = some a) (hj : L[j]? = some b) : swp L i j = (L.set i b).set j a := by unfold swp; rw [hi, hj]
theorem swp_get {L : List α} {i j : Nat} {a b : α} (hi : L[i]? = some a) (hj : L[j]? = some b) (k : Nat) : (swp L i j)[k]? = if k = j then some a else if k = i then some b else L[k]? := by
  rw [swp_eq hi hj, List.getElem?_set, List.getElem?_set]
  have h1 := (List.getElem?_eq_some_iff.1 hi).1
  have h2 := (List.getElem?_eq_some_iff.1 hj).1
  by_cases g : k = j
  · subst g; simp [h2]
  · rw [if_neg (fun e => g e.symm), if_neg g]
    by_cases g2 : k = i
    · subst g2; simp [h1]
    · rw [if_neg (fun e => g2 e.symm), if_neg g2]
theorem swp_perm {L : List α} {i j : Nat} {a b : α} (hi : L[i]? = some a) (hj : L[j]? = some b) : (swp L i j).Perm L := by
  rw [swp_eq hi hj]
  by_cases g : i = j
  · subst g
    rw [hi] at hj
    injection hj with hj
    subst hj
    obtain ⟨h1, e1⟩ := List.getElem?_eq_some_iff.1 hi
    rw [List.set_set, ← e1, List.set_getElem_self]
  · obtain ⟨h1, e1⟩ := List.getElem?_eq_some_iff.1 hi
    obtain ⟨h2, e2⟩ := List.getElem?_eq_some_iff.1 hj
    rw [← e1, ← e2]
    exact List.set_set_perm h1 h2
structure UpInv (bf : α → α → Bool) (L : List α) (j : Nat) : Prop where
  rest : ∀ i, 0 < i → i < L.length → i ≠ j → ∀ a b, L[i]? = some a → L[par i]? = some b → bf a b = false
  kids : ∀ c, 0 < c → c < L.length → par c = j → 0 < j → ∀ a b, L[c]? = some a → L[par j]? = some b → bf a b = false
theorem up_start {L : List α} (h : HeapL bf L L.length) (x : α) : UpInv bf (L ++ [x]) L.length where
  rest := fun i h0 hi hne a b ha hb => by
    have hlt : i < L.length := by rw [List.length_append] at hi; simp at hi; omega
    rw [List.getElem?_append_left hlt] at ha
    rw [List.getElem?_append_left (by unfold par; omega)] at hb
    exact h i h0 hlt a b ha hb
  kids := fun c h0 hc hp _ a b _ _ => by
    rw [List.length_append] at hc
    simp at hc
    unfold par at hp
    omega
theorem up_done {L : List α} {j : Nat} (h : UpInv bf L j) (hj : j = 0 ∨ ∀ a b, L[j]? = some a → L[par j]? = some b → bf a b = false) : HeapL bf L L.length := fun i h0 hi a b ha hb => by
  by_cases e : i = j
  · rcases hj with g | g
    · omega
    · subst e; exact g a b ha hb
  · exact h.rest i h0 hi e a b ha hb
theorem up_step (W : Weak bf) {L : List α} {j : Nat} {a b : α} (h : UpInv bf L j) (h0 : 0 < j) (hj : L[j]? = some a) (hp : L[par j]? = some b) (hb : bf a b = true) : UpInv bf (swp L (par j) j) (par j) := by
  have hpj : par j < j := by unfold par; omega
  have hG := swp_get (L := L) hp hj
  have hjl := (List.getElem?_eq_some_iff.1 hj).1
  have get1 : (swp L (par j) j)[j]? = some b := by rw [hG, if_pos rfl]
  have get2 : (swp L (par j) j)[par j]? = some a := by rw [hG, if_neg (by omega), if_pos rfl]
  have get3 : ∀ k, k ≠ j → k ≠ par j → (swp L (par j) j)[k]? = L[k]? := fun k k1 k2 => by rw [hG, if_neg k1, if_neg k2]
  refine ⟨fun i hi0 hi hne x y hx hy => ?_, fun c hc0 hc hpc hp0 x y hx hy => ?_⟩
  · rw [swp_len] at hi
    by_cases e1 : i = j
    · subst e1
      rw [get1] at hx; rw [get2] at hy
      injection hx with hx; injection hy with hy
      subst hx hy
      exact W.asymm _ _ hb
    · rw [get3 i e1 hne] at hx
      by_cases e2 : par i = j
      · rw [e2, get1] at hy
        injection hy with hy
        subst hy
        exact h.kids i hi0 hi e2 h0 x b hx hp
      · by_cases e3 : par i = par j
        · rw [e3, get2] at hy
          injection hy with hy
          subst hy
          have h1 := h.rest i hi0 hi e1 x b hx (by rw [e3]; exact hp)
          cases h2 : bf x a with
          | false => rfl
          | true => rw [W.trans _ _ _ h2 hb] at h1; cases h1
        · rw [get3 (par i) e2 e3] at hy
          exact h.rest i hi0 hi e1 x y hx hy
  · rw [swp_len] at hc
    have hpp : par (par j) < par j := by unfold par at *; omega
    rw [get3 _ (by omega) (by omega)] at hy
    have hpl : par j < L.length := (List.getElem?_eq_some_iff.1 hp).1
    have h1 := h.rest (par j) hp0 hpl (by omega) b y hp hy
    by_cases e1 : c = j
    · subst e1
      rw [get1] at hx
      injection hx with hx
      subst hx
      exact h1
    · have hcp : c ≠ par j := fun e => by unfold par at *; omega
      rw [get3 c e1 hcp] at hx
      have h2 := h.rest c hc0 hc e1 x b hx (by rw [hpc]; exact hp)
      exact W.neg _ _ _ h2 h1
structure DownInv (bf : α → α → Bool) (L : List α) (n i : Nat) : Prop where
  rest : ∀ k, 0 < k → k < n → par k ≠ i → ∀ a b, L[k]? = some a → L[par k]? = some b → bf a b = false
  kids : ∀ k, 0 < k → k < n → par k = i → 0 < i → ∀ a b, L[k]? = some a → L[par i]? = some b → bf a b = false
theorem down_start {L : List α} {m : Nat} (h : HeapL bf L (m + 1)) {a b : α} (h0 : L[0]? = some a) (hm : L[m]? = some b) : DownInv bf (swp L 0 m) m 0 where
  rest := fun k hk0 hk hp x y hx hy => by
    have hG := swp_get (L := L) h0 hm
    have hpk : par k < k := by unfold par; omega
    rw [hG, if_neg (by omega), if_neg (by omega)] at hx
    rw [hG, if_neg (by omega), if_neg hp] at hy
    exact h k hk0 (by omega) x y hx hy
  kids := fun _ _ _ _ h => absurd h (by omega)
theorem down_done {L : List α} {n i : Nat} (h : DownInv bf L n i) (hk : ∀ k, 0 < k → k < n → par k = i → ∀ a b, L[k]? = some a → L[i]? = some b → bf a b = false) : HeapL bf L n := fun k h0 hn a b ha hb => by
  by_cases e : par k = i
  · exact hk k h0 hn e a b ha (e ▸ hb)
  · exact h.rest k h0 hn e a b ha hb
theorem down_step (W : Weak bf) {L : List α} {n i j : Nat} {a b : α} (h : DownInv bf L n i) (hj0 : 0 < j) (hjn : j < n) (hpj : par j = i) (hi : L[i]? = some a) (hj : L[j]? = some b) (hb : bf b a = true)
    (hs : ∀ k, 0 < k → k < n → par k = i → ∀ x, L[k]? = some x → bf x b = false) : DownInv bf (swp L i j) n j := by
  have hij : i < j := by rw [← hpj]; unfold par; omega
  have hG := swp_get (L := L) hi hj
  have get1 : (swp L i j)[j]? = some a := by rw [hG, if_pos rfl]
  have get2 : (swp L i j)[i]? = some b := by rw [hG, if_neg (by omega), if_pos rfl]
  have get3 : ∀ k, k ≠ j → k ≠ i → (swp L i j)[k]? = L[k]? := fun k k1 k2 => by rw [hG, if_neg k1, if_neg k2]
  refine ⟨fun k hk0 hk hne x y hx hy => ?_, fun k hk0 hk hpk _ x y hx hy => ?_⟩
  · by_cases e1 : par k = i
    · rw [e1, get2] at hy
      injection hy with hy
      subst hy
      by_cases e2 : k = j
      · subst e2
        rw [get1] at hx
        injection hx with hx
        subst hx
        exact W.asymm _ _ hb
      · rw [get3 k e2 (fun e => by unfold par at e1; omega)] at hx
        exact hs k hk0 hk e1 x hx
    · by_cases e2 : k = i
      · subst e2
        rw [get2] at hx
        injection hx with hx
        subst hx
        rw [get3 (par k) hne (by unfold par; omega)] at hy
        exact h.kids j hj0 hjn hpj hk0 b y hj hy
      · by_cases e3 : k = j
        · exfalso; rw [e3] at e1; exact e1 hpj
        · rw [get3 k e3 e2] at hx
          rw [get3 (par k) hne e1] at hy
          exact h.rest k hk0 hk e1 x y hx hy
  · rw [hpj, get2] at hy
    injection hy with hy
    subst hy
    have hkj : j < k := by unfold par at hpk; omega
    rw [get3 k (by omega) (by omega)] at hx
    exact h.rest k hk0 hk (by omega) x b hx (by rw [hpk]; exact hj)
theorem heap_min (W : Weak bf) {L : List α} {n : Nat} (h : HeapL bf L n) {r : α} (hr : L[0]? = some r) (hirr : ∀ a, bf a a = false) (hn : n ≤ L.length) : ∀ k, k < n → ∀ x, L[k]? = some x → bf x r = false := by
  intro k
  induction k using Nat.strongRecOn with
  | _ k ih =>
    intro hk x hx
    by_cases e : k = 0
    · subst e
      rw [hr] at hx
      injection hx with hx
      subst hx
      exact hirr _
    · have hp : par k < k := by unfold par; omega
      have hlt : par k < L.length := by omega
      exact W.neg _ _ _ (h k (by omega) hk x _ hx (List.getElem?_eq_getElem hlt)) (ih (par k) hp (by omega) _ (List.getElem?_eq_getElem hlt))
end
end Go.Proofs.Yteghhfkllclghaa.Ix
