/- index: what Near answers (plain). -/
import Derived.Test.YteghhfkllclghaaIxWhat
namespace Go.Proofs.Yteghhfkllclghaa.Ix
theorem nearA_lt {x y : Int} {S : List It} (hs : Srt S) : (nearA x y S).Pairwise (kLt x y) := by
  have hn : ((nearA x y S).map Prod.fst).Nodup := ((List.mergeSort_perm S (kLe x y)).map Prod.fst).nodup_iff.2 hs.nodup
  have hp := List.pairwise_mergeSort (kLe_trans x y) (kLe_total x y) S
  have hn2 : (nearA x y S).Pairwise fun p q => p.1 ≠ q.1 := by
    unfold List.Nodup at hn
    rw [List.pairwise_map] at hn
    exact hn
  refine (hp.and hn2).imp ?_
  rintro p q ⟨h1, h2⟩
  rw [kLe_iff] at h1
  exact h1.imp id fun h => ⟨h.1, id_lt h.2 h2⟩
theorem nearA_mem {x y : Int} {S : List It} {z : It} : z ∈ nearA x y S ↔ z ∈ S := (List.mergeSort_perm S (kLe x y)).mem_iff
/-- the items that Near answers. -/
def nearI (x y : Int) (k : Nat) (S : List It) : List It := (nearA x y S).take k
theorem nearS_is (x y : Int) (k : Nat) (S : List It) : nearS x y k S = (nearI x y k S).map Prod.fst := rfl
theorem near_take (x y : Int) {a b : Nat} (h : a ≤ b) (S : List It) : nearS x y a S = (nearS x y b S).take (nearS x y a S).length := by
  unfold nearS
  rw [List.length_map, ← List.map_take, List.take_take, List.length_take]
  congr 1
  rw [List.take_eq_take_iff]
  omega
theorem near_len_le (x y : Int) (k : Nat) (S : List It) : (nearS x y k S).length ≤ k := by
  unfold nearS
  rw [List.length_map, List.length_take]
  omega
theorem near_mono (x y : Int) {a b : Nat} (h : a ≤ b) (S : List It) : (nearS x y a S).length ≤ (nearS x y b S).length := by
  unfold nearS
  rw [List.length_map, List.length_map, List.length_take, List.length_take]
  omega
theorem near_at {x y : Int} {K : Nat} {S : List It} (hs : Srt S) {k : Nat} (hk : k < (nearS x y K S).length) : ∃ b, boxS (nearS x y K S)[k] S = some b ∧ ((nearS x y K S)[k], b) ∈ S ∧ (nearA x y S)[k]? = some ((nearS x y K S)[k], b) := by
  have hk2 : k < ((nearA x y S).take K).length := by simpa [nearS] using hk
  have e : (nearS x y K S)[k] = ((nearA x y S).take K)[k].1 := by simp [nearS]
  have hk3 : k < (nearA x y S).length := by rw [List.length_take] at hk2; omega
  have e2 : ((nearA x y S).take K)[k] = (nearA x y S)[k] := List.getElem_take
  have hm : (nearA x y S)[k] ∈ S := nearA_mem.1 (List.getElem_mem hk3)
  refine ⟨(nearA x y S)[k].2, ?_, ?_, ?_⟩
  · rw [box_some hs.nodup, e, e2]; exact hm
  · rw [e, e2]; exact hm
  · rw [e, e2, List.getElem?_eq_getElem hk3]
theorem near_order {x y : Int} {K : Nat} {S : List It} (hs : Srt S) {k : Nat} (h0 : 0 < k) (hk : k < (nearS x y K S).length) {a b : Bx} (ha : boxS ((nearS x y K S)[k - 1]'(by omega)) S = some a) (hb : boxS (nearS x y K S)[k] S = some b) :
    sqN a x y < sqN b x y ∨ sqN a x y = sqN b x y ∧ (nearS x y K S)[k - 1]'(by omega) < (nearS x y K S)[k] := by
  obtain ⟨a', a1, a2, a3⟩ := near_at hs (x := x) (y := y) (K := K) (k := k - 1) (by omega)
  obtain ⟨b', b1, b2, b3⟩ := near_at hs hk
  rw [ha] at a1
  rw [hb] at b1
  injection a1 with a1
  injection b1 with b1
  subst a1 b1
  obtain ⟨h1, e1⟩ := List.getElem?_eq_some_iff.1 a3
  obtain ⟨h2, e2⟩ := List.getElem?_eq_some_iff.1 b3
  have := List.pairwise_iff_getElem.1 (nearA_lt (x := x) (y := y) hs) (k - 1) k h1 h2 (by omega)
  rw [e1, e2] at this
  exact this
/-- what is left out. -/
theorem near_out {x y : Int} {K : Nat} {S : List It} (hs : Srt S) {i : Id} {b : Bx} (hb : boxS i S = some b) (hi : i ∉ nearS x y K S) :
    (nearS x y K S).length = K ∧ ∀ (h0 : 0 < (nearS x y K S).length) (a : Bx), boxS ((nearS x y K S)[(nearS x y K S).length - 1]'(by omega)) S = some a → sqN a x y ≤ sqN b x y := by
  have hm : (i, b) ∈ nearA x y S := nearA_mem.2 ((box_some hs.nodup).1 hb)
  obtain ⟨j, hj, ej⟩ := List.mem_iff_getElem.1 hm
  have hjK : K ≤ j := by
    refine Nat.le_of_not_lt fun h => hi ?_
    unfold nearS
    refine List.mem_map.2 ⟨(i, b), ?_, rfl⟩
    rw [List.mem_iff_getElem]
    refine ⟨j, by rw [List.length_take]; omega, ?_⟩
    rw [List.getElem_take, ej]
  have hl : (nearS x y K S).length = K := by
    unfold nearS
    rw [List.length_map, List.length_take]
    omega
  refine ⟨hl, fun h0 a ha => ?_⟩
  obtain ⟨a', a1, a2, a3⟩ := near_at hs (x := x) (y := y) (K := K) (k := (nearS x y K S).length - 1) (by omega)
  rw [ha] at a1
  injection a1 with a1
  subst a1
  obtain ⟨h1, e1⟩ := List.getElem?_eq_some_iff.1 a3
  have := List.pairwise_iff_getElem.1 (nearA_lt (x := x) (y := y) hs) ((nearS x y K S).length - 1) j h1 hj (by omega)
  rw [e1, ej] at this
  rcases this with h | h
  · exact Int.le_of_lt h
  · exact Int.le_of_eq h.1
end Go.Proofs.Yteghhfkllclghaa.Ix
