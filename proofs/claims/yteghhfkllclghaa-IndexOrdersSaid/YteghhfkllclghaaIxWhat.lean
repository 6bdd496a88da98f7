/- index: what In, Near and Box answer (plain). -/
import Derived.Test.YteghhfkllclghaaIxOps
namespace Go.Proofs.Yteghhfkllclghaa.Ix
theorem mem_inS {q : Bx} {S : List It} {i : Id} : i ∈ inS q S ↔ ∃ b, (i, b) ∈ S ∧ meetB b q = true := by
  unfold inS
  rw [List.mem_map]
  constructor
  · rintro ⟨⟨j, b⟩, h, rfl⟩
    rw [List.mem_filter] at h
    exact ⟨b, h.1, h.2⟩
  · rintro ⟨b, h1, h2⟩
    exact ⟨(i, b), List.mem_filter.2 ⟨h1, h2⟩, rfl⟩
theorem in_box {q : Bx} {S : List It} (hs : Srt S) {i : Id} (h : i ∈ inS q S) : ∃ b, boxS i S = some b ∧ meetB b q = true := by
  obtain ⟨b, h1, h2⟩ := mem_inS.1 h
  exact ⟨b, (box_some hs.nodup).2 h1, h2⟩
theorem box_in {q : Bx} {S : List It} (hs : Srt S) {i : Id} {b : Bx} (h : boxS i S = some b) : i ∈ inS q S ↔ meetB b q = true := by
  rw [mem_inS]
  have h1 := (box_some hs.nodup).1 h
  constructor
  · rintro ⟨c, h2, h3⟩
    have := fst_inj hs.nodup h1 h2 rfl
    injection this with _ e
    rw [e]; exact h3
  · exact fun h2 => ⟨b, h1, h2⟩
theorem in_sorted {q : Bx} {S : List It} (hs : Srt S) : (inS q S).Pairwise (· < ·) := (hs.filter _).map_fst
theorem in_step {q : Bx} {S : List It} (hs : Srt S) {k : Nat} (h0 : 0 < k) (hk : k < (inS q S).length) : (inS q S)[k - 1]'(by omega) < (inS q S)[k] :=
  List.pairwise_iff_getElem.1 (in_sorted hs) (k - 1) k (by omega) hk (by omega)
/-- the first box is inside the second one. -/
def isIn (a b : Bx) : Prop := b.a ≤ a.a ∧ b.b ≤ a.b ∧ a.c ≤ b.c ∧ a.d ≤ b.d
theorem meet_isIn {p a b : Bx} (h : isIn a b) (hm : meetB p a = true) : meetB p b = true := by
  unfold isIn at h
  unfold meetB at hm ⊢
  simp only [Bool.and_eq_true, decide_eq_true_iff] at hm ⊢
  omega
theorem in_isIn {S : List It} {a b : Bx} (h : isIn a b) {i : Id} (hi : i ∈ inS a S) : i ∈ inS b S := by
  obtain ⟨p, h1, h2⟩ := mem_inS.1 hi
  exact mem_inS.2 ⟨p, h1, meet_isIn h h2⟩
theorem box_id {S : List It} {i : Id} {b : Bx} (h : boxS i S = some b) : ∃ z ∈ S, z.1 = i := by
  unfold boxS at h
  rw [Option.map_eq_some_iff] at h
  obtain ⟨z, hz, _⟩ := h
  exact ⟨z, List.mem_of_find?_eq_some hz, by simpa using List.find?_some hz⟩
theorem put_drop {i : Id} {b : Bx} : ∀ {S : List It}, (∀ p ∈ S, p.1 ≠ i) → dropS i (putS i b S) = S
  | [], _ => by unfold putS dropS; simp
  | p :: S, h => by
    have hp := h p (List.mem_cons_self ..)
    have h' : ∀ q ∈ S, q.1 ≠ i := fun q hq => h q (List.mem_cons_of_mem _ hq)
    unfold putS
    split
    · unfold dropS
      rw [List.filter_cons, if_pos (by simpa using hp)]
      congr 1
      exact put_drop h'
    · unfold dropS
      rw [List.filter_cons, if_neg (by simp), List.filter_cons, if_pos (by simpa using hp)]
      congr 1
      exact List.filter_eq_self.2 fun q hq => by simpa using h' q hq
theorem drop_absent {i : Id} {S : List It} (h : ∀ p ∈ S, p.1 ≠ i) : dropS i S = S := List.filter_eq_self.2 fun q hq => by simpa using h q hq
theorem box_dropped (i : Id) (S : List It) : boxS i (dropS i S) = none := by
  rw [box_none]
  intro p hp
  simpa using (List.mem_filter.1 hp).2
end Go.Proofs.Yteghhfkllclghaa.Ix
