/- index: Near, any way; slices of Ids as they are read; the reference's Same and Has. -/
import Derived.Test.YteghhfkllclghaaIxNear
import Derived.Deep.QuietTactic
namespace Go.Proofs.Yteghhfkllclghaa.Ix
open Go.RowKit Go.Sort
def nearR (x y k : Int) (S : List It) : List Id := if 0 < k ∧ nearP x y = true then nearS x y k.toNat S else []
theorem near_any (w : World) (x m n : Nat) (t : Option (Tr Value)) (D : DataW Value) (lk : Id → Option (Nat × Nat)) (S : List It) (px py k : Int) (h : Idx w x m n t D lk S) (hn : n ≤ 10000) :
    Calls Try.prog 21 #[ptr x, vP px py, .int .i64 k] w fun e w' => ∃ v, e = .returned v ∧ OwnB w' w.heap.size v (nearR px py k S) ∧ Below w.heap.size w w' := by
  have bad : (t = none ∨ k ≤ 0 ∨ nearP px py = false) → nearR px py k S = [] → Calls Try.prog 21 #[ptr x, vP px py, .int .i64 k] w fun e w' => ∃ v, e = .returned v ∧ OwnB w' w.heap.size v (nearR px py k S) ∧ Below w.heap.size w w' := fun hb e1 => by
    refine (near_bad w x m n t D lk S px py k h hb).mono ?_
    rintro e w' ⟨rfl, hb⟩
    rw [e1]
    exact ⟨_, rfl, World.ownsRow_nil _ _ _ _, hb⟩
  by_cases hk : 0 < k
  · cases hv : nearP px py with
    | false => exact bad (.inr (.inr hv)) (by unfold nearR; rw [hv]; simp)
    | true =>
      cases t with
      | none =>
        have hS : S = [] := by
          have := h.perm
          exact List.nil_perm.1 this
        refine bad (.inl rfl) ?_
        subst hS
        unfold nearR nearS nearA
        simp
      | some tt =>
        have e1 : nearR px py k S = nearS px py k.toNat S := by unfold nearR; rw [if_pos ⟨hk, hv⟩]
        rw [e1]
        exact near_ok w x m n tt D lk S px py k h hk hv hn
  · exact bad (.inr (.inl (by omega))) (by unfold nearR; rw [if_neg (fun h => hk h.1)])
/-- a slice of Ids in memory below B. -/
def IdsT (w : World) (B : Nat) (ao : Option Addr) (l : List Id) : Prop := 0 < l.length → ∃ g off, ao = some ⟨g, off, none⟩ ∧ g < B ∧ ∀ (k : Nat) (y : Id), l[k]? = some y → w.cell? ⟨g, off + k, none⟩ = some (.string ⟨y.toArray⟩)
theorem IdsT.below {w w' : World} {B B' : Nat} {ao : Option Addr} {l : List Id} (h : IdsT w B ao l) (hb : Below B' w w') (hB : B ≤ B') : IdsT w' B ao l := fun h0 => by
  obtain ⟨g, off, e, hg, hc⟩ := h h0
  exact ⟨g, off, e, hg, fun k y hk => (hb.cell (p := ⟨g, _, none⟩) (Nat.lt_of_lt_of_le hg hB)).trans (hc k y hk)⟩
theorem IdsT.more {w : World} {B B' : Nat} {ao : Option Addr} {l : List Id} (h : IdsT w B ao l) (hB : B ≤ B') : IdsT w B' ao l := fun h0 => by
  obtain ⟨g, off, e, hg, hc⟩ := h h0
  exact ⟨g, off, e, Nat.lt_of_lt_of_le hg hB, hc⟩
theorem IdsT.at_ {w : World} {B : Nat} {ao : Option Addr} {l : List Id} {k : Nat} (h : IdsT w B ao l) (hk : k < l.length) : ∃ g off, ao = some ⟨g, off, none⟩ ∧ g < B ∧ w.cell? ⟨g, off + k, none⟩ = some (.string ⟨l[k].toArray⟩) := by
  obtain ⟨g, off, e, hg, hc⟩ := h (by omega)
  exact ⟨g, off, e, hg, hc k _ (List.getElem?_eq_getElem hk)⟩
theorem OwnB.ids {w : World} {base : Nat} {v : Value} {l : List Id} (h : OwnB w base v l) : ∃ ao cap, v = .slice ao l.length cap ∧ l.length ≤ cap ∧ IdsT w w.heap.size ao l := by
  have h0 := h
  obtain ⟨_, ⟨hv, h1⟩ | ⟨g, cap, cur, hv, hb, hg, h1, h2, h3, h4⟩⟩ := h
  · exact ⟨none, 0, by rw [hv, h1], by omega, fun hp => by omega⟩
  · subst hv
    have hr : IsRow w g 9 cur := hg
    refine ⟨some ⟨g, 0, none⟩, cap, rfl, h1, fun _ => ⟨g, 0, rfl, hr.inside, fun k y hk => ?_⟩⟩
    have hkl := (List.getElem?_eq_some_iff.1 hk).1
    have e : (sv l)[k]? = some (.string ⟨y.toArray⟩) := by unfold sv; rw [List.getElem?_map, hk]; rfl
    rw [← h4, List.getElem?_take, if_pos (by omega)] at e
    rw [hr.get, Nat.zero_add]
    simpa using e
set_option maxRecDepth 100000 in
set_option maxHeartbeats 1000000 in
theorem same_any (ao bo : Option Addr) (n ca cb : Nat) (l : List Id) (w : World) (hn : l.length = n) (ha : IdsT w w.heap.size ao l) (hb : IdsT w w.heap.size bo l) (hca : n ≤ ca) (hcb : n ≤ cb) (hn2 : n ≤ 100000) :
    Calls Try.prog 18 #[.slice ao n ca, .slice bo n cb] w fun e w' => e = .returned (.bool true) ∧ Below w.heap.size w w' := by
  have HA := Lib.hid ha
  have HB := Lib.hid hb
  have HN := Lib.hid hn
  have hca' : (n : Int) ≤ (ca : Int) := by omega
  have hcb' : (n : Int) ≤ (cb : Int) := by omega
  clear ha hb hn
  go_enter Try.func18, Try.ntmps18
  go_wp2
  go_loopw [5] (fun i wr => ∃ k : Nat, k ≤ n ∧ i = .int .i64 k ∧ Hid (Below w.heap.size w wr)) (fun i _ => n - (intOf i).toNat)
  case atStart => exact ⟨0, by omega, rfl, Lib.hid (Below.refl _ _)⟩
  case round =>
    obtain ⟨k, hk, rfl, HW⟩ := hrel
    by_cases hlt : k < n
    · have hkl : k < l.length := by rw [HN.out]; exact hlt
      obtain ⟨g1, o1, rfl, hg1, a0⟩ := (HA.out.below HW.out (Nat.le_refl _)).at_ hkl
      obtain ⟨g2, o2, rfl, hg2, b0⟩ := (HB.out.below HW.out (Nat.le_refl _)).at_ hkl
      generalize l[k] = y at *
      clear hkl
      go_wp2
      go_quiet (fail)
      go_wp2
      have HW3 : Hid (∀ j, Below w.heap.size w (wr.drewN j)) := Lib.hid fun j => HW.out.trans ⟨rfl, rfl, rfl, Nat.le_refl _, fun _ _ => rfl⟩
      go_roundw
      case rel => exact ⟨k + 1, by omega, by go_num, Lib.hid (HW3.out _)⟩
      case measure => simp [intOf]; omega
    · obtain rfl : k = n := by omega
      go_wp2
      go_ret
      exact ⟨rfl, HW.out⟩
set_option maxRecDepth 100000 in
set_option maxHeartbeats 1000000 in
theorem has_any (ao : Option Addr) (n ca : Nat) (l : List Id) (s : Id) (w : World) (hn : l.length = n) (ha : IdsT w w.heap.size ao l) (hca : n ≤ ca) (hn2 : n ≤ 100000) :
    Calls Try.prog 26 #[.slice ao n ca, .string ⟨s.toArray⟩] w fun e w' => e = .returned (.bool (decide (s ∈ l))) ∧ Below w.heap.size w w' := by
  have HA := Lib.hid ha
  have HN := Lib.hid hn
  have hca' : (n : Int) ≤ (ca : Int) := by omega
  clear ha hn
  obtain ⟨R, hR⟩ : ∃ R, decide (s ∈ l) = R := ⟨_, rfl⟩
  rw [hR]
  have HR := Lib.hid hR
  clear hR
  go_enter Try.func26, Try.ntmps26
  go_wp2
  go_loopw [5] (fun i wr => ∃ k : Nat, k ≤ n ∧ i = .int .i64 k ∧ Hid (s ∉ l.take k) ∧ Hid (Below w.heap.size w wr)) (fun i _ => n - (intOf i).toNat)
  case atStart => exact ⟨0, by omega, rfl, Lib.hid (by simp), Lib.hid (Below.refl _ _)⟩
  case round =>
    obtain ⟨k, hk, rfl, HI, HW⟩ := hrel
    by_cases hlt : k < n
    · have hkl : k < l.length := by rw [HN.out]; exact hlt
      obtain ⟨g1, o1, rfl, hg1, a0⟩ := (HA.out.below HW.out (Nat.le_refl _)).at_ hkl
      have hm : s ∈ l.take (k + 1) ↔ s = l[k] := by
        rw [List.take_succ_eq_append_getElem hkl, List.mem_append, List.mem_singleton]
        exact ⟨fun h => h.resolve_left HI.out, .inr⟩
      by_cases he : l[k] = s
      · have hF : R = true := by
          rw [← HR.out, decide_eq_true_eq]
          exact he ▸ List.getElem_mem hkl
        subst hF
        rw [he] at a0
        clear he hm hkl
        go_wp2
        go_ret
        exact ⟨rfl, HW.out⟩
      · have HI2 := Lib.hid (show s ∉ l.take (k + 1) from fun h => he (hm.1 h).symm)
        clear hm
        generalize l[k] = y at *
        have he3 : (y == s) = false := by rw [beq_eq_false_iff_ne]; exact he
        clear hkl he
        go_wp2
        go_roundw
        case rel => exact ⟨k + 1, by omega, by go_num, HI2, HW⟩
        case measure => simp [intOf]; omega
    · obtain rfl : k = n := by omega
      have hF : R = false := by
        have := HI.out
        rw [← HN.out, List.take_length] at this
        rw [← HR.out, decide_eq_false this]
      subst hF
      go_wp2
      go_ret
      exact ⟨rfl, HW.out⟩
end Go.Proofs.Yteghhfkllclghaa.Ix
