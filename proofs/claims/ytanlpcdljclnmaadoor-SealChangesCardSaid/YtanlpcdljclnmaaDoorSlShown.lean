/- The reference's search for two different texts with one digest. -/
import Derived.Test.YtanlpcdljclnmaaDoorSlRefB
namespace Go.Proofs.YtanlpcdljclnmaaDoor.Sl
open Go.RowKit
open Go.Proofs.YtanlpcdljclnmaaDoor.Dg hiding intOf

def sumsTo (L : List B) (k : Nat) : List B := (List.range k).map fun j => dsum (L.getD j [])
theorem sumsTo_len (L : List B) (k : Nat) : (sumsTo L k).length = k := map_range_len _ _
theorem sumsTo_getD (L : List B) {k j : Nat} (h : j < k) : (sumsTo L k).getD j [] = dsum (L.getD j []) := map_range_getD _ _ _ _ h
theorem sumsTo_succ (L : List B) (k : Nat) : sumsTo L (k + 1) = sumsTo L k ++ [dsum (L.getD k [])] := range_map_succ _ _
/-- no collision among the pairs (i, j) with i < k, j < i. -/
def Clear (L : List B) (k : Nat) : Prop := ∀ i j, i < k → j < i → dsum (L.getD i []) = dsum (L.getD j []) → L.getD i [] = L.getD j []
def ClearAt (L : List B) (k m : Nat) : Prop := ∀ j, j < m → dsum (L.getD k []) = dsum (L.getD j []) → L.getD k [] = L.getD j []
theorem Clear.next {L : List B} {k : Nat} (h : Clear L k) (h' : ClearAt L k k) : Clear L (k + 1) := by
  intro i j hi hj e
  by_cases hik : i < k
  · exact h i j hik hj e
  · obtain rfl : i = k := by omega
    exact h' j hj e
theorem ClearAt.next {L : List B} {k m : Nat} (h : ClearAt L k m) (h' : dsum (L.getD k []) = dsum (L.getD m []) → L.getD k [] = L.getD m []) : ClearAt L k (m + 1) := by
  intro j hj e
  by_cases hjm : j < m
  · exact h j hjm e
  · obtain rfl : j = m := by omega
    exact h' e
theorem mem_getD {L : List B} {x : B} (h : x ∈ L) : ∃ i, i < L.length ∧ L.getD i [] = x := by
  obtain ⟨i, hi, rfl⟩ := List.mem_iff_getElem.1 h
  exact ⟨i, hi, by rw [List.getD_eq_getElem?_getD, List.getElem?_eq_getElem hi]; rfl⟩
theorem not_clear {L : List B} (h : Clear L L.length) : ¬ Coll L := by
  rintro ⟨x, y, hx, hy, hne, e⟩
  obtain ⟨i, hi, rfl⟩ := mem_getD hx
  obtain ⟨j, hj, rfl⟩ := mem_getD hy
  rcases Nat.lt_trichotomy i j with h1 | h1 | h1
  · exact hne (h j i hj h1 e.symm).symm
  · subst h1; exact hne rfl
  · exact hne (h i j hi h1 e)
theorem toList_ne {x y : B} (h : x ≠ y) : ((ByteArray.mk x.toArray).toList == (ByteArray.mk y.toArray).toList) = false := by
  rw [Lib.toList_data, Lib.toList_data, beq_eq_false_iff_ne]
  exact h
set_option maxRecDepth 100000 in
set_option maxHeartbeats 4000000 in
theorem shown_any (a : Option Addr) (n cap : Nat) (L : List B) (w : World) (hl : Txt w w.heap.size a L) (hn : n = L.length) (hbig : n ≤ 100000) (hx : ∀ x ∈ L, x.length ≤ 100000) (hc : Coll L) :
    Calls Tryd.prog 10 #[.slice a n cap] w fun e w' => e = .returned (.bool true) ∧ Below w.heap.size w w' := by
  have HN := Lib.hid hn
  have HX := Lib.hid hx
  have HC := Lib.hid hc
  have HL := Lib.hid hl
  have hn0 : 0 < n := by
    obtain ⟨x, _, h, _⟩ := hc
    have := List.length_pos_of_mem h
    omega
  clear hn hx hc hl
  go_enter Tryd.func10, Tryd.ntmps10
  go_wp2
  go_loopw [3, 4] (fun v i wr => ∃ k : Nat, k ≤ n ∧ i = .int .i64 k ∧ Hid (Own wr w.heap.size v k (sumsTo L k)) ∧ Hid (Below w.heap.size w wr)) (fun _ i _ => n - (intOf i).toNat)
  case atStart => exact ⟨0, by omega, rfl, Own.nil _ _, Below.refl _ _⟩
  case round =>
    obtain ⟨k, hk, rfl, hown, hb⟩ := hrel
    by_cases hlt : k < n
    · obtain ⟨b, off, rfl, hbN, c0⟩ := HL.out.at_ (k := k) (by rw [← HN.out]; exact hlt)
      have d0 : wr.cell? ⟨b, off + k, none⟩ = some (.string ⟨(L.getD k []).toArray⟩) := (hb.out.cell (p := ⟨b, off + k, none⟩) hbN).trans c0
      have x0 : (L.getD k []).length ≤ 100000 := HX.out _ (getD_mem (by rw [← HN.out]; exact hlt))
      have hsz := hb.out.size
      clear c0
      go_wp2_with fail
      refine (refsumB (L.getD k []) _ x0).mono ?_
      rintro e w' ⟨rfl, rfl⟩
      go_wp2_with (at_builtin; refine wpList_app1 rfl _ _ (by rfl) w.heap.size _ k _ (dsum (L.getD k [])) wr.heap.size (by rfl) (Own.later hown.out (below_new wr _)) (by rfl) (heap_alloc_new wr _) (by omega) (Nat.le_trans hsz (below_new wr _).size) ?_; intro g cap w2 ho2 hg2 hlt2 hsz2)
      have O2 : Hid (Own w2 w.heap.size (.slice (some ⟨g, 0, none⟩) (k + 1) cap) (k + 1) (sumsTo L (k + 1))) := by
        show Own _ _ _ _ _
        rw [sumsTo_succ]
        exact ho2
      have B2 : Hid (Below w.heap.size w w2) := (hb.out.alloc hsz _).grown hg2 (Nat.le_trans hsz (below_new wr _).size) (fun k hk => (hlt2 k hk).1)
      clear ho2 hg2 hlt2 hsz2
      go_roundw
      case rel => exact ⟨k + 1, by omega, by go_num, O2, B2⟩
      case measure => simp [intOf]; omega
    · obtain rfl : n = k := by omega
      obtain ⟨gs, cs, rfl⟩ := hown.out.pos hn0
      clear hk hlt
      go_wp2
      go_loopw [5] (fun i wr => ∃ k : Nat, k ≤ n ∧ i = .int .i64 k ∧ Hid (Clear L k) ∧ Hid (Own wr w.heap.size (.slice (some ⟨gs, 0, none⟩) n cs) n (sumsTo L n)) ∧ Hid (Below w.heap.size w wr)) (fun i _ => n - (intOf i).toNat)
      case atStart => exact ⟨0, by omega, rfl, fun i j hi => absurd hi (Nat.not_lt_zero i), hown, hb⟩
      case round =>
        clear hown hb
        obtain ⟨k, hk, rfl, hcl, hown, hb⟩ := hrel
        by_cases hlt : k < n
        · go_wp2
          go_loopw [6] (fun i wr => ∃ m : Nat, m ≤ k ∧ i = .int .i64 m ∧ Hid (ClearAt L k m) ∧ Hid (Own wr w.heap.size (.slice (some ⟨gs, 0, none⟩) n cs) n (sumsTo L n)) ∧ Hid (Below w.heap.size w wr)) (fun i _ => k - (intOf i).toNat)
          case atStart => exact ⟨0, by omega, rfl, fun j hj => absurd hj (Nat.not_lt_zero j), hown, hb⟩
          case round =>
            clear hown hb
            obtain ⟨m, hm, rfl, hca, hown, hb⟩ := hrel
            by_cases hlt2 : m < k
            · obtain ⟨b, off, rfl, hbN, c0⟩ := HL.out.at_ (k := k) (by rw [← HN.out]; exact hlt)
              obtain ⟨b', off', e1, _, c1⟩ := HL.out.at_ (k := m) (by rw [← HN.out]; omega)
              obtain ⟨rfl, rfl⟩ : b = b' ∧ off = off' := by injection e1 with e1; injection e1 with e1 e2; exact ⟨e1, e2⟩
              clear e1
              have d0 : wr.cell? ⟨b, off + k, none⟩ = some (.string ⟨(L.getD k []).toArray⟩) := (hb.out.cell (p := ⟨b, off + k, none⟩) hbN).trans c0
              have d1 : wr.cell? ⟨b, off + m, none⟩ = some (.string ⟨(L.getD m []).toArray⟩) := (hb.out.cell (p := ⟨b, off + m, none⟩) hbN).trans c1
              have s0 := hown.out.cell (k := k) (by rw [sumsTo_len]; exact hlt)
              have s1 := hown.out.cell (k := m) (by rw [sumsTo_len]; omega)
              rw [sumsTo_getD L hlt] at s0
              rw [sumsTo_getD L (by omega)] at s1
              have i1 : (k : Int) < (n : Int) := by omega
              have i2 : (m : Int) < (n : Int) := by omega
              have i3 : (0 : Int) ≤ (k : Int) := by omega
              have i4 : (0 : Int) ≤ (m : Int) := by omega
              clear c0 c1
              by_cases hd : dsum (L.getD k []) = dsum (L.getD m [])
              · by_cases hne : L.getD k [] = L.getD m []
                · have A1 : Hid (ClearAt L k (m + 1)) := hca.out.next (fun _ => hne)
                  rw [hd] at s0
                  rw [hne] at d0
                  clear hca hd hne
                  generalize dsum (L.getD m []) = s at *
                  generalize L.getD m [] = x at *
                  go_wp2_with fail
                  go_quiet (fail)
                  go_wp2
                  go_roundw
                  case rel => exact ⟨m + 1, by omega, by go_num, A1, hown.out.later (hid_drewN (Below.refl _ _) _).out, hid_drewN hb _⟩
                  case measure => simp [intOf]; omega
                · rw [hd] at s0
                  have f1 : (L.getD k [] == L.getD m []) = false := beq_eq_false_iff_ne.2 hne
                  clear hca hd hne
                  generalize dsum (L.getD m []) = s at *
                  generalize L.getD m [] = x at *
                  generalize L.getD k [] = y at *
                  go_wp2_with fail
                  go_quiet (fail)
                  go_wp2
                  go_ret
                  exact ⟨rfl, (hid_drewN hb _).out⟩
              · have A1 : Hid (ClearAt L k (m + 1)) := hca.out.next (fun e => absurd e hd)
                have f1 : (dsum (L.getD k []) == dsum (L.getD m [])) = false := beq_eq_false_iff_ne.2 hd
                clear hca hd
                generalize dsum (L.getD m []) = s at *
                generalize dsum (L.getD k []) = t at *
                generalize L.getD m [] = x at *
                generalize L.getD k [] = y at *
                go_wp2_with fail
                go_quiet (fail)
                go_wp2
                go_roundw
                case rel => exact ⟨m + 1, by omega, by go_num, A1, hown.out.later (hid_drewN (Below.refl _ _) _).out, hid_drewN hb _⟩
                case measure => simp [intOf]; omega
            · obtain rfl : m = k := by omega
              have A2 : Hid (Clear L (m + 1)) := hcl.out.next hca.out
              go_wp2
              go_roundw
              case rel => exact ⟨m + 1, by omega, by go_num, A2, hown, hb⟩
              case measure => simp [intOf]; omega
        · obtain rfl : k = n := by omega
          exact absurd HC.out (not_clear (by rw [← HN.out]; exact hcl.out))
end Go.Proofs.YtanlpcdljclnmaaDoor.Sl
