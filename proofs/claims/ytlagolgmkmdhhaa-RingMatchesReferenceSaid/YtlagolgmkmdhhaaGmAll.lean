/- Whether all points of a list are near: the program's way, the law's way. -/
import Derived.Test.YtlagolgmkmdhhaaGmCmp
namespace Go.Proofs.Ytlagolgmkmdhhaa.Geo
open Go.RowKit Go.Sort
def flat (l : List Pt) : List Value := l.flatMap fun p => [.int .i64 p.x, .int .i64 p.y]
theorem flat_cons (p : Pt) (l : List Pt) : flat (p :: l) = .int .i64 p.x :: .int .i64 p.y :: flat l := rfl
theorem flat_get : ∀ {l : List Pt} {k : Nat} {p : Pt}, l[k]? = some p → (flat l)[k * 2]? = some (.int .i64 p.x) ∧ (flat l)[k * 2 + 1]? = some (.int .i64 p.y) := by
  intro l
  induction l with
  | nil => intro k p h; cases h
  | cons q l ih =>
    intro k p h
    cases k with
    | zero => simp at h; subst h; exact ⟨rfl, rfl⟩
    | succ k =>
      have := ih (k := k) (p := p) (by simpa using h)
      rw [flat_cons, show (k + 1) * 2 = k * 2 + 1 + 1 by omega]
      simpa using this
theorem flat_length (l : List Pt) : (flat l).length = 2 * l.length := by
  induction l with
  | nil => rfl
  | cons p l ih => rw [flat_cons, List.length_cons, List.length_cons, ih, List.length_cons]; omega
theorem flat_cell {w : World} {g k : Nat} {t : TypeId} {l : List Pt} {p : Pt} (h : IsRow w g t (flat l).toArray) (hk : l[k]? = some p) : w.cell? ⟨g, k * 2, none⟩ = some (.int .i64 p.x) ∧ w.cell? ⟨g, k * 2 + 1, none⟩ = some (.int .i64 p.y) := by
  rw [h.get, h.get]
  simpa using flat_get hk
theorem near_false {l : List Pt} {k : Nat} {p : Pt} (h : l[k]? = some p) (hp : nearB p = false) : l.all nearB = false := by
  rw [List.all_eq_false]
  exact ⟨p, List.mem_of_getElem? h, by simp [hp]⟩
theorem near_step {l : List Pt} {k : Nat} {p : Pt} (h : l[k]? = some p) (hp : nearB p = true) (ha : (l.take k).all nearB = true) : (l.take (k + 1)).all nearB = true := by
  obtain ⟨hk, rfl⟩ := List.getElem?_eq_some_iff.1 h
  rw [List.take_succ_eq_append_getElem hk, List.all_append, ha]
  simpa using hp
theorem nearB_not {p : Pt} (h : ¬ (-2097152 ≤ p.x ∧ p.x ≤ 2097152 ∧ -2097152 ≤ p.y ∧ p.y ≤ 2097152)) : nearB p = false := by
  unfold nearB; rw [decide_eq_false_iff_not]; exact h
set_option maxRecDepth 100000 in
set_option maxHeartbeats 1000000 in
theorem allNear_any (g cap : Nat) (l : List Pt) (w : World) (hg : IsRow w g 24 (flat l).toArray) (hn : l.length ≤ 100) :
    Calls Try.prog 33 #[.slice (some ⟨g, 0, none⟩) l.length cap] w fun e w' => e = .returned (.bool (l.all nearB)) ∧ Below w.heap.size w w' := by
  have HG := Lib.hid hg
  clear hg
  go_enter Try.func33, Try.ntmps33
  go_wp2
  go_loopw [7] (fun i wr => ∃ k : Nat, k ≤ l.length ∧ i = .int .i64 k ∧ Hid ((l.take k).all nearB = true) ∧ Hid (Below w.heap.size w wr)) (fun i _ => l.length - (intOf i).toNat)
  case atStart => exact ⟨0, by omega, rfl, rfl, Lib.hid (Below.refl _ _)⟩
  case round =>
    obtain ⟨k, hk, rfl, hall, hb⟩ := hrel
    by_cases hlt : k < l.length
    · obtain ⟨p, hp⟩ : ∃ p, l[k]? = some p := ⟨_, List.getElem?_eq_getElem hlt⟩
      have hcell := flat_cell (HG.out.below hb.out HG.out.inside) hp
      obtain ⟨c0, c1⟩ := hcell
      have HP := Lib.hid hp
      clear hp
      by_cases h1 : -2097152 ≤ p.x
      · by_cases h2 : p.x ≤ 2097152
        · by_cases h3 : -2097152 ≤ p.y
          · by_cases h4 : p.y ≤ 2097152
            · have hall' := Lib.hid (near_step HP.out (nearB_iff.2 ⟨h1, h2, h3, h4⟩) hall.out)
              clear hall
              go_wp2
              go_roundw
              case rel => exact ⟨k + 1, by omega, by go_num, hall', Lib.hid (hb.out.alloc hb.out.size _)⟩
              case measure => simp [intOf]; omega
            · have hf := Lib.hid (near_false HP.out (nearB_not (by omega)))
              go_wp2
              go_ret
              exact ⟨ret_bool hf.out.symm, hb.out.alloc hb.out.size _⟩
          · have hf := Lib.hid (near_false HP.out (nearB_not (by omega)))
            go_wp2
            go_ret
            exact ⟨ret_bool hf.out.symm, hb.out.alloc hb.out.size _⟩
        · have hf := Lib.hid (near_false HP.out (nearB_not (by omega)))
          go_wp2
          go_ret
          exact ⟨ret_bool hf.out.symm, hb.out.alloc hb.out.size _⟩
      · have hf := Lib.hid (near_false HP.out (nearB_not (by omega)))
        go_wp2
        go_ret
        exact ⟨ret_bool hf.out.symm, hb.out.alloc hb.out.size _⟩
    · obtain rfl : k = l.length := by omega
      rw [List.take_length] at hall
      go_wp2
      go_ret
      exact ⟨ret_bool hall.out.symm, hb.out⟩
end Go.Proofs.Ytlagolgmkmdhhaa.Geo
