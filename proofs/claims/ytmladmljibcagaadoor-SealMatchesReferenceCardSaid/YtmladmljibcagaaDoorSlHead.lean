/- The examples at the head of each law of seals: they hold. short, Few. -/
import Derived.Test.YtmladmljibcagaaDoorSlSignNo
namespace Go.Proofs.YtmladmljibcagaaDoor.Sl
open Go.RowKit
open Go.Proofs.YtmladmljibcagaaDoor.Dg hiding intOf

/-- every text has at most m bytes. -/
def upTo (m : Nat) (L : List B) : Bool := L.all fun x => decide (x.length ≤ m)
theorem upTo_next {m : Nat} {L : List B} {k : Nat} (h : k < L.length) (ha : upTo m (L.take k) = true) (hx : (L.getD k []).length ≤ m) : upTo m (L.take (k + 1)) = true := by
  unfold upTo at *
  rw [List.take_succ_eq_append_getElem h, List.all_append, ha]
  rw [List.getD_eq_getElem?_getD, List.getElem?_eq_getElem h] at hx
  simpa using hx
theorem upTo_not {m : Nat} {L : List B} {k : Nat} (h : k < L.length) (hx : ¬ (L.getD k []).length ≤ m) : upTo m L = false := by
  unfold upTo
  rw [List.all_eq_false]
  exact ⟨_, getD_mem h, by simpa using hx⟩
theorem upTo_all {m : Nat} {L : List B} (h : upTo m L = true) : ∀ x ∈ L, x.length ≤ m := fun x hx => of_decide_eq_true (List.all_eq_true.1 h x hx)
set_option maxRecDepth 100000 in
set_option maxHeartbeats 1000000 in
theorem short_any (a : Option Addr) (n cap : Nat) (L : List B) (w : World) {N : Nat} (hl : Txt w N a L) (hn : n = L.length) (hbig : n ≤ 1000000) :
    Calls Tryd.prog 11 #[.slice a n cap] w fun e w' => e = .returned (.bool (upTo 300 L)) ∧ w = w' := by
  have h1 : n ≤ L.length := by omega
  have h2 : L.length ≤ n := by omega
  clear hn
  go_enter Tryd.func11, Tryd.ntmps11
  go_wp2
  go_loop [3] (fun i => ∃ k : Nat, k ≤ n ∧ i = .int .i64 k ∧ Hid (upTo 300 (L.take k) = true)) (fun i => n - (intOf i).toNat)
  case atStart => exact ⟨0, by omega, rfl, rfl⟩
  case round =>
    obtain ⟨k, hk, rfl, hall⟩ := hrel
    by_cases hlt : k < n
    · obtain ⟨b, off, rfl, _, c1⟩ := hl.at_ (k := k) (by omega)
      by_cases hsz : (L.getD k []).length ≤ 300
      · have A1 := Lib.hid (upTo_next (by omega) hall.out hsz)
        clear hall
        generalize L.getD k [] = x at *
        go_wp2
        go_round
        case rel => exact ⟨k + 1, by omega, by go_num, A1⟩
        case measure => simp [intOf]; omega
      · have A1 := Lib.hid (upTo_not (m := 300) (by omega) hsz)
        clear hall
        generalize L.getD k [] = x at *
        go_wp2
        go_ret
        exact ⟨ret_bool A1.out.symm, rfl⟩
    · obtain rfl : k = n := by omega
      rw [List.take_of_length_le (by omega)] at hall
      go_wp2
      go_ret
      exact ⟨ret_bool hall.out.symm, rfl⟩
def fewS (sig ps : List B) : Bool := upTo 100 (sig.take 30) && upTo 100 (ps.take 30) && decide (sig.length ≤ 30) && decide (ps.length ≤ 30)
set_option maxRecDepth 100000 in
set_option maxHeartbeats 2000000 in
theorem fewS_any (idx : Int) (a p : Option Addr) (na ca np cp : Nat) (sig ps : List B) (w : World) (hl : Txt w w.heap.size a sig) (hp : Txt w w.heap.size p ps) (hna : na = sig.length) (hnp : np = ps.length) (h1 : na ≤ maxLen) (h2 : np ≤ maxLen) :
    Calls Tryd.prog 12 #[.agg #[.int .i64 idx, .slice a na ca, .slice p np cp]] w fun e w' => e = .returned (.bool (fewS sig ps)) ∧ Below w.heap.size w w' := by
  unfold maxLen at h1 h2
  have bn := below_new w (.cells #[.int .i64 idx, .slice a na ca, .slice p np cp] 24)
  have a1 : na ≤ sig.length := by omega
  have a2 : sig.length ≤ na := by omega
  have b1 : np ≤ ps.length := by omega
  have b2 : ps.length ≤ np := by omega
  have TL : Txt (w.alloc (.cells #[.int .i64 idx, .slice a na ca, .slice p np cp] 24)) w.heap.size a sig := hl.below bn
  have TP : Txt (w.alloc (.cells #[.int .i64 idx, .slice a na ca, .slice p np cp] 24)) w.heap.size p ps := hp.below bn
  clear hna hnp hl hp
  go_enter Tryd.func12, Tryd.ntmps12
  go_wp2
  go_loop [3] (fun i => ∃ k : Nat, k ≤ na ∧ k ≤ 30 ∧ i = .int .i64 k ∧ Hid (upTo 100 (sig.take k) = true)) (fun i => na - (intOf i).toNat)
  case atStart => exact ⟨0, by omega, by omega, rfl, rfl⟩
  case round =>
    obtain ⟨k, hk, hk30, rfl, hall⟩ := hrel
    by_cases hlt : k < na ∧ k < 30
    · obtain ⟨hl1, hl2⟩ := hlt
      obtain ⟨b, off, rfl, _, c1⟩ := TL.at_ (k := k) (by omega)
      by_cases hsz : (sig.getD k []).length ≤ 100
      · have A1 := Lib.hid (upTo_next (by omega) hall.out hsz)
        clear hall
        generalize sig.getD k [] = x at *
        go_wp2
        go_round
        case rel => exact ⟨k + 1, by omega, by omega, by go_num, A1⟩
        case measure => simp [intOf]; omega
      · have A1 : Hid (fewS sig ps = false) := by
          have : upTo 100 (sig.take 30) = false := upTo_not (k := k) (by rw [List.length_take]; omega) (by
            rw [List.getD_eq_getElem?_getD, List.getElem?_take, if_pos hl2, ← List.getD_eq_getElem?_getD]; exact hsz)
          show _ = _
          unfold fewS
          rw [this]; rfl
        clear hall
        generalize sig.getD k [] = x at *
        go_wp2
        go_ret
        exact ⟨ret_bool A1.out.symm, bn⟩
    · have hs30 : Hid (upTo 100 (sig.take 30) = true) := by
        have h := hall.out
        by_cases h30 : k = 30
        · subst h30; exact h
        · rw [List.take_of_length_le (by omega)] at h
          show _ = _
          rw [List.take_of_length_le (by omega)]; exact h
      have hexit : (decide ((k : Int) < (na : Int)) && decide ((k : Int) < 30)) = false := by simp; omega
      clear hall
      by_cases hka : k < na
      all_goals
        go_wp2
        go_loop [4] (fun i => ∃ k : Nat, k ≤ np ∧ k ≤ 30 ∧ i = .int .i64 k ∧ Hid (upTo 100 (ps.take k) = true)) (fun i => np - (intOf i).toNat)
        case atStart => exact ⟨0, by omega, by omega, rfl, rfl⟩
        case round =>
          clear hexit hlt hka hk hk30
          obtain ⟨k, hk, hk30, rfl, hall⟩ := hrel
          by_cases hlt : k < np ∧ k < 30
          · obtain ⟨hl1, hl2⟩ := hlt
            obtain ⟨b, off, rfl, _, c1⟩ := TP.at_ (k := k) (by omega)
            by_cases hsz : (ps.getD k []).length ≤ 100
            · have A1 := Lib.hid (upTo_next (by omega) hall.out hsz)
              clear hall
              generalize ps.getD k [] = x at *
              go_wp2
              go_round
              case rel => exact ⟨k + 1, by omega, by omega, by go_num, A1⟩
              case measure => simp [intOf]; omega
            · have A1 : Hid (fewS sig ps = false) := by
                have : upTo 100 (ps.take 30) = false := upTo_not (k := k) (by rw [List.length_take]; omega) (by
                  rw [List.getD_eq_getElem?_getD, List.getElem?_take, if_pos hl2, ← List.getD_eq_getElem?_getD]; exact hsz)
                show _ = _
                unfold fewS
                rw [this]; simp
              clear hall
              generalize ps.getD k [] = x at *
              go_wp2
              go_ret
              exact ⟨ret_bool A1.out.symm, bn⟩
          · have hp30 : Hid (upTo 100 (ps.take 30) = true) := by
              have h := hall.out
              by_cases h30 : k = 30
              · subst h30; exact h
              · rw [List.take_of_length_le (by omega)] at h
                show _ = _
                rw [List.take_of_length_le (by omega)]; exact h
            have FIN : Hid (fewS sig ps = (decide (na ≤ 30) && decide (np ≤ 30))) := by
              show _ = _
              unfold fewS
              rw [hs30.out, hp30.out, show sig.length = na by omega, show ps.length = np by omega]; rfl
            clear hall
            by_cases hkp : k < np
            all_goals
              go_wp2
              all_goals go_ret
              all_goals exact ⟨ret_bool (by rw [FIN.out, Bool.eq_iff_iff]; simp; omega), bn⟩
end Go.Proofs.YtmladmljibcagaaDoor.Sl
