/- The examples at the head of each law of seals: they hold. short, Few. -/
import Derived.Test.YtanlpcdljclnmaaDoorSlSignNo
namespace Go.Proofs.YtanlpcdljclnmaaDoor.Sl
open Go.RowKit
open Go.Proofs.YtanlpcdljclnmaaDoor.Dg hiding intOf

/-- every text has at most m bytes. -/
def upTo (m : Nat) (L : List B) : Bool := L.all fun x => decide (x.length ≤ m)
theorem upTo_next {m : Nat} {L : List B} {k : Nat} (h : k < L.length) (ha : upTo m (L.take k) = true) (hx : (L.getD k []).length ≤ m) : upTo m (L.take (k + 1)) = true := by
  unfold upTo at *
  rw [List.take_succ_eq_append_getElem h, List.all_append, ha]
  rw [List.getD_eq_getElem?_getD, List.getElem?_eq_getElem h] at hx
  simpa using hx
theorem upTo_not {m : Nat} {L : List B} {k : Nat} (h : k < L.length) (hx : ¬ (L.getD k []).length ≤ m) : upTo m L = false := by
  unfold upTo
  rw [List.all_eq_false]
  exact ⟨_, getD_mem h, by simpa using hx⟩
theorem upTo_all {m : Nat} {L : List B} (h : upTo m L = true) : ∀ x ∈ L, x.length ≤ m := fun x hx => of_decide_eq_true (List.all_eq_true.1 h x hx)
set_option maxRecDepth 100000 in
set_option maxHeartbeats 1000000 in
theorem short_any (a : Option Addr) (n cap : Nat) (L : List B) (w : World) {N : Nat} (hl : Txt w N a L) (hn : n = L.length) (hbig : n ≤ 1000000) :
    Calls Tryd.prog 5 #[.slice a n cap] w fun e w' => e = .returned (.bool (upTo 300 L)) ∧ w = w' := by
  have h1 : n ≤ L.length := by omega
  have h2 : L.length ≤ n := by omega
  clear hn
  go_enter Tryd.func5, Tryd.ntmps5
  go_wp2
  go_loop [3] (fun i => ∃ k : Nat, k ≤ n ∧ i = .int .i64 k ∧ Hid (upTo 300 (L.take k) = true)) (fun i => n - (intOf i).toNat)
  case atStart => exact ⟨0, by omega, rfl, rfl⟩
  case round =>
    obtain ⟨k, hk, rfl, hall⟩ := hrel
    by_cases hlt : k < n
    · obtain ⟨b, off, rfl, _, c1⟩ := hl.at_ (k := k) (by omega)
      by_cases hsz : (L.getD k []).length ≤ 300
      · have A1 := Lib.hid (upTo_next (by omega) hall.out hsz)
        clear hall
        generalize L.getD k [] = x at *
        go_wp2
        go_round
        case rel => exact ⟨k + 1, by omega, by go_num, A1⟩
        case measure => simp [intOf]; omega
      · have A1 := Lib.hid (upTo_not (m := 300) (by omega) hsz)
        clear hall
        generalize L.getD k [] = x at *
        go_wp2
        go_ret
        exact ⟨ret_bool A1.out.symm, rfl⟩
    · obtain rfl : k = n := by omega
      rw [List.take_of_length_le (by omega)] at hall
      go_wp2
      go_ret
      exact ⟨ret_bool hall.out.symm, rfl⟩
def fewS (sig ps : List B) : Bool := upTo 100 (sig.take 30) && upTo 100 (ps.take 30) && decide (sig.length ≤ 30) && decide (ps.length ≤ 30)
end Go.Proofs.YtanlpcdljclnmaaDoor.Sl
