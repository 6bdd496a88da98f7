/- The reference's small functions by contract: Few, Same, Digit, Is. -/
import Derived.Test.YtanlpcdljclnmaaDoorDgJoin
import Derived.Test.YtanlpcdljclnmaaDoorDgIs
import Derived.Lib.ItoaLen
import Derived.BigQuiet
import Derived.Deep.QuietTactic
namespace Go.Proofs.YtanlpcdljclnmaaDoor.Dg
open Go.RowKit
def few (l : List ByteArray) (most : Nat) : Bool := l.all (fun s => decide (s.size ≤ most)) && decide (l.length ≤ 30)
theorem fewAll_step {l : List ByteArray} {k most : Nat} {s : ByteArray} (h : l[k]? = some s) (hs : s.size ≤ most) (ha : (l.take k).all (fun s => decide (s.size ≤ most)) = true) : (l.take (k + 1)).all (fun s => decide (s.size ≤ most)) = true := by
  obtain ⟨hk, rfl⟩ := List.getElem?_eq_some_iff.1 h
  rw [List.take_succ_eq_append_getElem hk, List.all_append, ha]
  simpa using hs
theorem few_false {l : List ByteArray} {k most : Nat} {s : ByteArray} (h : l[k]? = some s) (hs : ¬ s.size ≤ most) : few l most = false := by
  have : l.all (fun s => decide (s.size ≤ most)) = false := by
    rw [List.all_eq_false]
    exact ⟨s, List.mem_of_getElem? h, by simpa using hs⟩
  rw [few, this, Bool.false_and]
theorem Strs.more {w : World} {B B' : Nat} {a : Option Addr} {l : List ByteArray} (h : Strs w B a l) (hB : B ≤ B') : Strs w B' a l := by
  intro h0
  obtain ⟨b, off, e, hlt, hc⟩ := h h0
  exact ⟨b, off, e, Nat.lt_of_lt_of_le hlt hB, hc⟩
theorem joined_len_big {m : Nat} (hm : m ≤ 1000000) : ∀ {l : List ByteArray}, l.all (fun s => decide (s.size ≤ m)) = true → (joined (lists l)).length ≤ l.length * (m + 22) := by
  intro l
  induction l with
  | nil => intro _; simp [lists, joined]
  | cons s l ih =>
    intro h
    rw [List.all_cons, Bool.and_eq_true] at h
    have h1 : s.size ≤ m := of_decide_eq_true h.1
    have h2 := ih h.2
    have h3 := Lib.itoa_length_le (s.size : Int) (by omega) (by omega)
    have e : joined (lists (s :: l)) = Lib.itoa s.size ++ 58 :: (s.data.toList ++ joined (lists l)) := by
      unfold lists
      rw [List.map_cons, joined, len_data]
    rw [e]
    simp only [List.length_append, List.length_cons, len_data, Nat.add_mul, Nat.one_mul]
    omega
theorem joined_len_of {l : List ByteArray} (h : l.all (fun s => decide (s.size ≤ 200)) = true) : (joined (lists l)).length ≤ l.length * 222 := joined_len_big (m := 200) (by decide) h
theorem few_len {l : List ByteArray} (h : few l 200 = true) : (joined (lists l)).length ≤ 6660 := by
  rw [few, Bool.and_eq_true] at h
  have h1 := joined_len_of h.1
  have h2 : l.length ≤ 30 := of_decide_eq_true h.2
  omega
theorem few_big {l : List ByteArray} (h : few l 1000 = true) : (joined (lists l)).length ≤ 30660 := by
  rw [few, Bool.and_eq_true] at h
  have h1 := joined_len_big (m := 1000) (by decide) h.1
  have h2 : l.length ≤ 30 := of_decide_eq_true h.2
  omega
theorem few_more {l : List ByteArray} {m m' : Nat} (hm : m ≤ m') (h : few l m = true) : few l m' = true := by
  rw [few, Bool.and_eq_true, List.all_eq_true] at h ⊢
  exact ⟨fun s hs => decide_eq_true (Nat.le_trans (of_decide_eq_true (h.1 s hs)) hm), h.2⟩
theorem same_take {l m : List ByteArray} {k : Nat} {s : ByteArray} (hl : l[k]? = some s) (hm : m[k]? = some s) (h : l.take k = m.take k) : l.take (k + 1) = m.take (k + 1) := by
  obtain ⟨h1, rfl⟩ := List.getElem?_eq_some_iff.1 hl
  obtain ⟨h2, e⟩ := List.getElem?_eq_some_iff.1 hm
  rw [List.take_succ_eq_append_getElem h1, List.take_succ_eq_append_getElem h2, h, e]
theorem hid_drewN {B : Nat} {w w' : World} (h : Hid (Below B w w')) (n : Nat) : Hid (Below B w (w'.drewN n)) := h.out.trans ⟨rfl, rfl, rfl, Nat.le_refl _, fun _ _ => rfl⟩
set_option maxRecDepth 100000 in
set_option maxHeartbeats 1000000 in
theorem same_any (a b : Option Addr) (ca cb : Nat) (l m : List ByteArray) (w : World) (hl : Strs w w.heap.size a l) (hm : Strs w w.heap.size b m) (hn : l.length ≤ maxLen) :
    Calls Tryd.prog 21 #[.slice a l.length ca, .slice b m.length cb] w fun e w' => e = .returned (.bool (decide (l = m))) ∧ Below w.heap.size w w' := by
  unfold maxLen at hn
  go_enter Tryd.func21, Tryd.ntmps21
  by_cases hlen : l.length = m.length
  · have e1 : ((l.length : Int) != (m.length : Int)) = false := by simp [hlen]
    have HL := Lib.hid hlen
    have h1 : l.length ≤ m.length := by omega
    have h2 : m.length ≤ l.length := by omega
    clear hlen
    go_wp2
    go_loopw [5] (fun i wr => ∃ k : Nat, k ≤ l.length ∧ i = .int .i64 k ∧ Hid (l.take k = m.take k) ∧ Hid (Below w.heap.size w wr)) (fun i _ => l.length - (intOf i).toNat)
    case atStart => exact ⟨0, by omega, rfl, rfl, Below.refl _ _⟩
    case round =>
      obtain ⟨k, hk, rfl, hall, hb⟩ := hrel
      by_cases hlt : k < l.length
      · obtain ⟨ba, oa, rfl, hba, hca⟩ := hl (by omega)
        obtain ⟨bb, ob, rfl, hbb, hcb⟩ := hm (by omega)
        obtain ⟨s, hs⟩ : ∃ s, l[k]? = some s := ⟨_, List.getElem?_eq_getElem hlt⟩
        obtain ⟨t, ht⟩ : ∃ t, m[k]? = some t := ⟨_, List.getElem?_eq_getElem (by omega)⟩
        have c1 : wr.cell? ⟨ba, oa + k, none⟩ = some (.string s) := (hb.out.cell (p := ⟨ba, oa + k, none⟩) hba).trans (hca k s hs)
        have c2 : wr.cell? ⟨bb, ob + k, none⟩ = some (.string t) := (hb.out.cell (p := ⟨bb, ob + k, none⟩) hbb).trans (hcb k t ht)
        have HCA := Lib.hid hca
        have HCB := Lib.hid hcb
        clear hca hcb
        have i1 : (k : Int) < (l.length : Int) := by omega
        have i2 : (k : Int) < (m.length : Int) := by omega
        have i3 : (0 : Int) ≤ (k : Int) := by omega
        by_cases hst : s = t
        · subst hst
          have hall' := Lib.hid (same_take hs ht hall.out)
          clear hall hs ht
          go_wp2_with fail
          go_quiet (fail)
          go_wp2
          go_roundw
          case rel => exact ⟨k + 1, by omega, by go_num, hall', hid_drewN hb _⟩
          case measure => simp [intOf]; omega
        · have f1 : (s.toList == t.toList) = false := by
            rw [Lib.toList_data, Lib.toList_data, beq_eq_false_iff_ne]
            exact fun h => hst (ByteArray.ext (Array.ext' h))
          have HE : Hid (¬ l = m) := fun h => by
            rw [h, ht] at hs
            exact hst (Option.some.inj hs).symm
          clear hst hall hs ht
          go_wp2_with fail
          go_quiet (fail)
          go_wp2
          go_ret
          exact ⟨ret_bool (by simp [HE.out]), hid_drewN hb _⟩
      · obtain rfl : k = l.length := by omega
        go_wp2
        go_ret
        refine ⟨ret_bool ?_, hb.out⟩
        have h := hall.out
        rw [List.take_length, HL.out, List.take_length] at h
        simp [h]
  · have e1 : ((l.length : Int) != (m.length : Int)) = true := by simp; omega
    have HL := Lib.hid hlen
    clear hlen
    go_wp2
    go_ret
    exact ⟨ret_bool (by simp; intro h; exact HL.out (by rw [h])), Below.refl _ _⟩
end Go.Proofs.YtanlpcdljclnmaaDoor.Dg
