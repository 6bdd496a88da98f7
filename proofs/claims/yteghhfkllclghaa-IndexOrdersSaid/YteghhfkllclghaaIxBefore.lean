/- index: isBefore. -/
import Derived.Test.YteghhfkllclghaaIxMem
import Derived.Test.YteghhfkllclghaaIxHeap
import Derived.Deep.CutRange
namespace Go.Proofs.Yteghhfkllclghaa.Ix
open Go.RowKit Go.Sort
/-- an item of the queue. -/
structure Qi where
  sq : Int
  nd : Option Nat
  id : Id
deriving DecidableEq, Inhabited
def ndV : Option Nat → Value
  | none => .pointer none
  | some n => .pointer (some ⟨n, 0, none⟩)
def encQ (q : Qi) : List Value := [.int .i64 q.sq, ndV q.nd, .string ⟨q.id.toArray⟩]
def bfQ (a b : Qi) : Bool := if a.sq ≠ b.sq then decide (a.sq < b.sq) else if a.nd.isSome || b.nd.isSome then a.nd.isSome && !b.nd.isSome else decide (a.id < b.id)
set_option maxRecDepth 100000 in
set_option maxHeartbeats 1000000 in
theorem before_any (a b : Qi) : Answers Try.prog 39 #[.agg (encQ a).toArray, .agg (encQ b).toArray] (.bool (bfQ a b)) := by
  intro w
  obtain ⟨R, hR⟩ : ∃ R, bfQ a b = R := ⟨_, rfl⟩
  have HR := Lib.hid hR
  rw [hR]
  obtain ⟨W, hW, hB, r0, r1⟩ := two_made w 82 82 (encQ a).toArray (encQ b).toArray
  have HW := Lib.hid hW
  have HB := Lib.hid hB
  have a0 := r0.get 0
  have a1 := r0.get 1
  have a2 := r0.get 2
  have b0 := r1.get 0
  have b1 := r1.get 1
  have b2 := r1.get 2
  clear hW hB r0 r1 hR
  obtain ⟨s1, n1, i1⟩ := a
  obtain ⟨s2, n2, i2⟩ := b
  unfold encQ at *
  dsimp only [ndV] at *
  by_cases hs : s1 = s2
  · subst hs
    have hE : (if n1.isSome || n2.isSome then n1.isSome && !n2.isSome else decide (i1 < i2)) = R := by
      rw [← HR.out]; unfold bfQ; simp
    cases n1 with
    | none =>
      cases n2 with
      | none =>
        have HE := Lib.hid (show Op.bytesLess i1 i2 = R by rw [← hE, bytesLess_eq]; rfl)
        clear hE HR
        go_enter Try.func39, Try.ntmps39
        go_upto_region 1 with fail
        rw [HW.out]
        go_wp2
        go_ret
        exact ⟨ret_bool HE.out, HB.out⟩
      | some n =>
        have HE := Lib.hid (show false = R by rw [← hE]; rfl)
        clear hE HR
        go_enter Try.func39, Try.ntmps39
        go_upto_region 1 with fail
        rw [HW.out]
        go_wp2
        go_ret
        exact ⟨ret_bool HE.out, HB.out⟩
    | some m =>
      cases n2 with
      | none =>
        have HE := Lib.hid (show true = R by rw [← hE]; rfl)
        clear hE HR
        go_enter Try.func39, Try.ntmps39
        go_upto_region 1 with fail
        rw [HW.out]
        go_wp2
        go_ret
        exact ⟨ret_bool HE.out, HB.out⟩
      | some n =>
        have HE := Lib.hid (show false = R by rw [← hE]; rfl)
        clear hE HR
        go_enter Try.func39, Try.ntmps39
        go_upto_region 1 with fail
        rw [HW.out]
        go_wp2
        go_ret
        exact ⟨ret_bool HE.out, HB.out⟩
  · have HE := Lib.hid (show decide (s1 < s2) = R by rw [← HR.out]; unfold bfQ; dsimp only; rw [if_pos hs])
    have hne : (s1 != s2) = true := by simp [hs]
    clear HR hs
    cases n1 <;> cases n2
    all_goals
      go_enter Try.func39, Try.ntmps39
      go_upto_region 1 with fail
      rw [HW.out]
      go_wp2
      go_ret
      exact ⟨ret_bool HE.out, HB.out⟩
theorem bf_weak : Weak bfQ where
  asymm := fun a b h => by
    unfold bfQ at *
    by_cases e : a.sq = b.sq
    · rw [if_neg (fun g => g e)] at h
      rw [if_neg (fun g => g e.symm)]
      cases ha : a.nd <;> cases hb : b.nd <;> rw [ha, hb] at h <;> simp at h ⊢
      exact id_le h
    · rw [if_pos e, decide_eq_true_iff] at h
      rw [if_pos (fun g => e g.symm), decide_eq_false_iff_not]
      omega
  trans := fun a b c h1 h2 => by
    unfold bfQ at *
    by_cases e1 : a.sq = b.sq <;> by_cases e2 : b.sq = c.sq
    · rw [if_neg (fun g => g e1)] at h1
      rw [if_neg (fun g => g e2)] at h2
      rw [if_neg (fun g => g (e1.trans e2))]
      cases ha : a.nd <;> cases hb : b.nd <;> cases hc : c.nd <;> rw [ha, hb] at h1 <;> rw [hb, hc] at h2 <;> simp at h1 h2 ⊢
      exact List.lt_trans h1 h2
    · rw [if_pos e2, decide_eq_true_iff] at h2
      rw [if_pos (by omega), decide_eq_true_iff]; omega
    · rw [if_pos e1, decide_eq_true_iff] at h1
      rw [if_pos (by omega), decide_eq_true_iff]; omega
    · rw [if_pos e1, decide_eq_true_iff] at h1
      rw [if_pos e2, decide_eq_true_iff] at h2
      rw [if_pos (by omega), decide_eq_true_iff]; omega
  neg := fun a b c h1 h2 => by
    unfold bfQ at *
    by_cases e1 : a.sq = b.sq <;> by_cases e2 : b.sq = c.sq
    · rw [if_neg (fun g => g e1)] at h1
      rw [if_neg (fun g => g e2)] at h2
      rw [if_neg (fun g => g (e1.trans e2))]
      cases ha : a.nd <;> cases hb : b.nd <;> cases hc : c.nd <;> rw [ha, hb] at h1 <;> rw [hb, hc] at h2 <;> simp at h1 h2 ⊢
      exact List.le_trans h2 h1
    · rw [if_pos e2, decide_eq_false_iff_not] at h2
      rw [if_pos (by omega), decide_eq_false_iff_not]; omega
    · rw [if_pos e1, decide_eq_false_iff_not] at h1
      rw [if_pos (by omega), decide_eq_false_iff_not]; omega
    · rw [if_pos e1, decide_eq_false_iff_not] at h1
      rw [if_pos e2, decide_eq_false_iff_not] at h2
      rw [if_pos (by omega), decide_eq_false_iff_not]; omega
theorem bf_irr (a : Qi) : bfQ a a = false := by
  unfold bfQ
  rw [if_neg (fun g => g rfl)]
  cases a.nd <;> simp
end Go.Proofs.Yteghhfkllclghaa.Ix
