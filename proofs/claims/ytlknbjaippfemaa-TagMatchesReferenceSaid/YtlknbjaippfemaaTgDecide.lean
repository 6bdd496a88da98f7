/- tag: decide; the closure that reads a side. -/
import Derived.Test.YtlknbjaippfemaaTgOwn
namespace Go.Proofs.Ytlknbjaippfemaa.Tg
open Go.RowKit
open Lx (alloc1 IsRow)
theorem part0 (p q r : B) (w : World) : (part 9 #[.string ⟨p.toArray⟩, .string ⟨q.toArray⟩, .string ⟨r.toArray⟩] 0).run Try.prog w = .ok (.string ⟨p.toArray⟩) w := by kernel_rfl
theorem part1 (p q r : B) (w : World) : (part 9 #[.string ⟨p.toArray⟩, .string ⟨q.toArray⟩, .string ⟨r.toArray⟩] 1).run Try.prog w = .ok (.string ⟨q.toArray⟩) w := by kernel_rfl
theorem part2 (p q r : B) (w : World) : (part 9 #[.string ⟨p.toArray⟩, .string ⟨q.toArray⟩, .string ⟨r.toArray⟩] 2).run Try.prog w = .ok (.string ⟨r.toArray⟩) w := by kernel_rfl
theorem eqs (p q : B) (w : World) : (Op.equalIn 9999 9 (.string ⟨p.toArray⟩) (.string ⟨q.toArray⟩)).run Try.prog w = .ok (p == q) w := by
  rw [show (9999 : Nat) = 9998 + 1 from rfl, run_equalIn_string w 9998 9 _ _ Try.underlying9]
  simp
theorem run_arr3 (a b c x y z : B) (w : World) : (Op.equalIn 10000 54 (.agg #[.string ⟨a.toArray⟩, .string ⟨b.toArray⟩, .string ⟨c.toArray⟩]) (.agg #[.string ⟨x.toArray⟩, .string ⟨y.toArray⟩, .string ⟨z.toArray⟩])).run Try.prog w = .ok (a == x && b == y && c == z) w := by
  show (Op.equalIn (9999 + 1) 54 _ _).run Try.prog w = _
  rw [Op.equalIn]
  by_cases h1 : a = x
  · by_cases h2 : b = y
    · by_cases h3 : c = z
      · simp [run_underlying Try.underlying54, Try.sizeOf9, Std.Legacy.Range.forIn_eq_forIn_range', List.range', part0, part1, part2, eqs, h1, h2, h3]
      · simp [run_underlying Try.underlying54, Try.sizeOf9, Std.Legacy.Range.forIn_eq_forIn_range', List.range', part0, part1, part2, eqs, h1, h2, h3]
    · simp [run_underlying Try.underlying54, Try.sizeOf9, Std.Legacy.Range.forIn_eq_forIn_range', List.range', part0, part1, part2, eqs, h1, h2]
  · simp [run_underlying Try.underlying54, Try.sizeOf9, Std.Legacy.Range.forIn_eq_forIn_range', List.range', part0, eqs, h1]
set_option maxRecDepth 100000 in
set_option maxHeartbeats 4000000 in
theorem decide_any (b o t : B) (w : World) : Calls Try.prog 30 #[.agg #[.string ⟨b.toArray⟩, .string ⟨o.toArray⟩, .string ⟨t.toArray⟩]] w fun e w' => e = .returned (.tuple #[.string ⟨(oneR b o t).1.toArray⟩, .bool (oneR b o t).2]) ∧ Below w.heap.size w w' := by
  obtain ⟨W, hW, hB, r0⟩ : ∃ W, w.alloc (.cells #[.string ⟨b.toArray⟩, .string ⟨o.toArray⟩, .string ⟨t.toArray⟩] 54) = W ∧ Below w.heap.size w W ∧ IsRow W w.heap.size 54 #[.string ⟨b.toArray⟩, .string ⟨o.toArray⟩, .string ⟨t.toArray⟩] := ⟨_, rfl, alloc1 _ _, IsRow.made _ _ _⟩
  have HW := Lib.hid hW
  have HB := Lib.hid hB
  obtain ⟨c0, c1, c2, _, _, _⟩ := Lx.facts3 r0
  have H12 := Lib.hid (fun j => hB.trans ((show Below W.heap.size W (W.drewN j) from ⟨rfl, rfl, rfl, Nat.le_refl _, fun _ _ => rfl⟩).mono hB.size))
  have fin : ∀ (p : B) (q : Bool), oneR b o t = (p, q) → ∀ e : Ending, e = .returned (.tuple #[.string ⟨p.toArray⟩, .bool q]) → e = .returned (.tuple #[.string ⟨(oneR b o t).1.toArray⟩, .bool (oneR b o t).2]) := fun p q h e he => by rw [h]; exact he
  have FIN := Lib.hid fin
  have hr3 := run_arr3
  clear hW hB r0 fin
  by_cases h1 : t = o
  · have F := Lib.hid (FIN.out o false (by unfold oneR; rw [if_pos (.inl h1.symm)]))
    subst h1
    clear FIN
    go_enter Try.func30, Try.ntmps30
    go_upto_region 1 with fail
    rw [HW.out]
    go_quiet (fail)
    go_wp2
    go_ret2
    exact ⟨F.out _ rfl, H12.out _⟩
  · have e1 : (t == o) = false := by rw [beq_eq_false_iff_ne]; exact h1
    by_cases h2 : t = b
    · have F := Lib.hid (FIN.out o false (by unfold oneR; rw [if_pos (.inr h2)]))
      subst h2
      clear FIN h1
      go_enter Try.func30, Try.ntmps30
      go_upto_region 1 with fail
      rw [HW.out]
      go_quiet (fail)
      go_wp2
      go_ret2
      exact ⟨F.out _ rfl, H12.out _⟩
    · have e2 : (t == b) = false := by rw [beq_eq_false_iff_ne]; exact h2
      have hn : ¬ (o = t ∨ t = b) := fun h => h.elim (fun h => h1 h.symm) h2
      by_cases h3 : o = b
      · have F := Lib.hid (FIN.out t false (by unfold oneR; rw [if_neg hn, if_pos h3]))
        subst h3
        clear FIN h1 h2 hn e2
        go_enter Try.func30, Try.ntmps30
        go_upto_region 1 with fail
        rw [HW.out]
        go_quiet (fail)
        go_wp2
        go_ret2
        exact ⟨F.out _ rfl, H12.out _⟩
      · have e3 : (o == b) = false := by rw [beq_eq_false_iff_ne]; exact h3
        have F := Lib.hid (FIN.out b true (by unfold oneR; rw [if_neg hn, if_neg h3]))
        clear FIN h1 h2 h3 hn
        go_enter Try.func30, Try.ntmps30
        go_upto_region 1 with fail
        rw [HW.out]
        go_quiet (fail)
        go_wp2
        go_ret2
        exact ⟨F.out _ rfl, H12.out _⟩
set_option maxRecDepth 100000 in
set_option maxHeartbeats 1000000 in
theorem read_any (ao : Option Addr) (n cap kb : Nat) (l : List T) (key : B) (w : World) (hn : l.length = n) (ha : TagsT w w.heap.size ao l) (hc : n ≤ cap) (hm : n ≤ 1000000) (hk : w.cell? ⟨kb, 0, none⟩ = some (.string ⟨key.toArray⟩)) :
    Calls Try.prog 29 #[.slice ao n cap, .pointer (some ⟨kb, 0, none⟩)] w fun e w' => e = .returned (.string ⟨(getV l key).toArray⟩) ∧ Below w.heap.size w w' := by
  have KG := Lib.hid (get_any ao n cap l key w hn ha hc hm)
  clear hn ha hc hm
  go_enter Try.func29, Try.ntmps29
  go_wp2_with (refine KG.out.mono ?_; rintro e w1 ⟨rfl, b1⟩)
  go_ret
  exact ⟨rfl, b1⟩
end Go.Proofs.Ytlknbjaippfemaa.Tg
