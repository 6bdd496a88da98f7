/- The reference's comparing of two seals. -/
import Derived.Test.YtanlpcdljclnmaaDoorSlHead2
import Derived.RegionTactic
namespace Go.Proofs.YtanlpcdljclnmaaDoor.Sl
open Go.RowKit
open Go.Proofs.YtanlpcdljclnmaaDoor.Dg hiding intOf
theorem bas_inj {L M : List B} : bas L = bas M ↔ L = M := ⟨fun h => by have := congrArg lists h; rwa [lists_bas, lists_bas] at this, fun h => h ▸ rfl⟩
theorem sameB (a b : Option Addr) (na ca nb cb : Nat) (l m : List B) (r : Bool) (w : World) (hl : Txt w w.heap.size a l) (hm : Txt w w.heap.size b m) (hna : na = l.length) (hnb : nb = m.length) (hn : na ≤ maxLen) (hr : decide (l = m) = r) :
    Calls Tryd.prog 21 #[.slice a na ca, .slice b nb cb] w fun e w' => e = .returned (.bool r) ∧ Below w.heap.size w w' := by
  have := same_any a b ca cb (bas l) (bas m) w hl hm (by rw [bas_len]; omega)
  rw [bas_len, bas_len, ← hna, ← hnb] at this
  simp only [bas_inj] at this
  exact hr ▸ this
set_option maxRecDepth 100000 in
set_option maxHeartbeats 4000000 in
theorem refsame_any (x y : Int) (a p a' p' : Option Addr) (na ca np cp na' ca' np' cp' : Nat) (s q s' q' : List B) (w : World) (h1 : Txt w w.heap.size a s) (h2 : Txt w w.heap.size p q) (h3 : Txt w w.heap.size a' s') (h4 : Txt w w.heap.size p' q')
    (n1 : na = s.length) (n2 : np = q.length) (n3 : na' = s'.length) (n4 : np' = q'.length) (l1 : na ≤ maxLen) (l2 : np ≤ maxLen) :
    Calls Tryd.prog 8 #[.agg #[.int .i64 x, .slice a na ca, .slice p np cp], .agg #[.int .i64 y, .slice a' na' ca', .slice p' np' cp']] w
      fun e w' => e = .returned (.bool (decide (x = y) && (decide (s = s') && decide (q = q')))) ∧ Below w.heap.size w w' := by
  obtain ⟨W0, hW0⟩ : ∃ W0, (w.alloc (.cells #[.int .i64 x, .slice a na ca, .slice p np cp] 29)).alloc (.cells #[.int .i64 y, .slice a' na' ca', .slice p' np' cp'] 29) = W0 := ⟨_, rfl⟩
  have B0 : Hid (Below w.heap.size w W0) := hW0 ▸ ((Below.refl _ w).alloc (Nat.le_refl _) _).alloc (by simp) _
  have R0 : Hid (IsRow W0 w.heap.size 29 #[.int .i64 x, .slice a na ca, .slice p np cp]) := hW0 ▸ (IsRow.made _ _ _).later _
  have R1 : Hid (IsRow W0 (w.heap.size + 1) 29 #[.int .i64 y, .slice a' na' ca', .slice p' np' cp']) := by
    have := IsRow.made (w.alloc (.cells #[.int .i64 x, .slice a na ca, .slice p np cp] 29)) 29 #[.int .i64 y, .slice a' na' ca', .slice p' np' cp']
    rw [World.size_alloc] at this
    exact hW0 ▸ this
  have HW0 := Lib.hid hW0
  have T1 := Lib.hid (h1.later B0.out)
  have T2 := Lib.hid (h2.later B0.out)
  have T3 := Lib.hid (h3.later B0.out)
  have T4 := Lib.hid (h4.later B0.out)
  have N1 := Lib.hid n1
  have N2 := Lib.hid n2
  have N3 := Lib.hid n3
  have N4 := Lib.hid n4
  have L1 := Lib.hid l1
  have L2 := Lib.hid l2
  obtain ⟨s0, s1, s2, _, _, _⟩ := store_facts R0.out
  obtain ⟨x0, x1, x2, _, _, _⟩ := store_facts R1.out
  clear hW0 h1 h2 h3 h4 n1 n2 n3 n4 l1 l2
  obtain ⟨bs, hbs⟩ : ∃ b, decide (s = s') = b := ⟨_, rfl⟩
  obtain ⟨bq, hbq⟩ : ∃ b, decide (q = q') = b := ⟨_, rfl⟩
  obtain ⟨bx, hbx⟩ : ∃ b, decide (x = y) = b := ⟨_, rfl⟩
  have HX : (x == y) = bx := by rw [← hbx]; exact Bool.eq_iff_iff.2 (by simp)
  have HBS := Lib.hid hbs
  have HBQ := Lib.hid hbq
  rw [hbs, hbq, hbx]
  clear hbs hbq hbx
  go_enter Tryd.func8, Tryd.ntmps8
  cases bx with
  | false =>
    go_wp2
    go_ret
    exact ⟨rfl, HW0.out.symm ▸ B0.out⟩
  | true =>
    go_wp2_with fail
    rw [HW0.out]
    refine (sameB a a' na ca na' ca' s s' bs _ T1.out T3.out N1.out N3.out L1.out HBS.out).mono ?_
    rintro e w1 ⟨rfl, hb1⟩
    have B1 := Lib.hid (B0.out.trans (hb1.mono B0.out.size))
    have R2 := Lib.hid (R0.out.below hb1 R0.out.inside)
    have R3 := Lib.hid (R1.out.below hb1 R1.out.inside)
    have T5 := Lib.hid (T2.out.later hb1)
    have T6 := Lib.hid (T4.out.later hb1)
    clear hb1 s0 s1 s2 x0 x1 x2 R0 R1 T1 T2 T3 T4 B0
    obtain ⟨s0, s1, s2, _, _, _⟩ := store_facts R2.out
    obtain ⟨x0, x1, x2, _, _, _⟩ := store_facts R3.out
    cases bs with
    | false =>
      go_wp2
      go_ret
      exact ⟨rfl, B1.out⟩
    | true =>
      go_wp2_with fail
      refine (sameB p p' np cp np' cp' q q' bq _ T5.out T6.out N2.out N4.out L2.out HBQ.out).mono ?_
      rintro e w2 ⟨rfl, hb2⟩
      have B2 := Lib.hid (B1.out.trans (hb2.mono B1.out.size))
      clear hb2
      go_wp2
      go_ret
      exact ⟨rfl, B2.out⟩
end Go.Proofs.YtanlpcdljclnmaaDoor.Sl
