/- The reference's Meets, by contract. -/
import Derived.Test.YtlgmlgogpohgoaaGmRefKind
import Derived.Test.YtlgmlgogpohgoaaGmRefOn
import Derived.Test.YtlgmlgogpohgoaaGmMeetsNear
import Derived.BigQuiet
import Derived.Deep.CutRange
import Derived.Test.YtlgmlgogpohgoaaGmOwn
namespace Go.Proofs.Ytlgmlgogpohgoaa.Geo
open Go.RowKit Go.Sort
theorem below_drewN {B : Nat} {w w' : World} (h : Hid (Below B w w')) (n : Nat) : Hid (Below B w (w'.drewN n)) := h.out.trans ⟨rfl, rfl, rfl, Nat.le_refl _, fun _ _ => rfl⟩
theorem eqB (p q : Pt) : eqP p q = ((p.x == q.x) && (p.y == q.y)) := by unfold eqP; rw [Bool.eq_iff_iff]; simp
theorem reforient_near {a b c : Pt} {k : Int} (na : nearB a = true) (nb : nearB b = true) (nc : nearB c = true) (hk : sideN a b c = k) :
    Answers Try.prog 73 #[.agg #[.int .i64 a.x, .int .i64 a.y], .agg #[.int .i64 b.x, .int .i64 b.y], .agg #[.int .i64 c.x, .int .i64 c.y]] (.int .i64 k) :=
  (reforient_any a b c).to (congrArg (Value.int .i64) (by unfold orientN; rw [na, nb, nc, ← hk]; rfl))
theorem refon_near {a b p : Pt} {o : Bool} (na : nearB a = true) (nb : nearB b = true) (np : nearB p = true) (hk : holdsN a b p = o) :
    Answers Try.prog 71 #[.agg #[.int .i64 a.x, .int .i64 a.y, .int .i64 b.x, .int .i64 b.y], .agg #[.int .i64 p.x, .int .i64 p.y]] (.bool o) :=
  (refon_any a b p).to (congrArg Value.bool (by unfold onN; rw [na, nb, np, ← hk]; rfl))
set_option maxRecDepth 100000 in
set_option maxHeartbeats 4000000 in
theorem refmeets_any (a b c d : Pt) : Answers Try.prog 44 #[.agg #[.int .i64 a.x, .int .i64 a.y, .int .i64 b.x, .int .i64 b.y], .agg #[.int .i64 c.x, .int .i64 c.y, .int .i64 d.x, .int .i64 d.y]] (.int .i64 (meetsF a b c d)) := by
  intro w
  obtain ⟨W, hW, hsz, hB, hA, hC⟩ := segseg w 36 36 a b c d
  have HW := Lib.hid hW
  have HB := Lib.hid hB
  have HA := Lib.hid hA
  have HC := Lib.hid hC
  clear hW hB hsz
  obtain ⟨a0, a1, b0, b1⟩ := has2_facts hA
  clear hA hC
  obtain ⟨R, hR⟩ : ∃ R, meetsF a b c d = R := ⟨_, rfl⟩
  have HR := Lib.hid hR
  rw [hR]
  clear hR
  go_enter Try.func44, Try.ntmps44
  go_wp2_with fail
  rw [HW.out]
  refine (refsegment_any a b _).mono ?_
  rintro e w1 ⟨rfl, hb1⟩
  have HB1 := Lib.hid (HB.out.trans (hb1.mono HB.out.size))
  have A1 := Lib.hid (HA.out.below hb1)
  have C1 := Lib.hid (HC.out.below hb1)
  clear hb1 a0 a1 b0 b1 HA HC HB HW
  cases n1 : (nearB a && nearB b) with
  | false =>
    have HE := Lib.hid (show (0 : Int) = R by rw [← HR.out]; unfold meetsF; rw [n1]; rfl)
    clear n1
    go_wp2
    go_ret
    exact ⟨ret_int HE.out, HB1.out⟩
  | true =>
    obtain ⟨c0, c1, d0, d1⟩ := has2_facts C1.out
    go_wp2_with fail
    refine (refsegment_any c d _).mono ?_
    rintro e w2 ⟨rfl, hb2⟩
    have HB2 := Lib.hid (HB1.out.trans (hb2.mono HB1.out.size))
    have A2 := Lib.hid (A1.out.below hb2)
    have C2 := Lib.hid (C1.out.below hb2)
    clear hb2 c0 c1 d0 d1 A1 C1
    cases n2 : (nearB c && nearB d) with
    | false =>
      have HE := Lib.hid (show (0 : Int) = R by rw [← HR.out]; unfold meetsF; rw [Bool.and_assoc (nearB a && nearB b), n2, Bool.and_false]; rfl)
      clear n1 n2
      go_wp2
      go_ret
      exact ⟨ret_int HE.out, HB2.out⟩
    | true =>
      obtain ⟨na, nb⟩ : nearB a = true ∧ nearB b = true := by simpa using n1
      obtain ⟨nc, nd⟩ : nearB c = true ∧ nearB d = true := by simpa using n2
      have HR1 := Lib.hid (show (if smB a b c d then (4 : Int) else restN a b c d (foundN (comB a b c d) [a, b, c, d])) = R by
        rw [← HR.out]; unfold meetsF; rw [na, nb, nc, nd]; exact ref_meets a b c d)
      clear n1 n2 HR
      obtain ⟨a0, a1, b0, b1⟩ := has2_facts A2.out
      obtain ⟨c0, c1, d0, d1⟩ := has2_facts C2.out
      go_upto_region 3 with fail
      go_cut [34] from 18 to 33 (fun s wx => s = .bool (smB a b c d) ∧ wx = w2)
      case first =>
        have hS : smB a b c d = ((eqP a c && eqP b d) || (eqP a d && eqP b c)) := rfl
        have HS := Lib.hid hS
        clear hS
        cases g1 : (a.x == c.x) with
        | false =>
          cases g5 : (a.x == d.x) with
          | false =>
            go_wp2_with fail
            go_meet
            exact ⟨congrArg Value.bool (by rw [HS.out]; simp [eqB, g1, g5]), rfl⟩
          | true =>
            cases g6 : (a.y == d.y) with
            | false =>
              go_wp2_with fail
              go_meet
              exact ⟨congrArg Value.bool (by rw [HS.out]; simp [eqB, g1, g5, g6]), rfl⟩
            | true =>
              cases g7 : (b.x == c.x) with
              | false =>
                go_wp2_with fail
                go_meet
                exact ⟨congrArg Value.bool (by rw [HS.out]; simp [eqB, g1, g5, g6, g7]), rfl⟩
              | true =>
                cases g8 : (b.y == c.y) with
                | false =>
                  go_wp2_with fail
                  go_meet
                  exact ⟨congrArg Value.bool (by rw [HS.out]; simp [eqB, g1, g5, g6, g7, g8]), rfl⟩
                | true =>
                  go_wp2_with fail
                  go_meet
                  exact ⟨congrArg Value.bool (by rw [HS.out]; simp [eqB, g1, g5, g6, g7, g8]), rfl⟩
        | true =>
          cases g2 : (a.y == c.y) with
          | false =>
            cases g5 : (a.x == d.x) with
            | false =>
              go_wp2_with fail
              go_meet
              exact ⟨congrArg Value.bool (by rw [HS.out]; simp [eqB, g1, g2, g5]), rfl⟩
            | true =>
              cases g6 : (a.y == d.y) with
              | false =>
                go_wp2_with fail
                go_meet
                exact ⟨congrArg Value.bool (by rw [HS.out]; simp [eqB, g1, g2, g5, g6]), rfl⟩
              | true =>
                cases g7 : (b.x == c.x) with
                | false =>
                  go_wp2_with fail
                  go_meet
                  exact ⟨congrArg Value.bool (by rw [HS.out]; simp [eqB, g1, g2, g5, g6, g7]), rfl⟩
                | true =>
                  cases g8 : (b.y == c.y) with
                  | false =>
                    go_wp2_with fail
                    go_meet
                    exact ⟨congrArg Value.bool (by rw [HS.out]; simp [eqB, g1, g2, g5, g6, g7, g8]), rfl⟩
                  | true =>
                    go_wp2_with fail
                    go_meet
                    exact ⟨congrArg Value.bool (by rw [HS.out]; simp [eqB, g1, g2, g5, g6, g7, g8]), rfl⟩
          | true =>
            cases g3 : (b.x == d.x) with
            | false =>
              cases g5 : (a.x == d.x) with
              | false =>
                go_wp2_with fail
                go_meet
                exact ⟨congrArg Value.bool (by rw [HS.out]; simp [eqB, g1, g2, g3, g5]), rfl⟩
              | true =>
                cases g6 : (a.y == d.y) with
                | false =>
                  go_wp2_with fail
                  go_meet
                  exact ⟨congrArg Value.bool (by rw [HS.out]; simp [eqB, g1, g2, g3, g5, g6]), rfl⟩
                | true =>
                  cases g7 : (b.x == c.x) with
                  | false =>
                    go_wp2_with fail
                    go_meet
                    exact ⟨congrArg Value.bool (by rw [HS.out]; simp [eqB, g1, g2, g3, g5, g6, g7]), rfl⟩
                  | true =>
                    cases g8 : (b.y == c.y) with
                    | false =>
                      go_wp2_with fail
                      go_meet
                      exact ⟨congrArg Value.bool (by rw [HS.out]; simp [eqB, g1, g2, g3, g5, g6, g7, g8]), rfl⟩
                    | true =>
                      go_wp2_with fail
                      go_meet
                      exact ⟨congrArg Value.bool (by rw [HS.out]; simp [eqB, g1, g2, g3, g5, g6, g7, g8]), rfl⟩
            | true =>
              cases g4 : (b.y == d.y) with
              | false =>
                cases g5 : (a.x == d.x) with
                | false =>
                  go_wp2_with fail
                  go_meet
                  exact ⟨congrArg Value.bool (by rw [HS.out]; simp [eqB, g1, g2, g3, g4, g5]), rfl⟩
                | true =>
                  cases g6 : (a.y == d.y) with
                  | false =>
                    go_wp2_with fail
                    go_meet
                    exact ⟨congrArg Value.bool (by rw [HS.out]; simp [eqB, g1, g2, g3, g4, g5, g6]), rfl⟩
                  | true =>
                    cases g7 : (b.x == c.x) with
                    | false =>
                      go_wp2_with fail
                      go_meet
                      exact ⟨congrArg Value.bool (by rw [HS.out]; simp [eqB, g1, g2, g3, g4, g5, g6, g7]), rfl⟩
                    | true =>
                      cases g8 : (b.y == c.y) with
                      | false =>
                        go_wp2_with fail
                        go_meet
                        exact ⟨congrArg Value.bool (by rw [HS.out]; simp [eqB, g1, g2, g3, g4, g5, g6, g7, g8]), rfl⟩
                      | true =>
                        go_wp2_with fail
                        go_meet
                        exact ⟨congrArg Value.bool (by rw [HS.out]; simp [eqB, g1, g2, g3, g4, g5, g6, g7, g8]), rfl⟩
              | true =>
                go_wp2_with fail
                go_meet
                exact ⟨congrArg Value.bool (by rw [HS.out]; simp [eqB, g1, g2, g3, g4]), rfl⟩
      case rest =>
        obtain ⟨rfl, rfl⟩ := hcut
        cases x1 : smB a b c d with
        | true =>
          have HE := Lib.hid (show (4 : Int) = R by rw [← HR1.out, if_pos x1])
          clear x1
          go_wp2
          go_ret
          exact ⟨ret_int HE.out, HB2.out⟩
        | false =>
          have HR2 := Lib.hid (show restN a b c d (foundN (comB a b c d) [a, b, c, d]) = R by have h := HR1.out; rw [if_neg (by rw [x1]; decide)] at h; exact h)
          clear x1 HR1
          obtain ⟨x, hx⟩ : ∃ x, wc.alloc (.cells #[.int .i64 a.x, .int .i64 a.y, .int .i64 b.x, .int .i64 b.y, .int .i64 c.x, .int .i64 c.y, .int .i64 d.x, .int .i64 d.y] 24) = x := ⟨_, rfl⟩
          have HE0 := Lib.hid (show IsRow x wc.heap.size 24 (flat [a, b, c, d]).toArray from hx ▸ IsRow.made wc _ _)
          have HBx := Lib.hid (show Below wc.heap.size wc x from hx ▸ alloc1 wc _)
          have HBw := Lib.hid (HB2.out.trans (HBx.out.mono HB2.out.size))
          have AX := Lib.hid (A2.out.below HBx.out)
          have CX := Lib.hid (C2.out.below HBx.out)
          go_upto_region 8 with fail
          clear hx a0 a1 b0 b1 c0 c1 d0 d1 A2 C2 HBx
          have hnear : ∀ p ∈ [a, b, c, d], nearB p = true := by
            intro p hp
            simp at hp
            rcases hp with rfl | rfl | rfl | rfl <;> assumption
          have HN := Lib.hid hnear
          clear hnear
          go_loopw [6, 7] (fun v i wr => ∃ k : Nat, k ≤ 4 ∧ i = .int .i64 k ∧ Hid (OwnP wr x.heap.size v (foundN (comB a b c d) ([a, b, c, d].take k))) ∧ Hid (Below x.heap.size x wr)) (fun _ i _ => 4 - (intOf i).toNat)
          case atStart => exact ⟨0, by omega, rfl, Lib.hid (OwnP.nil _ _), Lib.hid (Below.refl _ _)⟩
          case round =>
            obtain ⟨k, hk, rfl, hown, hb⟩ := hrel
            obtain ⟨l, hl⟩ : ∃ l, foundN (comB a b c d) ([a, b, c, d].take k) = l := ⟨_, rfl⟩
            have hlen : l.length ≤ 4 := by
              have := found_len (comB a b c d) ([a, b, c, d].take k) []
              rw [show ([a, b, c, d].take k).foldl (addN (comB a b c d)) [] = l from hl, List.length_take] at this
              simp at this
              omega
            rw [hl] at hown
            obtain ⟨ad, cap, rfl, hsh⟩ := hown.out.shape
            have HSH := Lib.hid hsh
            clear hsh
            by_cases hlt : k < 4
            · obtain ⟨p, hp⟩ : ∃ p, [a, b, c, d][k]? = some p := ⟨_, List.getElem?_eq_getElem hlt⟩
              have HNX := Lib.hid (show foundN (comB a b c d) ([a, b, c, d].take (k + 1)) = addN (comB a b c d) l p by rw [found_next hp, hl])
              have hnp := HN.out p (List.mem_of_getElem? hp)
              have HP := Lib.hid hp
              clear hp hl
              go_wp2
              go_loopw [8, 9] (fun tw j wr2 => ∃ m : Nat, m ≤ l.length ∧ j = .int .i64 m ∧ tw = .bool (hasB (l.take m) p) ∧ Hid (Below wr.heap.size wr wr2)) (fun _ j _ => l.length - (intOf j).toNat)
              case atStart => exact ⟨0, by omega, rfl, rfl, Lib.hid (Below.refl _ _)⟩
              case round =>
                obtain ⟨m, hm, rfl, rfl, hb2⟩ := hrel
                by_cases hmlt : m < l.length
                · obtain ⟨g, rfl, _, hgl, hcell⟩ := HSH.out (by omega)
                  obtain ⟨q, hq⟩ : ∃ q, l[m]? = some q := ⟨_, List.getElem?_eq_getElem hmlt⟩
                  obtain ⟨c0, c1⟩ := hcell m q hq
                  have r0 := kept hb2.out c0
                  have r1 := kept hb2.out c1
                  have hE := flat_cell (HE0.out.below (hb.out.trans (hb2.out.mono hb.out.size)) HE0.out.inside) HP.out
                  obtain ⟨p0, p1⟩ := hE
                  have HX := Lib.hid (has_next (p := p) hq)
                  have i1 : (m : Int) < (l.length : Int) := by omega
                  have i2 : (0 : Int) ≤ (m : Int) := by omega
                  have i3 : (k : Int) < 4 := by omega
                  have i4 : (0 : Int) ≤ (k : Int) := by omega
                  clear c0 c1 hcell hq
                  cases tw : hasB (l.take m) p with
                  | true =>
                    go_wp2_with fail
                    go_quiet (fail)
                    go_wp2
                    go_roundw
                    case rel => exact ⟨m + 1, by omega, by go_num, congrArg Value.bool (by rw [HX.out, tw]; rfl), below_drewN hb2 _⟩
                    case measure => simp [intOf]; omega
                  | false =>
                    rcases cases3 q p with rfl | ⟨e1, k1⟩ | ⟨e1, k1, k2⟩
                    · go_wp2_with fail
                      go_quiet (fail)
                      go_wp2
                      go_roundw
                      case rel => exact ⟨m + 1, by omega, by go_num, congrArg Value.bool (by rw [HX.out, tw]; rw [eqP_self]; rfl), below_drewN hb2 _⟩
                      case measure => simp [intOf]; omega
                    · go_wp2_with fail
                      go_quiet (fail)
                      go_wp2
                      go_roundw
                      case rel => exact ⟨m + 1, by omega, by go_num, congrArg Value.bool (by rw [HX.out, tw]; rw [e1]; rfl), below_drewN hb2 _⟩
                      case measure => simp [intOf]; omega
                    · have k3 : (q.x == p.x) = true := by simpa using k1
                      clear k1
                      go_wp2_with fail
                      go_quiet (fail)
                      go_wp2
                      go_roundw
                      case rel => exact ⟨m + 1, by omega, by go_num, congrArg Value.bool (by rw [HX.out, tw]; rw [e1]; rfl), below_drewN hb2 _⟩
                      case measure => simp [intOf]; omega
                · obtain rfl : m = l.length := by omega
                  rw [List.take_length]
                  have hb3 := Lib.hid (hb.out.trans (hb2.out.mono hb.out.size))
                  have own3 := Lib.hid (hown.out.below hb2.out)
                  have A3 := Lib.hid (AX.out.below hb3.out)
                  have C3 := Lib.hid (CX.out.below hb3.out)
                  have E3 := Lib.hid (HE0.out.below hb3.out HE0.out.inside)
                  clear hb hb2 hown
                  obtain ⟨a0, a1, b0, b1⟩ := has2_facts A3.out
                  obtain ⟨c0, c1, d0, d1⟩ := has2_facts C3.out
                  obtain ⟨p0, p1⟩ := flat_cell E3.out HP.out
                  have g0 := cell_regrown a0
                  have g1 := cell_regrown a1
                  have g2 := cell_regrown b0
                  have g3 := cell_regrown b1
                  have g4 := cell_regrown c0
                  have g5 := cell_regrown c1
                  have g6 := cell_regrown d0
                  have g7 := cell_regrown d1
                  have g8 := cell_regrown p0
                  have g9 := cell_regrown p1
                  obtain ⟨X1, hX1⟩ : ∃ o, holdsN a b p = o := ⟨_, rfl⟩
                  obtain ⟨X2, hX2⟩ : ∃ o, holdsN c d p = o := ⟨_, rfl⟩
                  have q1 := (refon_near na nb hnp hX1).quiet wr
                  have q2 := (refon_near nc nd hnp hX2).quiet wr
                  have HF := Lib.hid (show comB a b c d p = (X1 && X2) by unfold comB; rw [hX1, hX2])
                  clear hX1 hX2
                  have i3 : (k : Int) < 4 := by omega
                  have i4 : (0 : Int) ≤ (k : Int) := by omega
                  cases tw : hasB l p with
                  | true =>
                    go_wp2_with fail
                    refine wp_region_quiet_below (by kernel_rfl) (by kernel_rfl) ?_
                    repeat (go_big_quiet_step (first | with_reducible exact q1 _ _ | with_reducible exact q2 _ _))
                    refine wpQuiet_nil ?_
                    intro _ hw'
                    obtain ⟨⟨dq, osq⟩, hw''⟩ := hw'
                    subst hw''
                    go_wp2
                    go_roundw
                    case rel => exact ⟨k + 1, by omega, by go_num, Lib.hid (by rw [HNX.out]; unfold addN; rw [if_pos tw]; exact (own3.out.below (below_regrown wr dq osq))), Lib.hid (hb3.out.trans ((below_regrown wr dq osq).mono hb3.out.size))⟩
                    case measure => simp [intOf]; omega
                  | false =>
                    cases X1 with
                    | false =>
                      go_wp2_with fail
                      refine wp_region_quiet_below (by kernel_rfl) (by kernel_rfl) ?_
                      repeat (go_big_quiet_step (first | with_reducible exact q1 _ _ | with_reducible exact q2 _ _))
                      refine wpQuiet_nil ?_
                      intro _ hw'
                      obtain ⟨⟨dq, osq⟩, hw''⟩ := hw'
                      subst hw''
                      go_wp2
                      go_roundw
                      case rel => exact ⟨k + 1, by omega, by go_num, Lib.hid (by rw [HNX.out]; unfold addN; rw [if_neg (by rw [tw]; decide), if_neg (by rw [HF.out]; simp)]; exact (own3.out.below (below_regrown wr dq osq))), Lib.hid (hb3.out.trans ((below_regrown wr dq osq).mono hb3.out.size))⟩
                      case measure => simp [intOf]; omega
                    | true =>
                      cases X2 with
                      | false =>
                        go_wp2_with fail
                        refine wp_region_quiet_below (by kernel_rfl) (by kernel_rfl) ?_
                        repeat (go_big_quiet_step (first | with_reducible exact q1 _ _ | with_reducible exact q2 _ _))
                        refine wpQuiet_nil ?_
                        intro _ hw'
                        obtain ⟨⟨dq, osq⟩, hw''⟩ := hw'
                        subst hw''
                        go_wp2
                        go_roundw
                        case rel => exact ⟨k + 1, by omega, by go_num, Lib.hid (by rw [HNX.out]; unfold addN; rw [if_neg (by rw [tw]; decide), if_neg (by rw [HF.out]; simp)]; exact (own3.out.below (below_regrown wr dq osq))), Lib.hid (hb3.out.trans ((below_regrown wr dq osq).mono hb3.out.size))⟩
                        case measure => simp [intOf]; omega
                      | true =>
                        go_wp2_with fail
                        refine wp_region_quiet_below (by kernel_rfl) (by kernel_rfl) ?_
                        repeat (go_big_quiet_step (first | with_reducible exact q1 _ _ | with_reducible exact q2 _ _))
                        refine wpQuiet_nil ?_
                        intro _ hw'
                        obtain ⟨⟨dq, osq⟩, hw''⟩ := hw'
                        subst hw''
                        have hb4 := below_regrown wr dq osq
                        generalize grow (redrawn wr dq) osq = w4 at *
                        have own4 := Lib.hid (own3.out.below hb4)
                        have E4 := Lib.hid (E3.out.below hb4 E3.out.inside)
                        have HB4 := Lib.hid (hb3.out.trans (hb4.mono hb3.out.size))
                        clear a0 a1 b0 b1 c0 c1 d0 d1 p0 p1 g0 g1 g2 g3 g4 g5 g6 g7 g8 g9 q1 q2 hb4
                        obtain ⟨p0, p1⟩ := flat_cell E4.out HP.out
                        go_wp2_with (at_builtin; refine wpList_appP rfl _ _ (by rfl) x.heap.size _ l p w4.heap.size (by rfl) (own4.out.below (alloc1 w4 _)) (by rfl) (Has.made w4 _ p) (by omega) (Nat.le_trans HB4.out.size (alloc1 w4 _).size) ?_; intro v5 w5 ho5 hg5 hlt5)
                        have HB5 := Lib.hid ((HB4.out.trans ((alloc1 w4 _).mono HB4.out.size)).grown hg5 (Nat.le_trans HB4.out.size (alloc1 w4 _).size) (fun k hk => (hlt5 k hk).1))
                        go_roundw
                        case rel => exact ⟨k + 1, by omega, by go_num, Lib.hid (by rw [HNX.out]; unfold addN; rw [if_neg (by rw [tw]; decide), if_pos (by rw [HF.out]; rfl)]; exact ho5), HB5⟩
                        case measure => simp [intOf]; omega
            · obtain rfl : k = 4 := by omega
              have HL := Lib.hid (show restN a b c d l = R by rw [← HR2.out, ← hl]; rfl)
              clear hl HN HR2 HE0
              have A3 := Lib.hid (AX.out.below hb.out)
              have C3 := Lib.hid (CX.out.below hb.out)
              have HB3 := Lib.hid (HBw.out.trans (hb.out.mono HBw.out.size))
              clear AX CX HBw hb
              match l, hlen with
              | [], _ =>
                obtain ⟨a0, a1, b0, b1⟩ := has2_facts A3.out
                obtain ⟨c0, c1, d0, d1⟩ := has2_facts C3.out
                have g0 := cell_regrown a0
                have g1 := cell_regrown a1
                have g2 := cell_regrown b0
                have g3 := cell_regrown b1
                have g4 := cell_regrown c0
                have g5 := cell_regrown c1
                have g6 := cell_regrown d0
                have g7 := cell_regrown d1
                obtain ⟨s1, hs1⟩ : ∃ x, sideN a b c = x := ⟨_, rfl⟩
                obtain ⟨s2, hs2⟩ : ∃ x, sideN a b d = x := ⟨_, rfl⟩
                obtain ⟨s3, hs3⟩ : ∃ x, sideN c d a = x := ⟨_, rfl⟩
                obtain ⟨s4, hs4⟩ : ∃ x, sideN c d b = x := ⟨_, rfl⟩
                obtain ⟨m1, hm1⟩ : ∃ x, s1 * s2 = x := ⟨_, rfl⟩
                obtain ⟨m2, hm2⟩ : ∃ x, s3 * s4 = x := ⟨_, rfl⟩
                have q1 := (reforient_near na nb nc hs1).quiet wr
                have q2 := (reforient_near na nb nd hs2).quiet wr
                have q3 := (reforient_near nc nd na hs3).quiet wr
                have q4 := (reforient_near nc nd nb hs4).quiet wr
                have hw1 : IntKind.i64.wrap (s1 * s2) = m1 := by rw [← hm1, ← hs1, ← hs2]; exact side_mul'
                have hw2 : IntKind.i64.wrap (s3 * s4) = m2 := by rw [← hm2, ← hs3, ← hs4]; exact side_mul'
                have HL2 := Lib.hid (show (if decide (m1 < 0) && decide (m2 < 0) then (3 : Int) else 0) = R by rw [← hm1, ← hm2, ← hs1, ← hs2, ← hs3, ← hs4]; exact HL.out)
                clear hs1 hs2 hs3 hs4 hm1 hm2 HL
                cases h : decide (m1 < 0) with
                | false =>
                  have HE := Lib.hid (show (0 : Int) = R by rw [← HL2.out, h]; rfl)
                  go_wp2_with fail
                  refine wp_region_quiet_below (by kernel_rfl) (by kernel_rfl) ?_
                  repeat (go_big_quiet_step (first | with_reducible exact q1 _ _ | with_reducible exact q2 _ _ | with_reducible exact q3 _ _ | with_reducible exact q4 _ _))
                  refine wpQuiet_nil ?_
                  intro _ hw'
                  obtain ⟨⟨dq, osq⟩, hw''⟩ := hw'
                  subst hw''
                  go_wp2
                  go_ret
                  exact ⟨ret_int HE.out, HB3.out.trans ((below_regrown wr dq osq).mono HB3.out.size)⟩
                | true =>
                  cases h2 : decide (m2 < 0) with
                  | false =>
                    have HE := Lib.hid (show (0 : Int) = R by rw [← HL2.out, h, h2]; rfl)
                    go_wp2_with fail
                    refine wp_region_quiet_below (by kernel_rfl) (by kernel_rfl) ?_
                    repeat (go_big_quiet_step (first | with_reducible exact q1 _ _ | with_reducible exact q2 _ _ | with_reducible exact q3 _ _ | with_reducible exact q4 _ _))
                    refine wpQuiet_nil ?_
                    intro _ hw'
                    obtain ⟨⟨dq, osq⟩, hw''⟩ := hw'
                    subst hw''
                    go_wp2
                    go_ret
                    exact ⟨ret_int HE.out, HB3.out.trans ((below_regrown wr dq osq).mono HB3.out.size)⟩
                  | true =>
                    have HE := Lib.hid (show (3 : Int) = R by rw [← HL2.out, h, h2]; rfl)
                    go_wp2_with fail
                    refine wp_region_quiet_below (by kernel_rfl) (by kernel_rfl) ?_
                    repeat (go_big_quiet_step (first | with_reducible exact q1 _ _ | with_reducible exact q2 _ _ | with_reducible exact q3 _ _ | with_reducible exact q4 _ _))
                    refine wpQuiet_nil ?_
                    intro _ hw'
                    obtain ⟨⟨dq, osq⟩, hw''⟩ := hw'
                    subst hw''
                    go_wp2
                    go_ret
                    exact ⟨ret_int HE.out, HB3.out.trans ((below_regrown wr dq osq).mono HB3.out.size)⟩
              | [p], _ =>
                obtain ⟨g, rfl, _, _, hcell⟩ := HSH.out (by simp)
                obtain ⟨p0, p1⟩ := hcell 0 p rfl
                rw [Nat.zero_mul] at p0
                rw [Nat.zero_mul, Nat.zero_add] at p1
                clear hcell
                obtain ⟨a0, a1, b0, b1⟩ := has2_facts A3.out
                obtain ⟨c0, c1, d0, d1⟩ := has2_facts C3.out
                have g0 := cell_regrown a0
                have g1 := cell_regrown a1
                have g2 := cell_regrown b0
                have g3 := cell_regrown b1
                have g4 := cell_regrown c0
                have g5 := cell_regrown c1
                have g6 := cell_regrown d0
                have g7 := cell_regrown d1
                have g8 := cell_regrown p0
                have g9 := cell_regrown p1
                obtain ⟨y1, hy1⟩ : ∃ x, (eqP p a || eqP p b) = x := ⟨_, rfl⟩
                obtain ⟨y2, hy2⟩ : ∃ x, (eqP p c || eqP p d) = x := ⟨_, rfl⟩
                have q1 := ((refend_any a b p).to (congrArg Value.bool hy1)).quiet wr
                have q2 := ((refend_any c d p).to (congrArg Value.bool hy2)).quiet wr
                have HL2 := Lib.hid (show (if y1 && y2 then (1 : Int) else 2) = R by rw [← hy1, ← hy2]; exact HL.out)
                clear hy1 hy2 HL
                cases y1 with
                | false =>
                  have HE := Lib.hid (show (2 : Int) = R from HL2.out)
                  go_wp2_with fail
                  refine wp_region_quiet_below (by kernel_rfl) (by kernel_rfl) ?_
                  repeat (go_big_quiet_step (first | with_reducible exact q1 _ _ | with_reducible exact q2 _ _))
                  refine wpQuiet_nil ?_
                  intro _ hw'
                  obtain ⟨⟨dq, osq⟩, hw''⟩ := hw'
                  subst hw''
                  go_wp2
                  go_ret
                  exact ⟨ret_int HE.out, HB3.out.trans ((below_regrown wr dq osq).mono HB3.out.size)⟩
                | true =>
                  cases y2 with
                  | false =>
                    have HE := Lib.hid (show (2 : Int) = R from HL2.out)
                    go_wp2_with fail
                    refine wp_region_quiet_below (by kernel_rfl) (by kernel_rfl) ?_
                    repeat (go_big_quiet_step (first | with_reducible exact q1 _ _ | with_reducible exact q2 _ _))
                    refine wpQuiet_nil ?_
                    intro _ hw'
                    obtain ⟨⟨dq, osq⟩, hw''⟩ := hw'
                    subst hw''
                    go_wp2
                    go_ret
                    exact ⟨ret_int HE.out, HB3.out.trans ((below_regrown wr dq osq).mono HB3.out.size)⟩
                  | true =>
                    have HE := Lib.hid (show (1 : Int) = R from HL2.out)
                    go_wp2_with fail
                    refine wp_region_quiet_below (by kernel_rfl) (by kernel_rfl) ?_
                    repeat (go_big_quiet_step (first | with_reducible exact q1 _ _ | with_reducible exact q2 _ _))
                    refine wpQuiet_nil ?_
                    intro _ hw'
                    obtain ⟨⟨dq, osq⟩, hw''⟩ := hw'
                    subst hw''
                    go_wp2
                    go_ret
                    exact ⟨ret_int HE.out, HB3.out.trans ((below_regrown wr dq osq).mono HB3.out.size)⟩
              | p :: q :: r, hlen =>
                have HE := Lib.hid (show (5 : Int) = R from HL.out)
                have i5 : (1 : Int) < ((p :: q :: r).length : Int) := by simp; omega
                go_wp2
                go_ret
                exact ⟨ret_int HE.out, HB3.out⟩
end Go.Proofs.Ytlgmlgogpohgoaa.Geo
