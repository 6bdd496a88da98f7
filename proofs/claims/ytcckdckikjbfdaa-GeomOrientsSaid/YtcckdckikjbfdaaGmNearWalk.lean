/- P3.6, GeomNear: its walk. -/
import Derived.Test.YtcckdckikjbfdaaGmMeetsWalk
import Derived.Deep.CutRange
namespace Go.Proofs.Ytcckdckikjbfdaa.Geo
open Go.RowKit Go.Sort
theorem near_near {a b p : Pt} {k : Int} (na : nearB a = true) (nb : nearB b = true) (np : nearB p = true) (hk : awayN a b p = k) :
    Answers Try.prog 21 #[.agg #[.int .i64 a.x, .int .i64 a.y, .int .i64 b.x, .int .i64 b.y], .agg #[.int .i64 p.x, .int .i64 p.y]] (.int .i64 k) :=
  (nearC_any a b p).to (congrArg (Value.int .i64) (by unfold nearN; rw [na, nb, np, ← hk]; rfl))
theorem on_near {a b p : Pt} {o : Bool} (na : nearB a = true) (nb : nearB b = true) (np : nearB p = true) (hk : holdsN a b p = o) :
    Answers Try.prog 15 #[.agg #[.int .i64 a.x, .int .i64 a.y, .int .i64 b.x, .int .i64 b.y], .agg #[.int .i64 p.x, .int .i64 p.y]] (.bool o) :=
  (on_any a b p).to (congrArg Value.bool (by unfold onN; rw [na, nb, np, ← hk]; rfl))
theorem dist_near {a b : Pt} {k : Int} (na : nearB a = true) (nb : nearB b = true) (hk : sqN a b = k) :
    Answers Try.prog 19 #[.agg #[.int .i64 a.x, .int .i64 a.y], .agg #[.int .i64 b.x, .int .i64 b.y]] (.int .i64 k) :=
  (distance_any a b).to (congrArg (Value.int .i64) (by unfold distN; rw [na, nb, ← hk]; rfl))
theorem has_facts {w : World} {g : Nat} {p : Pt} (h : Has w g p) : w.cell? ⟨g, 0, none⟩ = some (.int .i64 p.x) ∧ w.cell? ⟨g, 1, none⟩ = some (.int .i64 p.y) := ⟨h.2.1, h.2.2⟩
theorem segpts (w : World) (t u v : TypeId) (p q r s : Pt) : ∃ W, ((w.alloc (.cells #[.int .i64 p.x, .int .i64 p.y, .int .i64 q.x, .int .i64 q.y] t)).alloc (.cells #[.int .i64 r.x, .int .i64 r.y] u)).alloc (.cells #[.int .i64 s.x, .int .i64 s.y] v) = W ∧
    Below w.heap.size w W ∧ Has2 W w.heap.size p q ∧ Has W (w.heap.size + 1) r ∧ Has W (w.heap.size + 1 + 1) s := by
  obtain ⟨W, h1, h2, h3, h4, h5⟩ := segpt w t u p q r
  rw [h1]
  exact ⟨_, rfl, h3.alloc (by omega) _, h4.alloc _, h5.alloc _, by rw [← h2]; exact Has.made W v s⟩
set_option maxRecDepth 100000 in
set_option maxHeartbeats 2000000 in
theorem nearLaw_any (a b p q : Pt) : Answers Try.prog 8 #[.agg #[.int .i64 a.x, .int .i64 a.y, .int .i64 b.x, .int .i64 b.y], .agg #[.int .i64 p.x, .int .i64 p.y], .agg #[.int .i64 q.x, .int .i64 q.y]] (.bool true) := by
  intro w
  obtain ⟨W, hW, hB, hA, hP, hQ⟩ := segpts w 25 23 23 a b p q
  have HW := Lib.hid hW
  have HB := Lib.hid hB
  clear hW hB
  go_enter Try.func8, Try.ntmps8
  go_wp2_with fail
  rw [HW.out]
  refine (head_any W).mono ?_
  rintro e w0 ⟨rfl, hb0⟩
  have HB0 := Lib.hid (HB.out.trans (hb0.mono HB.out.size))
  have A0 := Lib.hid (hA.below hb0)
  have P0 := Lib.hid (hP.below hb0)
  have Q0 := Lib.hid (hQ.below hb0)
  clear hA hP hQ hb0 HB HW
  obtain ⟨a0, a1, b0, b1⟩ := has2_facts A0.out
  obtain ⟨p0, p1⟩ := has_facts P0.out
  obtain ⟨q0, q1⟩ := has_facts Q0.out
  go_wp2_with fail
  refine (near_list [a, b, p, q] 4 _ _ w0 rfl rfl (by decide) rfl).mono ?_
  rw [all4]
  rintro e w1 ⟨rfl, hb1⟩
  have HB1 := Lib.hid (HB0.out.trans (hb1.mono HB0.out.size))
  have A1 := Lib.hid (A0.out.below hb1)
  have P1 := Lib.hid (P0.out.below hb1)
  have Q1 := Lib.hid (Q0.out.below hb1)
  clear hb1 a0 a1 b0 b1 p0 p1 q0 q1 A0 P0 Q0
  cases h1 : (nearB a && nearB b && nearB p && nearB q) with
  | false =>
    clear h1
    go_wp2
    go_ret
    exact ⟨rfl, HB1.out⟩
  | true =>
    obtain ⟨⟨⟨na, nb⟩, np⟩, nq⟩ : ((nearB a = true ∧ nearB b = true) ∧ nearB p = true) ∧ nearB q = true := by simpa using h1
    clear h1
    obtain ⟨n, hn⟩ : ∃ n, awayN a b p = n := ⟨_, rfl⟩
    obtain ⟨o, ho⟩ : ∃ o, holdsN a b p = o := ⟨_, rfl⟩
    obtain ⟨o2, ho2⟩ : ∃ o, holdsN a b q = o := ⟨_, rfl⟩
    obtain ⟨x, hx⟩ : ∃ x, sqN a p = x := ⟨_, rfl⟩
    obtain ⟨y, hy⟩ : ∃ x, sqN b p = x := ⟨_, rfl⟩
    obtain ⟨z, hz⟩ : ∃ x, sqN q p = x := ⟨_, rfl⟩
    have M1 := Lib.hid (near_near na nb np hn)
    have M2 := Lib.hid (near_near nb na np ((away_back a b p).trans hn))
    have M3 := Lib.hid (dist_near na np hx)
    have M4 := Lib.hid (dist_near nb np hy)
    have M5 := Lib.hid (on_near na nb np ho)
    have M6 := Lib.hid (on_near na nb nq ho2)
    have M7 := Lib.hid (dist_near nq np hz)
    have f1 : 0 ≤ n := by rw [← hn]; exact away_nonneg a b p
    have f2 : n ≤ x := by rw [← hn, ← hx]; exact away_left a b p
    have f3 : n ≤ y := by rw [← hn, ← hy]; exact away_right a b p
    have F4 : Hid (o = true → n = 0) := fun h => by rw [← hn]; exact away_on (ho.trans h)
    have F5 : Hid (o2 = true → n ≤ z) := fun h => by rw [← hn, ← hz]; exact away_other (ho2.trans h)
    have F6 : Hid (a = b → n = x) := fun h => by subst h; rw [← hn, ← hx]; exact away_point a p
    clear hn ho ho2 hx hy hz na nb np nq
    obtain ⟨a0, a1, b0, b1⟩ := has2_facts A1.out
    obtain ⟨p0, p1⟩ := has_facts P1.out
    go_wp2_with fail
    refine (M1.out _).mono ?_
    rintro e w2 ⟨rfl, hb2⟩
    have HB2 := Lib.hid (HB1.out.trans (hb2.mono HB1.out.size))
    have A2 := Lib.hid (A1.out.below hb2)
    have P2 := Lib.hid (P1.out.below hb2)
    have Q2 := Lib.hid (Q1.out.below hb2)
    clear hb2 a0 a1 b0 b1 p0 p1 A1 P1 Q1
    obtain ⟨a0, a1, b0, b1⟩ := has2_facts A2.out
    obtain ⟨p0, p1⟩ := has_facts P2.out
    have g0 := cell_regrown a0
    have g1 := cell_regrown a1
    have g2 := cell_regrown b0
    have g3 := cell_regrown b1
    have g4 := cell_regrown p0
    have g5 := cell_regrown p1
    have q1 := M2.out.quiet w2
    have q2 := (back_any a b).quiet w2
    have q3 := M3.out.quiet w2
    have q4 := M4.out.quiet w2
    have q5 := M5.out.quiet w2
    go_upto_region 5 with fail
    go_cut [57] from 23 to 56 (fun s57 wx => s57 = .bool false ∧ Hid (Below w2.heap.size w2 wx))
    case first =>
      cases o with
      | true =>
        obtain rfl := F4.out rfl
        refine wp_region_quiet_below (by kernel_rfl) (by kernel_rfl) ?_
        repeat (quiet_step (first | with_reducible exact q1 _ _ | with_reducible exact q2 _ _ | with_reducible exact q3 _ _ | with_reducible exact q4 _ _ | with_reducible exact q5 _ _))
        refine wpQuiet_nil ?_
        intro _ hw'
        obtain ⟨⟨dq, osq⟩, hw''⟩ := hw'
        subst hw''
        go_wp2_with fail
        go_meet
        exact ⟨congrArg Value.bool (by simp; omega), Lib.hid (below_regrown w2 dq osq)⟩
      | false =>
        refine wp_region_quiet_below (by kernel_rfl) (by kernel_rfl) ?_
        repeat (quiet_step (first | with_reducible exact q1 _ _ | with_reducible exact q2 _ _ | with_reducible exact q3 _ _ | with_reducible exact q4 _ _ | with_reducible exact q5 _ _))
        refine wpQuiet_nil ?_
        intro _ hw'
        obtain ⟨⟨dq, osq⟩, hw''⟩ := hw'
        subst hw''
        go_wp2_with fail
        go_meet
        exact ⟨congrArg Value.bool (by simp; omega), Lib.hid (below_regrown w2 dq osq)⟩
    case rest =>
      obtain ⟨rfl, hb3⟩ := hcut
      have HB3 := Lib.hid (HB2.out.trans (hb3.out.mono HB2.out.size))
      have A3 := Lib.hid (A2.out.below hb3.out)
      have P3 := Lib.hid (P2.out.below hb3.out)
      have Q3 := Lib.hid (Q2.out.below hb3.out)
      clear g0 g1 g2 g3 g4 g5 q1 q2 q3 q4 q5 a0 a1 b0 b1 p0 p1 hb3 A2 P2 Q2
      obtain ⟨a0, a1, b0, b1⟩ := has2_facts A3.out
      obtain ⟨q0, q1⟩ := has_facts Q3.out
      go_wp2_with fail
      refine (M6.out _).mono ?_
      rintro e w4 ⟨rfl, hb4⟩
      have HB4 := Lib.hid (HB3.out.trans (hb4.mono HB3.out.size))
      have A4 := Lib.hid (A3.out.below hb4)
      have P4 := Lib.hid (P3.out.below hb4)
      have Q4 := Lib.hid (Q3.out.below hb4)
      clear a0 a1 b0 b1 q0 q1 hb4 A3 P3 Q3
      obtain ⟨a0, a1, b0, b1⟩ := has2_facts A4.out
      obtain ⟨p0, p1⟩ := has_facts P4.out
      obtain ⟨q0, q1⟩ := has_facts Q4.out
      cases o2 with
      | false =>
        rcases cases3 a b with e | ⟨_, k1⟩ | ⟨_, k1, k2⟩
        · have e6 := F6.out e
          subst e e6
          go_wp2_with fail
          refine (M3.out _).mono ?_
          rintro e w9 ⟨rfl, hb9⟩
          have HB9 := Lib.hid (HB4.out.trans (hb9.mono HB4.out.size))
          clear hb9
          go_wp2
          go_ret
          exact ⟨rfl, HB9.out⟩
        · go_wp2
          go_ret
          exact ⟨rfl, HB4.out⟩
        · have k3 : (a.x == b.x) = true := by simpa using k1
          clear k1
          go_wp2
          go_ret
          exact ⟨rfl, HB4.out⟩
      | true =>
        have f5 := F5.out rfl
        go_wp2_with fail
        refine (M7.out _).mono ?_
        rintro e w5 ⟨rfl, hb5⟩
        have HB5 := Lib.hid (HB4.out.trans (hb5.mono HB4.out.size))
        have A5 := A4.out.below hb5
        have P5 := P4.out.below hb5
        clear a0 a1 b0 b1 p0 p1 q0 q1 hb5 A4 P4 Q4
        obtain ⟨a0, a1, b0, b1⟩ := has2_facts A5
        obtain ⟨p0, p1⟩ := has_facts P5
        clear A5 P5
        rcases cases3 a b with e | ⟨_, k1⟩ | ⟨_, k1, k2⟩
        · have e6 := F6.out e
          subst e e6
          go_wp2_with fail
          refine (M3.out _).mono ?_
          rintro e w9 ⟨rfl, hb9⟩
          have HB9 := Lib.hid (HB5.out.trans (hb9.mono HB5.out.size))
          clear hb9
          go_wp2
          go_ret
          exact ⟨rfl, HB9.out⟩
        · go_wp2
          go_ret
          exact ⟨rfl, HB5.out⟩
        · have k3 : (a.x == b.x) = true := by simpa using k1
          clear k1
          go_wp2
          go_ret
          exact ⟨rfl, HB5.out⟩
end Go.Proofs.Ytcckdckikjbfdaa.Geo
