/- geom.Near by contract. -/
import Derived.Test.YtcckdckikjbfdaaGmRoot
import Derived.Test.YtcckdckikjbfdaaGmAcross
namespace Go.Proofs.Ytcckdckikjbfdaa.Geo
open Go.RowKit Go.Sort
theorem nat_sq (n : Int) : ((n.natAbs * n.natAbs : Nat) : Int) = n * n := by
  rw [Int.natCast_mul]; exact Int.natAbs_mul_self
theorem over_bound {a b p : Pt} (na : nearB a = true) (nb : nearB b = true) (np : nearB p = true) :
    ∃ k : Nat, sqN a b = (k : Int) ∧ (0 < sqN a b → 0 < k) ∧ k ≤ 70368744177664 ∧ (crs a b p).natAbs ≤ 35184372088832 ∧ (0 < k → (crs a b p).natAbs * (crs a b p).natAbs / k < 9223372036854775808 ∧ (((crs a b p).natAbs * (crs a b p).natAbs / k : Nat) : Int) = crs a b p * crs a b p / sqN a b) := by
  have h1 := sq_nonneg a b
  have h2 := dt_bound na nb nb
  have h3 := crs_bound na nb np
  refine ⟨(sqN a b).toNat, by omega, by omega, ?_, by omega, fun hk => ?_⟩
  · unfold sqN; omega
  · have e : (((crs a b p).natAbs * (crs a b p).natAbs / (sqN a b).toNat : Nat) : Int) = crs a b p * crs a b p / sqN a b := by
      rw [Int.natCast_ediv, nat_sq]; congr 1; omega
    refine ⟨?_, e⟩
    have l := lagrange a b p
    have h4 : _ ∧ sqN a p ≤ 35184372088832 := dt_bound na np np
    have h5 : crs a b p * crs a b p / sqN a b ≤ sqN a p := div_le (by omega) (by have := mul_self (dt a b p); omega)
    have h6 : sqN a p ≤ 35184372088832 := h4.2
    rw [← e] at h5
    omega
theorem squareOver_of (n d : Int) (m k : Nat) (r : Int) (w : World) (hn : n.natAbs = m) (hd : d = (k : Int)) (hm : m ≤ 35184372088832) (hk : 0 < k) (hk2 : k ≤ 70368744177664) (hq : m * m / k < 9223372036854775808) (hr : ((m * m / k : Nat) : Int) = r) :
    Calls Try.prog 44 #[.int .i64 n, .int .i64 d] w fun e w' => e = .returned (.int .i64 r) ∧ w = w' := by
  subst hr
  exact squareOver_any n d m k w hn hd hm hk hk2 hq
set_option maxRecDepth 100000 in
set_option maxHeartbeats 1000000 in
theorem nearC_any (a b p : Pt) : Answers Try.prog 21 #[.agg #[.int .i64 a.x, .int .i64 a.y, .int .i64 b.x, .int .i64 b.y], .agg #[.int .i64 p.x, .int .i64 p.y]] (.int .i64 (nearN a b p)) := by
  intro w
  obtain ⟨W, hW, hsz, hB, hA, hP⟩ := segpt w 25 23 a b p
  have HW := Lib.hid hW
  have HB := Lib.hid hB
  have HS := Lib.hid hsz
  have HA := Lib.hid hA
  have HP := Lib.hid hP
  clear hW hB hsz
  obtain ⟨a0, a1, b0, b1⟩ := has2_facts hA
  obtain ⟨_, p0, p1⟩ := hP
  clear hA
  obtain ⟨R, hR⟩ : ∃ R, nearN a b p = R := ⟨_, rfl⟩
  have HR := Lib.hid hR
  rw [hR]
  clear hR
  go_enter Try.func21, Try.ntmps21
  go_wp2_with fail
  rw [HW.out]
  refine (allNear_list [a, b, p] 3 _ _ W rfl rfl (by decide) HS.out).mono ?_
  rw [all3]
  rintro e w1 ⟨rfl, hb1⟩
  have HB1 := Lib.hid (HB.out.trans (hb1.mono HB.out.size))
  have A1 := Lib.hid (HA.out.below hb1)
  have P1 := Lib.hid (HP.out.below hb1)
  clear HA HP hb1 a0 a1 b0 b1 p0 p1
  cases h1 : (nearB a && nearB b && nearB p) with
  | false =>
    have HE := Lib.hid (show (0 : Int) = R by rw [← HR.out]; unfold nearN; rw [h1]; rfl)
    clear h1
    go_wp2
    go_ret
    exact ⟨ret_int HE.out, HB1.out⟩
  | true =>
    have HR1 := Lib.hid (show awayN a b p = R by rw [← HR.out]; unfold nearN; rw [h1]; rfl)
    obtain ⟨⟨na, nb⟩, np⟩ : (nearB a = true ∧ nearB b = true) ∧ nearB p = true := by simpa using h1
    clear h1
    obtain ⟨a0, a1, b0, b1⟩ := has2_facts A1.out
    obtain ⟨_, p0, p1⟩ := P1.out
    have A0 := cell_regrown a0
    have A1' := cell_regrown a1
    have B0 := cell_regrown b0
    have B1' := cell_regrown b1
    have P0 := cell_regrown p0
    have P1' := cell_regrown p1
    have q1 := (show Answers Try.prog 42 _ (.int .i64 (sqN a b)) from fun w => square_any a b w na nb).quiet w1
    have q2 := (show Answers Try.prog 43 _ (.int .i64 (dt a b p)) from fun w => dot_any a b p w na nb np).quiet w1
    go_wp2_with fail
    refine wp_region_quiet_below (by kernel_rfl) (by kernel_rfl) ?_
    repeat (quiet_step (first | with_reducible exact q1 _ _ | with_reducible exact q2 _ _))
    refine wpQuiet_nil ?_
    intro _ hw'
    obtain ⟨⟨dq, osq⟩, hw''⟩ := hw'
    subst hw''
    have hb2 := below_regrown w1 dq osq
    generalize grow (redrawn w1 dq) osq = w2 at *
    have HB2 := Lib.hid (HB1.out.trans (hb2.mono HB1.out.size))
    have A2 := A1.out.below hb2
    have P2 := P1.out.below hb2
    clear A0 A1' B0 B1' P0 P1' q1 q2 a0 a1 b0 b1 p0 p1 hb2
    obtain ⟨a0, a1, b0, b1⟩ := has2_facts A2
    obtain ⟨_, p0, p1⟩ := P2
    by_cases k1 : dt a b p ≤ 0
    · have HE := Lib.hid (show sqN a p = R by rw [← HR1.out]; unfold awayN; rw [if_pos k1])
      go_wp2_with fail
      refine (square_any a p _ na np).mono ?_
      rintro e w3 ⟨rfl, hb3⟩
      have HB3 := Lib.hid (HB2.out.trans (hb3.mono HB2.out.size))
      clear hb3 a0 a1 b0 b1 p0 p1
      go_wp2
      go_ret
      exact ⟨ret_int HE.out, HB3.out⟩
    · by_cases k2 : sqN a b ≤ dt a b p
      · have HE := Lib.hid (show sqN b p = R by rw [← HR1.out]; unfold awayN; rw [if_neg k1, if_pos k2])
        go_wp2_with fail
        refine (square_any b p _ nb np).mono ?_
        rintro e w3 ⟨rfl, hb3⟩
        have HB3 := Lib.hid (HB2.out.trans (hb3.mono HB2.out.size))
        clear hb3 a0 a1 b0 b1 p0 p1
        go_wp2
        go_ret
        exact ⟨ret_int HE.out, HB3.out⟩
      · have HR2 := Lib.hid (show crs a b p * crs a b p / sqN a b = R by rw [← HR1.out]; unfold awayN; rw [if_neg k1, if_neg k2])
        obtain ⟨k, e1, e2, e3, e4, e5⟩ := over_bound na nb np
        have e6 := e2 (by omega)
        obtain ⟨e7, e8⟩ := e5 e6
        have HE := Lib.hid (show (((crs a b p).natAbs * (crs a b p).natAbs / k : Nat) : Int) = R by rw [e8, HR2.out])
        have C4 := Lib.hid (fun w => squareOver_of (crs a b p) (sqN a b) (crs a b p).natAbs k R w rfl e1 e4 e6 e3 e7 HE.out)
        clear e1 e2 e3 e4 e5 e6 e7 e8
        go_wp2_with fail
        refine (cross_any a b p _ na nb np).mono ?_
        rintro e w3 ⟨rfl, hb3⟩
        have HB3 := Lib.hid (HB2.out.trans (hb3.mono HB2.out.size))
        clear hb3 a0 a1 b0 b1 p0 p1
        go_wp2_with fail
        refine (C4.out w3).mono ?_
        rintro e w4 ⟨rfl, rfl⟩
        go_wp2
        go_ret
        exact ⟨rfl, HB3.out⟩
end Go.Proofs.Ytcckdckikjbfdaa.Geo
