/- The reference's Near, by contract. -/
import Derived.Test.YtcckdckikjbfdaaGmRefOn
import Derived.Test.YtcckdckikjbfdaaGmTimes
import Derived.Test.YtcckdckikjbfdaaGmNearWalk
namespace Go.Proofs.Ytcckdckikjbfdaa.Geo
open Go.RowKit Go.Sort
theorem refdist_near {a b : Pt} {k : Int} (na : nearB a = true) (nb : nearB b = true) (hk : sqN a b = k) :
    Answers Try.prog 20 #[.agg #[.int .i64 a.x, .int .i64 a.y], .agg #[.int .i64 b.x, .int .i64 b.y]] (.int .i64 k) :=
  (refdistance_any a b).to (congrArg (Value.int .i64) (by unfold distN; rw [na, nb, ← hk]; rfl))
theorem along_wrap {a b p : Pt} (na : nearB a = true) (nb : nearB b = true) (np : nearB p = true) :
    wrap64 (wrap64 (wrap64 (p.x - a.x) * wrap64 (b.x - a.x)) + wrap64 (wrap64 (p.y - a.y) * wrap64 (b.y - a.y))) = dt a b p := by
  have := dt_wrap na np nb
  rw [this]
  unfold dt
  grind
theorem times_of (n d : Int) (m k : Nat) (r : Int) (w : World) (hn : n = (m : Int)) (hd : d = (k : Int)) (hm : m ≤ 35184372088832) (hk : 0 < k) (hk2 : k ≤ 70368744177664) (hq : m * m / k < 9223372036854775807) (hr : ((m * m / k : Nat) : Int) = r) :
    Calls Try.prog 46 #[.int .i64 n, .int .i64 n, .int .i64 d] w fun e w' => e = .returned (.int .i64 r) ∧ w = w' := by
  subst hn hd hr
  exact times_any m m k w (by omega) (by omega) hk hk2 hq
theorem over_small {a b p : Pt} (na : nearB a = true) (np : nearB p = true) {k : Nat} (hk : sqN a b = (k : Int)) (h0 : 0 < k) :
    (crs a b p).natAbs * (crs a b p).natAbs / k < 9223372036854775807 := by
  have e : (((crs a b p).natAbs * (crs a b p).natAbs / k : Nat) : Int) = crs a b p * crs a b p / sqN a b := by
    rw [Int.natCast_ediv, nat_sq, hk]
  have l := lagrange a b p
  have h4 : _ ∧ sqN a p ≤ 35184372088832 := dt_bound na np np
  have h5 : crs a b p * crs a b p / sqN a b ≤ sqN a p := div_le (by omega) (by have := mul_self (dt a b p); omega)
  have h6 : sqN a p ≤ 35184372088832 := h4.2
  rw [← e] at h5
  omega
set_option maxRecDepth 100000 in
set_option maxHeartbeats 1000000 in
theorem refnear_any (a b p : Pt) : Answers Try.prog 22 #[.agg #[.int .i64 a.x, .int .i64 a.y, .int .i64 b.x, .int .i64 b.y], .agg #[.int .i64 p.x, .int .i64 p.y]] (.int .i64 (nearN a b p)) := by
  intro w
  obtain ⟨W, hW, hsz, hB, hA, hP⟩ := segpt w 25 23 a b p
  have HW := Lib.hid hW
  have HB := Lib.hid hB
  have HA := Lib.hid hA
  have HP := Lib.hid hP
  clear hW hB hsz
  obtain ⟨a0, a1, b0, b1⟩ := has2_facts hA
  clear hA hP
  obtain ⟨R, hR⟩ : ∃ R, nearN a b p = R := ⟨_, rfl⟩
  have HR := Lib.hid hR
  rw [hR]
  clear hR
  go_enter Try.func22, Try.ntmps22
  go_wp2_with fail
  rw [HW.out]
  refine (refsegment_any a b _).mono ?_
  rintro e w1 ⟨rfl, hb1⟩
  have HB1 := Lib.hid (HB.out.trans (hb1.mono HB.out.size))
  have A1 := Lib.hid (HA.out.below hb1)
  have P1 := Lib.hid (HP.out.below hb1)
  clear hb1 a0 a1 b0 b1 HA HP
  cases n1 : (nearB a && nearB b) with
  | false =>
    have HE := Lib.hid (show (0 : Int) = R by rw [← HR.out]; unfold nearN; rw [n1]; rfl)
    clear n1
    go_wp2
    go_ret
    exact ⟨ret_int HE.out, HB1.out⟩
  | true =>
    obtain ⟨p0, p1⟩ := has_facts P1.out
    go_wp2_with fail
    refine (is_any p _).mono ?_
    rintro e w2 ⟨rfl, hb2⟩
    have HB2 := Lib.hid (HB1.out.trans (hb2.mono HB1.out.size))
    have A2 := Lib.hid (A1.out.below hb2)
    have P2 := Lib.hid (P1.out.below hb2)
    clear hb2 p0 p1 A1 P1
    cases n2 : nearB p with
    | false =>
      have HE := Lib.hid (show (0 : Int) = R by rw [← HR.out]; unfold nearN; rw [n1, n2]; rfl)
      clear n1 n2
      go_wp2
      go_ret
      exact ⟨ret_int HE.out, HB2.out⟩
    | true =>
      have HR1 := Lib.hid (show awayN a b p = R by rw [← HR.out]; unfold nearN; rw [n1, n2]; rfl)
      obtain ⟨na, nb⟩ : nearB a = true ∧ nearB b = true := by simpa using n1
      clear n1
      have HAL := along_wrap na nb n2
      have HL := Lib.hid HAL
      clear HAL
      have D1 := Lib.hid (refdist_near na nb (show sqN a b = sqN a b from rfl))
      have D2 := Lib.hid (refdist_near na n2 (show sqN a p = sqN a p from rfl))
      have D3 := Lib.hid (refdist_near nb n2 (show sqN b p = sqN b p from rfl))
      obtain ⟨a0, a1, b0, b1⟩ := has2_facts A2.out
      obtain ⟨p0, p1⟩ := has_facts P2.out
      go_wp2_with fail
      refine (D1.out _).mono ?_
      rintro e w3 ⟨rfl, hb3⟩
      have HB3 := Lib.hid (HB2.out.trans (hb3.mono HB2.out.size))
      have A3 := A2.out.below hb3
      have P3 := P2.out.below hb3
      clear hb3 a0 a1 b0 b1 p0 p1 A2 P2
      obtain ⟨a0, a1, b0, b1⟩ := has2_facts A3
      obtain ⟨p0, p1⟩ := has_facts P3
      go_upto_region 5 with fail
      rw [HL.out]
      by_cases k1 : dt a b p ≤ 0
      · have HE := Lib.hid (show sqN a p = R by rw [← HR1.out]; unfold awayN; rw [if_pos k1])
        go_wp2_with fail
        refine (D2.out _).mono ?_
        rintro e w4 ⟨rfl, hb4⟩
        have HB4 := Lib.hid (HB3.out.trans (hb4.mono HB3.out.size))
        clear hb4 a0 a1 b0 b1 p0 p1 A3 P3
        go_wp2
        go_ret
        exact ⟨ret_int HE.out, HB4.out⟩
      · by_cases k2 : sqN a b ≤ dt a b p
        · have HE := Lib.hid (show sqN b p = R by rw [← HR1.out]; unfold awayN; rw [if_neg k1, if_pos k2])
          go_wp2_with fail
          refine (D3.out _).mono ?_
          rintro e w4 ⟨rfl, hb4⟩
          have HB4 := Lib.hid (HB3.out.trans (hb4.mono HB3.out.size))
          clear hb4 a0 a1 b0 b1 p0 p1 A3 P3
          go_wp2
          go_ret
          exact ⟨ret_int HE.out, HB4.out⟩
        · have HR2 := Lib.hid (show crs a b p * crs a b p / sqN a b = R by rw [← HR1.out]; unfold awayN; rw [if_neg k1, if_neg k2])
          obtain ⟨k, e1, e2, e3, e4, e5⟩ := over_bound na nb n2
          have e6 := e2 (by omega)
          obtain ⟨_, e8⟩ := e5 e6
          have e7 := over_small na n2 e1 e6
          have hcb := crs_bound na nb n2
          have C4 := Lib.hid (fun w => times_of ((crs a b p).natAbs : Int) (sqN a b) (crs a b p).natAbs k R w rfl e1 e4 e6 e3 e7 (by rw [e8, HR2.out]))
          have hmax : ∀ ts t w, (Builtin.max_ ts t #[.int .i64 (crs a b p), .int .i64 (wrap64 (-(crs a b p)))]).run Try.prog w = .ok (.int .i64 ((crs a b p).natAbs : Int)) w := fun ts t w => by
            rw [run_max_int2]
            generalize crs a b p = n at *
            rw [show wrap64 (-n) = -n by unfold wrap64; omega]
            congr 2
            split <;> omega
          clear e1 e2 e3 e4 e5 e6 e7 e8 hcb
          go_wp2_with fail
          refine (refcross_any a b p _ na nb n2).mono ?_
          rintro e w4 ⟨rfl, hb4⟩
          have HB4 := Lib.hid (HB3.out.trans (hb4.mono HB3.out.size))
          clear hb4 a0 a1 b0 b1 p0 p1 A3 P3
          go_wp2_with fail
          refine (C4.out w4).mono ?_
          rintro e w5 ⟨rfl, rfl⟩
          go_wp2
          go_ret
          exact ⟨rfl, HB4.out⟩
end Go.Proofs.Ytcckdckikjbfdaa.Geo
