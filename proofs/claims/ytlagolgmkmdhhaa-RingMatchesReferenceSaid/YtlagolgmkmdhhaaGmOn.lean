/- geom.Distance, segment.holds, On; the reference's Compare, Orient, Segment, Distance. -/
import Derived.Test.YtlagolgmkmdhhaaGmOrient
namespace Go.Proofs.Ytlagolgmkmdhhaa.Geo
open Go.RowKit Go.Sort
theorem beq_zero {n : Int} (h : n ≠ 0) : (n == 0) = false := by simpa using h
set_option maxRecDepth 100000 in
set_option maxHeartbeats 1000000 in
theorem holds_any (a b p : Pt) (na : nearB a = true) (nb : nearB b = true) (np : nearB p = true) :
    Answers Try.prog 34 #[.agg #[.int .i64 a.x, .int .i64 a.y, .int .i64 b.x, .int .i64 b.y], .agg #[.int .i64 p.x, .int .i64 p.y]] (.bool (holdsN a b p)) := by
  intro w
  obtain ⟨W, hW, hsz, hB, ⟨hA, hA2⟩, hP⟩ := segpt w 56 24 a b p
  have HW := Lib.hid hW
  have HB := Lib.hid hB
  have HA : Has2 W w.heap.size a b := ⟨hA, hA2⟩
  have HP := hP
  clear hW hB hsz
  obtain ⟨_, a0, a1⟩ := hA
  obtain ⟨b0, b1⟩ := hA2
  obtain ⟨_, p0, p1⟩ := hP
  obtain ⟨R, hR⟩ : ∃ R, holdsN a b p = R := ⟨_, rfl⟩
  have HR := Lib.hid hR
  rw [hR]
  clear hR
  go_enter Try.func34, Try.ntmps34
  go_wp2_with fail
  rw [HW.out]
  refine (side_any a b p _ na nb np).mono ?_
  rintro e w1 ⟨rfl, hb1⟩
  have HB1 := Lib.hid (HB.out.trans (hb1.mono HB.out.size))
  have A1 := HA.below hb1
  have P1 := HP.below hb1
  clear HA HP hb1 a0 a1 b0 b1 p0 p1
  by_cases h : sideN a b p = 0
  · rw [h]
    obtain ⟨⟨_, a0, a1⟩, b0, b1⟩ := A1
    obtain ⟨_, p0, p1⟩ := P1
    have HE := Lib.hid (show decide (dt p a b ≤ 0) = R by rw [← HR.out]; unfold holdsN; rw [sgn_zero.1 h]; simp)
    clear h
    go_wp2_with fail
    refine (dot_any p a b _ np na nb).mono ?_
    rintro e w2 ⟨rfl, hb2⟩
    have HB2 := Lib.hid (HB1.out.trans (hb2.mono HB1.out.size))
    clear hb2 a0 a1 b0 b1 p0 p1
    go_wp2
    go_ret
    exact ⟨ret_bool HE.out, HB2.out⟩
  · have h' := beq_zero h
    have HE := Lib.hid (show false = R by rw [← HR.out]; unfold holdsN; rw [eq_comm, decide_eq_false_iff_not]; exact fun g => h (sgn_zero.2 g.1))
    clear h A1 P1
    go_wp2
    go_ret
    exact ⟨ret_bool HE.out, HB1.out⟩
set_option maxRecDepth 100000 in
set_option maxHeartbeats 1000000 in
theorem on_any (a b p : Pt) : Answers Try.prog 15 #[.agg #[.int .i64 a.x, .int .i64 a.y, .int .i64 b.x, .int .i64 b.y], .agg #[.int .i64 p.x, .int .i64 p.y]] (.bool (onN a b p)) := by
  intro w
  obtain ⟨W, hW, hsz, hB, ⟨hA, hA2⟩, hP⟩ := segpt w 33 24 a b p
  have HW := Lib.hid hW
  have HB := Lib.hid hB
  have HS := Lib.hid hsz
  have HA : Has2 W w.heap.size a b := ⟨hA, hA2⟩
  have HP := hP
  clear hW hB hsz
  obtain ⟨_, a0, a1⟩ := hA
  obtain ⟨b0, b1⟩ := hA2
  obtain ⟨_, p0, p1⟩ := hP
  obtain ⟨R, hR⟩ : ∃ R, onN a b p = R := ⟨_, rfl⟩
  have HR := Lib.hid hR
  rw [hR]
  clear hR
  go_enter Try.func15, Try.ntmps15
  go_wp2_with fail
  rw [HW.out]
  refine (allNear_list [a, b, p] 3 _ _ W rfl rfl (by decide) HS.out).mono ?_
  rw [all3]
  rintro e w1 ⟨rfl, hb1⟩
  have HB1 := Lib.hid (HB.out.trans (hb1.mono HB.out.size))
  have A1 := HA.below hb1
  have P1 := HP.below hb1
  clear HA HP hb1 a0 a1 b0 b1 p0 p1
  cases h1 : (nearB a && nearB b && nearB p) with
  | false =>
    have HE := Lib.hid (show false = R by rw [← HR.out]; unfold onN; rw [h1]; rfl)
    clear h1
    go_wp2
    go_ret
    exact ⟨ret_bool HE.out, HB1.out⟩
  | true =>
    have HE := Lib.hid (show holdsN a b p = R by rw [← HR.out]; unfold onN; rw [h1]; rfl)
    obtain ⟨⟨na, nb⟩, np⟩ : (nearB a = true ∧ nearB b = true) ∧ nearB p = true := by simpa using h1
    clear h1
    obtain ⟨⟨_, a0, a1⟩, b0, b1⟩ := A1
    obtain ⟨_, p0, p1⟩ := P1
    go_wp2_with fail
    refine (holds_any a b p na nb np _).mono ?_
    rintro e w2 ⟨rfl, hb2⟩
    have HB2 := Lib.hid (HB1.out.trans (hb2.mono HB1.out.size))
    clear hb2 a0 a1 b0 b1 p0 p1
    go_wp2
    go_ret
    exact ⟨ret_bool HE.out, HB2.out⟩
end Go.Proofs.Ytlagolgmkmdhhaa.Geo
