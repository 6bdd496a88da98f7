/- The reference's Segment, Orient, Distance, On, by contract. -/
import Derived.Test.YtlgmlgogpohgoaaGmAcross
namespace Go.Proofs.Ytlgmlgogpohgoaa.Geo
open Go.RowKit Go.Sort
set_option maxRecDepth 100000 in
set_option maxHeartbeats 1000000 in
theorem refsegment_any (a b : Pt) : Answers Try.prog 34 #[.agg #[.int .i64 a.x, .int .i64 a.y, .int .i64 b.x, .int .i64 b.y]] (.bool (nearB a && nearB b)) := by
  intro w
  have hA := Has2.made w 36 a b
  have HB := Lib.hid (alloc1 w (.cells #[.int .i64 a.x, .int .i64 a.y, .int .i64 b.x, .int .i64 b.y] 36))
  go_enter Try.func34, Try.ntmps34
  go_wp2_with fail
  generalize w.alloc (.cells #[.int .i64 a.x, .int .i64 a.y, .int .i64 b.x, .int .i64 b.y] 36) = W at *
  refine (is_any a _).mono ?_
  rintro e w1 ⟨rfl, hb1⟩
  have HB1 := Lib.hid (HB.out.trans (hb1.mono HB.out.size))
  have A1 := hA.below hb1
  clear hA hb1
  cases h1 : nearB a with
  | false =>
    go_wp2
    go_ret
    exact ⟨ret_bool (by rw [h1]; rfl), HB1.out⟩
  | true =>
    obtain ⟨a0, a1, b0, b1⟩ := has2_facts A1
    go_wp2_with fail
    refine (is_any b _).mono ?_
    rintro e w2 ⟨rfl, hb2⟩
    have HB2 := Lib.hid (HB1.out.trans (hb2.mono HB1.out.size))
    clear hb2 a0 a1 b0 b1
    go_wp2
    go_ret
    exact ⟨ret_bool (by rw [h1]; rfl), HB2.out⟩
set_option maxRecDepth 100000 in
set_option maxHeartbeats 1000000 in
theorem reforient_any (a b c : Pt) : Answers Try.prog 73 #[.agg #[.int .i64 a.x, .int .i64 a.y], .agg #[.int .i64 b.x, .int .i64 b.y], .agg #[.int .i64 c.x, .int .i64 c.y]] (.int .i64 (orientN a b c)) := by
  intro w
  obtain ⟨W, hW, hsz, hB, hA, hBb, hC⟩ := three w 24 a b c
  have HW := Lib.hid hW
  have HB := Lib.hid hB
  clear hW hB hsz
  obtain ⟨R, hR⟩ : ∃ R, orientN a b c = R := ⟨_, rfl⟩
  have HR := Lib.hid hR
  rw [hR]
  clear hR
  go_enter Try.func73, Try.ntmps73
  go_wp2_with fail
  rw [HW.out]
  refine (is_any a _).mono ?_
  rintro e w1 ⟨rfl, hb1⟩
  have HB1 := Lib.hid (HB.out.trans (hb1.mono HB.out.size))
  have A1 := hA.below hb1
  have B1 := hBb.below hb1
  have C1 := hC.below hb1
  clear hA hBb hC hb1
  cases n1 : nearB a with
  | false =>
    have HE := Lib.hid (show (0 : Int) = R by rw [← HR.out]; unfold orientN; rw [n1]; rfl)
    clear n1 A1 B1 C1
    go_wp2
    go_ret
    exact ⟨ret_int HE.out, HB1.out⟩
  | true =>
    obtain ⟨_, b0, b1⟩ := id B1
    go_wp2_with fail
    refine (is_any b _).mono ?_
    rintro e w2 ⟨rfl, hb2⟩
    have HB2 := Lib.hid (HB1.out.trans (hb2.mono HB1.out.size))
    have A2 := A1.below hb2
    have B2 := B1.below hb2
    have C2 := C1.below hb2
    clear A1 B1 C1 hb2 b0 b1
    cases n2 : nearB b with
    | false =>
      have HE := Lib.hid (show (0 : Int) = R by rw [← HR.out]; unfold orientN; rw [n1, n2]; rfl)
      clear n1 n2 A2 B2 C2
      go_wp2
      go_ret
      exact ⟨ret_int HE.out, HB2.out⟩
    | true =>
      obtain ⟨_, c0, c1⟩ := id C2
      go_wp2_with fail
      refine (is_any c _).mono ?_
      rintro e w3 ⟨rfl, hb3⟩
      have HB3 := Lib.hid (HB2.out.trans (hb3.mono HB2.out.size))
      have A3 := A2.below hb3
      have B3 := B2.below hb3
      have C3 := C2.below hb3
      clear A2 B2 C2 hb3 c0 c1
      cases n3 : nearB c with
      | false =>
        have HE := Lib.hid (show (0 : Int) = R by rw [← HR.out]; unfold orientN; rw [n1, n2, n3]; rfl)
        clear n1 n2 n3 A3 B3 C3
        go_wp2
        go_ret
        exact ⟨ret_int HE.out, HB3.out⟩
      | true =>
        have HE := Lib.hid (show sgn (crs a b c) = R by rw [← HR.out]; unfold orientN; rw [n1, n2, n3]; rfl)
        obtain ⟨_, a0, a1⟩ := A3
        obtain ⟨_, b0, b1⟩ := B3
        obtain ⟨_, c0, c1⟩ := C3
        go_wp2_with fail
        refine (refcross_any a b c _ n1 n2 n3).mono ?_
        rintro e w4 ⟨rfl, hb4⟩
        have HB4 := Lib.hid (HB3.out.trans (hb4.mono HB3.out.size))
        clear hb4 a0 a1 b0 b1 c0 c1
        go_wp2_with fail
        refine (sign_any _ _).mono ?_
        rintro e w5 ⟨rfl, rfl⟩
        go_wp2
        go_ret
        exact ⟨ret_int HE.out, HB4.out⟩
theorem dist_wrap {a b : Pt} (ha : nearB a = true) (hb : nearB b = true) :
    wrap64 (wrap64 (wrap64 (a.x - b.x) * wrap64 (a.x - b.x)) + wrap64 (wrap64 (a.y - b.y) * wrap64 (a.y - b.y))) = sqN a b := by
  have := dt_wrap hb ha ha
  rw [this]
  unfold sqN dt
  grind
end Go.Proofs.Ytlgmlgogpohgoaa.Geo
