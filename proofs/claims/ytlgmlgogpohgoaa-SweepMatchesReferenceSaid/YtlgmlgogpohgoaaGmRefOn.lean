/- The reference's On, by contract. -/
import Derived.Test.YtlgmlgogpohgoaaGmRefA
import Derived.Deep.CutRange
namespace Go.Proofs.Ytlgmlgogpohgoaa.Geo
open Go.RowKit Go.Sort
def inBox (a b p : Pt) : Bool := decide (min a.x b.x ≤ p.x) && decide (p.x ≤ max a.x b.x) && decide (min a.y b.y ≤ p.y) && decide (p.y ≤ max a.y b.y)
theorem on_box (a b p : Pt) : (inBox a b p && decide (crs a b p = 0)) = holdsN a b p := by
  rw [Bool.eq_iff_iff]
  unfold inBox holdsN
  simp only [Bool.and_eq_true, decide_eq_true_iff]
  constructor
  · rintro ⟨⟨⟨⟨h1, h2⟩, h3⟩, h4⟩, hc⟩
    exact ⟨hc, (box hc).2 ⟨h1, h2, h3, h4⟩⟩
  · rintro ⟨hc, hd⟩
    have := (box hc).1 hd
    exact ⟨⟨⟨⟨this.1, this.2.1⟩, this.2.2.1⟩, this.2.2.2⟩, hc⟩
set_option maxRecDepth 100000 in
set_option maxHeartbeats 2000000 in
theorem refon_any (a b p : Pt) : Answers Try.prog 71 #[.agg #[.int .i64 a.x, .int .i64 a.y, .int .i64 b.x, .int .i64 b.y], .agg #[.int .i64 p.x, .int .i64 p.y]] (.bool (onN a b p)) := by
  intro w
  obtain ⟨W, hW, hsz, hB, hA, hP⟩ := segpt w 36 24 a b p
  have HW := Lib.hid hW
  have HB := Lib.hid hB
  have HA := Lib.hid hA
  have HP := Lib.hid hP
  clear hW hB hsz
  obtain ⟨a0, a1, b0, b1⟩ := has2_facts hA
  clear hA hP
  obtain ⟨R, hR⟩ : ∃ R, onN a b p = R := ⟨_, rfl⟩
  have HR := Lib.hid hR
  rw [hR]
  clear hR
  go_enter Try.func71, Try.ntmps71
  go_wp2_with fail
  rw [HW.out]
  refine (refsegment_any a b _).mono ?_
  rintro e w1 ⟨rfl, hb1⟩
  have HB1 := Lib.hid (HB.out.trans (hb1.mono HB.out.size))
  have A1 := Lib.hid (HA.out.below hb1)
  have P1 := Lib.hid (HP.out.below hb1)
  clear hb1 a0 a1 b0 b1 HA HP
  cases n1 : (nearB a && nearB b) with
  | false =>
    have HE := Lib.hid (show false = R by rw [← HR.out]; unfold onN; rw [n1]; rfl)
    clear n1
    go_wp2
    go_ret
    exact ⟨ret_bool HE.out, HB1.out⟩
  | true =>
    obtain ⟨_, p0, p1⟩ := id P1.out
    go_wp2_with fail
    refine (is_any p _).mono ?_
    rintro e w2 ⟨rfl, hb2⟩
    have HB2 := Lib.hid (HB1.out.trans (hb2.mono HB1.out.size))
    have A2 := Lib.hid (A1.out.below hb2)
    have P2 := Lib.hid (P1.out.below hb2)
    clear hb2 p0 p1 A1 P1
    cases n2 : nearB p with
    | false =>
      have HE := Lib.hid (show false = R by rw [← HR.out]; unfold onN; rw [n1, n2]; rfl)
      clear n1 n2
      go_wp2
      go_ret
      exact ⟨ret_bool HE.out, HB2.out⟩
    | true =>
      have HR1 := Lib.hid (show (inBox a b p && decide (crs a b p = 0)) = R by rw [on_box, ← HR.out]; unfold onN; rw [n1, n2]; rfl)
      obtain ⟨na, nb⟩ : nearB a = true ∧ nearB b = true := by simpa using n1
      clear n1
      obtain ⟨a0, a1, b0, b1⟩ := has2_facts A2.out
      obtain ⟨p0, p1⟩ := (show _ ∧ _ from ⟨P2.out.2.1, P2.out.2.2⟩)
      go_upto_region 3 with fail
      go_cut [5] from 14 to 59 (fun s wx => s = .bool (inBox a b p) ∧ wx = w2)
      case first =>
        have HI := Lib.hid (show inBox a b p = (decide (min a.x b.x ≤ p.x) && decide (p.x ≤ max a.x b.x) && decide (min a.y b.y ≤ p.y) && decide (p.y ≤ max a.y b.y)) from rfl)
        have hm1 : ∀ ts t w, (Builtin.min_ ts t #[.int .i64 a.x, .int .i64 b.x]).run Try.prog w = .ok (.int .i64 (min a.x b.x)) w := fun ts t w => by
          rw [run_min_int2]; congr 2; omega
        have hm2 : ∀ ts t w, (Builtin.max_ ts t #[.int .i64 a.x, .int .i64 b.x]).run Try.prog w = .ok (.int .i64 (max a.x b.x)) w := fun ts t w => by
          rw [run_max_int2]; congr 2; omega
        have hm3 : ∀ ts t w, (Builtin.min_ ts t #[.int .i64 a.y, .int .i64 b.y]).run Try.prog w = .ok (.int .i64 (min a.y b.y)) w := fun ts t w => by
          rw [run_min_int2]; congr 2; omega
        have hm4 : ∀ ts t w, (Builtin.max_ ts t #[.int .i64 a.y, .int .i64 b.y]).run Try.prog w = .ok (.int .i64 (max a.y b.y)) w := fun ts t w => by
          rw [run_max_int2]; congr 2; omega
        generalize min a.x b.x = m1 at *
        generalize max a.x b.x = m2 at *
        generalize min a.y b.y = m3 at *
        generalize max a.y b.y = m4 at *
        by_cases k1 : m1 ≤ p.x
        · by_cases k2 : p.x ≤ m2
          · by_cases k3 : m3 ≤ p.y
            · by_cases k4 : p.y ≤ m4
              · go_wp2_with fail
                go_meet
                exact ⟨congrArg Value.bool (by rw [HI.out]; simp [k1, k2, k3, k4]), rfl⟩
              · go_wp2_with fail
                go_meet
                exact ⟨congrArg Value.bool (by rw [HI.out]; simp; intros; omega), rfl⟩
            · go_wp2_with fail
              go_meet
              exact ⟨congrArg Value.bool (by rw [HI.out]; simp; intros; omega), rfl⟩
          · go_wp2_with fail
            go_meet
            exact ⟨congrArg Value.bool (by rw [HI.out]; simp; intros; omega), rfl⟩
        · go_wp2_with fail
          go_meet
          exact ⟨congrArg Value.bool (by rw [HI.out]; simp; intros; omega), rfl⟩
      case rest =>
        obtain ⟨rfl, rfl⟩ := hcut
        cases x1 : inBox a b p with
        | false =>
          have HE := Lib.hid (show false = R by rw [← HR1.out, x1]; rfl)
          clear x1
          go_wp2
          go_ret
          exact ⟨ret_bool HE.out, HB2.out⟩
        | true =>
          have HE := Lib.hid (show (crs a b p == 0) = R by rw [← HR1.out, x1]; simp; rfl)
          clear x1
          go_wp2_with fail
          refine (refcross_any a b p _ na nb n2).mono ?_
          rintro e w3 ⟨rfl, hb3⟩
          have HB3 := Lib.hid (HB2.out.trans (hb3.mono HB2.out.size))
          clear hb3 a0 a1 b0 b1 p0 p1
          go_wp2
          go_ret
          exact ⟨ret_bool HE.out, HB3.out⟩
end Go.Proofs.Ytlgmlgogpohgoaa.Geo
