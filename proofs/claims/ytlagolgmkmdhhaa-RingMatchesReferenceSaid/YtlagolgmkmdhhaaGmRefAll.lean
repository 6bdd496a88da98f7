/- Merged: GmRefKind, GmRefA, GmRefOn, GmMeetsNear, GmRefMeets. -/
import Derived.Test.YtlagolgmkmdhhaaGmShare
import Derived.Test.YtlagolgmkmdhhaaGmAcross
import Derived.Deep.CutRange
import Derived.Test.YtlagolgmkmdhhaaGmMeets
import Derived.BigQuiet
import Derived.Test.YtlagolgmkmdhhaaGmOwn
/- What the reference answers for two segments is the kind by which they meet. -/
namespace Go.Proofs.Ytlagolgmkmdhhaa.Geo
def comB (a b c d p : Pt) : Bool := holdsN a b p && holdsN c d p
def hasB (l : List Pt) (p : Pt) : Bool := l.any fun q => eqP q p
def addN (f : Pt → Bool) (l : List Pt) (p : Pt) : List Pt := if hasB l p then l else if f p then l ++ [p] else l
def foundN (f : Pt → Bool) (E : List Pt) : List Pt := E.foldl (addN f) []
theorem hasB_iff {l : List Pt} {p : Pt} : hasB l p = true ↔ p ∈ l := by
  unfold hasB
  rw [List.any_eq_true]
  constructor
  · rintro ⟨q, h1, h2⟩; exact eqP_iff.1 h2 ▸ h1
  · intro h; exact ⟨p, h, eqP_iff.2 rfl⟩
theorem mem_add {f : Pt → Bool} {l : List Pt} {p q : Pt} : q ∈ addN f l p ↔ q ∈ l ∨ (q = p ∧ f p = true) := by
  unfold addN
  by_cases h : hasB l p = true
  · rw [if_pos h]
    have hp := hasB_iff.1 h
    exact ⟨.inl, fun g => g.elim id fun ⟨e, _⟩ => e ▸ hp⟩
  · rw [if_neg h]
    by_cases g : f p = true
    · rw [if_pos g, List.mem_append, List.mem_singleton]; simp [g]
    · rw [if_neg g]; simp [g]
theorem nodup_add {f : Pt → Bool} {l : List Pt} {p : Pt} (h : l.Nodup) : (addN f l p).Nodup := by
  unfold addN
  by_cases g : hasB l p = true
  · rw [if_pos g]; exact h
  · rw [if_neg g]
    split
    · rw [List.nodup_append]
      refine ⟨h, by simp, fun x hx y hy e => ?_⟩
      rw [List.mem_singleton] at hy
      subst hy e
      exact g (hasB_iff.2 hx)
    · exact h
theorem found_go (f : Pt → Bool) : ∀ (E l : List Pt), (∀ x ∈ l, f x = true) → l.Nodup → (∀ q, q ∈ E.foldl (addN f) l ↔ q ∈ l ∨ (q ∈ E ∧ f q = true)) ∧ (E.foldl (addN f) l).Nodup := by
  intro E
  induction E with
  | nil => intro l _ hn; exact ⟨fun q => by simp, hn⟩
  | cons p E ih =>
    intro l hf hn
    have h1 : ∀ x ∈ addN f l p, f x = true := fun x hx => by
      rcases mem_add.1 hx with h | ⟨rfl, h⟩
      · exact hf x h
      · exact h
    obtain ⟨h2, h3⟩ := ih (addN f l p) h1 (nodup_add hn)
    refine ⟨fun q => ?_, h3⟩
    rw [List.foldl_cons, h2, mem_add, List.mem_cons]
    constructor
    · rintro ((h | ⟨rfl, h⟩) | ⟨h, g⟩)
      · exact .inl h
      · exact .inr ⟨.inl rfl, h⟩
      · exact .inr ⟨.inr h, g⟩
    · rintro (h | ⟨rfl | h, g⟩)
      · exact .inl (.inl h)
      · exact .inl (.inr ⟨rfl, g⟩)
      · exact .inr ⟨h, g⟩
theorem found_mem (f : Pt → Bool) (E : List Pt) (q : Pt) : q ∈ foundN f E ↔ q ∈ E ∧ f q = true := by
  have := (found_go f E [] (by simp) List.nodup_nil).1 q
  unfold foundN
  simpa using this
theorem found_nodup (f : Pt → Bool) (E : List Pt) : (foundN f E).Nodup := (found_go f E [] (by simp) List.nodup_nil).2
theorem add_len (f : Pt → Bool) (l : List Pt) (p : Pt) : (addN f l p).length ≤ l.length + 1 := by
  unfold addN
  split
  · omega
  · split
    · simp
    · omega
theorem found_len (f : Pt → Bool) : ∀ (E l : List Pt), (E.foldl (addN f) l).length ≤ l.length + E.length := by
  intro E
  induction E with
  | nil => intro l; simp
  | cons p E ih => intro l; have := ih (addN f l p); have := add_len f l p; simp only [List.foldl_cons, List.length_cons]; omega
theorem found_next {f : Pt → Bool} {E : List Pt} {k : Nat} {p : Pt} (h : E[k]? = some p) : foundN f (E.take (k + 1)) = addN f (foundN f (E.take k)) p := by
  obtain ⟨hk, rfl⟩ := List.getElem?_eq_some_iff.1 h
  unfold foundN
  rw [List.take_succ_eq_append_getElem hk, List.foldl_append]
  rfl
theorem has_next {l : List Pt} {m : Nat} {q p : Pt} (h : l[m]? = some q) : hasB (l.take (m + 1)) p = (hasB (l.take m) p || eqP q p) := by
  obtain ⟨hk, rfl⟩ := List.getElem?_eq_some_iff.1 h
  unfold hasB
  rw [List.take_succ_eq_append_getElem hk, List.any_append]
  simp
def smB (a b c d : Pt) : Bool := (eqP a c && eqP b d) || (eqP a d && eqP b c)
def restN (a b c d : Pt) (l : List Pt) : Int :=
  match l with
  | [] => if decide (sideN a b c * sideN a b d < 0) && decide (sideN c d a * sideN c d b < 0) then 3 else 0
  | [p] => atN a b c d p
  | _ :: _ :: _ => 5
def refN (a b c d : Pt) : Int := if smB a b c d then 4 else restN a b c d (foundN (comB a b c d) [a, b, c, d])
theorem comB_iff {a b c d p : Pt} : comB a b c d p = true ↔ Com a b c d p := by unfold comB Com; rw [Bool.and_eq_true]
theorem mem_ends {a b c d p : Pt} : p ∈ [a, b, c, d] ↔ End2 a b p ∨ End2 c d p := by simp [End2, or_assoc]
theorem ref_kind (a b c d : Pt) : Kind a b c d (refN a b c d) := by
  unfold refN
  by_cases hs : smB a b c d = true
  · rw [if_pos hs]
    refine .inl ⟨?_, rfl⟩
    unfold smB at hs
    simp only [Bool.or_eq_true, Bool.and_eq_true, eqP_iff] at hs
    exact hs
  · rw [if_neg hs]
    refine .inr ⟨fun h => hs ?_, ?_⟩
    · unfold smB
      simp only [Bool.or_eq_true, Bool.and_eq_true, eqP_iff]
      exact h
    · have hm := found_mem (comB a b c d) [a, b, c, d]
      have hn := found_nodup (comB a b c d) [a, b, c, d]
      generalize foundN (comB a b c d) [a, b, c, d] = l at *
      have hm' : ∀ q, q ∈ l ↔ (End2 a b q ∨ End2 c d q) ∧ Com a b c d q := fun q => by rw [hm q, mem_ends, comB_iff]
      match l, hn, hm' with
      | [], _, hm' =>
        have := apart_iff a b c d
        refine .inr (.inr ⟨fun p hp cp => by have := (hm' p).2 ⟨hp, cp⟩; simp at this, ?_⟩)
        unfold restN
        by_cases g : Apart a b c d
        · rw [if_pos (this.2 g)]; exact .inl ⟨g, rfl⟩
        · rw [if_neg (fun k => g (this.1 k))]; exact .inr ⟨g, rfl⟩
      | [p], _, hm' =>
        have hp := (hm' p).1 (by simp)
        exact .inr (.inl ⟨p, hp.1, hp.2, fun q hq cq => by have := (hm' q).2 ⟨hq, cq⟩; simpa using this, at_kind a b c d p⟩)
      | p :: q :: _, hn, hm' =>
        have hp := (hm' p).1 (by simp)
        have hq := (hm' q).1 (by simp)
        refine .inl ⟨⟨p, q, hp.1, hq.1, fun e => ?_, hp.2, hq.2⟩, rfl⟩
        subst e
        simp at hn
theorem ref_meets (a b c d : Pt) : refN a b c d = meetsN a b c d := (ref_kind a b c d).one (meets_kind a b c d)
end Go.Proofs.Ytlagolgmkmdhhaa.Geo
/- The reference's Segment, Orient, Distance, On, by contract. -/
namespace Go.Proofs.Ytlagolgmkmdhhaa.Geo
open Go.RowKit Go.Sort
set_option maxRecDepth 100000 in
set_option maxHeartbeats 1000000 in
theorem refsegment_any (a b : Pt) : Answers Try.prog 47 #[.agg #[.int .i64 a.x, .int .i64 a.y, .int .i64 b.x, .int .i64 b.y]] (.bool (nearB a && nearB b)) := by
  intro w
  have hA := Has2.made w 33 a b
  have HB := Lib.hid (alloc1 w (.cells #[.int .i64 a.x, .int .i64 a.y, .int .i64 b.x, .int .i64 b.y] 33))
  go_enter Try.func47, Try.ntmps47
  go_wp2_with fail
  generalize w.alloc (.cells #[.int .i64 a.x, .int .i64 a.y, .int .i64 b.x, .int .i64 b.y] 33) = W at *
  refine (is_any a _).mono ?_
  rintro e w1 ⟨rfl, hb1⟩
  have HB1 := Lib.hid (HB.out.trans (hb1.mono HB.out.size))
  have A1 := hA.below hb1
  clear hA hb1
  cases h1 : nearB a with
  | false =>
    go_wp2
    go_ret
    exact ⟨ret_bool (by rw [h1]; rfl), HB1.out⟩
  | true =>
    obtain ⟨a0, a1, b0, b1⟩ := has2_facts A1
    go_wp2_with fail
    refine (is_any b _).mono ?_
    rintro e w2 ⟨rfl, hb2⟩
    have HB2 := Lib.hid (HB1.out.trans (hb2.mono HB1.out.size))
    clear hb2 a0 a1 b0 b1
    go_wp2
    go_ret
    exact ⟨ret_bool (by rw [h1]; rfl), HB2.out⟩
set_option maxRecDepth 100000 in
set_option maxHeartbeats 1000000 in
theorem reforient_any (a b c : Pt) : Answers Try.prog 50 #[.agg #[.int .i64 a.x, .int .i64 a.y], .agg #[.int .i64 b.x, .int .i64 b.y], .agg #[.int .i64 c.x, .int .i64 c.y]] (.int .i64 (orientN a b c)) := by
  intro w
  obtain ⟨W, hW, hsz, hB, hA, hBb, hC⟩ := three w 24 a b c
  have HW := Lib.hid hW
  have HB := Lib.hid hB
  clear hW hB hsz
  obtain ⟨R, hR⟩ : ∃ R, orientN a b c = R := ⟨_, rfl⟩
  have HR := Lib.hid hR
  rw [hR]
  clear hR
  go_enter Try.func50, Try.ntmps50
  go_wp2_with fail
  rw [HW.out]
  refine (is_any a _).mono ?_
  rintro e w1 ⟨rfl, hb1⟩
  have HB1 := Lib.hid (HB.out.trans (hb1.mono HB.out.size))
  have A1 := hA.below hb1
  have B1 := hBb.below hb1
  have C1 := hC.below hb1
  clear hA hBb hC hb1
  cases n1 : nearB a with
  | false =>
    have HE := Lib.hid (show (0 : Int) = R by rw [← HR.out]; unfold orientN; rw [n1]; rfl)
    clear n1 A1 B1 C1
    go_wp2
    go_ret
    exact ⟨ret_int HE.out, HB1.out⟩
  | true =>
    obtain ⟨_, b0, b1⟩ := id B1
    go_wp2_with fail
    refine (is_any b _).mono ?_
    rintro e w2 ⟨rfl, hb2⟩
    have HB2 := Lib.hid (HB1.out.trans (hb2.mono HB1.out.size))
    have A2 := A1.below hb2
    have B2 := B1.below hb2
    have C2 := C1.below hb2
    clear A1 B1 C1 hb2 b0 b1
    cases n2 : nearB b with
    | false =>
      have HE := Lib.hid (show (0 : Int) = R by rw [← HR.out]; unfold orientN; rw [n1, n2]; rfl)
      clear n1 n2 A2 B2 C2
      go_wp2
      go_ret
      exact ⟨ret_int HE.out, HB2.out⟩
    | true =>
      obtain ⟨_, c0, c1⟩ := id C2
      go_wp2_with fail
      refine (is_any c _).mono ?_
      rintro e w3 ⟨rfl, hb3⟩
      have HB3 := Lib.hid (HB2.out.trans (hb3.mono HB2.out.size))
      have A3 := A2.below hb3
      have B3 := B2.below hb3
      have C3 := C2.below hb3
      clear A2 B2 C2 hb3 c0 c1
      cases n3 : nearB c with
      | false =>
        have HE := Lib.hid (show (0 : Int) = R by rw [← HR.out]; unfold orientN; rw [n1, n2, n3]; rfl)
        clear n1 n2 n3 A3 B3 C3
        go_wp2
        go_ret
        exact ⟨ret_int HE.out, HB3.out⟩
      | true =>
        have HE := Lib.hid (show sgn (crs a b c) = R by rw [← HR.out]; unfold orientN; rw [n1, n2, n3]; rfl)
        obtain ⟨_, a0, a1⟩ := A3
        obtain ⟨_, b0, b1⟩ := B3
        obtain ⟨_, c0, c1⟩ := C3
        go_wp2_with fail
        refine (refcross_any a b c _ n1 n2 n3).mono ?_
        rintro e w4 ⟨rfl, hb4⟩
        have HB4 := Lib.hid (HB3.out.trans (hb4.mono HB3.out.size))
        clear hb4 a0 a1 b0 b1 c0 c1
        go_wp2_with fail
        refine (sign_any _ _).mono ?_
        rintro e w5 ⟨rfl, rfl⟩
        go_wp2
        go_ret
        exact ⟨ret_int HE.out, HB4.out⟩
theorem dist_wrap {a b : Pt} (ha : nearB a = true) (hb : nearB b = true) :
    wrap64 (wrap64 (wrap64 (a.x - b.x) * wrap64 (a.x - b.x)) + wrap64 (wrap64 (a.y - b.y) * wrap64 (a.y - b.y))) = sqN a b := by
  have := dt_wrap hb ha ha
  rw [this]
  unfold sqN dt
  grind
end Go.Proofs.Ytlagolgmkmdhhaa.Geo
/- The reference's On, by contract. -/
namespace Go.Proofs.Ytlagolgmkmdhhaa.Geo
open Go.RowKit Go.Sort
def inBox (a b p : Pt) : Bool := decide (min a.x b.x ≤ p.x) && decide (p.x ≤ max a.x b.x) && decide (min a.y b.y ≤ p.y) && decide (p.y ≤ max a.y b.y)
theorem on_box (a b p : Pt) : (inBox a b p && decide (crs a b p = 0)) = holdsN a b p := by
  rw [Bool.eq_iff_iff]
  unfold inBox holdsN
  simp only [Bool.and_eq_true, decide_eq_true_iff]
  constructor
  · rintro ⟨⟨⟨⟨h1, h2⟩, h3⟩, h4⟩, hc⟩
    exact ⟨hc, (box hc).2 ⟨h1, h2, h3, h4⟩⟩
  · rintro ⟨hc, hd⟩
    have := (box hc).1 hd
    exact ⟨⟨⟨⟨this.1, this.2.1⟩, this.2.2.1⟩, this.2.2.2⟩, hc⟩
set_option maxRecDepth 100000 in
set_option maxHeartbeats 2000000 in
theorem refon_any (a b p : Pt) : Answers Try.prog 48 #[.agg #[.int .i64 a.x, .int .i64 a.y, .int .i64 b.x, .int .i64 b.y], .agg #[.int .i64 p.x, .int .i64 p.y]] (.bool (onN a b p)) := by
  intro w
  obtain ⟨W, hW, hsz, hB, hA, hP⟩ := segpt w 33 24 a b p
  have HW := Lib.hid hW
  have HB := Lib.hid hB
  have HA := Lib.hid hA
  have HP := Lib.hid hP
  clear hW hB hsz
  obtain ⟨a0, a1, b0, b1⟩ := has2_facts hA
  clear hA hP
  obtain ⟨R, hR⟩ : ∃ R, onN a b p = R := ⟨_, rfl⟩
  have HR := Lib.hid hR
  rw [hR]
  clear hR
  go_enter Try.func48, Try.ntmps48
  go_wp2_with fail
  rw [HW.out]
  refine (refsegment_any a b _).mono ?_
  rintro e w1 ⟨rfl, hb1⟩
  have HB1 := Lib.hid (HB.out.trans (hb1.mono HB.out.size))
  have A1 := Lib.hid (HA.out.below hb1)
  have P1 := Lib.hid (HP.out.below hb1)
  clear hb1 a0 a1 b0 b1 HA HP
  cases n1 : (nearB a && nearB b) with
  | false =>
    have HE := Lib.hid (show false = R by rw [← HR.out]; unfold onN; rw [n1]; rfl)
    clear n1
    go_wp2
    go_ret
    exact ⟨ret_bool HE.out, HB1.out⟩
  | true =>
    obtain ⟨_, p0, p1⟩ := id P1.out
    go_wp2_with fail
    refine (is_any p _).mono ?_
    rintro e w2 ⟨rfl, hb2⟩
    have HB2 := Lib.hid (HB1.out.trans (hb2.mono HB1.out.size))
    have A2 := Lib.hid (A1.out.below hb2)
    have P2 := Lib.hid (P1.out.below hb2)
    clear hb2 p0 p1 A1 P1
    cases n2 : nearB p with
    | false =>
      have HE := Lib.hid (show false = R by rw [← HR.out]; unfold onN; rw [n1, n2]; rfl)
      clear n1 n2
      go_wp2
      go_ret
      exact ⟨ret_bool HE.out, HB2.out⟩
    | true =>
      have HR1 := Lib.hid (show (inBox a b p && decide (crs a b p = 0)) = R by rw [on_box, ← HR.out]; unfold onN; rw [n1, n2]; rfl)
      obtain ⟨na, nb⟩ : nearB a = true ∧ nearB b = true := by simpa using n1
      clear n1
      obtain ⟨a0, a1, b0, b1⟩ := has2_facts A2.out
      obtain ⟨p0, p1⟩ := (show _ ∧ _ from ⟨P2.out.2.1, P2.out.2.2⟩)
      go_upto_region 3 with fail
      go_cut [5] from 14 to 59 (fun s wx => s = .bool (inBox a b p) ∧ wx = w2)
      case first =>
        have HI := Lib.hid (show inBox a b p = (decide (min a.x b.x ≤ p.x) && decide (p.x ≤ max a.x b.x) && decide (min a.y b.y ≤ p.y) && decide (p.y ≤ max a.y b.y)) from rfl)
        have hm1 : ∀ ts t w, (Builtin.min_ ts t #[.int .i64 a.x, .int .i64 b.x]).run Try.prog w = .ok (.int .i64 (min a.x b.x)) w := fun ts t w => by
          rw [run_min_int2]; congr 2; omega
        have hm2 : ∀ ts t w, (Builtin.max_ ts t #[.int .i64 a.x, .int .i64 b.x]).run Try.prog w = .ok (.int .i64 (max a.x b.x)) w := fun ts t w => by
          rw [run_max_int2]; congr 2; omega
        have hm3 : ∀ ts t w, (Builtin.min_ ts t #[.int .i64 a.y, .int .i64 b.y]).run Try.prog w = .ok (.int .i64 (min a.y b.y)) w := fun ts t w => by
          rw [run_min_int2]; congr 2; omega
        have hm4 : ∀ ts t w, (Builtin.max_ ts t #[.int .i64 a.y, .int .i64 b.y]).run Try.prog w = .ok (.int .i64 (max a.y b.y)) w := fun ts t w => by
          rw [run_max_int2]; congr 2; omega
        generalize min a.x b.x = m1 at *
        generalize max a.x b.x = m2 at *
        generalize min a.y b.y = m3 at *
        generalize max a.y b.y = m4 at *
        by_cases k1 : m1 ≤ p.x
        · by_cases k2 : p.x ≤ m2
          · by_cases k3 : m3 ≤ p.y
            · by_cases k4 : p.y ≤ m4
              · go_wp2_with fail
                go_meet
                exact ⟨congrArg Value.bool (by rw [HI.out]; simp [k1, k2, k3, k4]), rfl⟩
              · go_wp2_with fail
                go_meet
                exact ⟨congrArg Value.bool (by rw [HI.out]; simp; intros; omega), rfl⟩
            · go_wp2_with fail
              go_meet
              exact ⟨congrArg Value.bool (by rw [HI.out]; simp; intros; omega), rfl⟩
          · go_wp2_with fail
            go_meet
            exact ⟨congrArg Value.bool (by rw [HI.out]; simp; intros; omega), rfl⟩
        · go_wp2_with fail
          go_meet
          exact ⟨congrArg Value.bool (by rw [HI.out]; simp; intros; omega), rfl⟩
      case rest =>
        obtain ⟨rfl, rfl⟩ := hcut
        cases x1 : inBox a b p with
        | false =>
          have HE := Lib.hid (show false = R by rw [← HR1.out, x1]; rfl)
          clear x1
          go_wp2
          go_ret
          exact ⟨ret_bool HE.out, HB2.out⟩
        | true =>
          have HE := Lib.hid (show (crs a b p == 0) = R by rw [← HR1.out, x1]; simp; rfl)
          clear x1
          go_wp2_with fail
          refine (refcross_any a b p _ na nb n2).mono ?_
          rintro e w3 ⟨rfl, hb3⟩
          have HB3 := Lib.hid (HB2.out.trans (hb3.mono HB2.out.size))
          clear hb3 a0 a1 b0 b1 p0 p1
          go_wp2
          go_ret
          exact ⟨ret_bool HE.out, HB3.out⟩
end Go.Proofs.Ytlagolgmkmdhhaa.Geo
/- geom.Meets of near segments, and of others. -/
namespace Go.Proofs.Ytlagolgmkmdhhaa.Geo
open Go.RowKit Go.Sort
theorem meets_near {a b c d : Pt} {k : Int} (na : nearB a = true) (nb : nearB b = true) (nc : nearB c = true) (nd : nearB d = true) (hk : meetsN a b c d = k) :
    Answers Try.prog 24 #[.agg #[.int .i64 a.x, .int .i64 a.y, .int .i64 b.x, .int .i64 b.y], .agg #[.int .i64 c.x, .int .i64 c.y, .int .i64 d.x, .int .i64 d.y]] (.int .i64 k) :=
  (meets_any a b c d).to (congrArg (Value.int .i64) (by unfold meetsF; rw [na, nb, nc, nd, ← hk]; rfl))
theorem meets_far {a b c d : Pt} (h : (nearB a && nearB b && nearB c && nearB d) = false) :
    Answers Try.prog 24 #[.agg #[.int .i64 a.x, .int .i64 a.y, .int .i64 b.x, .int .i64 b.y], .agg #[.int .i64 c.x, .int .i64 c.y, .int .i64 d.x, .int .i64 d.y]] (.int .i64 0) :=
  (meets_any a b c d).to (congrArg (Value.int .i64) (by unfold meetsF; rw [h]; rfl))
end Go.Proofs.Ytlagolgmkmdhhaa.Geo
/- The reference's Meets, by contract. -/
namespace Go.Proofs.Ytlagolgmkmdhhaa.Geo
open Go.RowKit Go.Sort
theorem below_drewN {B : Nat} {w w' : World} (h : Hid (Below B w w')) (n : Nat) : Hid (Below B w (w'.drewN n)) := h.out.trans ⟨rfl, rfl, rfl, Nat.le_refl _, fun _ _ => rfl⟩
theorem eqB (p q : Pt) : eqP p q = ((p.x == q.x) && (p.y == q.y)) := by unfold eqP; rw [Bool.eq_iff_iff]; simp
theorem reforient_near {a b c : Pt} {k : Int} (na : nearB a = true) (nb : nearB b = true) (nc : nearB c = true) (hk : sideN a b c = k) :
    Answers Try.prog 50 #[.agg #[.int .i64 a.x, .int .i64 a.y], .agg #[.int .i64 b.x, .int .i64 b.y], .agg #[.int .i64 c.x, .int .i64 c.y]] (.int .i64 k) :=
  (reforient_any a b c).to (congrArg (Value.int .i64) (by unfold orientN; rw [na, nb, nc, ← hk]; rfl))
theorem refon_near {a b p : Pt} {o : Bool} (na : nearB a = true) (nb : nearB b = true) (np : nearB p = true) (hk : holdsN a b p = o) :
    Answers Try.prog 48 #[.agg #[.int .i64 a.x, .int .i64 a.y, .int .i64 b.x, .int .i64 b.y], .agg #[.int .i64 p.x, .int .i64 p.y]] (.bool o) :=
  (refon_any a b p).to (congrArg Value.bool (by unfold onN; rw [na, nb, np, ← hk]; rfl))
set_option maxRecDepth 100000 in
set_option maxHeartbeats 4000000 in
theorem refmeets_any (a b c d : Pt) : Answers Try.prog 25 #[.agg #[.int .i64 a.x, .int .i64 a.y, .int .i64 b.x, .int .i64 b.y], .agg #[.int .i64 c.x, .int .i64 c.y, .int .i64 d.x, .int .i64 d.y]] (.int .i64 (meetsF a b c d)) := by
  intro w
  obtain ⟨W, hW, hsz, hB, hA, hC⟩ := segseg w 33 33 a b c d
  have HW := Lib.hid hW
  have HB := Lib.hid hB
  have HA := Lib.hid hA
  have HC := Lib.hid hC
  clear hW hB hsz
  obtain ⟨a0, a1, b0, b1⟩ := has2_facts hA
  clear hA hC
  obtain ⟨R, hR⟩ : ∃ R, meetsF a b c d = R := ⟨_, rfl⟩
  have HR := Lib.hid hR
  rw [hR]
  clear hR
  go_enter Try.func25, Try.ntmps25
  go_wp2_with fail
  rw [HW.out]
  refine (refsegment_any a b _).mono ?_
  rintro e w1 ⟨rfl, hb1⟩
  have HB1 := Lib.hid (HB.out.trans (hb1.mono HB.out.size))
  have A1 := Lib.hid (HA.out.below hb1)
  have C1 := Lib.hid (HC.out.below hb1)
  clear hb1 a0 a1 b0 b1 HA HC HB HW
  cases n1 : (nearB a && nearB b) with
  | false =>
    have HE := Lib.hid (show (0 : Int) = R by rw [← HR.out]; unfold meetsF; rw [n1]; rfl)
    clear n1
    go_wp2
    go_ret
    exact ⟨ret_int HE.out, HB1.out⟩
  | true =>
    obtain ⟨c0, c1, d0, d1⟩ := has2_facts C1.out
    go_wp2_with fail
    refine (refsegment_any c d _).mono ?_
    rintro e w2 ⟨rfl, hb2⟩
    have HB2 := Lib.hid (HB1.out.trans (hb2.mono HB1.out.size))
    have A2 := Lib.hid (A1.out.below hb2)
    have C2 := Lib.hid (C1.out.below hb2)
    clear hb2 c0 c1 d0 d1 A1 C1
    cases n2 : (nearB c && nearB d) with
    | false =>
      have HE := Lib.hid (show (0 : Int) = R by rw [← HR.out]; unfold meetsF; rw [Bool.and_assoc (nearB a && nearB b), n2, Bool.and_false]; rfl)
      clear n1 n2
      go_wp2
      go_ret
      exact ⟨ret_int HE.out, HB2.out⟩
    | true =>
      obtain ⟨na, nb⟩ : nearB a = true ∧ nearB b = true := by simpa using n1
      obtain ⟨nc, nd⟩ : nearB c = true ∧ nearB d = true := by simpa using n2
      have HR1 := Lib.hid (show (if smB a b c d then (4 : Int) else restN a b c d (foundN (comB a b c d) [a, b, c, d])) = R by
        rw [← HR.out]; unfold meetsF; rw [na, nb, nc, nd]; exact ref_meets a b c d)
      clear n1 n2 HR
      obtain ⟨a0, a1, b0, b1⟩ := has2_facts A2.out
      obtain ⟨c0, c1, d0, d1⟩ := has2_facts C2.out
      go_upto_region 3 with fail
      go_cut [34] from 18 to 33 (fun s wx => s = .bool (smB a b c d) ∧ wx = w2)
      case first =>
        have hS : smB a b c d = ((eqP a c && eqP b d) || (eqP a d && eqP b c)) := rfl
        have HS := Lib.hid hS
        clear hS
        cases g1 : (a.x == c.x) with
        | false =>
          cases g5 : (a.x == d.x) with
          | false =>
            go_wp2_with fail
            go_meet
            exact ⟨congrArg Value.bool (by rw [HS.out]; simp [eqB, g1, g5]), rfl⟩
          | true =>
            cases g6 : (a.y == d.y) with
            | false =>
              go_wp2_with fail
              go_meet
              exact ⟨congrArg Value.bool (by rw [HS.out]; simp [eqB, g1, g5, g6]), rfl⟩
            | true =>
              cases g7 : (b.x == c.x) with
              | false =>
                go_wp2_with fail
                go_meet
                exact ⟨congrArg Value.bool (by rw [HS.out]; simp [eqB, g1, g5, g6, g7]), rfl⟩
              | true =>
                cases g8 : (b.y == c.y) with
                | false =>
                  go_wp2_with fail
                  go_meet
                  exact ⟨congrArg Value.bool (by rw [HS.out]; simp [eqB, g1, g5, g6, g7, g8]), rfl⟩
                | true =>
                  go_wp2_with fail
                  go_meet
                  exact ⟨congrArg Value.bool (by rw [HS.out]; simp [eqB, g1, g5, g6, g7, g8]), rfl⟩
        | true =>
          cases g2 : (a.y == c.y) with
          | false =>
            cases g5 : (a.x == d.x) with
            | false =>
              go_wp2_with fail
              go_meet
              exact ⟨congrArg Value.bool (by rw [HS.out]; simp [eqB, g1, g2, g5]), rfl⟩
            | true =>
              cases g6 : (a.y == d.y) with
              | false =>
                go_wp2_with fail
                go_meet
                exact ⟨congrArg Value.bool (by rw [HS.out]; simp [eqB, g1, g2, g5, g6]), rfl⟩
              | true =>
                cases g7 : (b.x == c.x) with
                | false =>
                  go_wp2_with fail
                  go_meet
                  exact ⟨congrArg Value.bool (by rw [HS.out]; simp [eqB, g1, g2, g5, g6, g7]), rfl⟩
                | true =>
                  cases g8 : (b.y == c.y) with
                  | false =>
                    go_wp2_with fail
                    go_meet
                    exact ⟨congrArg Value.bool (by rw [HS.out]; simp [eqB, g1, g2, g5, g6, g7, g8]), rfl⟩
                  | true =>
                    go_wp2_with fail
                    go_meet
                    exact ⟨congrArg Value.bool (by rw [HS.out]; simp [eqB, g1, g2, g5, g6, g7, g8]), rfl⟩
          | true =>
            cases g3 : (b.x == d.x) with
            | false =>
              cases g5 : (a.x == d.x) with
              | false =>
                go_wp2_with fail
                go_meet
                exact ⟨congrArg Value.bool (by rw [HS.out]; simp [eqB, g1, g2, g3, g5]), rfl⟩
              | true =>
                cases g6 : (a.y == d.y) with
                | false =>
                  go_wp2_with fail
                  go_meet
                  exact ⟨congrArg Value.bool (by rw [HS.out]; simp [eqB, g1, g2, g3, g5, g6]), rfl⟩
                | true =>
                  cases g7 : (b.x == c.x) with
                  | false =>
                    go_wp2_with fail
                    go_meet
                    exact ⟨congrArg Value.bool (by rw [HS.out]; simp [eqB, g1, g2, g3, g5, g6, g7]), rfl⟩
                  | true =>
                    cases g8 : (b.y == c.y) with
                    | false =>
                      go_wp2_with fail
                      go_meet
                      exact ⟨congrArg Value.bool (by rw [HS.out]; simp [eqB, g1, g2, g3, g5, g6, g7, g8]), rfl⟩
                    | true =>
                      go_wp2_with fail
                      go_meet
                      exact ⟨congrArg Value.bool (by rw [HS.out]; simp [eqB, g1, g2, g3, g5, g6, g7, g8]), rfl⟩
            | true =>
              cases g4 : (b.y == d.y) with
              | false =>
                cases g5 : (a.x == d.x) with
                | false =>
                  go_wp2_with fail
                  go_meet
                  exact ⟨congrArg Value.bool (by rw [HS.out]; simp [eqB, g1, g2, g3, g4, g5]), rfl⟩
                | true =>
                  cases g6 : (a.y == d.y) with
                  | false =>
                    go_wp2_with fail
                    go_meet
                    exact ⟨congrArg Value.bool (by rw [HS.out]; simp [eqB, g1, g2, g3, g4, g5, g6]), rfl⟩
                  | true =>
                    cases g7 : (b.x == c.x) with
                    | false =>
                      go_wp2_with fail
                      go_meet
                      exact ⟨congrArg Value.bool (by rw [HS.out]; simp [eqB, g1, g2, g3, g4, g5, g6, g7]), rfl⟩
                    | true =>
                      cases g8 : (b.y == c.y) with
                      | false =>
                        go_wp2_with fail
                        go_meet
                        exact ⟨congrArg Value.bool (by rw [HS.out]; simp [eqB, g1, g2, g3, g4, g5, g6, g7, g8]), rfl⟩
                      | true =>
                        go_wp2_with fail
                        go_meet
                        exact ⟨congrArg Value.bool (by rw [HS.out]; simp [eqB, g1, g2, g3, g4, g5, g6, g7, g8]), rfl⟩
              | true =>
                go_wp2_with fail
                go_meet
                exact ⟨congrArg Value.bool (by rw [HS.out]; simp [eqB, g1, g2, g3, g4]), rfl⟩
      case rest =>
        obtain ⟨rfl, rfl⟩ := hcut
        cases x1 : smB a b c d with
        | true =>
          have HE := Lib.hid (show (4 : Int) = R by rw [← HR1.out, if_pos x1])
          clear x1
          go_wp2
          go_ret
          exact ⟨ret_int HE.out, HB2.out⟩
        | false =>
          have HR2 := Lib.hid (show restN a b c d (foundN (comB a b c d) [a, b, c, d]) = R by have h := HR1.out; rw [if_neg (by rw [x1]; decide)] at h; exact h)
          clear x1 HR1
          obtain ⟨x, hx⟩ : ∃ x, wc.alloc (.cells #[.int .i64 a.x, .int .i64 a.y, .int .i64 b.x, .int .i64 b.y, .int .i64 c.x, .int .i64 c.y, .int .i64 d.x, .int .i64 d.y] 24) = x := ⟨_, rfl⟩
          have HE0 := Lib.hid (show IsRow x wc.heap.size 24 (flat [a, b, c, d]).toArray from hx ▸ IsRow.made wc _ _)
          have HBx := Lib.hid (show Below wc.heap.size wc x from hx ▸ alloc1 wc _)
          have HBw := Lib.hid (HB2.out.trans (HBx.out.mono HB2.out.size))
          have AX := Lib.hid (A2.out.below HBx.out)
          have CX := Lib.hid (C2.out.below HBx.out)
          go_upto_region 8 with fail
          clear hx a0 a1 b0 b1 c0 c1 d0 d1 A2 C2 HBx
          have hnear : ∀ p ∈ [a, b, c, d], nearB p = true := by
            intro p hp
            simp at hp
            rcases hp with rfl | rfl | rfl | rfl <;> assumption
          have HN := Lib.hid hnear
          clear hnear
          go_loopw [6, 7] (fun v i wr => ∃ k : Nat, k ≤ 4 ∧ i = .int .i64 k ∧ Hid (OwnP wr x.heap.size v (foundN (comB a b c d) ([a, b, c, d].take k))) ∧ Hid (Below x.heap.size x wr)) (fun _ i _ => 4 - (intOf i).toNat)
          case atStart => exact ⟨0, by omega, rfl, Lib.hid (OwnP.nil _ _), Lib.hid (Below.refl _ _)⟩
          case round =>
            obtain ⟨k, hk, rfl, hown, hb⟩ := hrel
            obtain ⟨l, hl⟩ : ∃ l, foundN (comB a b c d) ([a, b, c, d].take k) = l := ⟨_, rfl⟩
            have hlen : l.length ≤ 4 := by
              have := found_len (comB a b c d) ([a, b, c, d].take k) []
              rw [show ([a, b, c, d].take k).foldl (addN (comB a b c d)) [] = l from hl, List.length_take] at this
              simp at this
              omega
            rw [hl] at hown
            obtain ⟨ad, cap, rfl, hsh⟩ := hown.out.shape
            have HSH := Lib.hid hsh
            clear hsh
            by_cases hlt : k < 4
            · obtain ⟨p, hp⟩ : ∃ p, [a, b, c, d][k]? = some p := ⟨_, List.getElem?_eq_getElem hlt⟩
              have HNX := Lib.hid (show foundN (comB a b c d) ([a, b, c, d].take (k + 1)) = addN (comB a b c d) l p by rw [found_next hp, hl])
              have hnp := HN.out p (List.mem_of_getElem? hp)
              have HP := Lib.hid hp
              clear hp hl
              go_wp2
              go_loopw [8, 9] (fun tw j wr2 => ∃ m : Nat, m ≤ l.length ∧ j = .int .i64 m ∧ tw = .bool (hasB (l.take m) p) ∧ Hid (Below wr.heap.size wr wr2)) (fun _ j _ => l.length - (intOf j).toNat)
              case atStart => exact ⟨0, by omega, rfl, rfl, Lib.hid (Below.refl _ _)⟩
              case round =>
                obtain ⟨m, hm, rfl, rfl, hb2⟩ := hrel
                by_cases hmlt : m < l.length
                · obtain ⟨g, rfl, _, hgl, hcell⟩ := HSH.out (by omega)
                  obtain ⟨q, hq⟩ : ∃ q, l[m]? = some q := ⟨_, List.getElem?_eq_getElem hmlt⟩
                  obtain ⟨c0, c1⟩ := hcell m q hq
                  have r0 := kept hb2.out c0
                  have r1 := kept hb2.out c1
                  have hE := flat_cell (HE0.out.below (hb.out.trans (hb2.out.mono hb.out.size)) HE0.out.inside) HP.out
                  obtain ⟨p0, p1⟩ := hE
                  have HX := Lib.hid (has_next (p := p) hq)
                  have i1 : (m : Int) < (l.length : Int) := by omega
                  have i2 : (0 : Int) ≤ (m : Int) := by omega
                  have i3 : (k : Int) < 4 := by omega
                  have i4 : (0 : Int) ≤ (k : Int) := by omega
                  clear c0 c1 hcell hq
                  cases tw : hasB (l.take m) p with
                  | true =>
                    go_wp2_with fail
                    go_quiet (fail)
                    go_wp2
                    go_roundw
                    case rel => exact ⟨m + 1, by omega, by go_num, congrArg Value.bool (by rw [HX.out, tw]; rfl), below_drewN hb2 _⟩
                    case measure => simp [intOf]; omega
                  | false =>
                    rcases cases3 q p with rfl | ⟨e1, k1⟩ | ⟨e1, k1, k2⟩
                    · go_wp2_with fail
                      go_quiet (fail)
                      go_wp2
                      go_roundw
                      case rel => exact ⟨m + 1, by omega, by go_num, congrArg Value.bool (by rw [HX.out, tw]; rw [eqP_self]; rfl), below_drewN hb2 _⟩
                      case measure => simp [intOf]; omega
                    · go_wp2_with fail
                      go_quiet (fail)
                      go_wp2
                      go_roundw
                      case rel => exact ⟨m + 1, by omega, by go_num, congrArg Value.bool (by rw [HX.out, tw]; rw [e1]; rfl), below_drewN hb2 _⟩
                      case measure => simp [intOf]; omega
                    · have k3 : (q.x == p.x) = true := by simpa using k1
                      clear k1
                      go_wp2_with fail
                      go_quiet (fail)
                      go_wp2
                      go_roundw
                      case rel => exact ⟨m + 1, by omega, by go_num, congrArg Value.bool (by rw [HX.out, tw]; rw [e1]; rfl), below_drewN hb2 _⟩
                      case measure => simp [intOf]; omega
                · obtain rfl : m = l.length := by omega
                  rw [List.take_length]
                  have hb3 := Lib.hid (hb.out.trans (hb2.out.mono hb.out.size))
                  have own3 := Lib.hid (hown.out.below hb2.out)
                  have A3 := Lib.hid (AX.out.below hb3.out)
                  have C3 := Lib.hid (CX.out.below hb3.out)
                  have E3 := Lib.hid (HE0.out.below hb3.out HE0.out.inside)
                  clear hb hb2 hown
                  obtain ⟨a0, a1, b0, b1⟩ := has2_facts A3.out
                  obtain ⟨c0, c1, d0, d1⟩ := has2_facts C3.out
                  obtain ⟨p0, p1⟩ := flat_cell E3.out HP.out
                  have g0 := cell_regrown a0
                  have g1 := cell_regrown a1
                  have g2 := cell_regrown b0
                  have g3 := cell_regrown b1
                  have g4 := cell_regrown c0
                  have g5 := cell_regrown c1
                  have g6 := cell_regrown d0
                  have g7 := cell_regrown d1
                  have g8 := cell_regrown p0
                  have g9 := cell_regrown p1
                  obtain ⟨X1, hX1⟩ : ∃ o, holdsN a b p = o := ⟨_, rfl⟩
                  obtain ⟨X2, hX2⟩ : ∃ o, holdsN c d p = o := ⟨_, rfl⟩
                  have q1 := (refon_near na nb hnp hX1).quiet wr
                  have q2 := (refon_near nc nd hnp hX2).quiet wr
                  have HF := Lib.hid (show comB a b c d p = (X1 && X2) by unfold comB; rw [hX1, hX2])
                  clear hX1 hX2
                  have i3 : (k : Int) < 4 := by omega
                  have i4 : (0 : Int) ≤ (k : Int) := by omega
                  cases tw : hasB l p with
                  | true =>
                    go_wp2_with fail
                    refine wp_region_quiet_below (by kernel_rfl) (by kernel_rfl) ?_
                    repeat (go_big_quiet_step (first | with_reducible exact q1 _ _ | with_reducible exact q2 _ _))
                    refine wpQuiet_nil ?_
                    intro _ hw'
                    obtain ⟨⟨dq, osq⟩, hw''⟩ := hw'
                    subst hw''
                    go_wp2
                    go_roundw
                    case rel => exact ⟨k + 1, by omega, by go_num, Lib.hid (by rw [HNX.out]; unfold addN; rw [if_pos tw]; exact (own3.out.below (below_regrown wr dq osq))), Lib.hid (hb3.out.trans ((below_regrown wr dq osq).mono hb3.out.size))⟩
                    case measure => simp [intOf]; omega
                  | false =>
                    cases X1 with
                    | false =>
                      go_wp2_with fail
                      refine wp_region_quiet_below (by kernel_rfl) (by kernel_rfl) ?_
                      repeat (go_big_quiet_step (first | with_reducible exact q1 _ _ | with_reducible exact q2 _ _))
                      refine wpQuiet_nil ?_
                      intro _ hw'
                      obtain ⟨⟨dq, osq⟩, hw''⟩ := hw'
                      subst hw''
                      go_wp2
                      go_roundw
                      case rel => exact ⟨k + 1, by omega, by go_num, Lib.hid (by rw [HNX.out]; unfold addN; rw [if_neg (by rw [tw]; decide), if_neg (by rw [HF.out]; simp)]; exact (own3.out.below (below_regrown wr dq osq))), Lib.hid (hb3.out.trans ((below_regrown wr dq osq).mono hb3.out.size))⟩
                      case measure => simp [intOf]; omega
                    | true =>
                      cases X2 with
                      | false =>
                        go_wp2_with fail
                        refine wp_region_quiet_below (by kernel_rfl) (by kernel_rfl) ?_
                        repeat (go_big_quiet_step (first | with_reducible exact q1 _ _ | with_reducible exact q2 _ _))
                        refine wpQuiet_nil ?_
                        intro _ hw'
                        obtain ⟨⟨dq, osq⟩, hw''⟩ := hw'
                        subst hw''
                        go_wp2
                        go_roundw
                        case rel => exact ⟨k + 1, by omega, by go_num, Lib.hid (by rw [HNX.out]; unfold addN; rw [if_neg (by rw [tw]; decide), if_neg (by rw [HF.out]; simp)]; exact (own3.out.below (below_regrown wr dq osq))), Lib.hid (hb3.out.trans ((below_regrown wr dq osq).mono hb3.out.size))⟩
                        case measure => simp [intOf]; omega
                      | true =>
                        go_wp2_with fail
                        refine wp_region_quiet_below (by kernel_rfl) (by kernel_rfl) ?_
                        repeat (go_big_quiet_step (first | with_reducible exact q1 _ _ | with_reducible exact q2 _ _))
                        refine wpQuiet_nil ?_
                        intro _ hw'
                        obtain ⟨⟨dq, osq⟩, hw''⟩ := hw'
                        subst hw''
                        have hb4 := below_regrown wr dq osq
                        generalize grow (redrawn wr dq) osq = w4 at *
                        have own4 := Lib.hid (own3.out.below hb4)
                        have E4 := Lib.hid (E3.out.below hb4 E3.out.inside)
                        have HB4 := Lib.hid (hb3.out.trans (hb4.mono hb3.out.size))
                        clear a0 a1 b0 b1 c0 c1 d0 d1 p0 p1 g0 g1 g2 g3 g4 g5 g6 g7 g8 g9 q1 q2 hb4
                        obtain ⟨p0, p1⟩ := flat_cell E4.out HP.out
                        go_wp2_with (at_builtin; refine wpList_appP rfl _ _ (by rfl) x.heap.size _ l p w4.heap.size (by rfl) (own4.out.below (alloc1 w4 _)) (by rfl) (Has.made w4 _ p) (by omega) (Nat.le_trans HB4.out.size (alloc1 w4 _).size) ?_; intro v5 w5 ho5 hg5 hlt5)
                        have HB5 := Lib.hid ((HB4.out.trans ((alloc1 w4 _).mono HB4.out.size)).grown hg5 (Nat.le_trans HB4.out.size (alloc1 w4 _).size) (fun k hk => (hlt5 k hk).1))
                        go_roundw
                        case rel => exact ⟨k + 1, by omega, by go_num, Lib.hid (by rw [HNX.out]; unfold addN; rw [if_neg (by rw [tw]; decide), if_pos (by rw [HF.out]; rfl)]; exact ho5), HB5⟩
                        case measure => simp [intOf]; omega
            · obtain rfl : k = 4 := by omega
              have HL := Lib.hid (show restN a b c d l = R by rw [← HR2.out, ← hl]; rfl)
              clear hl HN HR2 HE0
              have A3 := Lib.hid (AX.out.below hb.out)
              have C3 := Lib.hid (CX.out.below hb.out)
              have HB3 := Lib.hid (HBw.out.trans (hb.out.mono HBw.out.size))
              clear AX CX HBw hb
              match l, hlen with
              | [], _ =>
                obtain ⟨a0, a1, b0, b1⟩ := has2_facts A3.out
                obtain ⟨c0, c1, d0, d1⟩ := has2_facts C3.out
                have g0 := cell_regrown a0
                have g1 := cell_regrown a1
                have g2 := cell_regrown b0
                have g3 := cell_regrown b1
                have g4 := cell_regrown c0
                have g5 := cell_regrown c1
                have g6 := cell_regrown d0
                have g7 := cell_regrown d1
                obtain ⟨s1, hs1⟩ : ∃ x, sideN a b c = x := ⟨_, rfl⟩
                obtain ⟨s2, hs2⟩ : ∃ x, sideN a b d = x := ⟨_, rfl⟩
                obtain ⟨s3, hs3⟩ : ∃ x, sideN c d a = x := ⟨_, rfl⟩
                obtain ⟨s4, hs4⟩ : ∃ x, sideN c d b = x := ⟨_, rfl⟩
                obtain ⟨m1, hm1⟩ : ∃ x, s1 * s2 = x := ⟨_, rfl⟩
                obtain ⟨m2, hm2⟩ : ∃ x, s3 * s4 = x := ⟨_, rfl⟩
                have q1 := (reforient_near na nb nc hs1).quiet wr
                have q2 := (reforient_near na nb nd hs2).quiet wr
                have q3 := (reforient_near nc nd na hs3).quiet wr
                have q4 := (reforient_near nc nd nb hs4).quiet wr
                have hw1 : IntKind.i64.wrap (s1 * s2) = m1 := by rw [← hm1, ← hs1, ← hs2]; exact side_mul'
                have hw2 : IntKind.i64.wrap (s3 * s4) = m2 := by rw [← hm2, ← hs3, ← hs4]; exact side_mul'
                have HL2 := Lib.hid (show (if decide (m1 < 0) && decide (m2 < 0) then (3 : Int) else 0) = R by rw [← hm1, ← hm2, ← hs1, ← hs2, ← hs3, ← hs4]; exact HL.out)
                clear hs1 hs2 hs3 hs4 hm1 hm2 HL
                cases h : decide (m1 < 0) with
                | false =>
                  have HE := Lib.hid (show (0 : Int) = R by rw [← HL2.out, h]; rfl)
                  go_wp2_with fail
                  refine wp_region_quiet_below (by kernel_rfl) (by kernel_rfl) ?_
                  repeat (go_big_quiet_step (first | with_reducible exact q1 _ _ | with_reducible exact q2 _ _ | with_reducible exact q3 _ _ | with_reducible exact q4 _ _))
                  refine wpQuiet_nil ?_
                  intro _ hw'
                  obtain ⟨⟨dq, osq⟩, hw''⟩ := hw'
                  subst hw''
                  go_wp2
                  go_ret
                  exact ⟨ret_int HE.out, HB3.out.trans ((below_regrown wr dq osq).mono HB3.out.size)⟩
                | true =>
                  cases h2 : decide (m2 < 0) with
                  | false =>
                    have HE := Lib.hid (show (0 : Int) = R by rw [← HL2.out, h, h2]; rfl)
                    go_wp2_with fail
                    refine wp_region_quiet_below (by kernel_rfl) (by kernel_rfl) ?_
                    repeat (go_big_quiet_step (first | with_reducible exact q1 _ _ | with_reducible exact q2 _ _ | with_reducible exact q3 _ _ | with_reducible exact q4 _ _))
                    refine wpQuiet_nil ?_
                    intro _ hw'
                    obtain ⟨⟨dq, osq⟩, hw''⟩ := hw'
                    subst hw''
                    go_wp2
                    go_ret
                    exact ⟨ret_int HE.out, HB3.out.trans ((below_regrown wr dq osq).mono HB3.out.size)⟩
                  | true =>
                    have HE := Lib.hid (show (3 : Int) = R by rw [← HL2.out, h, h2]; rfl)
                    go_wp2_with fail
                    refine wp_region_quiet_below (by kernel_rfl) (by kernel_rfl) ?_
                    repeat (go_big_quiet_step (first | with_reducible exact q1 _ _ | with_reducible exact q2 _ _ | with_reducible exact q3 _ _ | with_reducible exact q4 _ _))
                    refine wpQuiet_nil ?_
                    intro _ hw'
                    obtain ⟨⟨dq, osq⟩, hw''⟩ := hw'
                    subst hw''
                    go_wp2
                    go_ret
                    exact ⟨ret_int HE.out, HB3.out.trans ((below_regrown wr dq osq).mono HB3.out.size)⟩
              | [p], _ =>
                obtain ⟨g, rfl, _, _, hcell⟩ := HSH.out (by simp)
                obtain ⟨p0, p1⟩ := hcell 0 p rfl
                rw [Nat.zero_mul] at p0
                rw [Nat.zero_mul, Nat.zero_add] at p1
                clear hcell
                obtain ⟨a0, a1, b0, b1⟩ := has2_facts A3.out
                obtain ⟨c0, c1, d0, d1⟩ := has2_facts C3.out
                have g0 := cell_regrown a0
                have g1 := cell_regrown a1
                have g2 := cell_regrown b0
                have g3 := cell_regrown b1
                have g4 := cell_regrown c0
                have g5 := cell_regrown c1
                have g6 := cell_regrown d0
                have g7 := cell_regrown d1
                have g8 := cell_regrown p0
                have g9 := cell_regrown p1
                obtain ⟨y1, hy1⟩ : ∃ x, (eqP p a || eqP p b) = x := ⟨_, rfl⟩
                obtain ⟨y2, hy2⟩ : ∃ x, (eqP p c || eqP p d) = x := ⟨_, rfl⟩
                have q1 := ((refend_any a b p).to (congrArg Value.bool hy1)).quiet wr
                have q2 := ((refend_any c d p).to (congrArg Value.bool hy2)).quiet wr
                have HL2 := Lib.hid (show (if y1 && y2 then (1 : Int) else 2) = R by rw [← hy1, ← hy2]; exact HL.out)
                clear hy1 hy2 HL
                cases y1 with
                | false =>
                  have HE := Lib.hid (show (2 : Int) = R from HL2.out)
                  go_wp2_with fail
                  refine wp_region_quiet_below (by kernel_rfl) (by kernel_rfl) ?_
                  repeat (go_big_quiet_step (first | with_reducible exact q1 _ _ | with_reducible exact q2 _ _))
                  refine wpQuiet_nil ?_
                  intro _ hw'
                  obtain ⟨⟨dq, osq⟩, hw''⟩ := hw'
                  subst hw''
                  go_wp2
                  go_ret
                  exact ⟨ret_int HE.out, HB3.out.trans ((below_regrown wr dq osq).mono HB3.out.size)⟩
                | true =>
                  cases y2 with
                  | false =>
                    have HE := Lib.hid (show (2 : Int) = R from HL2.out)
                    go_wp2_with fail
                    refine wp_region_quiet_below (by kernel_rfl) (by kernel_rfl) ?_
                    repeat (go_big_quiet_step (first | with_reducible exact q1 _ _ | with_reducible exact q2 _ _))
                    refine wpQuiet_nil ?_
                    intro _ hw'
                    obtain ⟨⟨dq, osq⟩, hw''⟩ := hw'
                    subst hw''
                    go_wp2
                    go_ret
                    exact ⟨ret_int HE.out, HB3.out.trans ((below_regrown wr dq osq).mono HB3.out.size)⟩
                  | true =>
                    have HE := Lib.hid (show (1 : Int) = R from HL2.out)
                    go_wp2_with fail
                    refine wp_region_quiet_below (by kernel_rfl) (by kernel_rfl) ?_
                    repeat (go_big_quiet_step (first | with_reducible exact q1 _ _ | with_reducible exact q2 _ _))
                    refine wpQuiet_nil ?_
                    intro _ hw'
                    obtain ⟨⟨dq, osq⟩, hw''⟩ := hw'
                    subst hw''
                    go_wp2
                    go_ret
                    exact ⟨ret_int HE.out, HB3.out.trans ((below_regrown wr dq osq).mono HB3.out.size)⟩
              | p :: q :: r, hlen =>
                have HE := Lib.hid (show (5 : Int) = R from HL.out)
                have i5 : (1 : Int) < ((p :: q :: r).length : Int) := by simp; omega
                go_wp2
                go_ret
                exact ⟨ret_int HE.out, HB3.out⟩
end Go.Proofs.Ytlagolgmkmdhhaa.Geo
