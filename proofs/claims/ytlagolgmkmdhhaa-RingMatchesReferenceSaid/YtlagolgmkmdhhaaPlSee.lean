/- What is seen from a corner: the inside of the corner by the turns of its two sides; sides that end at the ring (plain mathematics). -/
import Derived.Test.YtlagolgmkmdhhaaPlArea
namespace Go.Proofs.Ytlagolgmkmdhhaa.Pl
open Go.Proofs.Ytlagolgmkmdhhaa.Geo
/-- Three directions of the upper half. -/
theorem turn3 {p q r : Pt} (hp : halfB p = true) (hq : halfB q = true) (hr : halfB r = true) :
    (0 ≤ cr p q → 0 ≤ cr q r → 0 ≤ cr p r) ∧ (0 < cr p q → 0 ≤ cr q r → 0 < cr p r) ∧ (0 ≤ cr p q → 0 < cr q r → 0 < cr p r) := by
  rw [half_true] at hp hq hr
  have ey : q.y * cr p r = p.y * cr q r + r.y * cr p q := by unfold cr; grind
  have s1 := sg q.y (cr p r)
  have s2 := sg p.y (cr q r)
  have s3 := sg r.y (cr p q)
  have e1 : cr p q = p.x * q.y - p.y * q.x := rfl
  have e2 : cr q r = q.x * r.y - q.y * r.x := rfl
  have e3 : cr p r = p.x * r.y - p.y * r.x := rfl
  have t1 := sg p.x q.y
  have t2 := sg p.y q.x
  have t3 := sg q.x r.y
  have t4 := sg q.y r.x
  have t5 := sg p.x r.y
  have t6 := sg p.y r.x
  generalize cr p q = A at *
  generalize cr q r = B at *
  generalize cr p r = C at *
  generalize q.y * C = w1 at *
  generalize p.y * B = w2 at *
  generalize r.y * A = w3 at *
  generalize p.x * q.y = v1 at *
  generalize p.y * q.x = v2 at *
  generalize q.x * r.y = v3 at *
  generalize q.y * r.x = v4 at *
  generalize p.x * r.y = v5 at *
  generalize p.y * r.x = v6 at *
  generalize p.x = px at *
  generalize p.y = py at *
  generalize q.x = qx at *
  generalize q.y = qy at *
  generalize r.x = rx at *
  generalize r.y = ry at *
  rcases hq with hq | ⟨hq, hq'⟩
  · clear t5 t6 e3
    rcases hp with hp | ⟨hp, hp'⟩ <;> rcases hr with hr | ⟨hr, hr'⟩ <;> refine ⟨fun h1 h2 => ?_, fun h1 h2 => ?_, fun h1 h2 => ?_⟩ <;> omega
  · clear s1 s2 s3 ey
    rcases hp with hp | ⟨hp, hp'⟩ <;> rcases hr with hr | ⟨hr, hr'⟩ <;> refine ⟨fun h1 h2 => ?_, fun h1 h2 => ?_, fun h1 h2 => ?_⟩ <;> omega
/-- the turns A from p to q, B from q to r, C from p to r, of directions of one half. -/
structure Tri (A B C : Int) : Prop where
  a1 : (0 ≤ A → 0 ≤ B → 0 ≤ C) ∧ (0 < A → 0 ≤ B → 0 < C) ∧ (0 ≤ A → 0 < B → 0 < C)
  a2 : (0 ≤ C → B ≤ 0 → 0 ≤ A) ∧ (0 < C → B ≤ 0 → 0 < A) ∧ (0 ≤ C → B < 0 → 0 < A)
  a3 : (A ≤ 0 → 0 ≤ C → 0 ≤ B) ∧ (A < 0 → 0 ≤ C → 0 < B) ∧ (A ≤ 0 → 0 < C → 0 < B)
  a4 : (0 ≤ B → C ≤ 0 → A ≤ 0) ∧ (0 < B → C ≤ 0 → A < 0) ∧ (0 ≤ B → C < 0 → A < 0)
  a5 : (C ≤ 0 → 0 ≤ A → B ≤ 0) ∧ (C < 0 → 0 ≤ A → B < 0) ∧ (C ≤ 0 → 0 < A → B < 0)
  a6 : (B ≤ 0 → A ≤ 0 → C ≤ 0) ∧ (B < 0 → A ≤ 0 → C < 0) ∧ (B ≤ 0 → A < 0 → C < 0)
theorem cr_swap (p q : Pt) : cr q p = -cr p q := by unfold cr; grind
theorem tri_of {p q r : Pt} (hp : halfB p = true) (hq : halfB q = true) (hr : halfB r = true) : Tri (cr p q) (cr q r) (cr p r) := by
  have h1 := turn3 hp hq hr
  have h2 := turn3 hp hr hq
  have h3 := turn3 hq hp hr
  have h4 := turn3 hq hr hp
  have h5 := turn3 hr hp hq
  have h6 := turn3 hr hq hp
  rw [cr_swap q r] at h2
  rw [cr_swap p q] at h3
  rw [cr_swap p r, cr_swap p q] at h4
  rw [cr_swap p r, cr_swap q r] at h5
  rw [cr_swap q r, cr_swap p q, cr_swap p r] at h6
  generalize cr p q = A at *
  generalize cr q r = B at *
  generalize cr p r = C at *
  constructor <;> omega
def ng (p : Pt) : Pt := ⟨-p.x, -p.y⟩
theorem half_ng {p : Pt} (h : p ≠ ⟨0, 0⟩) (hf : halfB p = false) : halfB (ng p) = true := by
  have : ¬ (p.x = 0 ∧ p.y = 0) := fun k => h (Pt.ext' k.1 k.2)
  have hf' : ¬ (0 < p.y ∨ p.y = 0 ∧ 0 < p.x) := fun k => by rw [half_true.2 k] at hf; cases hf
  rw [half_true]
  unfold ng
  dsimp only
  omega
theorem cr_ng1 (p q : Pt) : cr (ng p) q = -cr p q := by unfold cr ng; grind
theorem cr_ng2 (p q : Pt) : cr p (ng q) = -cr p q := by unfold cr ng; grind
/-- Directions of one half with no turn are the same. -/
theorem dif_cr {z v : Pt} (hz : z ≠ ⟨0, 0⟩) (hd : Dif z v) (hh : halfB z = halfB v) : cr z v ≠ 0 := by
  intro h0
  have ho := opp_of (fun k => hz (Pt.ext' k.1 k.2)) hd h0
  have hz0 : ¬ (z.x = 0 ∧ z.y = 0) := fun k => hz (Pt.ext' k.1 k.2)
  have t1 := half_true (z := z)
  have t2 := half_true (z := v)
  rw [hh] at t1
  have t3 := t1.symm.trans t2
  omega
/-- The directions between z and u, counter-clockwise. -/
def arc (u z v : Pt) : Int := tn u z + tn z v - tn u v
set_option linter.unusedSimpArgs false in
theorem arc_iff {u z v : Pt} (hu : u ≠ ⟨0, 0⟩) (hz : z ≠ ⟨0, 0⟩) (hv : v ≠ ⟨0, 0⟩) (h1 : Dif u z) (h2 : Dif z v) (h3 : Dif u v) :
    arc u z v = if (if 0 < cr z u then cr u v < 0 ∧ 0 < cr z v else cr u v < 0 ∨ 0 < cr z v) then 1 else 0 := by
  have n1 := dif_cr hu h1
  have n2 := dif_cr hz h2
  have n3 := dif_cr hu h3
  have e1 := cr_swap u z
  unfold arc tn
  rw [e1]
  rcases Bool.eq_false_or_eq_true (halfB u) with a | a <;> rcases Bool.eq_false_or_eq_true (halfB z) with b | b <;> rcases Bool.eq_false_or_eq_true (halfB v) with c | c
  · have t := tri_of a b c
    try simp only [cr_ng1, cr_ng2, Int.neg_neg] at t
    rw [a, b] at n1; rw [b, c] at n2; rw [a, c] at n3
    rw [a, b, c]
    obtain ⟨t1, t2, t3, t4, t5, t6⟩ := t
    simp only [if_true, true_implies, Bool.true_eq_false, Bool.false_eq_true, if_false, false_implies] at *
    generalize cr u z = A at *
    generalize cr z v = B at *
    generalize cr u v = C at *
    clear e1 h1 h2 h3 a b c hu hz hv
    repeat' split
    all_goals omega
  · have t := tri_of a b (half_ng hv c)
    try simp only [cr_ng1, cr_ng2, Int.neg_neg] at t
    rw [a, b] at n1; rw [b, c] at n2; rw [a, c] at n3
    rw [a, b, c]
    obtain ⟨t1, t2, t3, t4, t5, t6⟩ := t
    simp only [if_true, true_implies, Bool.true_eq_false, Bool.false_eq_true, if_false, false_implies] at *
    generalize cr u z = A at *
    generalize cr z v = B at *
    generalize cr u v = C at *
    clear e1 h1 h2 h3 a b c hu hz hv
    repeat' split
    all_goals omega
  · have t := tri_of a (half_ng hz b) c
    try simp only [cr_ng1, cr_ng2, Int.neg_neg] at t
    rw [a, b] at n1; rw [b, c] at n2; rw [a, c] at n3
    rw [a, b, c]
    obtain ⟨t1, t2, t3, t4, t5, t6⟩ := t
    simp only [if_true, true_implies, Bool.true_eq_false, Bool.false_eq_true, if_false, false_implies] at *
    generalize cr u z = A at *
    generalize cr z v = B at *
    generalize cr u v = C at *
    clear e1 h1 h2 h3 a b c hu hz hv
    repeat' split
    all_goals omega
  · have t := tri_of a (half_ng hz b) (half_ng hv c)
    try simp only [cr_ng1, cr_ng2, Int.neg_neg] at t
    rw [a, b] at n1; rw [b, c] at n2; rw [a, c] at n3
    rw [a, b, c]
    obtain ⟨t1, t2, t3, t4, t5, t6⟩ := t
    simp only [if_true, true_implies, Bool.true_eq_false, Bool.false_eq_true, if_false, false_implies] at *
    generalize cr u z = A at *
    generalize cr z v = B at *
    generalize cr u v = C at *
    clear e1 h1 h2 h3 a b c hu hz hv
    repeat' split
    all_goals omega
  · have t := tri_of (half_ng hu a) b c
    try simp only [cr_ng1, cr_ng2, Int.neg_neg] at t
    rw [a, b] at n1; rw [b, c] at n2; rw [a, c] at n3
    rw [a, b, c]
    obtain ⟨t1, t2, t3, t4, t5, t6⟩ := t
    simp only [if_true, true_implies, Bool.true_eq_false, Bool.false_eq_true, if_false, false_implies] at *
    generalize cr u z = A at *
    generalize cr z v = B at *
    generalize cr u v = C at *
    clear e1 h1 h2 h3 a b c hu hz hv
    repeat' split
    all_goals omega
  · have t := tri_of (half_ng hu a) b (half_ng hv c)
    try simp only [cr_ng1, cr_ng2, Int.neg_neg] at t
    rw [a, b] at n1; rw [b, c] at n2; rw [a, c] at n3
    rw [a, b, c]
    obtain ⟨t1, t2, t3, t4, t5, t6⟩ := t
    simp only [if_true, true_implies, Bool.true_eq_false, Bool.false_eq_true, if_false, false_implies] at *
    generalize cr u z = A at *
    generalize cr z v = B at *
    generalize cr u v = C at *
    clear e1 h1 h2 h3 a b c hu hz hv
    repeat' split
    all_goals omega
  · have t := tri_of (half_ng hu a) (half_ng hz b) c
    try simp only [cr_ng1, cr_ng2, Int.neg_neg] at t
    rw [a, b] at n1; rw [b, c] at n2; rw [a, c] at n3
    rw [a, b, c]
    obtain ⟨t1, t2, t3, t4, t5, t6⟩ := t
    simp only [if_true, true_implies, Bool.true_eq_false, Bool.false_eq_true, if_false, false_implies] at *
    generalize cr u z = A at *
    generalize cr z v = B at *
    generalize cr u v = C at *
    clear e1 h1 h2 h3 a b c hu hz hv
    repeat' split
    all_goals omega
  · have t := tri_of (half_ng hu a) (half_ng hz b) (half_ng hv c)
    try simp only [cr_ng1, cr_ng2, Int.neg_neg] at t
    rw [a, b] at n1; rw [b, c] at n2; rw [a, c] at n3
    rw [a, b, c]
    obtain ⟨t1, t2, t3, t4, t5, t6⟩ := t
    simp only [if_true, true_implies, Bool.true_eq_false, Bool.false_eq_true, if_false, false_implies] at *
    generalize cr u z = A at *
    generalize cr z v = B at *
    generalize cr u v = C at *
    clear e1 h1 h2 h3 a b c hu hz hv
    repeat' split
    all_goals omega
theorem meetsN_scl {N : Int} (hN : 0 < N) (a b c e : Pt) : meetsN (scl N a) (scl N b) (scl N c) (scl N e) = meetsN a b c e := by
  have inj : ∀ p q : Pt, scl N p = scl N q ↔ p = q := fun p q => ⟨scl_inj hN, fun h => by rw [h]⟩
  have hh : ∀ p q r : Pt, holdsN (scl N p) (scl N q) (scl N r) = holdsN p q r := holds_scl hN
  have hlt : ∀ x y : Int, (N * x < N * y ↔ x < y) := fun x y => by
    have := (mul_pos_iff (x := y - x) hN).1
    rw [Int.mul_sub] at this
    omega
  have hcmp : ∀ p q : Pt, cmpN (scl N p) (scl N q) = cmpN p q := by
    intro p q
    have h1 := hlt p.x q.x
    have h2 := hlt q.x p.x
    have h3 := hlt p.y q.y
    have h4 := hlt q.y p.y
    unfold cmpN scl
    dsimp only
    repeat' split <;> omega
  have hlow : ∀ p q : Pt, lowN (scl N p) (scl N q) = scl N (lowN p q) := by intro p q; unfold lowN; rw [hcmp]; split <;> rfl
  have hhigh : ∀ p q : Pt, highN (scl N p) (scl N q) = scl N (highN p q) := by intro p q; unfold highN; rw [hcmp]; split <;> rfl
  have hmax : ∀ p q : Pt, maxN (scl N p) (scl N q) = scl N (maxN p q) := by intro p q; unfold maxN; rw [hcmp]; split <;> rfl
  have hmin : ∀ p q : Pt, minN (scl N p) (scl N q) = scl N (minN p q) := by intro p q; unfold minN; rw [hcmp]; split <;> rfl
  have heq : ∀ p q : Pt, eqP (scl N p) (scl N q) = eqP p q := by intro p q; rw [Bool.eq_iff_iff, eqP_iff, eqP_iff, inj]
  have hat : ∀ a b c e p : Pt, atN (scl N a) (scl N b) (scl N c) (scl N e) (scl N p) = atN a b c e p := by intro a b c e p; unfold atN; rw [heq, heq, heq, heq]
  have hside : ∀ p q r : Pt, sideN (scl N p) (scl N q) (scl N r) = sideN p q r := by
    intro p q r
    unfold sideN sgn
    rw [crs_scl]
    have h1 := mul_pos_iff (x := crs p q r) hN
    have h2 := mul_pos_iff (x := N * crs p q r) hN
    repeat' split <;> omega
  have hline : ∀ a b c e : Pt, lineN (scl N a) (scl N b) (scl N c) (scl N e) = lineN a b c e := by intro a b c e; unfold lineN; rw [hmax, hmin, hcmp, hat]
  have hcross : ∀ a b c e : Pt, crossN (scl N a) (scl N b) (scl N c) (scl N e) = crossN a b c e := by intro a b c e; unfold crossN; simp only [hside, hh, hat]
  have hsort : ∀ a b c e : Pt, sortedN (scl N a) (scl N b) (scl N c) (scl N e) = sortedN a b c e := by
    intro a b c e
    unfold sortedN inLineB
    rw [heq, heq, hside, hside, hside, hline, hcross]
  unfold meetsN
  rw [hlow, hlow, hhigh, hhigh, hsort]
/-- A segment that meets a way at most in its own second end: its first half is free. -/
theorem free_half {a b p q m : Pt} (hk : meetsN a b p q = 0 ∨ meetsN a b p q = 1) (hp : holdsN a b p = false) (hm : Mid p q m) : Free a b p m := by
  rcases hk with hk | hk
  · exact hm.free (free_iff.2 hk)
  · have hK := meets_kind a b p q
    rw [hk] at hK
    have hu : ∀ x, holdsN a b x = true → holdsN p q x = true → x = q := fun x h1 h2 => by
      by_cases g : x = q
      · exact g
      · exfalso
        have hq : holdsN a b q = true := by
          rcases hK with ⟨_, h⟩ | ⟨_, ⟨_, h⟩ | ⟨y, hy, cy, _, hk'⟩ | ⟨_, ⟨_, h⟩ | ⟨_, h⟩⟩⟩
          · omega
          · omega
          · rcases hk' with ⟨_, hy2, _⟩ | ⟨_, h⟩
            · rcases hy2 with rfl | rfl
              · rw [cy.1] at hp; cases hp
              · exact cy.1
            · omega
          · omega
          · omega
        rcases meets_two (p := x) (q := q) ⟨h1, h2⟩ ⟨hq, holds_right p q⟩ g with h | h <;> omega
    have hqm : holdsN p m q = false := by
      rw [← Bool.not_eq_true]
      intro k
      rw [holds_iff] at k
      have e : dt q p m = (sb p q).x * (sb m q).x + (sb p q).y * (sb m q).y := by unfold dt sb; grind
      have := hm.back.same.d0
      omega
    refine ⟨hp, ?_, ?_, ?_, ?_⟩
    · rw [← Bool.not_eq_true]; exact fun k => hm.back.ne (hu m k hm.holds)
    · rw [← Bool.not_eq_true]
      intro k
      have := hu a (holds_left a b) (hm.sub k)
      rw [this, hqm] at k; cases k
    · rw [← Bool.not_eq_true]
      intro k
      have := hu b (holds_right a b) (hm.sub k)
      rw [this, hqm] at k; cases k
    · intro hA
      have : Apart a b p q := hm.apart hA
      have := meets_cross.2 this
      omega
/-- how often a ring goes round a point. -/
def wn (m : List Pt) (p : Pt) : Int := ((sds m).map fun s => cs s.1 s.2 p).sum
theorem wn_perm {l m : List Pt} (h : (sds l).Perm (sds m)) (p : Pt) : wn l p = wn m p := sum_perm (h.map _)
theorem wn_rotN (n : Nat) (m : List Pt) (p : Pt) : wn (rotN n m) p = wn m p := wn_perm (sds_permN n m) p
theorem wn_reverse (m : List Pt) (p : Pt) : wn m.reverse p = -wn m p := by
  unfold wn
  rw [sum_perm ((sds_reverse m).map fun s => cs s.1 s.2 p), List.map_map]
  have e : ((sds m).map ((fun s : Pt × Pt => cs s.1 s.2 p) ∘ flip)) = (sds m).map fun s => -1 * cs s.1 s.2 p := List.map_congr_left fun s _ => by
    show cs s.2 s.1 p = _
    rw [cs_back]; omega
  rw [e, sum_mul]
  omega
theorem wn_ws (b : Pt) (t : List Pt) (p : Pt) : wn (b :: t) p = ws b (t ++ [b]) p := (ws_sum b (t ++ [b]) p).symm
def dbl (m : List Pt) : List Pt := m.map (scl 2)
def ad (p q : Pt) : Pt := ⟨p.x + q.x, p.y + q.y⟩
theorem ad_comm (p q : Pt) : ad p q = ad q p := Pt.ext' (Int.add_comm _ _) (Int.add_comm _ _)
theorem mid_ad {p q : Pt} (h : p ≠ q) : Mid (scl 2 p) (scl 2 q) (ad p q) where
  c0 := by unfold crs scl ad; grind
  d0 := by
    have e : dt (ad p q) (scl 2 p) (scl 2 q) = -((p.x - q.x) * (p.x - q.x) + (p.y - q.y) * (p.y - q.y)) := by unfold dt scl ad; grind
    have h1 := mul_self (p.x - q.x)
    have h2 := mul_self (p.y - q.y)
    have : ¬ (p.x = q.x ∧ p.y = q.y) := fun k => h (Pt.ext' k.1 k.2)
    by_cases g : p.x - q.x = 0
    · have := sq_pos' (show p.y - q.y ≠ 0 by omega)
      omega
    · have := sq_pos' g
      omega
theorem wn_scl {N : Int} (hN : 0 < N) (m : List Pt) (p : Pt) : wn (m.map (scl N)) (scl N p) = wn m p := by
  unfold wn
  rw [sds_map, List.map_map]
  exact sum_congr fun s _ => cs_scl hN s.1 s.2 p
theorem freeP_all {a : Pt} {t : List Pt} {p q : Pt} (h : ∀ s ∈ prs a t, Free s.1 s.2 p q) : FreeP a t p q := by
  induction t generalizing a with
  | nil => trivial
  | cons c t ih => exact ⟨h (a, c) (List.mem_cons_self ..), ih fun s hs => h s (List.mem_cons_of_mem _ hs)⟩
theorem freeP_at {a : Pt} {t : List Pt} {p q : Pt} (h : FreeP a t p q) : ∀ s ∈ prs a t, Free s.1 s.2 p q := by
  induction t generalizing a with
  | nil => intro s hs; cases hs
  | cons c t ih =>
    intro s hs
    rcases List.mem_cons.1 hs with rfl | hs
    · exact h.1
    · exact ih h.2 s hs
/-- Along a way that does not meet the ring the count is the same. -/
theorem wn_free {m : List Pt} {p q : Pt} (h : ∀ s ∈ sds m, Free s.1 s.2 p q) : wn m p = wn m q := by
  cases m with
  | nil => rfl
  | cons b t =>
    rw [wn_ws, wn_ws]
    have := ws_move (freeP_all (a := b) (t := t ++ [b]) h)
    rw [lst_snoc] at this
    omega
/-- from a point that is not on the ring, along a segment that meets the ring at most in its second end. -/
theorem see_off {m : List Pt} {p q : Pt} (hpq : p ≠ q) (hp : ∀ s ∈ sds m, holdsN s.1 s.2 p = false) (hk : ∀ s ∈ sds m, meetsN s.1 s.2 p q = 0 ∨ meetsN s.1 s.2 p q = 1) : wn (dbl m) (ad p q) = wn m p := by
  rw [← wn_scl (N := 2) (by decide) m p]
  refine (wn_free (m := dbl m) fun s hs => ?_).symm
  unfold dbl at hs
  rw [sds_map] at hs
  obtain ⟨x, hx, rfl⟩ := List.mem_map.1 hs
  exact free_half (by rw [meetsN_scl (by decide)]; exact hk x hx) (by rw [holds_scl (by decide)]; exact hp x hx) (mid_ad hpq)
/-- from a corner of the ring, along a segment that meets the ring at most in its ends. -/
theorem see_corner {m : List Pt} (hr : Ring m) {b c q : Pt} {t : List Pt} {n : Nat} (hn : rotN n m = b :: c :: t) (hq : q ≠ b) (hk : ∀ s ∈ sds m, meetsN s.1 s.2 b q = 0 ∨ meetsN s.1 s.2 b q = 1) :
    (Dif (sb c b) (sb q b) ∧ Dif (sb (lst c t) b) (sb q b) ∧ Dif (sb (lst c t) b) (sb c b)) ∧ wn (dbl m) (ad b q) = kl m + arc (sb (lst c t) b) (sb c b) (sb q b) := by
  have hr' := hr.rotN n
  have hkl := hr.kl_rotN n
  have hp := sds_permN n m
  have hr1 := hr' 1
  obtain ⟨b', c', d, t', e, hbc, hd, hf⟩ := hr'.open_
  rw [hn] at e
  have e1 : b = b' := (List.cons.inj e).1
  have e2 : c = c' := (List.cons.inj (List.cons.inj e).2).1
  have e3 : t = d :: t' := (List.cons.inj (List.cons.inj e).2).2
  subst e1 e2 e3
  rw [hn] at hr1 hkl hp
  obtain ⟨hcd, hd2⟩ := cond_next (c := c) (d := d) (t := t') (b := b) hr1
  have hkl' : kn b c (d :: t') = kl m := hkl
  have hab := dif_ne hd
  have hin : ∀ s, s ∈ sds (b :: c :: d :: t') → meetsN s.1 s.2 b q = 0 ∨ meetsN s.1 s.2 b q = 1 := fun s hs => hk s (hp.mem_iff.1 hs)
  have hlast : (lst d t', b) ∈ sds (b :: c :: d :: t') := by
    show (lst d t', b) ∈ prs b ((c :: d :: t') ++ [b])
    rw [prs_snoc]
    exact List.mem_append_right _ (List.mem_singleton.2 rfl)
  have k1 : meetsN b c b q = 1 := by
    rcases hin (b, c) (List.mem_cons_self ..) with h | h
    · exact absurd h (common_kind (p := b) ⟨holds_left b c, holds_left b q⟩)
    · exact h
  have k2 : meetsN (lst d t') b b q = 1 := by
    rcases hin _ hlast with h | h
    · exact absurd h (common_kind (p := b) ⟨holds_right _ b, holds_left b q⟩)
    · exact h
  have dz : Dif (sb c b) (sb q b) := dif_swap (dif_of hq hbc.symm (by rw [meets_back2]; exact k1))
  have du : Dif (sb (lst d t') b) (sb q b) := dif_of hab hq (by rw [meets_swap]; exact k2)
  refine ⟨⟨dz, du, hd⟩, ?_⟩
  have hfree : FreeP (scl 2 c) ((d :: t').map (scl 2)) (scl 2 b) (ad b q) := by
    refine freeP_all fun s hs => ?_
    rw [prs_map] at hs
    obtain ⟨x, hx, rfl⟩ := List.mem_map.1 hs
    have hx2 : x ∈ sds (b :: c :: d :: t') := by
      show x ∈ prs b ((c :: d :: t') ++ [b])
      rw [prs_snoc]
      exact List.mem_append_left _ (List.mem_cons_of_mem _ hx)
    have hb : holdsN x.1 x.2 b = false := by
      rcases List.mem_cons.1 hx with rfl | hx
      · exact dif_holds hd2
      · exact (freeP_at hf x hx).1
    exact free_half (by rw [meetsN_scl (by decide)]; exact hin x hx2) (by rw [holds_scl (by decide)]; exact hb) (mid_ad hq.symm)
  have hl2 : lst (scl 2 c) ((d :: t').map (scl 2)) = scl 2 (lst d t') := lst_scl c (d :: t')
  have ev : sb (ad b q) (scl 2 b) = sb q b := Pt.ext' (by unfold sb ad scl; dsimp only; omega) (by unfold sb ad scl; dsimp only; omega)
  have sz : ∀ z : Pt, z ≠ ⟨0, 0⟩ → Same (scl 2 z) z := fun z hz => by
    have h0 : ¬ (z.x = 0 ∧ z.y = 0) := fun k => hz (Pt.ext' k.1 k.2)
    refine ⟨by unfold cr scl; grind, ?_⟩
    have e : (scl 2 z).x * z.x + (scl 2 z).y * z.y = 2 * (z.x * z.x + z.y * z.y) := by unfold scl; grind
    have h1 := mul_self z.x
    have h2 := mul_self z.y
    by_cases g : z.x = 0
    · have := sq_pos' (show z.y ≠ 0 from fun k => h0 ⟨g, k⟩)
      omega
    · have := sq_pos' g
      omega
  have s1 := sz _ (sb_ne hbc.symm)
  have s2 := sz _ (sb_ne hab)
  have hsee := kn_see (b := scl 2 b) (c := scl 2 c) (p := ad b q) (t := (d :: t').map (scl 2)) (fun h => hbc (scl_inj (by decide) h).symm)
    (by rw [hl2]; exact fun h => hab (scl_inj (by decide) h)) (mid_ad hq.symm).ne hfree (by rw [ev, sb_scl]; exact dif_swap (s1.symm.dif (dif_swap dz))) (by rw [ev, hl2, sb_scl]; exact dif_swap (s2.symm.dif (dif_swap du)))
  rw [hl2, ev, sb_scl, sb_scl, kn_scl (by decide), hkl'] at hsee
  have hw : wn (dbl m) (ad b q) = ws (scl 2 b) (scl 2 c :: (d :: t').map (scl 2) ++ [scl 2 b]) (ad b q) := by
    rw [← wn_ws]
    have : (scl 2 b :: scl 2 c :: (d :: t').map (scl 2)) = rotN n (dbl m) := by unfold dbl; rw [rotN_map, hn]; rfl
    rw [this, wn_rotN]
  rw [hw, hsee]
  unfold arc
  rw [s1.symm.tn, s2.symm.tn2, s1.symm.tn2, s2.symm.tn2]
  rfl
end Go.Proofs.Ytlagolgmkmdhhaa.Pl
