/- Closed ways: signed counts around points, near corners, the same at all corners (plain mathematics). -/
import Derived.Test.YtlagolgmkmdhhaaPlQuad
namespace Go.Proofs.Ytlagolgmkmdhhaa.Pl
open Go.Proofs.Ytlagolgmkmdhhaa.Geo
/-! How often a closed way goes round a point, by the ray to the right: signed crossings, and how they change along a way (plain mathematics). -/
def xs (d e A : Int) : Int := if d ≤ 0 ∧ 0 < e ∧ 0 < A then 1 else if e ≤ 0 ∧ 0 < d ∧ A < 0 then -1 else 0
theorem xs_up {d e A : Int} (h : d ≤ 0) (k : 0 < e) : xs d e A = if 0 < A then 1 else 0 := by unfold xs; repeat' split <;> omega
theorem xs_dn {d e A : Int} (h : 0 < d) (k : e ≤ 0) : xs d e A = if A < 0 then -1 else 0 := by unfold xs; repeat' split <;> omega
theorem xs_lo {d e A : Int} (h : d ≤ 0) (k : e ≤ 0) : xs d e A = 0 := by unfold xs; repeat' split <;> omega
theorem xs_hi {d e A : Int} (h : 0 < d) (k : 0 < e) : xs d e A = 0 := by unfold xs; repeat' split <;> omega
theorem if_and {P Q : Prop} [Decidable P] [Decidable Q] (h : P ↔ Q) (x : Int) : (if P then x else 0) = if Q then x else 0 := by
  by_cases hp : P
  · rw [if_pos hp, if_pos (h.1 hp)]
  · rw [if_neg hp, if_neg fun k => hp (h.2 k)]
set_option maxHeartbeats 1000000 in
theorem Quad.sgn {A B C D a b p q : Int} (h : Quad A B C D a b p q) : xs (a - p) (b - p) A - xs (a - q) (b - q) B = xs (b - q) (b - p) (-D) - xs (a - q) (a - p) (-C) := by
  have S1 : a - p ≤ 0 ∨ 0 < a - p := by omega
  have S2 : a - q ≤ 0 ∨ 0 < a - q := by omega
  have S3 : b - p ≤ 0 ∨ 0 < b - p := by omega
  have S4 : b - q ≤ 0 ∨ 0 < b - q := by omega
  rcases S1 with S1 | S1 <;> rcases S2 with S2 | S2 <;> rcases S3 with S3 | S3 <;> rcases S4 with S4 | S4
  · rw [xs_lo S1 S3, xs_lo S2 S4, xs_lo S4 S3, xs_lo S2 S1]
  · have k := h.ab.pq.kw (by omega) (by omega) (by omega)
    clear h
    rw [xs_lo S1 S3, xs_up S2 S4, xs_dn S4 S3, xs_lo S2 S1]
    split <;> split <;> omega
  · have k := h.ab.kw (by omega) (by omega) (by omega)
    clear h
    rw [xs_up S1 S3, xs_lo S2 S4, xs_up S4 S3, xs_lo S2 S1]
    split <;> split <;> omega
  · have k := h.kx (by omega) (by omega) (by omega) (by omega)
    clear h
    rw [xs_up S1 S3, xs_up S2 S4, xs_hi S4 S3, xs_lo S2 S1]
    split <;> split <;> omega
  · have k := h.pq.kw (by omega) (by omega) (by omega)
    clear h
    rw [xs_lo S1 S3, xs_dn S2 S4, xs_lo S4 S3, xs_dn S2 S1]
    split <;> split <;> omega
  · have k := h.pq.ky (by omega) (by omega) (by omega) (by omega)
    clear h
    rw [xs_lo S1 S3, xs_hi S2 S4, xs_dn S4 S3, xs_dn S2 S1]
    split <;> split <;> omega
  · exfalso; omega
  · have k := h.kz (by omega) (by omega) (by omega)
    clear h
    rw [xs_up S1 S3, xs_hi S2 S4, xs_hi S4 S3, xs_dn S2 S1]
    split <;> split <;> omega
  · have k := h.kw (by omega) (by omega) (by omega)
    clear h
    rw [xs_dn S1 S3, xs_lo S2 S4, xs_lo S4 S3, xs_up S2 S1]
    split <;> split <;> omega
  · exfalso; omega
  · have k := h.ky (by omega) (by omega) (by omega) (by omega)
    clear h
    rw [xs_hi S1 S3, xs_lo S2 S4, xs_up S4 S3, xs_up S2 S1]
    split <;> split <;> omega
  · have k := h.pq.kz (by omega) (by omega) (by omega)
    clear h
    rw [xs_hi S1 S3, xs_up S2 S4, xs_hi S4 S3, xs_up S2 S1]
    split <;> split <;> omega
  · have k := h.ab.kx (by omega) (by omega) (by omega) (by omega)
    clear h
    rw [xs_dn S1 S3, xs_dn S2 S4, xs_lo S4 S3, xs_hi S2 S1]
    split <;> split <;> omega
  · have k := h.ab.kz (by omega) (by omega) (by omega)
    clear h
    rw [xs_dn S1 S3, xs_hi S2 S4, xs_dn S4 S3, xs_hi S2 S1]
    split <;> split <;> omega
  · have k := h.ab.pq.kz (by omega) (by omega) (by omega)
    clear h
    rw [xs_hi S1 S3, xs_dn S2 S4, xs_up S4 S3, xs_hi S2 S1]
    split <;> split <;> omega
  · rw [xs_hi S1 S3, xs_hi S2 S4, xs_hi S4 S3, xs_hi S2 S1]
/-- the side from a to b, seen from p: 1 if the ray to the right from p crosses it upwards, -1 downwards; of its ends the lower one counts. -/
def cs (a b p : Pt) : Int := xs (a.y - p.y) (b.y - p.y) (crs a b p)
/-- the way from p to q, seen from v: the ray to the left. -/
def hs (p q v : Pt) : Int := xs (v.y - q.y) (v.y - p.y) (-crs p q v)
/-- two segments have no common point. -/
def Free (a b p q : Pt) : Prop := holdsN a b p = false ∧ holdsN a b q = false ∧ holdsN p q a = false ∧ holdsN p q b = false ∧ ¬ Apart a b p q
theorem cs_move {a b p q : Pt} (h : Free a b p q) : cs a b p - cs a b q = hs p q b - hs p q a := (quad_of h.1 h.2.1 h.2.2.1 h.2.2.2.1 h.2.2.2.2).sgn
theorem xs_neg (d e A : Int) : xs e d (-A) = -xs d e A := by unfold xs; repeat' split <;> omega
theorem cs_back (a b p : Pt) : cs b a p = -cs a b p := by unfold cs; rw [crs_back]; exact xs_neg _ _ _
theorem hs_back (p q v : Pt) : hs q p v = -hs p q v := by unfold hs; rw [crs_back]; exact xs_neg _ _ _
/-- directions: the turn from one to another; the upper half; the order by their angles from the ray to the right. -/
def cr (z v : Pt) : Int := z.x * v.y - z.y * v.x
def halfB (z : Pt) : Bool := decide (0 < z.y ∨ z.y = 0 ∧ 0 < z.x)
def tn (z v : Pt) : Int := if halfB z = halfB v then (if 0 < cr z v then 1 else 0) else if halfB z = true then 1 else 0
def hz (z : Pt) : Int := if z.y = 0 ∧ 0 < z.x then 1 else 0
def dn (v : Pt) : Int := if v.y < 0 then 1 else 0
def sb (p b : Pt) : Pt := ⟨p.x - b.x, p.y - b.y⟩
/-- the directions are not the same. -/
def Dif (z v : Pt) : Prop := ¬ (cr z v = 0 ∧ 0 ≤ z.x * v.x + z.y * v.y)
theorem dif_swap {z v : Pt} (h : Dif z v) : Dif v z := fun ⟨h1, h2⟩ => h ⟨by unfold cr at *; grind, by grind⟩
/-! Directions around a corner: how the count of a closed way changes near a corner (plain mathematics). -/
theorem opp_of {z v : Pt} (hz : ¬ (z.x = 0 ∧ z.y = 0)) (hd : Dif z v) (h0 : cr z v = 0) :
    (0 < z.y → v.y < 0) ∧ (z.y < 0 → 0 < v.y) ∧ (z.y = 0 → v.y = 0 ∧ (0 < z.x → v.x < 0) ∧ (z.x < 0 → 0 < v.x)) := by
  have hdot : z.x * v.x + z.y * v.y < 0 := by
    have := hd
    unfold Dif at this
    omega
  unfold cr at h0
  have e1 : z.y * (z.x * v.x + z.y * v.y) = v.y * (z.x * z.x + z.y * z.y) := by grind
  have hp : 0 < z.x * z.x + z.y * z.y := by
    have h1 := mul_self z.x
    have h2 := mul_self z.y
    by_cases g : z.x = 0
    · have : z.y ≠ 0 := fun k => hz ⟨g, k⟩
      have := sq_pos' this
      omega
    · have := sq_pos' g
      omega
  have hxx : z.y = 0 → z.x * v.x < 0 := fun k => by rw [k] at hdot; omega
  generalize z.x * v.x + z.y * v.y = dd at *
  generalize z.x * z.x + z.y * z.y = nn at *
  refine ⟨fun h => ?_, fun h => ?_, fun h => ?_⟩
  · have := Int.mul_neg_of_pos_of_neg h hdot
    rcases Int.lt_trichotomy v.y 0 with k | k | k
    · exact k
    · rw [k] at e1; simp at e1; omega
    · have := Int.mul_pos k hp; omega
  · have := Int.mul_pos_of_neg_of_neg h hdot
    rcases Int.lt_trichotomy v.y 0 with k | k | k
    · have := Int.mul_neg_of_neg_of_pos k hp; omega
    · rw [k] at e1; simp at e1; omega
    · exact k
  · have hzx : z.x ≠ 0 := fun k => hz ⟨k, h⟩
    rw [h] at e1
    have hvy : v.y = 0 := by
      rcases Int.lt_trichotomy v.y 0 with k | k | k
      · have := Int.mul_neg_of_neg_of_pos k hp; omega
      · exact k
      · have := Int.mul_pos k hp; omega
    have hm := hxx h
    refine ⟨hvy, fun k => ?_, fun k => ?_⟩
    · rcases Int.lt_trichotomy v.x 0 with g | g | g
      · exact g
      · rw [g] at hm; omega
      · have := Int.mul_pos k g; omega
    · rcases Int.lt_trichotomy v.x 0 with g | g | g
      · have := Int.mul_pos_of_neg_of_neg k g; omega
      · rw [g] at hm; omega
      · exact g
theorem corner_move {b c p : Pt} (hz' : sb c b ≠ ⟨0, 0⟩) (hv' : sb p b ≠ ⟨0, 0⟩) (hd : Dif (sb c b) (sb p b)) :
    cs b c p - hs p b c = tn (sb c b) (sb p b) - hz (sb c b) - dn (sb p b) := by
  have hz0 : ¬ ((sb c b).x = 0 ∧ (sb c b).y = 0) := fun h => hz' (Pt.ext' h.1 h.2)
  have hv0 : ¬ ((sb p b).x = 0 ∧ (sb p b).y = 0) := fun h => hv' (Pt.ext' h.1 h.2)
  have ho := opp_of hz0 hd
  have e1 : cs b c p = xs (-(sb p b).y) ((sb c b).y - (sb p b).y) (cr (sb c b) (sb p b)) := by
    unfold cs cr crs sb; congr 1 <;> (dsimp only; first | omega | grind)
  have e2 : hs p b c = xs (sb c b).y ((sb c b).y - (sb p b).y) (-cr (sb c b) (sb p b)) := by
    unfold hs cr crs sb; congr 1 <;> (dsimp only; first | omega | grind)
  rw [e1, e2]
  generalize sb c b = z at *
  generalize sb p b = v at *
  obtain ⟨zx, zy⟩ := z
  obtain ⟨vx, vy⟩ := v
  have hX : cr ⟨zx, zy⟩ ⟨vx, vy⟩ = zx * vy - zy * vx := rfl
  have s1 := sg zx vy
  have s2 := sg zy vx
  unfold tn hz dn halfB
  generalize cr ⟨zx, zy⟩ ⟨vx, vy⟩ = X at *
  generalize zx * vy = p1 at *
  generalize zy * vx = p2 at *
  dsimp only at *
  clear hd hz' hv'
  have k1 : decide (0 < zy ∨ zy = 0 ∧ 0 < zx) = true ∧ (0 < zy ∨ zy = 0 ∧ 0 < zx) ∨ decide (0 < zy ∨ zy = 0 ∧ 0 < zx) = false ∧ ¬ (0 < zy ∨ zy = 0 ∧ 0 < zx) := by
    by_cases g : (0 < zy ∨ zy = 0 ∧ 0 < zx)
    · exact .inl ⟨decide_eq_true g, g⟩
    · exact .inr ⟨decide_eq_false g, g⟩
  have k2 : decide (0 < vy ∨ vy = 0 ∧ 0 < vx) = true ∧ (0 < vy ∨ vy = 0 ∧ 0 < vx) ∨ decide (0 < vy ∨ vy = 0 ∧ 0 < vx) = false ∧ ¬ (0 < vy ∨ vy = 0 ∧ 0 < vx) := by
    by_cases g : (0 < vy ∨ vy = 0 ∧ 0 < vx)
    · exact .inl ⟨decide_eq_true g, g⟩
    · exact .inr ⟨decide_eq_false g, g⟩
  rcases k1 with ⟨a1, g1⟩ | ⟨a1, g1⟩ <;> rcases k2 with ⟨a2, g2⟩ | ⟨a2, g2⟩ <;> rw [a1, a2] <;> clear a1 a2 <;> unfold xs <;> simp only [if_true, Bool.true_eq_false, Bool.false_eq_true, if_false] <;> (repeat' split) <;> omega
theorem half_true {z : Pt} : halfB z = true ↔ (0 < z.y ∨ z.y = 0 ∧ 0 < z.x) := by unfold halfB; rw [decide_eq_true_iff]
/-- Of two different directions one comes ahead of the other. -/
theorem tn_swap {z v : Pt} (hz : z ≠ ⟨0, 0⟩) (hd : Dif z v) : tn z v + tn v z = 1 := by
  have hz0 : ¬ (z.x = 0 ∧ z.y = 0) := fun h => hz (Pt.ext' h.1 h.2)
  have ho := opp_of hz0 hd
  have hc : cr v z = -cr z v := by unfold cr; grind
  unfold tn
  rw [hc]
  have t1 := half_true (z := z)
  have t2 := half_true (z := v)
  generalize halfB z = x at *
  generalize halfB v = y at *
  generalize cr z v = X at *
  cases x <;> cases y <;> simp only [if_true, Bool.true_eq_false, Bool.false_eq_true, if_false, true_iff, false_iff] at * <;> (repeat' split) <;> omega
/-! Closed ways: the count on the right of a corner is the same at all corners (plain mathematics). -/
/-- the last one of a list that begins with a. -/
def lst : Pt → List Pt → Pt
  | a, [] => a
  | _, b :: t => lst b t
/-- the count of a way that begins with a. -/
def ws : Pt → List Pt → Pt → Int
  | _, [], _ => 0
  | a, b :: t, p => cs a b p + ws b t p
def FreeP : Pt → List Pt → Pt → Pt → Prop
  | _, [], _, _ => True
  | a, b :: t, p, q => Free a b p q ∧ FreeP b t p q
theorem lst_snoc (a : Pt) (t : List Pt) (b : Pt) : lst a (t ++ [b]) = b := by
  induction t generalizing a with
  | nil => rfl
  | cons c t ih => exact ih c
theorem ws_snoc (a : Pt) (t : List Pt) (b p : Pt) : ws a (t ++ [b]) p = ws a t p + cs (lst a t) b p := by
  induction t generalizing a with
  | nil => show cs a b p + 0 = 0 + cs a b p; omega
  | cons c t ih =>
    show cs a c p + ws c (t ++ [b]) p = cs a c p + ws c t p + cs (lst c t) b p
    rw [ih]; omega
theorem ws_move {a : Pt} {t : List Pt} {p q : Pt} (h : FreeP a t p q) : ws a t p - ws a t q = hs p q (lst a t) - hs p q a := by
  induction t generalizing a with
  | nil => show (0 : Int) - 0 = hs p q a - hs p q a; omega
  | cons c t ih =>
    have h1 := cs_move h.1
    have h2 := ih h.2
    show cs a c p + ws c t p - (cs a c q + ws c t q) = hs p q (lst c t) - hs p q a
    omega
theorem sb_ne {a b : Pt} (h : a ≠ b) : sb a b ≠ ⟨0, 0⟩ := fun e => h (by
  have h1 := congrArg Pt.x e
  have h2 := congrArg Pt.y e
  unfold sb at h1 h2
  dsimp only at h1 h2
  exact Pt.ext' (by omega) (by omega))
theorem free_swap {a b p q : Pt} (h : Free a b p q) : Free a b q p := by
  obtain ⟨h1, h2, h3, h4, h5⟩ := h
  refine ⟨h2, h1, by rw [holds_back]; exact h3, by rw [holds_back]; exact h4, fun ⟨k1, k2⟩ => h5 ⟨by rw [Int.mul_comm]; exact k1, ?_⟩⟩
  rw [crs_back p q a, crs_back p q b, Int.neg_mul_neg] at k2
  exact k2
theorem freeP_swap {a : Pt} {t : List Pt} {p q : Pt} (h : FreeP a t p q) : FreeP a t q p := by
  induction t generalizing a with
  | nil => trivial
  | cons c t ih => exact ⟨free_swap h.1, ih h.2⟩
/-- the count on the right of the corner b of the ring b, c, t. -/
def kn (b c : Pt) (t : List Pt) : Int := ws c t b + hz (sb (lst c t) b) - hz (sb c b) - tn (sb (lst c t) b) (sb c b)
theorem hz_dn {b c : Pt} (h : b ≠ c) : dn (sb c b) + dn (sb b c) + hz (sb c b) + hz (sb b c) = 1 := by
  have : ¬ (b.x = c.x ∧ b.y = c.y) := fun k => h (Pt.ext' k.1 k.2)
  unfold dn hz sb
  dsimp only
  repeat' split <;> omega
/-- from a corner to the next one. -/
theorem kn_step {b c d : Pt} {t : List Pt} (hbc : b ≠ c) (hcd : c ≠ d) (hab : lst d t ≠ b) (hf : FreeP d t b c)
    (hd1 : Dif (sb (lst d t) b) (sb c b)) (hd2 : Dif (sb b c) (sb d c)) : kn c d (t ++ [b]) = kn b c (d :: t) := by
  have h1 := ws_move hf
  have h2 := corner_move (sb_ne hab) (sb_ne hbc.symm) hd1
  have h3 := corner_move (sb_ne hcd.symm) (sb_ne hbc) (dif_swap hd2)
  have h4 := tn_swap (sb_ne hbc) hd2
  have h5 := hz_dn hbc
  have h6 := cs_back (lst d t) b c
  have h7 := hs_back b c (lst d t)
  unfold kn
  rw [lst_snoc, ws_snoc]
  show ws d t c + cs (lst d t) b c + hz (sb b c) - hz (sb d c) - tn (sb b c) (sb d c) = cs c d b + ws d t b + hz (sb (lst d t) b) - hz (sb c b) - tn (sb (lst d t) b) (sb c b)
  omega
/-- what is seen from a corner b: a point p, the way to which meets the ring in b alone. -/
theorem kn_see {b c p : Pt} {t : List Pt} (hbc : c ≠ b) (hab : lst c t ≠ b) (hpb : p ≠ b) (hf : FreeP c t b p) (hd1 : Dif (sb c b) (sb p b)) (hd2 : Dif (sb (lst c t) b) (sb p b)) :
    ws b (c :: t ++ [b]) p = kn b c t + (tn (sb (lst c t) b) (sb c b) + tn (sb c b) (sb p b) - tn (sb (lst c t) b) (sb p b)) := by
  have h1 := ws_move (freeP_swap hf)
  have h2 := corner_move (sb_ne hbc) (sb_ne hpb) hd1
  have h3 := corner_move (sb_ne hab) (sb_ne hpb) hd2
  have h6 := cs_back (lst c t) b p
  rw [ws_snoc]
  show cs b c p + ws c t p + cs (lst c t) b p = _
  unfold kn
  omega
theorem signs_of {n d a b : Int} (hn : 0 < n) (hd : 0 < d) (h : n * a = d * b) : (0 < a ↔ 0 < b) ∧ (a < 0 ↔ b < 0) := by
  rcases Int.lt_trichotomy a 0 with g | g | g <;> rcases Int.lt_trichotomy b 0 with k | k | k
  · omega
  · have := Int.mul_neg_of_pos_of_neg hn g; rw [k] at h; omega
  · have := Int.mul_neg_of_pos_of_neg hn g; have := Int.mul_pos hd k; omega
  · have := Int.mul_neg_of_pos_of_neg hd k; rw [g] at h; omega
  · omega
  · have := Int.mul_pos hd k; rw [g] at h; omega
  · have := Int.mul_pos hn g; have := Int.mul_neg_of_pos_of_neg hd k; omega
  · have := Int.mul_pos hn g; rw [k] at h; omega
  · omega
/-- the same direction. -/
structure Same (z v : Pt) : Prop where
  c0 : cr z v = 0
  d0 : 0 < z.x * v.x + z.y * v.y
section
variable {z v : Pt}
theorem Same.pos (h : Same z v) : 0 < z.x * z.x + z.y * z.y := by
  have h1 := mul_self z.x
  have h2 := mul_self z.y
  by_cases g : z.x = 0
  · by_cases k : z.y = 0
    · have := h.d0; rw [g, k] at this; omega
    · have := sq_pos' k; omega
  · have := sq_pos' g; omega
theorem Same.sx (h : Same z v) : (0 < v.x ↔ 0 < z.x) ∧ (v.x < 0 ↔ z.x < 0) := signs_of h.pos h.d0 (by have := h.c0; unfold cr at this; grind)
theorem Same.sy (h : Same z v) : (0 < v.y ↔ 0 < z.y) ∧ (v.y < 0 ↔ z.y < 0) := signs_of h.pos h.d0 (by have := h.c0; unfold cr at this; grind)
theorem Same.sc (h : Same z v) (u : Pt) : (0 < cr u v ↔ 0 < cr u z) ∧ (cr u v < 0 ↔ cr u z < 0) := signs_of h.pos h.d0 (by have := h.c0; unfold cr at *; grind)
theorem Same.sd (h : Same z v) (u : Pt) : (0 < u.x * v.x + u.y * v.y ↔ 0 < u.x * z.x + u.y * z.y) ∧ (u.x * v.x + u.y * v.y < 0 ↔ u.x * z.x + u.y * z.y < 0) := signs_of h.pos h.d0 (by have := h.c0; unfold cr at *; grind)
theorem Same.half (h : Same z v) : halfB v = halfB z := by
  rw [Bool.eq_iff_iff, half_true, half_true]
  have := h.sx
  have := h.sy
  omega
theorem Same.tn (h : Same z v) (u : Pt) : tn u v = tn u z := by
  unfold Pl.tn
  rw [h.half]
  have := (h.sc u).1
  repeat' split <;> omega
theorem Same.tn2 (h : Same z v) (u : Pt) : Pl.tn v u = Pl.tn z u := by
  unfold Pl.tn
  rw [h.half]
  have := (h.sc u).2
  have e1 : cr v u = -cr u v := by unfold cr; grind
  have e2 : cr z u = -cr u z := by unfold cr; grind
  rw [e1, e2]
  repeat' split <;> omega
theorem Same.dn (h : Same z v) : dn v = dn z := by
  unfold Pl.dn
  have := h.sy
  repeat' split <;> omega
theorem Same.dif (h : Same z v) {u : Pt} (hd : Dif u z) : Dif u v := fun ⟨h1, h2⟩ => hd (by
  have := h.sc u
  have := h.sd u
  exact ⟨by omega, by omega⟩)
end
/-- inside of the side from b to c. -/
theorem kn_side {b c m : Pt} {t : List Pt} (hab : lst c t ≠ b) (hmb : m ≠ b) (hf : FreeP c t b m) (hs : Same (sb c b) (sb m b))
    (hd : Dif (sb (lst c t) b) (sb c b)) : ws c (t ++ [b]) m = kn b c t + hz (sb c b) + dn (sb c b) := by
  have h1 := ws_move (freeP_swap hf)
  have h2 := corner_move (sb_ne hab) (sb_ne hmb) (hs.dif hd)
  have h3 := cs_back (lst c t) b m
  have h4 : Pl.hs m b c = 0 := by
    unfold Pl.hs
    have : crs m b c = 0 := by have := hs.c0; unfold cr sb at this; unfold crs; grind
    rw [this]
    unfold xs
    repeat' split <;> omega
  rw [hs.tn, hs.dn] at h2
  rw [ws_snoc]
  unfold kn
  omega
/-! Rings that are turned: the count on the right is that of the ring (plain mathematics). -/
/-- a ring at its first side: the sides at its first corner leave in different directions, the sides that do not touch the first one are free of it. -/
def Cond : List Pt → Prop
  | b :: c :: d :: t => b ≠ c ∧ Dif (sb (lst d t) b) (sb c b) ∧ FreeP d t b c
  | _ => False
def rot {α : Type} : List α → List α
  | [] => []
  | b :: t => t ++ [b]
def rotN : Nat → List Pt → List Pt
  | 0, l => l
  | n + 1, l => rotN n (rot l)
def Ring (l : List Pt) : Prop := ∀ n, Cond (rotN n l)
theorem Ring.rot {l : List Pt} (h : Ring l) : Ring (rot l) := fun n => h (n + 1)
theorem Ring.rotN {l : List Pt} (h : Ring l) (n : Nat) : Ring (rotN n l) := by
  induction n generalizing l with
  | zero => exact h
  | succ n ih => exact ih h.rot
def kl : List Pt → Int
  | b :: c :: t => kn b c t
  | _ => 0
theorem Ring.open_ {l : List Pt} (h : Ring l) : ∃ b c d t, l = b :: c :: d :: t ∧ b ≠ c ∧ Dif (sb (lst d t) b) (sb c b) ∧ FreeP d t b c := by
  have h0 := h 0
  match l, h0 with
  | b :: c :: d :: t, h0 => exact ⟨b, c, d, t, rfl, h0⟩
theorem dif_ne {a b v : Pt} (h : Dif (sb a b) v) : a ≠ b := by
  rintro rfl
  refine h ⟨?_, ?_⟩
  · unfold cr sb; grind
  · have e1 : (sb a a).x = 0 := by unfold sb; dsimp only; omega
    have e2 : (sb a a).y = 0 := by unfold sb; dsimp only; omega
    rw [e1, e2]; omega
theorem cond_next {c d : Pt} {t : List Pt} {b : Pt} (h : Cond (c :: d :: (t ++ [b]))) : c ≠ d ∧ Dif (sb b c) (sb d c) := by
  cases t with
  | nil => exact ⟨h.1, h.2.1⟩
  | cons e t =>
    have h2 := h.2.1
    change Dif (sb (lst e (t ++ [b])) c) (sb d c) at h2
    rw [lst_snoc] at h2
    exact ⟨h.1, h2⟩
theorem Ring.kl_rot {l : List Pt} (h : Ring l) : kl (Pl.rot l) = kl l := by
  have h1 := h 1
  obtain ⟨b, c, d, t, rfl, hbc, hd, hf⟩ := h.open_
  obtain ⟨hcd, hd2⟩ := cond_next (c := c) (d := d) (t := t) (b := b) h1
  exact kn_step hbc hcd (dif_ne hd) hf hd hd2
theorem Ring.kl_rotN {l : List Pt} (h : Ring l) (n : Nat) : kl (Pl.rotN n l) = kl l := by
  induction n generalizing l with
  | zero => rfl
  | succ n ih => exact (ih h.rot).trans h.kl_rot
/-- the sides of a way. -/
def prs : Pt → List Pt → List (Pt × Pt)
  | _, [] => []
  | a, b :: t => (a, b) :: prs b t
/-- the sides of a ring. -/
def sds : List Pt → List (Pt × Pt)
  | [] => []
  | b :: t => prs b (t ++ [b])
theorem ws_sum (a : Pt) (t : List Pt) (p : Pt) : ws a t p = ((prs a t).map fun s => cs s.1 s.2 p).sum := by
  induction t generalizing a with
  | nil => rfl
  | cons c t ih => show cs a c p + ws c t p = _; rw [ih]; rfl
theorem prs_snoc (a : Pt) (t : List Pt) (b : Pt) : prs a (t ++ [b]) = prs a t ++ [(lst a t, b)] := by
  induction t generalizing a with
  | nil => rfl
  | cons c t ih => show (a, c) :: prs c (t ++ [b]) = _; rw [ih]; rfl
theorem sds_rot (l : List Pt) : sds (rot l) = rot (sds l) := by
  match l with
  | [] => rfl
  | [b] => rfl
  | b :: c :: t =>
    show prs c ((t ++ [b]) ++ [c]) = prs c (t ++ [b]) ++ [(b, c)]
    rw [prs_snoc, lst_snoc]
theorem perm_rot {α : Type} (s : List α) : (rot s).Perm s := by
  cases s with
  | nil => exact List.Perm.refl _
  | cons a t => exact List.perm_append_comm
theorem sds_perm (l : List Pt) : (sds (rot l)).Perm (sds l) := by rw [sds_rot]; exact perm_rot _
theorem sds_permN (n : Nat) (l : List Pt) : (sds (rotN n l)).Perm (sds l) := by
  induction n generalizing l with
  | zero => exact List.Perm.refl _
  | succ n ih => exact (ih _).trans (sds_perm l)
theorem prs_tele (f : Pt → Int) (a : Pt) (t : List Pt) : ((prs a t).map fun s => f s.2 - f s.1).sum = f (lst a t) - f a := by
  induction t generalizing a with
  | nil => show (0 : Int) = f a - f a; omega
  | cons c t ih =>
    have := ih c
    show f c - f a + ((prs c t).map fun s => f s.2 - f s.1).sum = f (lst c t) - f a
    omega
/-- around the ring. -/
theorem sds_tele (f : Pt → Int) (l : List Pt) : ((sds l).map fun s => f s.2 - f s.1).sum = 0 := by
  cases l with
  | nil => rfl
  | cons b t => show ((prs b (t ++ [b])).map _).sum = 0; rw [prs_tele, lst_snoc]; omega
/-- a side of a ring is the first one, if the ring is turned. -/
theorem prs_at {a : Pt} {t : List Pt} {s : Pt × Pt} (h : s ∈ prs a t) : ∃ x y, a :: t = x ++ s.1 :: s.2 :: y := by
  induction t generalizing a with
  | nil => cases h
  | cons c t ih =>
    rcases List.mem_cons.1 h with rfl | h
    · exact ⟨[], t, rfl⟩
    · obtain ⟨x, y, e⟩ := ih h
      exact ⟨a :: x, y, by rw [e]; rfl⟩
theorem rotN_app (x y : List Pt) : rotN x.length (x ++ y) = y ++ x := by
  induction x generalizing y with
  | nil => simp [rotN]
  | cons a x ih =>
    show rotN x.length ((x ++ y) ++ [a]) = _
    rw [List.append_assoc, ih]; simp
theorem sds_at {l : List Pt} {s : Pt × Pt} (h : s ∈ sds l) (hl : 2 ≤ l.length) : ∃ n t, rotN n l = s.1 :: s.2 :: t := by
  cases l with
  | nil => cases h
  | cons b t =>
    obtain ⟨x, y, e⟩ := prs_at h
    rcases List.eq_nil_or_concat y with rfl | ⟨y', z, rfl⟩
    · have e1 : (b :: t) ++ [b] = (x ++ [s.1]) ++ [s.2] := by simpa using e
      obtain ⟨e2, e3⟩ := List.append_inj' e1 rfl
      cases x with
      | nil => simp at e2; rw [e2.2] at hl; simp at hl
      | cons d x' =>
        refine ⟨(d :: x').length, x', ?_⟩
        rw [e2, rotN_app]
        simp at e3 e2
        rw [← e3, e2.1]; rfl
    · have e1 : (b :: t) ++ [b] = (x ++ s.1 :: s.2 :: y') ++ [z] := by simpa using e
      obtain ⟨e2, e3⟩ := List.append_inj' e1 rfl
      exact ⟨x.length, y' ++ x, by rw [e2, rotN_app]; rfl⟩
end Go.Proofs.Ytlagolgmkmdhhaa.Pl
