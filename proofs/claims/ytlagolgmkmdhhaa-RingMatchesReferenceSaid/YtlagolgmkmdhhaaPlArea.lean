/- The area of a ring, by levels: its sign is that of the way; rings the other way round (plain mathematics). -/
import Derived.Test.YtlagolgmkmdhhaaPlWay
namespace Go.Proofs.Ytlagolgmkmdhhaa.Pl
open Go.Proofs.Ytlagolgmkmdhhaa.Geo
/-! Signed points of a line: if what lies on the right of each of them is as at a closed way, their sum has the way's sign (plain mathematics). -/
def sumR : Nat → (Nat → Int) → Int
  | 0, _ => 0
  | n + 1, f => sumR n f + f n
theorem sumR_add (n : Nat) (f g : Nat → Int) : sumR n (fun j => f j + g j) = sumR n f + sumR n g := by
  induction n with
  | zero => rfl
  | succ n ih => show sumR n _ + (f n + g n) = sumR n f + f n + (sumR n g + g n); rw [ih]; omega
theorem sumR_zero (n : Nat) : sumR n (fun _ => 0) = 0 := by
  induction n with
  | zero => rfl
  | succ n ih => show sumR n _ + 0 = 0; rw [ih]; rfl
theorem sumR_mul (n : Nat) (c : Int) (f : Nat → Int) : sumR n (fun j => c * f j) = c * sumR n f := by
  induction n with
  | zero => show (0 : Int) = c * 0; omega
  | succ n ih => show sumR n _ + c * f n = c * (sumR n f + f n); rw [ih, Int.mul_add]
theorem sumR_nonneg {n : Nat} {f : Nat → Int} (h : ∀ j, j < n → 0 ≤ f j) : 0 ≤ sumR n f := by
  induction n with
  | zero => exact Int.le_refl _
  | succ n ih =>
    have := ih fun j hj => h j (by omega)
    have := h n (by omega)
    show 0 ≤ sumR n f + f n
    omega
theorem sumR_pos {n : Nat} {f : Nat → Int} (h : ∀ j, j < n → 0 ≤ f j) {k : Nat} (hk : k < n) (hp : 0 < f k) : 0 < sumR n f := by
  induction n with
  | zero => omega
  | succ n ih =>
    show 0 < sumR n f + f n
    by_cases e : k = n
    · subst e
      have := sumR_nonneg (n := k) (f := f) fun j hj => h j (by omega)
      omega
    · have := ih (fun j hj => h j (by omega)) (by omega)
      have := h n (by omega)
      omega
theorem sumR_map {α : Type} (n : Nat) (l : List α) (g : Nat → α → Int) : sumR n (fun j => (l.map (g j)).sum) = (l.map fun e => sumR n fun j => g j e).sum := by
  induction l with
  | nil => exact sumR_zero n
  | cons a l ih =>
    show sumR n (fun j => g j a + (l.map (g j)).sum) = sumR n (fun j => g j a) + (l.map fun e => sumR n fun j => g j e).sum
    rw [sumR_add, ih]
theorem sumR_lt (n : Nat) (s B x : Int) (h1 : -B ≤ x) : sumR n (fun j => if (j : Int) - B < x then s else 0) = s * (if x + B ≤ n then x + B else n) := by
  induction n with
  | zero =>
    show (0 : Int) = _
    split
    · rw [show x + B = 0 by omega]; omega
    · simp
  | succ n ih =>
    show sumR n _ + (if (n : Int) - B < x then s else 0) = _
    rw [ih]
    by_cases a : x + B ≤ (n : Int)
    · rw [if_pos a, if_neg (by omega), if_pos (by omega)]; omega
    · rw [if_neg a, if_pos (by omega)]
      by_cases b : x + B ≤ ((n + 1 : Nat) : Int)
      · rw [if_pos b, show x + B = (n : Int) + 1 by omega, Int.mul_add]; omega
      · rw [if_neg b, show ((n + 1 : Nat) : Int) = (n : Int) + 1 by omega, Int.mul_add]; omega
/-- what lies on the right of t. -/
def wt (E : List (Int × Int)) (t : Int) : Int := (E.map fun e => if t < e.2 then e.1 else 0).sum
theorem sum_zero {α : Type} {l : List α} {f : α → Int} (h : ∀ e ∈ l, f e = 0) : (l.map f).sum = 0 := by
  induction l with
  | nil => rfl
  | cons a l ih =>
    show f a + (l.map f).sum = 0
    rw [h a (by simp), ih fun e he => h e (by simp [he])]; rfl
theorem sum_nonneg {α : Type} {l : List α} {f : α → Int} (h : ∀ e ∈ l, 0 ≤ f e) : 0 ≤ (l.map f).sum := by
  induction l with
  | nil => exact Int.le_refl _
  | cons a l ih =>
    show 0 ≤ f a + (l.map f).sum
    have := h a (by simp)
    have := ih fun e he => h e (by simp [he])
    omega
theorem sum_pos {α : Type} {l : List α} {f : α → Int} (h : ∀ e ∈ l, 0 ≤ f e) {a : α} (ha : a ∈ l) (hp : 0 < f a) : 0 < (l.map f).sum := by
  induction l with
  | nil => cases ha
  | cons b l ih =>
    show 0 < f b + (l.map f).sum
    rcases List.mem_cons.1 ha with rfl | ha
    · have := sum_nonneg (l := l) fun e he => h e (by simp [he])
      omega
    · have := ih (fun e he => h e (by simp [he])) ha
      have := h b (by simp)
      omega
theorem sum_add {α : Type} (l : List α) (f g : α → Int) : (l.map fun e => f e + g e).sum = (l.map f).sum + (l.map g).sum := by
  induction l with
  | nil => rfl
  | cons a l ih => show f a + g a + (l.map fun e => f e + g e).sum = f a + (l.map f).sum + (g a + (l.map g).sum); rw [ih]; omega
theorem sum_mul {α : Type} (l : List α) (c : Int) (f : α → Int) : (l.map fun e => c * f e).sum = c * (l.map f).sum := by
  induction l with
  | nil => show (0 : Int) = c * 0; omega
  | cons a l ih => show c * f a + (l.map fun e => c * f e).sum = c * (f a + (l.map f).sum); rw [ih, Int.mul_add]
theorem sum_congr {α : Type} {l : List α} {f g : α → Int} (h : ∀ e ∈ l, f e = g e) : (l.map f).sum = (l.map g).sum := by
  rw [List.map_congr_left h]
structure Row (E : List (Int × Int)) (K B : Int) : Prop where
  sg : ∀ e ∈ E, e.1 = 0 ∨ e.1 = 1 ∨ e.1 = -1
  at_ : ∀ e ∈ E, e.1 ≠ 0 → wt E e.2 = K + if e.1 = -1 then 1 else 0
  tot : (E.map fun e => e.1).sum = 0
  low : ∀ e ∈ E, -B < e.2
  high : ∀ e ∈ E, e.2 ≤ B
section
variable {E : List (Int × Int)} {K B : Int}
theorem wt_step (E : List (Int × Int)) (t : Int) : wt E (t - 1) = wt E t + (E.map fun e => if e.2 = t then e.1 else 0).sum := by
  unfold wt
  rw [← sum_add]
  refine sum_congr fun e _ => ?_
  repeat' split <;> omega
/-- Where no point can lie, there is none further on the left. -/
theorem Row.stuck (h : Row E K B) {t : Int} (h1 : wt E t ≠ K) (h2 : wt E t ≠ K + 1) (n : Nat) : wt E (t - n) = wt E t := by
  induction n with
  | zero => rw [show t - ((0 : Nat) : Int) = t by omega]
  | succ n ih =>
    rw [show t - ((n + 1 : Nat) : Int) = t - n - 1 by omega, wt_step, ih, sum_zero]
    · omega
    · intro e he
      split
      · rename_i g
        by_cases z : e.1 = 0
        · exact z
        · exfalso
          have := h.at_ e he z
          rw [g, ih] at this
          split at this <;> omega
      · rfl
theorem Row.bottom (h : Row E K B) {t : Int} (ht : t ≤ -B) : wt E t = 0 := by
  rw [← h.tot]
  unfold wt
  refine sum_congr fun e he => ?_
  have := h.low e he
  rw [if_pos (by omega)]
theorem Row.top (h : Row E K B) {t : Int} (ht : B ≤ t) : wt E t = 0 := by
  refine sum_zero fun e he => ?_
  have := h.high e he
  rw [if_neg (by omega)]
theorem Row.three (h : Row E K B) (t : Int) : wt E t = K ∨ wt E t = K + 1 ∨ wt E t = 0 := by
  by_cases h1 : wt E t = K
  · exact .inl h1
  · by_cases h2 : wt E t = K + 1
    · exact .inr (.inl h2)
    · refine .inr (.inr ?_)
      rw [← h.stuck h1 h2 (t + B).toNat]
      by_cases g : -B ≤ t
      · exact h.bottom (by omega)
      · exact h.bottom (by omega)
theorem Row.which (h : Row E K B) {e : Int × Int} (he : e ∈ E) (hz : e.1 ≠ 0) : K = 0 ∨ K = -1 := by
  have ht := h.top (t := B) (Int.le_refl _)
  by_cases g : K = 0 ∨ K = -1
  · exact g
  · exfalso
    have := h.stuck (t := B) (by omega) (by omega) (B - e.2).toNat
    have hh := h.high e he
    rw [show B - ((B - e.2).toNat : Int) = e.2 by omega, ht] at this
    have h3 := h.at_ e he hz
    split at h3 <;> omega
/-- the sum, by thresholds. -/
theorem Row.sum (h : Row E K B) (hB : 0 ≤ B) : (E.map fun e => e.1 * e.2).sum = sumR (2 * B).toNat fun j => wt E ((j : Int) - B) := by
  unfold wt
  rw [sumR_map]
  have e1 : ∀ e ∈ E, sumR (2 * B).toNat (fun j => if (j : Int) - B < e.2 then e.1 else 0) = e.1 * e.2 + B * e.1 := fun e he => by
    have h1 := h.low e he
    have h2 := h.high e he
    rw [sumR_lt _ _ _ _ (by omega), if_pos (by omega), Int.mul_add, Int.mul_comm B]
  rw [sum_congr e1, sum_add, sum_mul, h.tot]; omega
theorem Row.pos (h : Row E 0 B) {e : Int × Int} (he : e ∈ E) (hz : e.1 ≠ 0) : 0 < (E.map fun e => e.1 * e.2).sum := by
  have hl := h.low e he
  have hh := h.high e he
  have h3 := h.at_ e he hz
  have hB : 0 ≤ B := by omega
  rw [h.sum hB]
  have hn : ∀ j, j < (2 * B).toNat → 0 ≤ wt E ((j : Int) - B) := fun j _ => by have := h.three ((j : Int) - B); omega
  by_cases g : e.1 = -1
  · rw [if_pos g] at h3
    have hlt : e.2 < B := by
      by_cases k : e.2 = B
      · have := h.top (t := e.2) (by omega); omega
      · omega
    refine sumR_pos hn (k := (e.2 + B).toNat) (by omega) ?_
    rw [show (((e.2 + B).toNat : Nat) : Int) - B = e.2 by omega]; omega
  · rw [if_neg g] at h3
    have hsg := h.sg e he
    refine sumR_pos hn (k := (e.2 - 1 + B).toNat) (by omega) ?_
    rw [show (((e.2 - 1 + B).toNat : Nat) : Int) - B = e.2 - 1 by omega, wt_step]
    have : 0 < (E.map fun e' => if e'.2 = e.2 then e'.1 else 0).sum := by
      refine sum_pos (a := e) (fun e' he' => ?_) he (by rw [if_pos rfl]; omega)
      split
      · rename_i k
        have s := h.sg e' he'
        by_cases z : e'.1 = 0
        · omega
        · have := h.at_ e' he' z
          rw [k, h3] at this
          split at this <;> omega
      · exact Int.le_refl _
    omega
theorem wt_neg (E : List (Int × Int)) (t : Int) : wt (E.map fun e => (-e.1, e.2)) t = -wt E t := by
  unfold wt
  rw [List.map_map, show -(E.map fun e => if t < e.2 then e.1 else 0).sum = -1 * (E.map fun e => if t < e.2 then e.1 else 0).sum by omega, ← sum_mul]
  refine sum_congr fun e _ => ?_
  show (if t < e.2 then -e.1 else 0) = _
  split <;> omega
theorem Row.neg (h : Row E K B) : Row (E.map fun e => (-e.1, e.2)) (-1 - K) B where
  sg := fun e he => by
    obtain ⟨x, hx, rfl⟩ := List.mem_map.1 he
    have := h.sg x hx
    dsimp only
    omega
  at_ := fun e he hz => by
    obtain ⟨x, hx, rfl⟩ := List.mem_map.1 he
    have s := h.sg x hx
    dsimp only at hz ⊢
    rw [wt_neg, h.at_ x hx (by omega)]
    repeat' split <;> omega
  tot := by
    rw [List.map_map]
    have := h.tot
    have e1 : (E.map ((fun e => e.1) ∘ fun e => (-e.1, e.2))) = E.map fun e => -1 * e.1 := List.map_congr_left fun e _ => by show -e.1 = -1 * e.1; omega
    rw [e1, sum_mul, this]; rfl
  low := fun e he => by
    obtain ⟨x, hx, rfl⟩ := List.mem_map.1 he
    exact h.low x hx
  high := fun e he => by
    obtain ⟨x, hx, rfl⟩ := List.mem_map.1 he
    exact h.high x hx
theorem Row.sign (h : Row E K B) {e : Int × Int} (he : e ∈ E) (hz : e.1 ≠ 0) : K = 0 ∧ 0 < (E.map fun e => e.1 * e.2).sum ∨ K = -1 ∧ (E.map fun e => e.1 * e.2).sum < 0 := by
  rcases h.which he hz with rfl | rfl
  · exact .inl ⟨rfl, h.pos he hz⟩
  · right
    have h' : Row (E.map fun e => (-e.1, e.2)) 0 B := h.neg
    have := h'.pos (List.mem_map.2 ⟨e, he, rfl⟩) (by dsimp only; omega)
    rw [List.map_map] at this
    have e1 : (E.map ((fun e => e.1 * e.2) ∘ fun e => (-e.1, e.2))) = E.map fun e => -1 * (e.1 * e.2) := List.map_congr_left fun e _ => by show -e.1 * e.2 = -1 * (e.1 * e.2); rw [Int.neg_mul]; omega
    rw [e1, sum_mul] at this
    exact ⟨rfl, by omega⟩
end
/-! Parts of segments: what is free of a segment is free of its parts (plain mathematics). -/
theorem free_iff {a b p q : Pt} : Free a b p q ↔ meetsN a b p q = 0 := by
  have he := meets_ends (a := a) (b := b) (c := p) (d := q)
  have hc := meets_cross (a := a) (b := b) (c := p) (d := q)
  constructor
  · rintro ⟨h1, h2, h3, h4, h5⟩
    by_cases g : meetsN a b p q = 0
    · exact g
    · exfalso
      by_cases k : meetsN a b p q = 3
      · exact h5 (hc.1 k)
      · rcases he.2 ⟨g, k⟩ with h | h | h | h
        · rw [h] at h3; cases h3
        · rw [h] at h4; cases h4
        · rw [h] at h1; cases h1
        · rw [h] at h2; cases h2
  · intro h
    rw [h] at he hc
    have hn : ¬ (holdsN p q a = true ∨ holdsN p q b = true ∨ holdsN a b p = true ∨ holdsN a b q = true) := fun h => (he.1 h).1 rfl
    refine ⟨?_, ?_, ?_, ?_, fun h => absurd (hc.2 h) (by decide)⟩ <;> (rw [← Bool.not_eq_true]; intro h; exact hn (by simp [h]))
theorem free_no {a b p q x : Pt} (h : Free a b p q) (h1 : holdsN a b x = true) (h2 : holdsN p q x = true) : False := common_kind (p := x) ⟨h1, h2⟩ (free_iff.1 h)
theorem free_turn {a b p q : Pt} (h : Free a b p q) : Free p q a b := by
  rw [free_iff] at *; rw [meets_swap]; exact h
/-- m lies between p and q, and is none of them. -/
structure Mid (p q m : Pt) : Prop where
  c0 : crs p q m = 0
  d0 : dt m p q < 0
section
variable {p q m : Pt}
theorem Mid.back (h : Mid p q m) : Mid q p m := ⟨by rw [crs_back, h.c0]; rfl, by have := h.d0; unfold dt at *; grind⟩
theorem Mid.same (h : Mid p q m) : Same (sb q p) (sb m p) where
  c0 := by have := h.c0; unfold cr sb; unfold crs at this; grind
  d0 := by
    have h1 := h.d0
    have h2 := mul_self (m.x - p.x)
    have h3 := mul_self (m.y - p.y)
    have e : (sb q p).x * (sb m p).x + (sb q p).y * (sb m p).y = (m.x - p.x) * (m.x - p.x) + (m.y - p.y) * (m.y - p.y) - dt m p q := by unfold sb dt; grind
    omega
theorem Mid.holds (h : Mid p q m) : holdsN p q m = true := holds_iff.2 ⟨h.c0, Int.le_of_lt h.d0⟩
theorem Mid.ne (h : Mid p q m) : m ≠ p := by
  rintro rfl
  have := h.d0
  have e : dt m m q = 0 := by unfold dt; grind
  omega
theorem Same.symm {z v : Pt} (h : Same z v) : Same v z := ⟨by have := h.c0; unfold cr at *; grind, by have := h.d0; grind⟩
/-- a part of a segment. -/
theorem Mid.sub (h : Mid p q m) {a : Pt} (ha : holdsN p m a = true) : holdsN p q a = true := by
  rw [holds_iff] at *
  obtain ⟨h1, h2⟩ := ha
  have hs := h.same
  have hn := hs.symm.pos
  have c1 : ((sb m p).x * (sb m p).x + (sb m p).y * (sb m p).y) * crs p q a = ((sb q p).x * (sb m p).x + (sb q p).y * (sb m p).y) * crs p m a := by
    have := h.c0; unfold crs at *; unfold sb; grind
  rw [h1, Int.mul_zero] at c1
  refine ⟨by rcases Int.mul_eq_zero.1 c1 with k | k <;> omega, ?_⟩
  have hx : 0 ≤ (a.x - p.x) * (m.x - p.x) + (a.y - p.y) * (m.y - p.y) := by
    have h3 := mul_self (a.x - p.x)
    have h4 := mul_self (a.y - p.y)
    have e : (a.x - p.x) * (m.x - p.x) + (a.y - p.y) * (m.y - p.y) = (a.x - p.x) * (a.x - p.x) + (a.y - p.y) * (a.y - p.y) - dt a p m := by unfold dt; grind
    omega
  have hy : 0 ≤ (q.x - m.x) * (m.x - p.x) + (q.y - m.y) * (m.y - p.y) := by
    have := h.d0
    have e : (q.x - m.x) * (m.x - p.x) + (q.y - m.y) * (m.y - p.y) = -dt m p q := by unfold dt; grind
    omega
  have hxy := Int.mul_nonneg hx hy
  have e1 : ((sb m p).x * (sb m p).x + (sb m p).y * (sb m p).y) * ((a.x - p.x) * (q.x - m.x) + (a.y - p.y) * (q.y - m.y)) = ((a.x - p.x) * (m.x - p.x) + (a.y - p.y) * (m.y - p.y)) * ((q.x - m.x) * (m.x - p.x) + (q.y - m.y) * (m.y - p.y)) := by
    have h5 : (m.x - p.x) * (a.y - p.y) - (m.y - p.y) * (a.x - p.x) = 0 := h1
    unfold sb; grind
  have e2 : 0 ≤ (a.x - p.x) * (q.x - m.x) + (a.y - p.y) * (q.y - m.y) := by
    generalize (a.x - p.x) * (q.x - m.x) + (a.y - p.y) * (q.y - m.y) = u at *
    rcases Int.lt_or_le u 0 with k | k
    · have := Int.mul_neg_of_pos_of_neg hn k; omega
    · exact k
  have e3 : dt a p q = dt a p m - ((a.x - p.x) * (q.x - m.x) + (a.y - p.y) * (q.y - m.y)) := by unfold dt; grind
  omega
theorem mul_sign {n d x y : Int} (hn : 0 < n) (hd : 0 < d) (h : n * x = d * y) : (0 < x ↔ 0 < y) ∧ (x < 0 ↔ y < 0) := signs_of hn hd h
theorem neg_mul_iff {x y : Int} : x * y < 0 ↔ x < 0 ∧ 0 < y ∨ 0 < x ∧ y < 0 := by
  have := sg x y
  omega
theorem Mid.apart (h : Mid p q m) {a b : Pt} (hA : Apart a b p m) : Apart a b p q := by
  have hs := h.same
  have hn := hs.symm.pos
  obtain ⟨k1, k2⟩ := hA
  have ca : ((sb m p).x * (sb m p).x + (sb m p).y * (sb m p).y) * crs p q a = ((sb q p).x * (sb m p).x + (sb q p).y * (sb m p).y) * crs p m a := by
    have := h.c0; unfold crs at *; unfold sb; grind
  have cb : ((sb m p).x * (sb m p).x + (sb m p).y * (sb m p).y) * crs p q b = ((sb q p).x * (sb m p).x + (sb q p).y * (sb m p).y) * crs p m b := by
    have := h.c0; unfold crs at *; unfold sb; grind
  have s1 := signs_of hn hs.d0 ca
  have s2 := signs_of hn hs.d0 cb
  have hz := hs.pos
  have hd := hs.d0
  have hw : 0 < (sb q p).x * (sb q p).x + (sb q p).y * (sb q p).y - ((sb q p).x * (sb m p).x + (sb q p).y * (sb m p).y) := by
    have h' := h.back.same.d0
    have e : (sb q p).x * (sb q p).x + (sb q p).y * (sb q p).y - ((sb q p).x * (sb m p).x + (sb q p).y * (sb m p).y) = (sb p q).x * (sb m q).x + (sb p q).y * (sb m q).y := by unfold sb; grind
    omega
  have e : ((sb q p).x * (sb q p).x + (sb q p).y * (sb q p).y) * crs a b m = ((sb q p).x * (sb q p).x + (sb q p).y * (sb q p).y - ((sb q p).x * (sb m p).x + (sb q p).y * (sb m p).y)) * crs a b p + ((sb q p).x * (sb m p).x + (sb q p).y * (sb m p).y) * crs a b q := by
    have := h.c0; unfold crs at *; unfold sb; grind
  rw [neg_mul_iff] at k1 k2
  refine ⟨neg_mul_iff.2 ?_, neg_mul_iff.2 (by omega)⟩
  clear s1 s2 ca cb k2
  generalize (sb q p).x * (sb q p).x + (sb q p).y * (sb q p).y = n1 at *
  generalize (sb q p).x * (sb m p).x + (sb q p).y * (sb m p).y = n2 at *
  generalize crs a b m = cm at *
  generalize crs a b p = cp at *
  generalize crs a b q = cq at *
  have t1 := sg n1 cm
  have t2 := sg (n1 - n2) cp
  have t3 := sg n2 cq
  generalize n1 * cm = y1 at *
  generalize (n1 - n2) * cp = y2 at *
  generalize n2 * cq = y3 at *
  omega
theorem Mid.free (h : Mid p q m) {a b : Pt} (hf : Free a b p q) : Free a b p m := by
  obtain ⟨h1, h2, h3, h4, h5⟩ := hf
  refine ⟨h1, ?_, ?_, ?_, fun hA => h5 (h.apart hA)⟩
  · rw [← Bool.not_eq_true]; exact fun k => free_no ⟨h1, h2, h3, h4, h5⟩ k h.holds
  · rw [← Bool.not_eq_true]; intro k; rw [h.sub k] at h3; cases h3
  · rw [← Bool.not_eq_true]; intro k; rw [h.sub k] at h4; cases h4
/-- two sides at c that leave in different directions: the other one does not meet a part of the one that does not have c. -/
theorem dif_holds {c d x : Pt} (h : Dif (sb x c) (sb d c)) : holdsN c d x = false := by
  rw [← Bool.not_eq_true]
  intro k
  rw [holds_iff] at k
  refine h ⟨by have := k.1; unfold crs at this; unfold cr sb; grind, ?_⟩
  have h1 := mul_self (x.x - c.x)
  have h2 := mul_self (x.y - c.y)
  have e : (sb x c).x * (sb d c).x + (sb x c).y * (sb d c).y = (x.x - c.x) * (x.x - c.x) + (x.y - c.y) * (x.y - c.y) - dt x c d := by unfold sb dt; grind
  have := k.2
  omega
theorem dif_free {b c d m : Pt} (hm : Mid b c m) (h : Dif (sb b c) (sb d c)) : Free c d b m := by
  have hs := hm.back.same
  refine ⟨dif_holds h, dif_holds (dif_swap (hs.dif (dif_swap h))), ?_, ?_, ?_⟩
  · rw [← Bool.not_eq_true]
    intro k
    rw [holds_iff] at k
    have := hs.d0
    have e : dt c b m = (sb b c).x * (sb m c).x + (sb b c).y * (sb m c).y := by unfold dt sb; grind
    omega
  · rw [← Bool.not_eq_true]
    intro k
    have k2 := hm.sub k
    rw [holds_iff] at k2
    refine h ⟨by have := k2.1; unfold crs at this; unfold cr sb; grind, ?_⟩
    have h1 := mul_self (d.x - c.x)
    have h2 := mul_self (d.y - c.y)
    have e : (sb b c).x * (sb d c).x + (sb b c).y * (sb d c).y = (d.x - c.x) * (d.x - c.x) + (d.y - c.y) * (d.y - c.y) - dt d b c := by unfold sb dt; grind
    omega
  · rintro ⟨_, k2⟩
    have e : crs b m c = 0 := by have := hm.c0; unfold crs at *; grind
    rw [e, Int.zero_mul] at k2
    omega
theorem Mid.freeP (h : Mid p q m) {a : Pt} {t : List Pt} (hf : FreeP a t p q) : FreeP a t p m := by
  induction t generalizing a with
  | nil => trivial
  | cons c t ih => exact ⟨h.free hf.1, ih hf.2⟩
end
/-! The points in which a level line meets a ring (plain mathematics). -/
theorem sum_perm {l m : List Int} (h : l.Perm m) : l.sum = m.sum := by
  induction h with
  | nil => rfl
  | cons a _ ih => rw [List.sum_cons, List.sum_cons, ih]
  | swap a b l => show b + (a + l.sum) = a + (b + l.sum); omega
  | trans _ _ h1 h2 => exact h1.trans h2
theorem xs_zero (d e : Int) : xs d e 0 = 0 := by unfold xs; repeat' split <;> omega
/-- does the side go up or down through the level y? -/
def sgy (y : Int) (s : Pt × Pt) : Int := if s.1.y < y ∧ y < s.2.y then 1 else if s.2.y < y ∧ y < s.1.y then -1 else 0
/-- a level without corners, and where the sides meet it. -/
structure Lev (L : List Pt) (y : Int) (X : Pt × Pt → Int) : Prop where
  ne : ∀ s ∈ sds L, s.1.y ≠ y ∧ s.2.y ≠ y
  on : ∀ s ∈ sds L, sgy y s ≠ 0 → (X s - s.1.x) * (s.2.y - s.1.y) = (s.2.x - s.1.x) * (y - s.1.y)
def lev (L : List Pt) (y : Int) (X : Pt × Pt → Int) : List (Int × Int) := (sds L).map fun s => (sgy y s, X s)
theorem bound_of (l : List (Int × Int)) : ∃ B : Int, 0 ≤ B ∧ ∀ e ∈ l, -B < e.2 ∧ e.2 ≤ B := by
  induction l with
  | nil => exact ⟨0, by omega, fun e he => by cases he⟩
  | cons a l ih =>
    obtain ⟨B, h0, h⟩ := ih
    refine ⟨B + (if 0 ≤ a.2 then a.2 else -a.2) + 1, by split <;> omega, fun e he => ?_⟩
    rcases List.mem_cons.1 he with rfl | he
    · split <;> omega
    · have := h e he
      split <;> omega
section
variable {L : List Pt} {y : Int} {X : Pt × Pt → Int}
theorem crs_level {a b : Pt} {u t : Int} (h : (u - a.x) * (b.y - a.y) = (b.x - a.x) * (y - a.y)) : crs a b ⟨t, y⟩ = (b.y - a.y) * (u - t) := by unfold crs; grind
theorem cs_level (h : Lev L y X) {s : Pt × Pt} (hs : s ∈ sds L) (t : Int) : (if t < X s then sgy y s else 0) = cs s.1 s.2 ⟨t, y⟩ := by
  obtain ⟨n1, n2⟩ := h.ne s hs
  have ho := h.on s hs
  unfold cs
  dsimp only
  unfold sgy at *
  by_cases u : s.1.y < y ∧ y < s.2.y
  · rw [if_pos u] at ho ⊢
    rw [xs_up (by omega) (by omega), crs_level (ho (by decide))]
    have := sg (s.2.y - s.1.y) (X s - t)
    repeat' split <;> omega
  · rw [if_neg u] at ho ⊢
    by_cases v : s.2.y < y ∧ y < s.1.y
    · rw [if_pos v] at ho ⊢
      rw [xs_dn (by omega) (by omega), crs_level (ho (by decide))]
      have := sg (s.2.y - s.1.y) (X s - t)
      repeat' split <;> omega
    · rw [if_neg v]
      by_cases g : s.1.y ≤ y
      · rw [xs_lo (by omega) (by omega)]; split <;> rfl
      · rw [xs_hi (by omega) (by omega)]; split <;> rfl
theorem wt_level (h : Lev L y X) (t : Int) : wt (lev L y X) t = ((sds L).map fun s => cs s.1 s.2 ⟨t, y⟩).sum := by
  unfold wt lev
  rw [List.map_map]
  exact sum_congr fun s hs => cs_level h hs t
theorem mid_level {a b : Pt} {u : Int} (h : (u - a.x) * (b.y - a.y) = (b.x - a.x) * (y - a.y)) (hy : sgy y (a, b) ≠ 0) : Mid a b ⟨u, y⟩ where
  c0 := by rw [crs_level h, Int.sub_self, Int.mul_zero]
  d0 := by
    have hb : (y - a.y) * (b.y - y) > 0 := by
      unfold sgy at hy
      dsimp only at hy
      have := sg (y - a.y) (b.y - y)
      split at hy
      · omega
      · split at hy <;> omega
    have hq := sq_pos' (show b.y - a.y ≠ 0 by intro k; have : sgy y (a, b) = 0 := (by unfold sgy; dsimp only; repeat' split <;> omega); exact hy this)
    have e : (b.y - a.y) * (b.y - a.y) * dt ⟨u, y⟩ a b = -(((y - a.y) * (b.y - y)) * ((b.x - a.x) * (b.x - a.x) + (b.y - a.y) * (b.y - a.y))) := by
      have x2 : (u - b.x) * (b.y - a.y) = (b.x - a.x) * (y - b.y) := by grind
      have : (b.y - a.y) * (b.y - a.y) * dt ⟨u, y⟩ a b = ((u - a.x) * (b.y - a.y)) * ((u - b.x) * (b.y - a.y)) + (b.y - a.y) * (b.y - a.y) * ((a.y - y) * (b.y - y)) := by unfold dt; grind
      rw [this, h, x2]
      grind
    have h2 := mul_self (b.x - a.x)
    have := Int.mul_pos hb (show 0 < (b.x - a.x) * (b.x - a.x) + (b.y - a.y) * (b.y - a.y) by omega)
    generalize dt ⟨u, y⟩ a b = dd at *
    generalize (b.y - a.y) * (b.y - a.y) = qq at *
    rcases Int.lt_or_le dd 0 with k | k
    · exact k
    · have := Int.mul_nonneg (Int.le_of_lt hq) k; omega
/-- on the right of a point in which a ring meets a level. -/
theorem at_level (hr : Ring L) (h : Lev L y X) {s : Pt × Pt} (hs : s ∈ sds L) (hz : sgy y s ≠ 0) : wt (lev L y X) (X s) = kl L + if sgy y s = -1 then 1 else 0 := by
  have hm := mid_level (a := s.1) (b := s.2) (h.on s hs hz) hz
  rw [wt_level h]
  obtain ⟨b0, c0, d0, t0, hL, _⟩ := hr.open_
  obtain ⟨n, t, hn⟩ := sds_at hs (by rw [hL]; simp)
  have hp := sds_permN n L
  have hr' := hr.rotN n
  have hk := hr.kl_rotN n
  have hr1 := hr' 1
  obtain ⟨b, c, d, t', e, hbc, hd, hf⟩ := hr'.open_
  rw [hn] at e
  have e1 : s.1 = b := (List.cons.inj e).1
  have e2 : s.2 = c := (List.cons.inj (List.cons.inj e).2).1
  have e3 : t = d :: t' := (List.cons.inj (List.cons.inj e).2).2
  rw [hn, e1, e2, e3] at hr1 hk
  rw [hn, e1, e2, e3] at hp
  rw [e1, e2] at hm
  obtain ⟨_, hd2⟩ := cond_next (c := c) (d := d) (t := t') (b := b) hr1
  have hff : FreeP c (d :: t') b ⟨X s, y⟩ := ⟨dif_free hm hd2, hm.freeP hf⟩
  have hside := kn_side (t := d :: t') (show lst c (d :: t') ≠ b from dif_ne hd) hm.ne hff hm.same hd
  have hcs : ((sds L).map fun s' => cs s'.1 s'.2 ⟨X s, y⟩).sum = cs b c ⟨X s, y⟩ + ws c (d :: t' ++ [b]) ⟨X s, y⟩ := by
    rw [← sum_perm (hp.map fun s' : Pt × Pt => cs s'.1 s'.2 ⟨X s, y⟩), ws_sum]
    rfl
  have h0 : cs b c ⟨X s, y⟩ = 0 := by unfold cs; rw [hm.c0]; exact xs_zero _ _
  have hk2 : kn b c (d :: t') = kl L := hk
  rw [hcs, h0, hside, hk2]
  have hy : sgy y s = if b.y < y ∧ y < c.y then 1 else if c.y < y ∧ y < b.y then -1 else 0 := by unfold sgy; rw [e1, e2]
  rw [hy] at hz ⊢
  unfold Pl.hz dn sb
  dsimp only
  repeat' split
  all_goals omega
/-- A level without corners is a row. -/
theorem row_level (hr : Ring L) (h : Lev L y X) : ∃ B, Row (lev L y X) (kl L) B := by
  obtain ⟨B, _, hB⟩ := bound_of (lev L y X)
  refine ⟨B, ?_, ?_, ?_, fun e he => (hB e he).1, fun e he => (hB e he).2⟩
  · intro e he
    obtain ⟨s, hs, rfl⟩ := List.mem_map.1 he
    dsimp only
    unfold sgy
    repeat' split <;> omega
  · intro e he hz
    obtain ⟨s, hs, rfl⟩ := List.mem_map.1 he
    exact at_level hr h hs hz
  · have e1 : ((lev L y X).map fun e => e.1) = (sds L).map fun s => (fun p : Pt => if y < p.y then (1 : Int) else 0) s.2 - (fun p : Pt => if y < p.y then (1 : Int) else 0) s.1 := by
      unfold lev
      rw [List.map_map]
      refine List.map_congr_left fun s hs => ?_
      obtain ⟨n1, n2⟩ := h.ne s hs
      show sgy y s = _
      unfold sgy
      dsimp only
      repeat' split <;> omega
    rw [e1]
    exact sds_tele (fun p : Pt => if y < p.y then (1 : Int) else 0) L
/-- the sum of what a level meets has the sign of the way. -/
theorem level_sign (hr : Ring L) (h : Lev L y X) {s : Pt × Pt} (hs : s ∈ sds L) (hz : sgy y s ≠ 0) :
    kl L = 0 ∧ 0 < ((sds L).map fun s => sgy y s * X s).sum ∨ kl L = -1 ∧ ((sds L).map fun s => sgy y s * X s).sum < 0 := by
  obtain ⟨B, hB⟩ := row_level hr h
  have := hB.sign (e := (sgy y s, X s)) (List.mem_map.2 ⟨s, hs, rfl⟩) hz
  unfold lev at this
  rw [List.map_map] at this
  exact this
theorem level_none (h : ∀ s ∈ sds L, sgy y s = 0) : ((sds L).map fun s => sgy y s * X s).sum = 0 := sum_zero fun s hs => by rw [h s hs, Int.zero_mul]
end
/-! Rings that are scaled (plain mathematics). -/
def scl (N : Int) (p : Pt) : Pt := ⟨N * p.x, N * p.y⟩
section
variable {N : Int}
theorem mul_pos_iff {x : Int} (hN : 0 < N) : (0 < N * x ↔ 0 < x) ∧ (N * x < 0 ↔ x < 0) ∧ (N * x ≤ 0 ↔ x ≤ 0) ∧ (N * x = 0 ↔ x = 0) := by
  have := sg N x
  omega
theorem xs_scl (hN : 0 < N) (d e A : Int) : xs (N * d) (N * e) (N * (N * A)) = xs d e A := by
  have h1 := mul_pos_iff (x := d) hN
  have h2 := mul_pos_iff (x := e) hN
  have h3 := mul_pos_iff (x := A) hN
  have h4 := mul_pos_iff (x := N * A) hN
  unfold xs
  repeat' split <;> omega
theorem crs_scl (a b p : Pt) : crs (scl N a) (scl N b) (scl N p) = N * (N * crs a b p) := by unfold crs scl; grind
theorem dt_scl (a b p : Pt) : dt (scl N a) (scl N b) (scl N p) = N * (N * dt a b p) := by unfold dt scl; grind
theorem cs_scl (hN : 0 < N) (a b p : Pt) : cs (scl N a) (scl N b) (scl N p) = cs a b p := by
  unfold cs
  rw [crs_scl, show (scl N a).y - (scl N p).y = N * (a.y - p.y) by unfold scl; grind, show (scl N b).y - (scl N p).y = N * (b.y - p.y) by unfold scl; grind, xs_scl hN]
theorem holds_scl (hN : 0 < N) (a b p : Pt) : holdsN (scl N a) (scl N b) (scl N p) = holdsN a b p := by
  rw [Bool.eq_iff_iff, holds_iff, holds_iff, crs_scl, dt_scl]
  have h1 := mul_pos_iff (x := crs a b p) hN
  have h2 := mul_pos_iff (x := N * crs a b p) hN
  have h3 := mul_pos_iff (x := dt p a b) hN
  have h4 := mul_pos_iff (x := N * dt p a b) hN
  omega
theorem apart_scl (hN : 0 < N) {a b p q : Pt} : Apart (scl N a) (scl N b) (scl N p) (scl N q) ↔ Apart a b p q := by
  unfold Apart
  rw [neg_mul_iff, neg_mul_iff, neg_mul_iff, neg_mul_iff, crs_scl, crs_scl, crs_scl, crs_scl]
  have f : ∀ x : Int, (N * (N * x) < 0 ↔ x < 0) ∧ (0 < N * (N * x) ↔ 0 < x) := fun x => by
    have h3 := mul_pos_iff (x := x) hN
    have h4 := mul_pos_iff (x := N * x) hN
    omega
  have f1 := f (crs a b p)
  have f2 := f (crs a b q)
  have f3 := f (crs p q a)
  have f4 := f (crs p q b)
  omega
theorem free_scl (hN : 0 < N) {a b p q : Pt} : Free (scl N a) (scl N b) (scl N p) (scl N q) ↔ Free a b p q := by
  unfold Free
  rw [holds_scl hN, holds_scl hN, holds_scl hN, holds_scl hN, apart_scl hN]
theorem freeP_scl (hN : 0 < N) {a : Pt} {t : List Pt} {p q : Pt} : FreeP (scl N a) (t.map (scl N)) (scl N p) (scl N q) ↔ FreeP a t p q := by
  induction t generalizing a with
  | nil => exact Iff.rfl
  | cons c t ih => exact and_congr (free_scl hN) ih
theorem lst_scl (a : Pt) (t : List Pt) : lst (scl N a) (t.map (scl N)) = scl N (lst a t) := by
  induction t generalizing a with
  | nil => rfl
  | cons c t ih => exact ih c
theorem sb_scl (a b : Pt) : sb (scl N a) (scl N b) = scl N (sb a b) := Pt.ext' (by unfold sb scl; grind) (by unfold sb scl; grind)
theorem cr_scl (z v : Pt) : cr (scl N z) (scl N v) = N * (N * cr z v) := by unfold cr scl; grind
theorem dif_scl (hN : 0 < N) {z v : Pt} : Dif (scl N z) (scl N v) ↔ Dif z v := by
  unfold Dif
  have e : (scl N z).x * (scl N v).x + (scl N z).y * (scl N v).y = N * (N * (z.x * v.x + z.y * v.y)) := by unfold scl; grind
  rw [cr_scl, e]
  have h1 := mul_pos_iff (x := cr z v) hN
  have h2 := mul_pos_iff (x := N * cr z v) hN
  have h3 := mul_pos_iff (x := z.x * v.x + z.y * v.y) hN
  have h4 := mul_pos_iff (x := N * (z.x * v.x + z.y * v.y)) hN
  omega
theorem tn_scl (hN : 0 < N) (z v : Pt) : tn (scl N z) (scl N v) = tn z v := by
  have hh : ∀ z, halfB (scl N z) = halfB z := fun z => by
    rw [Bool.eq_iff_iff, half_true, half_true]
    have h1 := mul_pos_iff (x := z.y) hN
    have h2 := mul_pos_iff (x := z.x) hN
    unfold scl
    dsimp only
    omega
  unfold tn
  rw [hh, hh, cr_scl]
  have h1 := mul_pos_iff (x := cr z v) hN
  have h2 := mul_pos_iff (x := N * cr z v) hN
  repeat' split <;> omega
theorem hz_scl (hN : 0 < N) (z : Pt) : hz (scl N z) = hz z := by
  have h1 := mul_pos_iff (x := z.y) hN
  have h2 := mul_pos_iff (x := z.x) hN
  unfold hz scl
  dsimp only
  repeat' split <;> omega
theorem ws_scl (hN : 0 < N) (a : Pt) (t : List Pt) (p : Pt) : ws (scl N a) (t.map (scl N)) (scl N p) = ws a t p := by
  induction t generalizing a with
  | nil => rfl
  | cons c t ih => show cs _ _ _ + ws _ _ _ = cs a c p + ws c t p; rw [cs_scl hN, ih]
theorem kn_scl (hN : 0 < N) (b c : Pt) (t : List Pt) : kn (scl N b) (scl N c) (t.map (scl N)) = kn b c t := by
  unfold kn
  rw [ws_scl hN, lst_scl, sb_scl, sb_scl, hz_scl hN, hz_scl hN, tn_scl hN]
theorem kl_scl (hN : 0 < N) (l : List Pt) : kl (l.map (scl N)) = kl l := by
  match l with
  | [] => rfl
  | [_] => rfl
  | b :: c :: t => exact kn_scl hN b c t
theorem scl_inj (hN : 0 < N) {a b : Pt} (h : scl N a = scl N b) : a = b := by
  have h1 := congrArg Pt.x h
  have h2 := congrArg Pt.y h
  exact Pt.ext' (Int.eq_of_mul_eq_mul_left (by omega) h1) (Int.eq_of_mul_eq_mul_left (by omega) h2)
theorem cond_scl (hN : 0 < N) {l : List Pt} (h : Cond l) : Cond (l.map (scl N)) := by
  match l, h with
  | b :: c :: d :: t, h =>
    refine ⟨fun e => h.1 (scl_inj hN e), ?_, (freeP_scl hN).2 h.2.2⟩
    rw [lst_scl, sb_scl, sb_scl, dif_scl hN]
    exact h.2.1
theorem rot_map {α β : Type} (f : α → β) (l : List α) : rot (l.map f) = (rot l).map f := by
  cases l with
  | nil => rfl
  | cons a t => show t.map f ++ [f a] = (t ++ [a]).map f; simp
theorem rotN_map (f : Pt → Pt) (n : Nat) (l : List Pt) : rotN n (l.map f) = (rotN n l).map f := by
  induction n generalizing l with
  | zero => rfl
  | succ n ih => show rotN n (rot (l.map f)) = _; rw [rot_map, ih]; rfl
theorem Ring.scl (hN : 0 < N) {l : List Pt} (h : Ring l) : Ring (l.map (scl N)) := fun n => by
  rw [rotN_map]; exact cond_scl hN (h n)
theorem prs_map (f : Pt → Pt) (a : Pt) (t : List Pt) : prs (f a) (t.map f) = (prs a t).map fun s => (f s.1, f s.2) := by
  induction t generalizing a with
  | nil => rfl
  | cons c t ih => show (f a, f c) :: prs (f c) (t.map f) = _; rw [ih]; rfl
theorem sds_map (f : Pt → Pt) (l : List Pt) : sds (l.map f) = (sds l).map fun s => (f s.1, f s.2) := by
  cases l with
  | nil => rfl
  | cons b t =>
    show prs (f b) (t.map f ++ [f b]) = _
    rw [show t.map f ++ [f b] = (t ++ [b]).map f by simp, prs_map]; rfl
end
/-! The area of a ring has the sign of its way: it is not 0 (plain mathematics). -/
/-- does the way from a to b pass the step from k to k + 1? -/
def sgk (a b k : Int) : Int := if a ≤ k ∧ k < b then 1 else if b ≤ k ∧ k < a then -1 else 0
def cl (lo hi c : Int) : Int := if c ≤ lo then lo else if hi ≤ c then hi else c
theorem sum_up (G : Int → Int) (a b M : Int) (h : a ≤ b) (hM : -M ≤ a) (n : Nat) : sumR n (fun j => sgk a b ((j : Int) - M) * (G ((j : Int) - M + 1) - G ((j : Int) - M))) = G (cl a b ((n : Int) - M)) - G a := by
  induction n with
  | zero =>
    show (0 : Int) = _
    unfold cl
    rw [if_pos (by omega)]; omega
  | succ n ih =>
    show sumR n _ + _ = _
    rw [ih]
    dsimp only
    unfold cl sgk
    by_cases g1 : a ≤ (n : Int) - M ∧ (n : Int) - M < b
    · rw [if_pos g1]
      by_cases g2 : (n : Int) - M ≤ a
      · rw [if_pos g2, if_neg (show ¬ (((n + 1 : Nat) : Int) - M ≤ a) by omega)]
        rw [show (n : Int) - M = a by omega]
        split
        · rw [show a + 1 = b by omega]; omega
        · rw [show ((n + 1 : Nat) : Int) - M = a + 1 by omega]; omega
      · rw [if_neg g2, if_neg (by omega), if_neg (show ¬ (((n + 1 : Nat) : Int) - M ≤ a) by omega)]
        split
        · rw [show (n : Int) - M + 1 = b by omega]; omega
        · rw [show ((n + 1 : Nat) : Int) - M = (n : Int) - M + 1 by omega]; omega
    · rw [if_neg g1, if_neg (show ¬ (b ≤ (n : Int) - M ∧ (n : Int) - M < a) by omega), Int.zero_mul]
      by_cases g2 : (n : Int) - M ≤ a
      · rw [if_pos g2]
        by_cases g3 : ((n + 1 : Nat) : Int) - M ≤ a
        · rw [if_pos g3]; omega
        · rw [if_neg g3, if_pos (by omega), show a = b by omega]; omega
      · rw [if_neg g2, if_pos (by omega), if_neg (by omega), if_pos (by omega)]; omega
theorem sgk_swap (a b k : Int) : sgk b a k = -sgk a b k := by unfold sgk; repeat' split <;> omega
theorem sum_way (G : Int → Int) (a b M : Int) (h1 : -M ≤ a) (h2 : a ≤ M) (h3 : -M ≤ b) (h4 : b ≤ M) (hM : 0 ≤ M) :
    sumR (2 * M).toNat (fun j => sgk a b ((j : Int) - M) * (G ((j : Int) - M + 1) - G ((j : Int) - M))) = G b - G a := by
  have hn : (((2 * M).toNat : Nat) : Int) - M = M := by omega
  by_cases g : a ≤ b
  · rw [sum_up G a b M g h1, hn]
    unfold cl
    by_cases k : M ≤ a
    · rw [if_pos k, show a = b by omega]
    · rw [if_neg k, if_pos h4]
  · have := sum_up G b a M (by omega) h3 (2 * M).toNat
    rw [hn] at this
    have e : (fun j : Nat => sgk a b ((j : Int) - M) * (G ((j : Int) - M + 1) - G ((j : Int) - M))) = fun j : Nat => -1 * (sgk b a ((j : Int) - M) * (G ((j : Int) - M + 1) - G ((j : Int) - M))) := by
      funext j
      rw [sgk_swap b a, Int.neg_mul]; omega
    rw [e, sumR_mul, this]
    unfold cl
    by_cases k : M ≤ b
    · omega
    · rw [if_neg k, if_pos h2]; omega
/-- the point of a scaled side (by 2 H) at the middle of step k. -/
def xk (H k : Int) (a b : Pt) : Int := 2 * H * a.x + (b.x - a.x) * (H / (b.y - a.y)) * (2 * (k - a.y) + 1)
def Gk (H : Int) (a b : Pt) (k : Int) : Int := 2 * H * a.x * (k - a.y) + (b.x - a.x) * (H / (b.y - a.y)) * ((k - a.y) * (k - a.y))
theorem Gk_step (H : Int) (a b : Pt) (k : Int) : Gk H a b (k + 1) - Gk H a b k = xk H k a b := by unfold Gk xk; grind
theorem Gk_all (H : Int) (a b : Pt) (hd : b.y - a.y ∣ H) : Gk H a b b.y - Gk H a b a.y = H * ((b.y - a.y) * (a.x + b.x)) := by
  have := Int.ediv_mul_cancel hd
  unfold Gk
  generalize H / (b.y - a.y) = e at *
  rw [← this]
  grind
/-- the same, of the scaled side. -/
def XK (H k : Int) (s : Pt × Pt) : Int := s.1.x + ((s.2.x - s.1.x) / (2 * H)) * (H / ((s.2.y - s.1.y) / (2 * H))) * (2 * (k - s.1.y / (2 * H)) + 1)
theorem XK_eq {H : Int} (hH : 0 < H) (k : Int) (a b : Pt) : XK H k (scl (2 * H) a, scl (2 * H) b) = xk H k a b := by
  have e : ∀ x : Int, 2 * H * x / (2 * H) = x := fun x => Int.mul_ediv_cancel_left x (by omega)
  unfold XK xk scl
  dsimp only
  rw [← Int.mul_sub, ← Int.mul_sub, e, e, e]
theorem half_ne {H y k : Int} (hH : 0 < H) : (2 * H * y < H * (2 * k + 1) ↔ y ≤ k) ∧ (H * (2 * k + 1) < 2 * H * y ↔ k < y) ∧ 2 * H * y ≠ H * (2 * k + 1) := by
  have e : H * (2 * k + 1) - 2 * H * y = H * (2 * (k - y) + 1) := by grind
  have := sg H (2 * (k - y) + 1)
  omega
theorem sgy_scl {H : Int} (hH : 0 < H) (k : Int) (a b : Pt) : sgy (H * (2 * k + 1)) (scl (2 * H) a, scl (2 * H) b) = sgk a.y b.y k := by
  have h1 := half_ne (y := a.y) (k := k) hH
  have h2 := half_ne (y := b.y) (k := k) hH
  unfold sgy sgk scl
  dsimp only
  repeat' split <;> omega
theorem lev_scl {l : List Pt} {H : Int} (hH : 0 < H) (hd : ∀ s ∈ sds l, s.2.y ≠ s.1.y → s.2.y - s.1.y ∣ H) (k : Int) : Lev (l.map (scl (2 * H))) (H * (2 * k + 1)) (XK H k) where
  ne := fun s hs => by
    rw [sds_map] at hs
    obtain ⟨x, hx, rfl⟩ := List.mem_map.1 hs
    exact ⟨(half_ne (y := x.1.y) (k := k) hH).2.2, (half_ne (y := x.2.y) (k := k) hH).2.2⟩
  on := fun s hs hz => by
    rw [sds_map] at hs
    obtain ⟨⟨a, b⟩, hx, rfl⟩ := List.mem_map.1 hs
    rw [XK_eq hH]
    rw [sgy_scl hH] at hz
    have hne : b.y ≠ a.y := fun e => hz (by unfold sgk; dsimp only; repeat' split <;> omega)
    have := Int.ediv_mul_cancel (hd (a, b) hx hne)
    unfold xk scl
    dsimp only at *
    generalize H / (b.y - a.y) = e at *
    rw [← this]
    grind
/-- twice the area. -/
def tws (l : List Pt) : Int := ((sds l).map fun s => s.1.x * s.2.y - s.2.x * s.1.y).sum
theorem tws_eq (l : List Pt) : ((sds l).map fun s => (s.2.y - s.1.y) * (s.1.x + s.2.x)).sum = tws l := by
  have h := sds_tele (fun p => p.x * p.y) l
  unfold tws
  have e : ((sds l).map fun s => (s.2.y - s.1.y) * (s.1.x + s.2.x)).sum = ((sds l).map fun s => (s.1.x * s.2.y - s.2.x * s.1.y) + (s.2.x * s.2.y - s.1.x * s.1.y)).sum := sum_congr fun s _ => by grind
  rw [e, sum_add]
  omega
theorem bound_y (l : List (Pt × Pt)) : ∃ M : Int, 0 ≤ M ∧ ∀ s ∈ l, -M ≤ s.1.y ∧ s.1.y ≤ M ∧ -M ≤ s.2.y ∧ s.2.y ≤ M := by
  induction l with
  | nil => exact ⟨0, by omega, fun e he => by cases he⟩
  | cons a l ih =>
    obtain ⟨B, h0, h⟩ := ih
    refine ⟨B + (if 0 ≤ a.1.y then a.1.y else -a.1.y) + (if 0 ≤ a.2.y then a.2.y else -a.2.y), by split <;> split <;> omega, fun e he => ?_⟩
    rcases List.mem_cons.1 he with rfl | he
    · split <;> split <;> omega
    · have := h e he
      split <;> split <;> omega
theorem divisor (l : List (Pt × Pt)) : ∃ H : Int, 0 < H ∧ ∀ s ∈ l, s.2.y ≠ s.1.y → s.2.y - s.1.y ∣ H := by
  induction l with
  | nil => exact ⟨1, by omega, fun e he => by cases he⟩
  | cons a l ih =>
    obtain ⟨H, h0, h⟩ := ih
    by_cases g : a.2.y = a.1.y
    · refine ⟨H, h0, fun s hs hne => ?_⟩
      rcases List.mem_cons.1 hs with rfl | hs
      · exact absurd g hne
      · exact h s hs hne
    · rcases Int.lt_or_gt_of_ne g with k | k
      · refine ⟨(a.1.y - a.2.y) * H, Int.mul_pos (by omega) h0, fun s hs hne => ?_⟩
        rcases List.mem_cons.1 hs with rfl | hs
        · exact ⟨-H, by grind⟩
        · exact Int.dvd_trans (h s hs hne) (Int.dvd_mul_left _ _)
      · refine ⟨(a.2.y - a.1.y) * H, Int.mul_pos (by omega) h0, fun s hs hne => ?_⟩
        rcases List.mem_cons.1 hs with rfl | hs
        · exact Int.dvd_mul_right _ _
        · exact Int.dvd_trans (h s hs hne) (Int.dvd_mul_left _ _)
/-- what a level adds. -/
def lsum (l : List Pt) (H k : Int) : Int := ((sds l).map fun s => sgk s.1.y s.2.y k * xk H k s.1 s.2).sum
/-- the area, by levels. -/
theorem area_levels {l : List Pt} {H M : Int} (hM : 0 ≤ M) (hd : ∀ s ∈ sds l, s.2.y ≠ s.1.y → s.2.y - s.1.y ∣ H)
    (hb : ∀ s ∈ sds l, -M ≤ s.1.y ∧ s.1.y ≤ M ∧ -M ≤ s.2.y ∧ s.2.y ≤ M) : sumR (2 * M).toNat (fun j => lsum l H ((j : Int) - M)) = H * tws l := by
  unfold lsum
  rw [sumR_map, ← tws_eq, ← sum_mul]
  refine sum_congr fun s hs => ?_
  obtain ⟨b1, b2, b3, b4⟩ := hb s hs
  have h := sum_way (Gk H s.1 s.2) s.1.y s.2.y M b1 b2 b3 b4 hM
  have e : (fun j : Nat => sgk s.1.y s.2.y ((j : Int) - M) * (Gk H s.1 s.2 ((j : Int) - M + 1) - Gk H s.1 s.2 ((j : Int) - M))) = fun j : Nat => sgk s.1.y s.2.y ((j : Int) - M) * xk H ((j : Int) - M) s.1 s.2 := by
    funext j; rw [Gk_step]
  rw [← e, h]
  by_cases g : s.2.y = s.1.y
  · rw [g, Int.sub_self, Int.sub_self, Int.zero_mul, Int.mul_zero]
  · exact Gk_all H s.1 s.2 (hd s hs g)
theorem lsum_scl {l : List Pt} {H : Int} (hH : 0 < H) (k : Int) : lsum l H k = ((sds (l.map (scl (2 * H)))).map fun s => sgy (H * (2 * k + 1)) s * XK H k s).sum := by
  unfold lsum
  rw [sds_map, List.map_map]
  refine sum_congr fun s _ => ?_
  show _ = sgy _ (scl (2 * H) s.1, scl (2 * H) s.2) * XK H k (scl (2 * H) s.1, scl (2 * H) s.2)
  rw [sgy_scl hH, XK_eq hH]
/-- the sign of a level. -/
theorem lsum_sign {l : List Pt} (hr : Ring l) {H : Int} (hH : 0 < H) (hd : ∀ s ∈ sds l, s.2.y ≠ s.1.y → s.2.y - s.1.y ∣ H) (k : Int) {s : Pt × Pt} (hs : s ∈ sds l) (hz : sgk s.1.y s.2.y k ≠ 0) :
    kl l = 0 ∧ 0 < lsum l H k ∨ kl l = -1 ∧ lsum l H k < 0 := by
  have h := level_sign (hr.scl (N := 2 * H) (by omega)) (lev_scl hH hd k) (s := (scl (2 * H) s.1, scl (2 * H) s.2)) (by rw [sds_map]; exact List.mem_map.2 ⟨s, hs, rfl⟩) (by rw [sgy_scl hH]; exact hz)
  rw [kl_scl (by omega), ← lsum_scl hH] at h
  exact h
theorem lsum_none {l : List Pt} {H k : Int} (h : ∀ s ∈ sds l, sgk s.1.y s.2.y k = 0) : lsum l H k = 0 := sum_zero fun s hs => by rw [h s hs, Int.zero_mul]
/-- a ring is not level. -/
theorem level_on {l : List Pt} (hr : Ring l) (hl : ∀ s ∈ sds l, s.2.y = s.1.y) (e : Int) {b c : Pt} {t : List Pt} (hb : l = b :: c :: t) (he : 0 < e * (c.x - b.x)) :
    ∃ c' d t', rot l = c' :: d :: t' ∧ 0 < e * (d.x - c'.x) := by
  have h1 := hr 1
  obtain ⟨b', c', d, t', e1, hbc, hd, hf⟩ := hr.open_
  rw [hb] at e1
  have eb : b = b' := (List.cons.inj e1).1
  have ec : c = c' := (List.cons.inj (List.cons.inj e1).2).1
  have et : t = d :: t' := (List.cons.inj (List.cons.inj e1).2).2
  subst eb ec et
  subst hb
  refine ⟨c, d, t' ++ [b], rfl, ?_⟩
  obtain ⟨_, hd2⟩ := cond_next (c := c) (d := d) (t := t') (b := b) h1
  have l1 : c.y = b.y := hl (b, c) (by show (b, c) ∈ (b, c) :: _; simp)
  have l2 : d.y = c.y := hl (c, d) (by show (c, d) ∈ (b, c) :: (c, d) :: _; simp)
  have hcr : cr (sb b c) (sb d c) = 0 := by unfold cr sb; rw [l1, l2, l1]; simp
  have hdot : (sb b c).x * (sb d c).x + (sb b c).y * (sb d c).y < 0 := by
    unfold Dif at hd2
    omega
  unfold sb at hdot
  dsimp only at hdot
  rw [l1, l2, l1, Int.sub_self, Int.zero_mul] at hdot
  have s1 := sg (b.x - c.x) (d.x - c.x)
  have s2 := sg e (c.x - b.x)
  have s3 := sg e (d.x - c.x)
  omega
theorem level_all {l : List Pt} (hr : Ring l) (hl : ∀ s ∈ sds l, s.2.y = s.1.y) (e : Int) {b c : Pt} {t : List Pt} (hb : l = b :: c :: t) (he : 0 < e * (c.x - b.x)) (n : Nat) :
    ∃ c' d t', rotN n l = c' :: d :: t' ∧ 0 < e * (d.x - c'.x) := by
  induction n generalizing l b c t with
  | zero => exact ⟨b, c, t, hb, he⟩
  | succ n ih =>
    obtain ⟨c', d, t', h1, h2⟩ := level_on hr hl e hb he
    exact ih hr.rot (fun s hs => hl s ((sds_perm l).mem_iff.1 hs)) h1 h2
theorem not_level {l : List Pt} (hr : Ring l) : ∃ s ∈ sds l, s.2.y ≠ s.1.y := by
  by_cases g : ∃ s ∈ sds l, s.2.y ≠ s.1.y
  · exact g
  · exfalso
    have hl : ∀ s ∈ sds l, s.2.y = s.1.y := fun s hs => by
      by_cases k : s.2.y = s.1.y
      · exact k
      · exact absurd ⟨s, hs, k⟩ g
    obtain ⟨b, c, d, t, e, hbc, hd, hf⟩ := hr.open_
    have hm : (b, c) ∈ sds l := by rw [e]; show (b, c) ∈ (b, c) :: _; simp
    have l1 : c.y = b.y := hl _ hm
    have hx : c.x - b.x ≠ 0 := fun k => hbc (Pt.ext' (by omega) l1.symm)
    obtain ⟨w, hw⟩ : ∃ w : Int, 0 < w * (c.x - b.x) := ⟨c.x - b.x, sq_pos' hx⟩
    have hall : ∀ s ∈ sds l, 0 < w * (s.2.x - s.1.x) := fun s hs => by
      obtain ⟨n, t', hn⟩ := sds_at hs (by rw [e]; simp)
      obtain ⟨c', d', t'', h1, h2⟩ := level_all hr hl w e hw n
      rw [hn] at h1
      rw [(List.cons.inj h1).1, (List.cons.inj (List.cons.inj h1).2).1]
      exact h2
    have h0 := sds_tele (fun p => w * p.x) l
    have hp := sum_pos (f := fun s : Pt × Pt => w * (s.2.x - s.1.x)) (fun s hs => Int.le_of_lt (hall s hs)) hm (hall _ hm)
    have e2 : ((sds l).map fun s => w * (s.2.x - s.1.x)).sum = ((sds l).map fun s => (fun p : Pt => w * p.x) s.2 - (fun p : Pt => w * p.x) s.1).sum := sum_congr fun s _ => by dsimp only; rw [Int.mul_sub]
    have hp' : 0 < ((sds l).map fun s => w * (s.2.x - s.1.x)).sum := hp
    rw [e2, h0] at hp'
    exact absurd hp' (by decide)
theorem area_sign {l : List Pt} (hr : Ring l) : kl l = 0 ∧ 0 < tws l ∨ kl l = -1 ∧ tws l < 0 := by
  obtain ⟨s, hs, hne⟩ := not_level hr
  obtain ⟨M, hM, hb⟩ := bound_y (sds l)
  obtain ⟨H, hH, hd⟩ := divisor (sds l)
  have ha := area_levels hM hd hb
  obtain ⟨k, hk⟩ : ∃ k : Int, sgk s.1.y s.2.y k ≠ 0 ∧ -M ≤ k ∧ k < M := by
    have := hb s hs
    by_cases g : s.1.y < s.2.y
    · exact ⟨s.1.y, by unfold sgk; rw [if_pos (by omega)]; decide, by omega, by omega⟩
    · exact ⟨s.2.y, by unfold sgk; rw [if_neg (by omega), if_pos (by omega)]; decide, by omega, by omega⟩
  have hall : ∀ k, lsum l H k = 0 ∨ kl l = 0 ∧ 0 < lsum l H k ∨ kl l = -1 ∧ lsum l H k < 0 := fun k => by
    by_cases g : ∃ s ∈ sds l, sgk s.1.y s.2.y k ≠ 0
    · obtain ⟨s, hs, hz⟩ := g
      exact .inr (lsum_sign hr hH hd k hs hz)
    · refine .inl (lsum_none fun s hs => ?_)
      by_cases z : sgk s.1.y s.2.y k = 0
      · exact z
      · exact absurd ⟨s, hs, z⟩ g
  have hkM : (((k + M).toNat : Nat) : Int) - M = k := by omega
  rcases lsum_sign hr hH hd k hs hk.1 with ⟨h0, hp⟩ | ⟨h0, hp⟩
  · left
    refine ⟨h0, ?_⟩
    have := sumR_pos (n := (2 * M).toNat) (f := fun j => lsum l H ((j : Int) - M)) (fun j _ => by have := hall ((j : Int) - M); omega) (k := (k + M).toNat) (by omega) (by show 0 < lsum l H _; rw [hkM]; exact hp)
    rw [ha] at this
    exact (mul_pos_iff hH).1.1 this
  · right
    refine ⟨h0, ?_⟩
    have := sumR_pos (n := (2 * M).toNat) (f := fun j => -1 * lsum l H ((j : Int) - M)) (fun j _ => by have := hall ((j : Int) - M); omega) (k := (k + M).toNat) (by omega) (by show 0 < -1 * lsum l H _; rw [hkM]; omega)
    rw [sumR_mul, ha] at this
    exact (mul_pos_iff hH).2.1.1 (by omega)
/-! Rings the other way round (plain mathematics). -/
def flip (s : Pt × Pt) : Pt × Pt := (s.2, s.1)
theorem rev_head (a : Pt) (t : List Pt) : ∃ r, (a :: t).reverse = lst a t :: r ∧ prs (lst a t) r = ((prs a t).map flip).reverse ∧ lst (lst a t) r = a := by
  induction t generalizing a with
  | nil => exact ⟨[], rfl, rfl, rfl⟩
  | cons c t ih =>
    obtain ⟨r, h1, h2, h3⟩ := ih c
    refine ⟨r ++ [a], ?_, ?_, lst_snoc _ _ _⟩
    · rw [List.reverse_cons, h1]; rfl
    · show prs (lst c t) (r ++ [a]) = _
      rw [prs_snoc, h2, h3]
      show _ = (flip (a, c) :: (prs c t).map flip).reverse
      rw [List.reverse_cons]; rfl
/-- the sides of a ring the other way round. -/
theorem sds_reverse (l : List Pt) : (sds l.reverse).Perm ((sds l).map flip) := by
  cases l with
  | nil => exact List.Perm.refl _
  | cons b t =>
    obtain ⟨r, h1, h2, h3⟩ := rev_head b (t ++ [b])
    rw [lst_snoc] at h1 h2 h3
    have e : r = t.reverse ++ [b] := by
      have : (b :: (t ++ [b])).reverse = b :: (t.reverse ++ [b]) := by simp
      rw [this] at h1
      exact (List.cons.inj h1).2.symm
    have hr : (b :: t).reverse = rot (b :: t.reverse) := by rw [List.reverse_cons]; rfl
    rw [hr]
    refine (sds_perm _).trans ?_
    show (prs b (t.reverse ++ [b])).Perm _
    rw [← e, h2]
    exact List.reverse_perm _
theorem tws_perm {l m : List Pt} (h : (sds l).Perm (sds m)) : tws l = tws m := sum_perm (h.map _)
theorem tws_rotN (n : Nat) (l : List Pt) : tws (rotN n l) = tws l := tws_perm (sds_permN n l)
theorem tws_reverse (l : List Pt) : tws l.reverse = -tws l := by
  unfold tws
  rw [sum_perm ((sds_reverse l).map fun s => s.1.x * s.2.y - s.2.x * s.1.y), List.map_map]
  have e : ((sds l).map ((fun s : Pt × Pt => s.1.x * s.2.y - s.2.x * s.1.y) ∘ flip)) = (sds l).map fun s => -1 * (s.1.x * s.2.y - s.2.x * s.1.y) := List.map_congr_left fun s _ => by
    show s.2.x * s.1.y - s.1.x * s.2.y = _
    omega
  rw [e, sum_mul]
  omega
theorem rotN_drop (l : List Pt) (k : Nat) (hk : k ≤ l.length) : rotN k l = l.drop k ++ l.take k := by
  have h := rotN_app (l.take k) (l.drop k)
  rw [List.take_append_drop, List.length_take, Nat.min_eq_left hk] at h
  exact h
theorem prs_zip (a : Pt) (t : List Pt) : prs a t = (a :: t).zip t := by
  induction t generalizing a with
  | nil => rfl
  | cons c t ih => show (a, c) :: prs c t = (a, c) :: (c :: t).zip t; rw [ih]
theorem sds_zip (l : List Pt) : sds l = l.zip (rot l) := by
  cases l with
  | nil => rfl
  | cons b t =>
    show prs b (t ++ [b]) = (b :: t).zip (t ++ [b])
    rw [prs_zip]
    have : ((b :: t) ++ [b]).zip ((t ++ [b]) ++ []) = (b :: t).zip (t ++ [b]) ++ [b].zip [] := List.zip_append (by simp)
    simp at this
    exact this
theorem sds_len (l : List Pt) : (sds l).length = l.length := by
  rw [sds_zip, List.length_zip]
  have : (rot l).length = l.length := by cases l <;> simp [rot]
  omega
theorem cr_dot (u z : Pt) (h : cr u z = 0) : (u.x * z.x + u.y * z.y) * (u.x * z.x + u.y * z.y) = (u.x * u.x + u.y * u.y) * (z.x * z.x + z.y * z.y) := by
  unfold cr at h; grind
/-- Two segments with one end in common alone leave it in different directions. -/
theorem dif_of {a b c : Pt} (ha : a ≠ b) (hc : c ≠ b) (hk : meetsN b c a b = 1) : Dif (sb a b) (sb c b) := by
  rintro ⟨h1, h2⟩
  have hK := meets_kind b c a b
  rw [hk] at hK
  have hb : Com b c a b b := ⟨holds_left b c, holds_right a b⟩
  have huniq : ∀ q, (End2 b c q ∨ End2 a b q) → Com b c a b q → q = b := by
    rcases hK with ⟨_, h⟩ | ⟨_, ⟨_, h⟩ | ⟨p, hp, cp, hu, _⟩ | ⟨_, ⟨_, h⟩ | ⟨_, h⟩⟩⟩
    · omega
    · omega
    · intro q hq cq
      rw [hu q hq cq, hu b (.inl (.inl rfl)) hb]
    · omega
    · omega
  have e1 : dt a b c = ((sb a b).x * (sb a b).x + (sb a b).y * (sb a b).y) - ((sb a b).x * (sb c b).x + (sb a b).y * (sb c b).y) := by unfold dt sb; grind
  have e2 : dt c a b = ((sb c b).x * (sb c b).x + (sb c b).y * (sb c b).y) - ((sb a b).x * (sb c b).x + (sb a b).y * (sb c b).y) := by unfold dt sb; grind
  have e3 := cr_dot _ _ h1
  have c1 : crs b c a = 0 := by unfold cr sb at h1; unfold crs; grind
  have c2 : crs a b c = 0 := by unfold cr sb at h1; unfold crs; grind
  by_cases g : dt a b c ≤ 0
  · exact ha (huniq a (.inr (.inl rfl)) ⟨holds_iff.2 ⟨c1, g⟩, holds_left a b⟩)
  · by_cases k : dt c a b ≤ 0
    · exact hc (huniq c (.inl (.inr rfl)) ⟨holds_right b c, holds_iff.2 ⟨c2, k⟩⟩)
    · generalize (sb a b).x * (sb c b).x + (sb a b).y * (sb c b).y = D at *
      generalize (sb a b).x * (sb a b).x + (sb a b).y * (sb a b).y = n1 at *
      generalize (sb c b).x * (sb c b).x + (sb c b).y * (sb c b).y = n2 at *
      have i1 : D * D ≤ D * n2 := Int.mul_le_mul_of_nonneg_left (by omega) h2
      have i2 : D * n2 < n1 * n2 := Int.mul_lt_mul_of_pos_right (by omega) (by omega)
      omega
end Go.Proofs.Ytlagolgmkmdhhaa.Pl
