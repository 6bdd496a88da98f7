/- Plain mathematics of tiles: sides, boxes, the tile above, kids, covers and pixels. -/
namespace Go.Proofs.YtenacgeahaoglaaDoor.Gd
/-- a tile; a point; a box. -/
structure Tl where
  z : Int
  x : Int
  y : Int
deriving DecidableEq
structure Pn where
  x : Int
  y : Int
deriving DecidableEq
structure Bb where
  a : Pn
  b : Pn
deriving DecidableEq
/-- the side of a zoom level; how many tiles there are side by side. -/
def sd (z : Int) : Int := 2 ^ (20 - z.toNat)
def cnt (z : Int) : Int := 2 ^ z.toNat
def isZ (z : Int) : Prop := 0 ≤ z ∧ z ≤ 17
instance (z : Int) : Decidable (isZ z) := inferInstanceAs (Decidable (_ ∧ _))
theorem zcase {P : Int → Prop} (h : ∀ k : Fin 18, P (k.val : Int)) {z : Int} (hz : isZ z) : P z := by
  obtain ⟨k, rfl⟩ := Int.eq_ofNat_of_zero_le hz.1
  exact h ⟨k, by have := hz.2; omega⟩
theorem sd_pos {z : Int} : 0 < sd z := Int.pow_pos (by decide)
theorem sd_bounds {z : Int} (h : isZ z) : 8 ≤ sd z ∧ sd z ≤ 1048576 := zcase (P := fun z => 8 ≤ sd z ∧ sd z ≤ 1048576) (by decide) h
theorem cnt_bounds {z : Int} (h : isZ z) : 1 ≤ cnt z ∧ cnt z ≤ 131072 := zcase (P := fun z => 1 ≤ cnt z ∧ cnt z ≤ 131072) (by decide) h
theorem cnt_sd {z : Int} (h : isZ z) : cnt z * sd z = 1048576 := zcase (P := fun z => cnt z * sd z = 1048576) (by decide) h
theorem grid_div {z : Int} (h : isZ z) : 1048576 / sd z = cnt z := zcase (P := fun z => 1048576 / sd z = cnt z) (by decide) h
theorem sd_up {z : Int} (h : isZ z) (h0 : z ≠ 0) : sd (z - 1) = 2 * sd z ∧ cnt z = 2 * cnt (z - 1) := zcase (P := fun z => z ≠ 0 → sd (z - 1) = 2 * sd z ∧ cnt z = 2 * cnt (z - 1)) (by decide) h h0
theorem sd_down {z : Int} (h : isZ z) (h0 : z ≠ 17) : sd z = 2 * sd (z + 1) ∧ cnt (z + 1) = 2 * cnt z := zcase (P := fun z => z ≠ 17 → sd z = 2 * sd (z + 1) ∧ cnt (z + 1) = 2 * cnt z) (by decide) h h0
def okT (t : Tl) : Prop := isZ t.z ∧ 0 ≤ t.x ∧ t.x < cnt t.z ∧ 0 ≤ t.y ∧ t.y < cnt t.z
instance (t : Tl) : Decidable (okT t) := inferInstanceAs (Decidable (_ ∧ _))
def okP (p : Pn) : Prop := 0 ≤ p.x ∧ p.x < 1048576 ∧ 0 ≤ p.y ∧ p.y < 1048576
instance (p : Pn) : Decidable (okP p) := inferInstanceAs (Decidable (_ ∧ _))
/-- not too far away. -/
def near (c : Int) : Prop := -2097152 ≤ c ∧ c ≤ 2097152
instance (c : Int) : Decidable (near c) := inferInstanceAs (Decidable (_ ∧ _))
def ofN (p : Pn) (z : Int) : Tl := ⟨z, p.x / sd z, p.y / sd z⟩
def boxN (t : Tl) : Bb := ⟨⟨t.x * sd t.z, t.y * sd t.z⟩, ⟨t.x * sd t.z + sd t.z - 1, t.y * sd t.z + sd t.z - 1⟩⟩
def hasN (b : Bb) (p : Pn) : Prop := b.a.x ≤ p.x ∧ p.x ≤ b.b.x ∧ b.a.y ≤ p.y ∧ p.y ≤ b.b.y
instance (b : Bb) (p : Pn) : Decidable (hasN b p) := inferInstanceAs (Decidable (_ ∧ _))
def upN (t : Tl) : Tl := ⟨t.z - 1, t.x / 2, t.y / 2⟩
/-- on one axis: a coordinate is in the stretch of a number exactly if it is its quotient. -/
theorem in_iff {s a v : Int} (h : 0 < s) : (a * s ≤ v ∧ v ≤ a * s + s - 1) ↔ v / s = a := by
  constructor
  · rintro ⟨h1, h2⟩
    have e1 : a ≤ v / s := (Int.le_ediv_iff_mul_le h).2 h1
    have e2 : v / s < a + 1 := (Int.ediv_lt_iff_lt_mul h).2 (by rw [Int.add_mul, Int.one_mul]; omega)
    omega
  · rintro rfl
    have h1 := Int.mul_ediv_add_emod v s
    have h2 := Int.emod_nonneg v (by omega : s ≠ 0)
    have h3 := Int.emod_lt_of_pos v h
    rw [Int.mul_comm] at h1
    omega
theorem quot_bounds {z v : Int} (h : isZ z) (h0 : 0 ≤ v) (h1 : v < 1048576) : 0 ≤ v / sd z ∧ v / sd z < cnt z := by
  refine ⟨Int.ediv_nonneg h0 (by have := sd_pos (z := z); omega), (Int.ediv_lt_iff_lt_mul sd_pos).2 ?_⟩
  rw [cnt_sd h]; exact h1
theorem of_ok {p : Pn} {z : Int} (hp : okP p) (hz : isZ z) : okT (ofN p z) ∧ hasN (boxN (ofN p z)) p := by
  obtain ⟨a1, a2, a3, a4⟩ := hp
  have b1 := quot_bounds hz a1 a2
  have b2 := quot_bounds hz a3 a4
  have c1 := (in_iff (s := sd z) (a := p.x / sd z) (v := p.x) sd_pos).2 rfl
  have c2 := (in_iff (s := sd z) (a := p.y / sd z) (v := p.y) sd_pos).2 rfl
  exact ⟨⟨hz, b1.1, b1.2, b2.1, b2.2⟩, c1.1, c1.2, c2.1, c2.2⟩
theorem has_iff {p : Pn} {t : Tl} : hasN (boxN t) p ↔ ofN p t.z = t := by
  have c1 := in_iff (s := sd t.z) (a := t.x) (v := p.x) sd_pos
  have c2 := in_iff (s := sd t.z) (a := t.y) (v := p.y) sd_pos
  constructor
  · rintro ⟨h1, h2, h3, h4⟩
    have e1 := c1.1 ⟨h1, h2⟩
    have e2 := c2.1 ⟨h3, h4⟩
    unfold ofN
    rw [e1, e2]
  · intro e
    have e1 : p.x / sd t.z = t.x := congrArg Tl.x e
    have e2 : p.y / sd t.z = t.y := congrArg Tl.y e
    obtain ⟨h1, h2⟩ := c1.2 e1
    obtain ⟨h3, h4⟩ := c2.2 e2
    exact ⟨h1, h2, h3, h4⟩
theorem half_quot {s v : Int} (h : 0 < s) : v / s / 2 = v / (2 * s) := by
  rw [Int.ediv_ediv_of_nonneg (by omega), Int.mul_comm]
theorem of_up {p : Pn} {z : Int} (hz : isZ z) (h0 : z ≠ 0) : upN (ofN p z) = ofN p (z - 1) := by
  unfold upN ofN
  rw [(sd_up hz h0).1, half_quot sd_pos, half_quot sd_pos]
theorem up_ok {t : Tl} (h : okT t) (h0 : t.z ≠ 0) : okT (upN t) := by
  obtain ⟨hz, h1, h2, h3, h4⟩ := h
  have e := (sd_up hz h0).2
  refine ⟨⟨?_, ?_⟩, ?_, ?_, ?_, ?_⟩ <;> simp only [upN] <;> (try (have := hz.1; have := hz.2; omega))
def kid (t : Tl) (i j : Int) : Tl := ⟨t.z + 1, 2 * t.x + i, 2 * t.y + j⟩
def kidsN (t : Tl) : List Tl := [kid t 0 0, kid t 1 0, kid t 0 1, kid t 1 1]
theorem kid_up (t : Tl) {i j : Int} (hi : 0 ≤ i ∧ i ≤ 1) (hj : 0 ≤ j ∧ j ≤ 1) : upN (kid t i j) = t := by
  unfold upN kid
  have e1 : (2 * t.x + i) / 2 = t.x := by omega
  have e2 : (2 * t.y + j) / 2 = t.y := by omega
  have e3 : t.z + 1 - 1 = t.z := by omega
  rw [e1, e2, e3]
theorem kid_ok {t : Tl} (h : okT t) (h0 : t.z ≠ 17) {i j : Int} (hi : 0 ≤ i ∧ i ≤ 1) (hj : 0 ≤ j ∧ j ≤ 1) : okT (kid t i j) := by
  obtain ⟨hz, h1, h2, h3, h4⟩ := h
  have e := (sd_down hz h0).2
  refine ⟨⟨?_, ?_⟩, ?_, ?_, ?_, ?_⟩ <;> simp only [kid] <;> (try (have := hz.1; have := hz.2; omega))
/-- a point is in a kid exactly if its tile is the kid. -/
theorem kid_has {t : Tl} {p : Pn} {i j : Int} : hasN (boxN (kid t i j)) p ↔ (p.x / sd (t.z + 1) = 2 * t.x + i ∧ p.y / sd (t.z + 1) = 2 * t.y + j) := by
  rw [has_iff]
  constructor
  · intro e; exact ⟨congrArg Tl.x e, congrArg Tl.y e⟩
  · rintro ⟨e1, e2⟩
    show Tl.mk (t.z + 1) (p.x / sd (t.z + 1)) (p.y / sd (t.z + 1)) = _
    rw [e1, e2]; rfl
theorem par_has {t : Tl} {p : Pn} (h : isZ t.z) (h0 : t.z ≠ 17) : hasN (boxN t) p ↔ (p.x / sd (t.z + 1) / 2 = t.x ∧ p.y / sd (t.z + 1) / 2 = t.y) := by
  rw [has_iff, half_quot sd_pos, half_quot sd_pos, ← (sd_down h h0).1]
  constructor
  · intro e; exact ⟨congrArg Tl.x e, congrArg Tl.y e⟩
  · rintro ⟨e1, e2⟩
    show Tl.mk t.z (p.x / sd t.z) (p.y / sd t.z) = _
    rw [e1, e2]
/-- how many of the kids have a point. -/
def one (b : Prop) [Decidable b] : Nat := if b then 1 else 0
theorem kids_count {t : Tl} {p : Pn} (h : isZ t.z) (h0 : t.z ≠ 17) : one (hasN (boxN (kid t 0 0)) p) + one (hasN (boxN (kid t 1 0)) p) + one (hasN (boxN (kid t 0 1)) p) + one (hasN (boxN (kid t 1 1)) p) = one (hasN (boxN t) p) := by
  have e := par_has (p := p) h h0
  have e1 := kid_has (t := t) (p := p) (i := 0) (j := 0)
  have e2 := kid_has (t := t) (p := p) (i := 1) (j := 0)
  have e3 := kid_has (t := t) (p := p) (i := 0) (j := 1)
  have e4 := kid_has (t := t) (p := p) (i := 1) (j := 1)
  unfold one
  simp only [e, e1, e2, e3, e4]
  generalize p.x / sd (t.z + 1) = u
  generalize p.y / sd (t.z + 1) = v
  repeat' split
  all_goals omega
/-- the tiles from one to another one, by rows. -/
def row (z y x : Int) (n : Nat) : List Tl := (List.range n).map fun (i : Nat) => ⟨z, x + (i : Int), y⟩
def rect (f l : Tl) : List Tl := (List.range (l.y - f.y + 1).toNat).flatMap fun (j : Nat) => row f.z (f.y + (j : Int)) f.x (l.x - f.x + 1).toNat
theorem row_mem {z y x : Int} {n : Nat} {t : Tl} : t ∈ row z y x n ↔ t.z = z ∧ t.y = y ∧ x ≤ t.x ∧ t.x < x + n := by
  unfold row
  rw [List.mem_map]
  constructor
  · rintro ⟨i, hi, rfl⟩
    have := List.mem_range.1 hi
    exact ⟨rfl, rfl, by show x ≤ x + (i : Int); omega, by show x + (i : Int) < x + n; omega⟩
  · rintro ⟨rfl, rfl, h1, h2⟩
    refine ⟨(t.x - x).toNat, List.mem_range.2 (by omega), ?_⟩
    have : x + ((t.x - x).toNat : Int) = t.x := by omega
    rw [this]
theorem rect_mem {f l t : Tl} : t ∈ rect f l ↔ t.z = f.z ∧ f.x ≤ t.x ∧ t.x ≤ l.x ∧ f.y ≤ t.y ∧ t.y ≤ l.y := by
  unfold rect
  rw [List.mem_flatMap]
  constructor
  · rintro ⟨j, hj, h⟩
    have := List.mem_range.1 hj
    obtain ⟨h1, h2, h3, h4⟩ := row_mem.1 h
    exact ⟨h1, h3, by omega, by omega, by omega⟩
  · rintro ⟨h1, h2, h3, h4, h5⟩
    exact ⟨(t.y - f.y).toNat, List.mem_range.2 (by omega), row_mem.2 ⟨h1, by omega, h2, by omega⟩⟩
/-- before, by Y, then by X. -/
def bef (a b : Tl) : Prop := a.y < b.y ∨ a.y = b.y ∧ a.x < b.x
theorem row_sorted (z y x : Int) (n : Nat) : (row z y x n).Pairwise bef := by
  unfold row
  rw [List.pairwise_map]
  refine (List.pairwise_lt_range (n := n)).imp fun h => ?_
  exact .inr ⟨rfl, by show x + ((_ : Nat) : Int) < x + ((_ : Nat) : Int); omega⟩
theorem rect_sorted (f l : Tl) : (rect f l).Pairwise bef := by
  unfold rect
  rw [List.pairwise_flatMap]
  refine ⟨fun j _ => row_sorted _ _ _ _, ?_⟩
  refine (List.pairwise_lt_range (n := (l.y - f.y + 1).toNat)).imp ?_
  intro i j h a ha b hb
  have h1 := (row_mem.1 ha).2.1
  have h2 := (row_mem.1 hb).2.1
  exact .inl (by omega)
theorem row_len (z y x : Int) (n : Nat) : (row z y x n).length = n := by simp [row]
theorem row_succ (z y x : Int) (n : Nat) : row z y x (n + 1) = row z y x n ++ [⟨z, x + n, y⟩] := by
  unfold row; rw [List.range_succ, List.map_append]; rfl
/-- the rows that are whole, and the beginning of the next one. -/
def part (f l : Tl) (j i : Nat) : List Tl := ((List.range j).flatMap fun (j : Nat) => row f.z (f.y + (j : Int)) f.x (l.x - f.x + 1).toNat) ++ row f.z (f.y + (j : Int)) f.x i
theorem part_zero (f l : Tl) : part f l 0 0 = [] := rfl
theorem part_step (f l : Tl) (j i : Nat) : part f l j (i + 1) = part f l j i ++ [⟨f.z, f.x + i, f.y + j⟩] := by
  unfold part; rw [row_succ, List.append_assoc]
theorem part_next (f l : Tl) (j : Nat) : part f l j (l.x - f.x + 1).toNat = part f l (j + 1) 0 := by
  unfold part
  rw [List.range_succ, List.flatMap_append]
  simp [row]
theorem part_all (f l : Tl) : part f l (l.y - f.y + 1).toNat 0 = rect f l := by
  unfold part rect; simp [row]
theorem part_len (f l : Tl) (j i : Nat) : (part f l j i).length = j * (l.x - f.x + 1).toNat + i := by
  unfold part
  rw [List.length_append, row_len]
  congr 1
  induction j with
  | zero => simp
  | succ j ih => rw [List.range_succ, List.flatMap_append, List.length_append, ih]; simp [row_len, Nat.add_mul]
theorem rect_len (f l : Tl) : (rect f l).length = (l.y - f.y + 1).toNat * (l.x - f.x + 1).toNat := by
  have h := part_len f l (l.y - f.y + 1).toNat 0
  rwa [part_all] at h
/-- the kids are the rectangle from the first one to the last one. -/
theorem kids_rect (t : Tl) : rect (kid t 0 0) (kid t 1 1) = kidsN t := by
  unfold rect
  have e1 : ((kid t 1 1).y - (kid t 0 0).y + 1).toNat = 2 := by simp only [kid]; omega
  have e2 : ((kid t 1 1).x - (kid t 0 0).x + 1).toNat = 2 := by simp only [kid]; omega
  rw [e1, e2]
  simp [List.range_succ, row, kidsN, kid]
/-- on one axis: two stretches have a common point exactly if the quotients are in order. -/
theorem meet_iff {s a u v : Int} (h : 0 < s) : (a * s ≤ v ∧ u ≤ a * s + s - 1) ↔ (u / s ≤ a ∧ a ≤ v / s) := by
  rw [Int.le_ediv_iff_mul_le h]
  have e : u / s < a + 1 ↔ u < (a + 1) * s := Int.ediv_lt_iff_lt_mul h
  rw [Int.add_mul, Int.one_mul] at e
  constructor
  · rintro ⟨h1, h2⟩; exact ⟨by have := e.2 (by omega); omega, h1⟩
  · rintro ⟨h1, h2⟩; exact ⟨h2, by have := e.1 (by omega); omega⟩
/-- the cover: a valid tile of the level is in it exactly if its box and the other one have a common point. -/
def meets (c b : Bb) : Prop := c.a.x ≤ b.b.x ∧ b.a.x ≤ c.b.x ∧ c.a.y ≤ b.b.y ∧ b.a.y ≤ c.b.y
instance (c b : Bb) : Decidable (meets c b) := inferInstanceAs (Decidable (_ ∧ _))
theorem cover_iff {b : Bb} {z : Int} {t : Tl} (ht : t.z = z) : t ∈ rect (ofN b.a z) (ofN b.b z) ↔ meets (boxN t) b := by
  subst ht
  rw [rect_mem]
  have e1 := meet_iff (s := sd t.z) (u := b.a.x) (v := b.b.x) (a := t.x) sd_pos
  have e2 := meet_iff (s := sd t.z) (u := b.a.y) (v := b.b.y) (a := t.y) sd_pos
  simp only [ofN, meets, boxN]
  constructor
  · rintro ⟨_, h1, h2, h3, h4⟩
    obtain ⟨a1, a2⟩ := e1.2 ⟨h1, h2⟩
    obtain ⟨a3, a4⟩ := e2.2 ⟨h3, h4⟩
    exact ⟨a1, a2, a3, a4⟩
  · rintro ⟨a1, a2, a3, a4⟩
    obtain ⟨h1, h2⟩ := e1.1 ⟨a1, a2⟩
    obtain ⟨h3, h4⟩ := e2.1 ⟨a3, a4⟩
    exact ⟨trivial, h1, h2, h3, h4⟩
theorem cover_ok {b : Bb} {z : Int} (hz : isZ z) (ha : okP b.a) (hb : okP b.b) {t : Tl} (h : t ∈ rect (ofN b.a z) (ofN b.b z)) : okT t := by
  obtain ⟨h1, h2, h3, h4, h5⟩ := rect_mem.1 h
  have h1' : t.z = z := h1
  have b1 := (of_ok ha hz).1
  have b2 := (of_ok hb hz).1
  obtain ⟨_, c1, c2, c3, c4⟩ := b1
  obtain ⟨_, d1, d2, d3, d4⟩ := b2
  have e : (ofN b.b z).z = z := rfl
  rw [e] at d2 d4
  refine ⟨by rw [h1']; exact hz, by omega, by rw [h1']; omega, by omega, by rw [h1']; omega⟩
/-- pixels: floors of quotients. -/
def px (d s : Int) : Int := d * 256 / s
theorem px_mono {d e s : Int} (h : 0 < s) (hd : d ≤ e) : px d s ≤ px e s := Int.ediv_le_ediv h (by omega)
theorem px_in {d s : Int} (h : 0 < s) : (0 ≤ px d s ∧ px d s < 256) ↔ (0 ≤ d ∧ d ≤ s - 1) := by
  unfold px
  have e1 : 0 ≤ d * 256 / s ↔ 0 * s ≤ d * 256 := Int.le_ediv_iff_mul_le h
  have e2 : d * 256 / s < 256 ↔ d * 256 < 256 * s := Int.ediv_lt_iff_lt_mul h
  rw [e1, e2]; omega
theorem px_up {v a s : Int} (h : 0 < s) : px (v - a / 2 * (2 * s)) (2 * s) = (px (v - a * s) s + 256 * (a % 2)) / 2 := by
  unfold px
  rw [← Int.add_mul_ediv_right _ _ (by omega : s ≠ 0), half_quot h]
  congr 1
  have e : a = 2 * (a / 2) + a % 2 := (Int.mul_ediv_add_emod a 2).symm
  generalize a / 2 = q at *
  generalize a % 2 = r at *
  subst e
  simp only [Int.sub_mul, Int.add_mul, Int.mul_assoc]
  have c1 : s * 256 = 256 * s := Int.mul_comm _ _
  have c2 : r * (s * 256) = 256 * (r * s) := by rw [Int.mul_comm s, ← Int.mul_assoc, Int.mul_comm r, Int.mul_assoc]
  have c3 : q * (2 * (s * 256)) = 2 * (q * (s * 256)) := by rw [← Int.mul_assoc, Int.mul_comm q 2, Int.mul_assoc]
  rw [c2, c3]; omega
theorem prod_bounds {z a : Int} (hz : isZ z) (h0 : 0 ≤ a) (h1 : a < cnt z) : 0 ≤ a * sd z ∧ a * sd z + sd z ≤ 1048576 := by
  have e := cnt_sd hz
  have p := sd_pos (z := z)
  refine ⟨Int.mul_nonneg h0 (by omega), ?_⟩
  have h2 : (a + 1) * sd z ≤ cnt z * sd z := Int.mul_le_mul_of_nonneg_right (by omega) (by omega)
  rw [Int.add_mul, Int.one_mul] at h2
  omega
/-- a quotient that is rounded toward zero, and set right where it is above. -/
theorem floor_of {a s : Int} (h : 0 < s) : (if a.tdiv s * s > a then a.tdiv s - 1 else a.tdiv s) = a / s := by
  have h1 := Int.mul_tdiv_add_tmod a s
  have h2 := Int.tmod_lt_of_pos a h
  have h3 : -s < a.tmod s := by
    have := Int.tmod_lt_of_pos (-a) h
    rw [Int.neg_tmod] at this
    omega
  rw [Int.mul_comm] at h1
  generalize a.tdiv s = n at *
  generalize a.tmod s = r at *
  symm
  split
  · rw [← in_iff h, Int.sub_mul, Int.one_mul]; omega
  · rw [← in_iff h]; omega
/-- what the functions answer: a result and its error. -/
def kidsR (t : Tl) : List Tl × Int := if okT t then (if t.z = 17 then ([], 11) else (kidsN t, 0)) else ([], 1)
def fitB (b : Bb) (z : Int) : Prop := isZ z ∧ okP b.a ∧ okP b.b ∧ b.a.x ≤ b.b.x ∧ b.a.y ≤ b.b.y
instance (b : Bb) (z : Int) : Decidable (fitB b z) := inferInstanceAs (Decidable (_ ∧ _))
/-- how many tiles a cover has. -/
def many (b : Bb) (z : Int) : Int := ((ofN b.b z).x - (ofN b.a z).x + 1) * ((ofN b.b z).y - (ofN b.a z).y + 1)
def coverR (b : Bb) (z : Int) : List Tl × Int := if fitB b z then (if many b z > 4096 then ([], 2) else (rect (ofN b.a z) (ofN b.b z), 0)) else ([], 1)
def zT : Tl := ⟨0, 0, 0⟩
def zP : Pn := ⟨0, 0⟩
def zB : Bb := ⟨zP, zP⟩
def ofR (p : Pn) (z : Int) : Tl × Int := if isZ z then (if okP p then (ofN p z, 0) else (zT, 10)) else (zT, 1)
def boxR (t : Tl) : Bb × Int := if okT t then (boxN t, 0) else (zB, 1)
def upR (t : Tl) : Tl × Int := if okT t then (if t.z = 0 then (zT, 11) else (upN t, 0)) else (zT, 1)
def pixN (t : Tl) (p : Pn) : Pn := ⟨px (p.x - t.x * sd t.z) (sd t.z), px (p.y - t.y * sd t.z) (sd t.z)⟩
def pixR (t : Tl) (p : Pn) : Pn × Int := if okT t then (if near p.x ∧ near p.y then (pixN t p, 0) else (zP, 10)) else (zP, 1)
end Go.Proofs.YtenacgeahaoglaaDoor.Gd
