/- Boxes, their digits, and trees of boxes (plain mathematics). -/
namespace Go.Proofs.Yteghhfkllclghaa.Ix
structure Bx where
  a : Int
  b : Int
  c : Int
  d : Int
deriving DecidableEq, Inhabited
def inB (x : Int) : Bool := decide (-2097152 ≤ x) && decide (x ≤ 2097152)
def nearP (x y : Int) : Bool := inB x && inB y
def validB (p : Bx) : Bool := inB p.a && inB p.b && inB p.c && inB p.d && decide (p.a ≤ p.c) && decide (p.b ≤ p.d)
theorem valid_iff {p : Bx} : validB p = true ↔ (-2097152 ≤ p.a ∧ p.a ≤ p.c ∧ p.c ≤ 2097152) ∧ (-2097152 ≤ p.b ∧ p.b ≤ p.d ∧ p.d ≤ 2097152) := by
  unfold validB inB
  simp only [Bool.and_eq_true, decide_eq_true_iff]
  omega
def meetB (p q : Bx) : Bool := decide (p.a ≤ q.c) && decide (q.a ≤ p.c) && decide (p.b ≤ q.d) && decide (q.b ≤ p.d)
theorem meet_iff {p q : Bx} : meetB p q = true ↔ p.a ≤ q.c ∧ q.a ≤ p.c ∧ p.b ≤ q.d ∧ q.b ≤ p.d := by
  unfold meetB
  simp only [Bool.and_eq_true, decide_eq_true_iff, and_assoc]
def hull (p q : Bx) : Bx := ⟨min p.a q.a, min p.b q.b, max p.c q.c, max p.d q.d⟩
theorem hull_comm (p q : Bx) : hull p q = hull q p := by
  unfold hull
  rw [Int.min_comm, Int.min_comm p.b, Int.max_comm, Int.max_comm p.d]
theorem hull_assoc (p q r : Bx) : hull (hull p q) r = hull p (hull q r) := by
  unfold hull
  simp only [Bx.mk.injEq]
  omega
theorem hull_valid {p q : Bx} (hp : validB p = true) (hq : validB q = true) : validB (hull p q) = true := by
  rw [valid_iff] at *
  unfold hull
  dsimp only
  omega
/-- p is in q. -/
def sub (p q : Bx) : Prop := q.a ≤ p.a ∧ q.b ≤ p.b ∧ p.c ≤ q.c ∧ p.d ≤ q.d
theorem sub_hull {p q r : Bx} (h : sub p q ∨ sub p r) : sub p (hull q r) := by
  unfold sub hull at *
  dsimp only
  omega
theorem sub_refl (p : Bx) : sub p p := by unfold sub; omega
theorem meet_sub {p q r : Bx} (h : sub p q) (hm : meetB p r = true) : meetB q r = true := by
  rw [meet_iff] at *
  unfold sub at h
  omega
/-- the squared distance. -/
def offN (lo hi x : Int) : Int := max (max (lo - x) (x - hi)) 0
def sqN (p : Bx) (x y : Int) : Int := offN p.a p.c x * offN p.a p.c x + offN p.b p.d y * offN p.b p.d y
theorem off_le {lo hi lo' hi' x : Int} (h1 : lo' ≤ lo) (h2 : hi ≤ hi') : offN lo' hi' x ≤ offN lo hi x := by unfold offN; omega
theorem off_nn (lo hi x : Int) : 0 ≤ offN lo hi x := by unfold offN; omega
theorem sq_sub {p q : Bx} (h : sub p q) (x y : Int) : sqN q x y ≤ sqN p x y := by
  unfold sqN
  unfold sub at h
  have e1 := off_le (x := x) h.1 h.2.2.1
  have e2 := off_le (x := y) h.2.1 h.2.2.2
  have n1 := off_nn q.a q.c x
  have n2 := off_nn q.b q.d y
  have := Int.mul_le_mul e1 e1 n1 (by omega)
  have := Int.mul_le_mul e2 e2 n2 (by omega)
  omega
/-- a coordinate, a digit. -/
def co (p : Bx) (i : Nat) : Int := match i % 4 with | 0 => p.a | 1 => p.b | 2 => p.c | _ => p.d
def cN (p : Bx) (i : Nat) : Nat := (co p i + 2097152).toNat
def dig (p : Bx) (i : Nat) : Nat := cN p i / 2 ^ (31 - i / 4) % 2
theorem dig_two (p : Bx) (i : Nat) : dig p i = 0 ∨ dig p i = 1 := by unfold dig; omega
theorem dig_co {p q : Bx} {i : Nat} (h : co p i = co q i) : dig p i = dig q i := by unfold dig cN; rw [h]
theorem co_hull (p q : Bx) (i : Nat) : co (hull p q) i = co p i ∨ co (hull p q) i = co q i := by
  unfold co hull
  split <;> dsimp only <;> omega
/-- the first digit in which two boxes differ. -/
def difN (p q : Bx) : Nat := ((List.range 128).find? fun i => dig p i != dig q i).getD 128
theorem find_range {f : Nat → Bool} : ∀ {n : Nat}, (∀ i, (List.range n).find? f = some i → i < n ∧ f i = true ∧ ∀ j, j < i → f j = false) ∧ ((List.range n).find? f = none → ∀ j, j < n → f j = false) := by
  intro n
  constructor
  · intro i h
    have h1 := List.mem_of_find?_eq_some h
    have h2 := List.find?_some h
    refine ⟨List.mem_range.1 h1, h2, fun j hj => ?_⟩
    rw [List.find?_range_eq_some] at h
    have := h.2.2 j hj
    simpa using this
  · intro h j hj
    rw [List.find?_eq_none] at h
    have := h j (List.mem_range.2 hj)
    simpa using this
theorem dif_le (p q : Bx) : difN p q ≤ 128 := by
  unfold difN
  cases h : (List.range 128).find? fun i => dig p i != dig q i with
  | none => simp
  | some i => have := (find_range.1 i h).1; simp; omega
theorem dif_lt {p q : Bx} {j : Nat} (h : j < difN p q) : dig p j = dig q j := by
  unfold difN at h
  cases hf : (List.range 128).find? fun i => dig p i != dig q i with
  | none =>
    rw [hf] at h
    have := find_range.2 hf j (by simpa using h)
    simpa using this
  | some i =>
    rw [hf] at h
    have := (find_range.1 i hf).2.2 j (by simpa using h)
    simpa using this
theorem dif_ne {p q : Bx} (h : difN p q < 128) : dig p (difN p q) ≠ dig q (difN p q) := by
  unfold difN at *
  cases hf : (List.range 128).find? fun i => dig p i != dig q i with
  | none => rw [hf] at h; simp at h
  | some i =>
    have := (find_range.1 i hf).2.1
    simpa using this
theorem dif_is {p q : Bx} {k : Nat} (h1 : k ≤ 128) (h2 : ∀ j, j < k → dig p j = dig q j) (h3 : k < 128 → dig p k ≠ dig q k) : difN p q = k := by
  have a1 := dif_le p q
  by_cases g1 : difN p q < k
  · exact absurd (h2 _ g1) (dif_ne (by omega))
  · by_cases g2 : k < difN p q
    · exact absurd (dif_lt g2) (h3 (by omega))
    · omega
theorem bits_eq {x y : Nat} (hx : x < 4294967296) (hy : y < 4294967296) (h : ∀ k, k < 32 → x / 2 ^ (31 - k) % 2 = y / 2 ^ (31 - k) % 2) : x = y := by
  apply Nat.eq_of_testBit_eq
  intro i
  by_cases hi : i < 32
  · have := h (31 - i) (by omega)
    rw [show 31 - (31 - i) = i by omega] at this
    rw [Nat.testBit_eq_decide_div_mod_eq, Nat.testBit_eq_decide_div_mod_eq, this]
  · have e : (4294967296 : Nat) = 2 ^ 32 := by decide
    rw [Nat.testBit_lt_two_pow (Nat.lt_of_lt_of_le (e ▸ hx) (Nat.pow_le_pow_right (by decide) (by omega))), Nat.testBit_lt_two_pow (Nat.lt_of_lt_of_le (e ▸ hy) (Nat.pow_le_pow_right (by decide) (by omega)))]
theorem dif_all {p q : Bx} (hp : validB p = true) (hq : validB q = true) (h : difN p q = 128) : p = q := by
  have hd : ∀ j, j < 128 → dig p j = dig q j := fun j hj => dif_lt (by omega)
  rw [valid_iff] at hp hq
  have key : ∀ i, i < 4 → cN p i = cN q i := fun i hi => by
    refine bits_eq ?_ ?_ fun k hk => ?_
    · unfold cN co; split <;> omega
    · unfold cN co; split <;> omega
    · have := hd (4 * k + i) (by omega)
      unfold dig at this
      have e1 : (4 * k + i) / 4 = k := by omega
      have e2 : ∀ r : Bx, cN r (4 * k + i) = cN r i := fun r => by unfold cN co; rw [show (4 * k + i) % 4 = i % 4 by omega]
      rw [e1, e2, e2] at this
      exact this
  have k0 := key 0 (by decide)
  have k1 := key 1 (by decide)
  have k2 := key 2 (by decide)
  have k3 := key 3 (by decide)
  simp only [cN, co] at k0 k1 k2 k3
  cases p; cases q
  simp only [Bx.mk.injEq]
  dsimp only at *
  omega
theorem dif_self (p : Bx) : difN p p = 128 := dif_is (by decide) (fun _ _ => rfl) (fun h => absurd h (by decide))
/-- a tree of boxes: nodes with their blocks, leaves with their Ids and the value of the list of these. -/
inductive Tr (V : Type) where
  | leaf (p : Nat) (b : Bx) (ids : List (List UInt8)) (v : V)
  | fork (p : Nat) (f : Nat) (l r : Tr V)
section
variable {V : Type}
namespace Tr
def blk : Tr V → Nat
  | leaf p _ _ _ => p
  | fork p _ _ _ => p
def box : Tr V → Bx
  | leaf _ b _ _ => b
  | fork _ _ l r => hull l.box r.box
def fk : Tr V → Nat
  | leaf _ _ _ _ => 128
  | fork _ f _ _ => f
def leaves : Tr V → List (Nat × Bx × List (List UInt8) × V)
  | leaf p b ids v => [(p, b, ids, v)]
  | fork _ _ l r => l.leaves ++ r.leaves
def boxes (t : Tr V) : List Bx := t.leaves.map fun x => x.2.1
def items (t : Tr V) : List (List UInt8 × Bx) := t.leaves.flatMap fun x => x.2.2.1.map fun i => (i, x.2.1)
def ok : Tr V → Prop
  | leaf _ b _ _ => validB b = true
  | fork _ f l r => f < 128 ∧ l.ok ∧ r.ok ∧ (∀ b ∈ l.boxes, dig b f = 0) ∧ (∀ b ∈ r.boxes, dig b f = 1) ∧ ∀ b ∈ l.boxes ++ r.boxes, ∀ b' ∈ l.boxes ++ r.boxes, ∀ j, j < f → dig b j = dig b' j
theorem boxes_fork (p f : Nat) (l r : Tr V) : (fork p f l r).boxes = l.boxes ++ r.boxes := by
  show List.map _ (l.leaves ++ r.leaves) = _
  rw [List.map_append]; rfl
theorem items_fork (p f : Nat) (l r : Tr V) : (fork p f l r).items = l.items ++ r.items := by
  show List.flatMap _ (l.leaves ++ r.leaves) = _
  rw [List.flatMap_append]; rfl
theorem items_leaf (p : Nat) (b : Bx) (ids : List (List UInt8)) (v : V) : (leaf p b ids v).items = ids.map fun i => (i, b) := by simp [items, leaves]
theorem ok_valid : ∀ {t : Tr V}, t.ok → validB t.box = true ∧ ∀ b ∈ t.boxes, validB b = true
  | leaf _ b _ _, h => ⟨h, fun c hc => by simp [boxes, leaves] at hc; subst hc; exact h⟩
  | fork _ _ l r, h => by
    have h1 := ok_valid h.2.1
    have h2 := ok_valid h.2.2.1
    refine ⟨hull_valid h1.1 h2.1, fun b hb => ?_⟩
    rw [boxes_fork, List.mem_append] at hb
    rcases hb with hb | hb
    · exact h1.2 b hb
    · exact h2.2 b hb
theorem box_sub : ∀ {t : Tr V} {b : Bx}, b ∈ t.boxes → sub b t.box
  | leaf _ b _ _, c, hc => by simp [boxes, leaves] at hc; subst hc; exact sub_refl _
  | fork _ _ l r, c, hc => by
    rw [boxes_fork, List.mem_append] at hc
    exact sub_hull (hc.imp box_sub box_sub)
theorem box_co : ∀ (t : Tr V) (i : Nat), ∃ b ∈ t.boxes, co t.box i = co b i
  | leaf _ b _ _, i => ⟨b, by simp [boxes, leaves], rfl⟩
  | fork _ _ l r, i => by
    rcases co_hull l.box r.box i with e | e
    · obtain ⟨b, hb, e'⟩ := box_co l i
      exact ⟨b, by rw [boxes_fork]; exact List.mem_append_left _ hb, e.trans e'⟩
    · obtain ⟨b, hb, e'⟩ := box_co r i
      exact ⟨b, by rw [boxes_fork]; exact List.mem_append_right _ hb, e.trans e'⟩
/-- the digits ahead of the fork are those of all boxes. -/
theorem dig_box : ∀ {t : Tr V}, t.ok → ∀ {j : Nat}, j < t.fk → ∀ b ∈ t.boxes, dig t.box j = dig b j
  | leaf _ b _ _, _, j, _, c, hc => by simp [boxes, leaves] at hc; subst hc; rfl
  | fork p f l r, h, j, hj, c, hc => by
    obtain ⟨b, hb, e⟩ := box_co (fork p f l r) j
    rw [dig_co e]
    rw [boxes_fork] at hb hc
    exact h.2.2.2.2.2 b hb c hc j hj
theorem fk_le : ∀ {t : Tr V}, t.ok → t.fk ≤ 128
  | leaf _ _ _ _, _ => Nat.le_refl _
  | fork _ _ _ _, h => Nat.le_of_lt h.1
/-- a new fork above a tree, with a leaf beside it. -/
def join (b : Bx) (pl pf : Nat) (v : V) (t : Tr V) : Tr V :=
  if dig b (difN t.box b) = 0 then fork pf (difN t.box b) (leaf pl b [] v) t else fork pf (difN t.box b) t (leaf pl b [] v)
def ins (b : Bx) (pl pf : Nat) (v : V) : Tr V → Tr V
  | leaf p c ids u => if difN c b < 128 then join b pl pf v (leaf p c ids u) else leaf p c ids u
  | fork p f l r => if difN (hull l.box r.box) b < f then join b pl pf v (fork p f l r) else if dig b f = 0 then fork p f (ins b pl pf v l) r else fork p f l (ins b pl pf v r)
/-- the block of the leaf for a box. -/
def at_ (b : Bx) : Tr V → Nat
  | leaf p _ _ _ => p
  | fork _ f l r => if dig b f = 0 then at_ b l else at_ b r
theorem join_ok {b : Bx} {pl pf : Nat} {v : V} {t : Tr V} (h : t.ok) (hb : validB b = true) (hd : difN t.box b < t.fk) : (join b pl pf v t).ok := by
  have hf := fk_le h
  have hne := dif_ne (show difN t.box b < 128 by omega)
  have hall : ∀ c ∈ t.boxes, ∀ j, j ≤ difN t.box b → dig c j = dig t.box j := fun c hc j hj => (dig_box h (by omega) c hc).symm
  have hlt : ∀ j, j < difN t.box b → dig t.box j = dig b j := fun j hj => dif_lt hj
  have h2 := dig_two b (difN t.box b)
  have h3 := dig_two t.box (difN t.box b)
  have agree : ∀ c ∈ t.boxes, ∀ j, j < difN t.box b → dig c j = dig b j := fun c hc j hj => (hall c hc j (by omega)).trans (hlt j hj)
  have eb : (leaf pl b [] v : Tr V).boxes = [b] := rfl
  unfold join
  split
  · rename_i e
    refine ⟨by omega, hb, h, ?_, fun c hc => ?_, ?_⟩
    · intro c hc; rw [eb, List.mem_singleton] at hc; rw [hc]; exact e
    · rw [hall c hc _ (Nat.le_refl _)]; omega
    · intro c hc c' hc' j hj
      have k : ∀ c ∈ (leaf pl b [] v : Tr V).boxes ++ t.boxes, dig c j = dig b j := fun c hc => by
        rw [List.mem_append, eb, List.mem_singleton] at hc
        rcases hc with rfl | hc
        · rfl
        · exact agree c hc j hj
      rw [k c hc, k c' hc']
  · rename_i e
    refine ⟨by omega, h, hb, fun c hc => ?_, ?_, ?_⟩
    · rw [hall c hc _ (Nat.le_refl _)]; omega
    · intro c hc; rw [eb, List.mem_singleton] at hc; rw [hc]; omega
    · intro c hc c' hc' j hj
      have k : ∀ c ∈ t.boxes ++ (leaf pl b [] v : Tr V).boxes, dig c j = dig b j := fun c hc => by
        rw [List.mem_append, eb, List.mem_singleton] at hc
        rcases hc with hc | rfl
        · exact agree c hc j hj
        · rfl
      rw [k c hc, k c' hc']
theorem join_box (b : Bx) (pl pf : Nat) (v : V) (t : Tr V) : (join b pl pf v t).box = hull t.box b := by
  unfold join
  split
  · exact hull_comm _ _
  · rfl
theorem join_leaves (b : Bx) (pl pf : Nat) (v : V) (t : Tr V) : (join b pl pf v t).leaves = (pl, b, [], v) :: t.leaves ∨ (join b pl pf v t).leaves = t.leaves ++ [(pl, b, [], v)] := by
  unfold join
  split
  · exact .inl rfl
  · exact .inr rfl
end Tr
end
end Go.Proofs.Yteghhfkllclghaa.Ix
