/- Segments, boxes, pairs that meet; what a sweep over the boxes notes, in order, is all pairs that meet. Nothing of the program is named. -/
import Derived.Test.YtlgmlgogpohgoaaGmMeets
namespace Go.Proofs.Ytlgmlgogpohgoaa.Sw
open Go.Proofs.Ytlgmlgogpohgoaa.Geo hiding intOf
structure Sg where
  a : Pt
  b : Pt
structure Ent where
  i : Nat
  lo : Pt
  hi : Pt
structure Met where
  a : Nat
  b : Nat
  k : Int
theorem Met.ext' {p q : Met} (h1 : p.a = q.a) (h2 : p.b = q.b) (h3 : p.k = q.k) : p = q := by cases p; cases q; simp_all
instance : Inhabited Sg := ⟨⟨⟨0, 0⟩, ⟨0, 0⟩⟩⟩
instance : Inhabited Ent := ⟨⟨0, ⟨0, 0⟩, ⟨0, 0⟩⟩⟩
instance : Inhabited Met := ⟨⟨0, 0, 0⟩⟩
def sgAt (l : List Sg) (i : Nat) : Sg := l.getD i ⟨⟨0, 0⟩, ⟨0, 0⟩⟩
def meetSg (s t : Sg) : Int := meetsF s.a s.b t.a t.b
def kindN (l : List Sg) (i j : Nat) : Int := meetSg (sgAt l i) (sgAt l j)
def entS (i : Nat) (s : Sg) : Ent := ⟨i, ⟨min s.a.x s.b.x, min s.a.y s.b.y⟩, ⟨max s.a.x s.b.x, max s.a.y s.b.y⟩⟩
def entOf (l : List Sg) (i : Nat) : Ent := entS i (sgAt l i)
def entsOf (l : List Sg) : List Ent := (List.range l.length).map (entOf l)
/-- Segments that meet have boxes that meet. -/
theorem com_box {a b c d p : Pt} (h : Com a b c d p) :
    min a.x b.x ≤ max c.x d.x ∧ min c.x d.x ≤ max a.x b.x ∧ min a.y b.y ≤ max c.y d.y ∧ min c.y d.y ≤ max a.y b.y := by
  obtain ⟨h1, h2⟩ := h
  rw [holds_iff] at h1 h2
  have e1 := (box h1.1).1 h1.2
  have e2 := (box h2.1).1 h2.2
  omega
theorem weigh {al be lo hi u v : Int} (h0 : 0 < al) (h1 : 0 < be) (hu : lo ≤ u ∧ u ≤ hi) (hv : lo ≤ v ∧ v ≤ hi) : (al + be) * lo ≤ be * u + al * v ∧ be * u + al * v ≤ (al + be) * hi := by
  have e1 := Int.mul_nonneg (show 0 ≤ be by omega) (show 0 ≤ u - lo by omega)
  have e2 := Int.mul_nonneg (show 0 ≤ al by omega) (show 0 ≤ v - lo by omega)
  have e3 := Int.mul_nonneg (show 0 ≤ be by omega) (show 0 ≤ hi - u by omega)
  have e4 := Int.mul_nonneg (show 0 ≤ al by omega) (show 0 ≤ hi - v by omega)
  constructor <;> grind
theorem lt_cancel {k m n : Int} (hk : 0 < k) (h : k * m ≤ k * n) : m ≤ n := by
  by_cases g : n < m
  · have := Int.mul_pos hk (show 0 < m - n by omega); grind
  · omega
theorem weigh_meet {al be ga de a b c d : Int} (h0 : 0 < al) (h1 : 0 < be) (h2 : 0 < ga) (h3 : 0 < de) (hs : al + be = ga + de) (he : be * a + al * b = de * c + ga * d) : min a b ≤ max c d ∧ min c d ≤ max a b := by
  have w1 := weigh (lo := min a b) (hi := max a b) (u := a) (v := b) h0 h1 (by omega) (by omega)
  have w2 := weigh (lo := min c d) (hi := max c d) (u := c) (v := d) h2 h3 (by omega) (by omega)
  rw [← hs] at w2
  constructor
  · exact lt_cancel (k := al + be) (by omega) (by omega)
  · exact lt_cancel (k := al + be) (by omega) (by omega)
theorem opp {m n : Int} (h : m * n < 0) : 0 < m ∧ n < 0 ∨ m < 0 ∧ 0 < n := by
  rcases Int.lt_trichotomy m 0 with g | g | g <;> rcases Int.lt_trichotomy n 0 with k | k | k
  · have := Int.mul_pos_of_neg_of_neg g k; omega
  · subst k; simp at h
  · exact .inr ⟨g, k⟩
  · subst g; simp at h
  · subst g; simp at h
  · subst g; simp at h
  · exact .inl ⟨g, k⟩
  · subst k; simp at h
  · have := Int.mul_pos g k; omega
theorem apart_box {a b c d : Pt} (h : Apart a b c d) :
    min a.x b.x ≤ max c.x d.x ∧ min c.x d.x ≤ max a.x b.x ∧ min a.y b.y ≤ max c.y d.y ∧ min c.y d.y ≤ max a.y b.y := by
  obtain ⟨h1, h2⟩ := h
  have i1 : crs a b c - crs a b d = -(crs c d a - crs c d b) := by unfold crs; grind
  have i2 : crs c d a * b.x - crs c d b * a.x = crs a b d * c.x - crs a b c * d.x := by unfold crs; grind
  have i3 : crs c d a * b.y - crs c d b * a.y = crs a b d * c.y - crs a b c * d.y := by unfold crs; grind
  obtain ⟨p, hp⟩ : ∃ p, crs a b c = p := ⟨_, rfl⟩
  obtain ⟨q, hq⟩ : ∃ q, crs a b d = q := ⟨_, rfl⟩
  obtain ⟨r, hr⟩ : ∃ r, crs c d a = r := ⟨_, rfl⟩
  obtain ⟨s, hs⟩ : ∃ s, crs c d b = s := ⟨_, rfl⟩
  rw [hp, hq, hr, hs] at i1
  rw [hr, hs, hp, hq] at i2 i3
  rw [hp, hq] at h1
  rw [hr, hs] at h2
  clear hp hq hr hs
  rcases opp h1 with ⟨g1, g2⟩ | ⟨g1, g2⟩ <;> rcases opp h2 with ⟨k1, k2⟩ | ⟨k1, k2⟩
  · exfalso; omega
  · have x := weigh_meet (al := -r) (be := s) (ga := p) (de := -q) (a := a.x) (b := b.x) (c := c.x) (d := d.x) (by omega) k2 g1 (by omega) (by omega) (by grind)
    have y := weigh_meet (al := -r) (be := s) (ga := p) (de := -q) (a := a.y) (b := b.y) (c := c.y) (d := d.y) (by omega) k2 g1 (by omega) (by omega) (by grind)
    exact ⟨x.1, x.2, y.1, y.2⟩
  · have x := weigh_meet (al := r) (be := -s) (ga := -p) (de := q) (a := a.x) (b := b.x) (c := c.x) (d := d.x) k1 (by omega) (by omega) g2 (by omega) (by grind)
    have y := weigh_meet (al := r) (be := -s) (ga := -p) (de := q) (a := a.y) (b := b.y) (c := c.y) (d := d.y) k1 (by omega) (by omega) g2 (by omega) (by grind)
    exact ⟨x.1, x.2, y.1, y.2⟩
  · exfalso; omega
theorem meetSg_near {s t : Sg} (h : meetSg s t ≠ 0) : meetSg s t = meetsN s.a s.b t.a t.b := by
  unfold meetSg meetsF at *
  split at h
  · rename_i g; rw [if_pos g]
  · exact absurd rfl h
theorem meet_box {s t : Sg} (h : meetSg s t ≠ 0) :
    min s.a.x s.b.x ≤ max t.a.x t.b.x ∧ min t.a.x t.b.x ≤ max s.a.x s.b.x ∧ min s.a.y s.b.y ≤ max t.a.y t.b.y ∧ min t.a.y t.b.y ≤ max s.a.y s.b.y := by
  rw [meetSg_near h] at h
  rcases meets_kind s.a s.b t.a t.b with ⟨hs, _⟩ | ⟨_, ⟨⟨p, _, _, _, _, cp, _⟩, _⟩ | ⟨p, _, cp, _⟩ | ⟨_, ⟨ha, _⟩ | ⟨_, e⟩⟩⟩
  · rcases hs with ⟨e1, e2⟩ | ⟨e1, e2⟩
    · rw [e1, e2]; omega
    · rw [e1, e2]; omega
  · exact com_box cp
  · exact com_box cp
  · exact apart_box ha
  · exact absurd e h
theorem meetSg_comm (s t : Sg) : meetSg s t = meetSg t s := by
  unfold meetSg meetsF
  have e := meets_swap t.a t.b s.a s.b
  rw [e]
  cases nearB s.a <;> cases nearB s.b <;> cases nearB t.a <;> cases nearB t.b <;> rfl
theorem kind_comm (l : List Sg) (i j : Nat) : kindN l i j = kindN l j i := meetSg_comm _ _
/-- what is noted of two indices. -/
def noteOf (l : List Sg) (i j : Nat) : Option Met := if kindN l (min i j) (max i j) = 0 then none else some ⟨min i j, max i j, kindN l (min i j) (max i j)⟩
theorem note_comm (l : List Sg) (i j : Nat) : noteOf l i j = noteOf l j i := by
  unfold noteOf
  rw [Nat.min_comm, Nat.max_comm]
theorem note_kind {l : List Sg} {i j : Nat} {m : Met} (h : noteOf l i j = some m) : kindN l i j ≠ 0 ∧ m.a = min i j ∧ m.b = max i j ∧ m.k = kindN l m.a m.b ∧ m.k ≠ 0 := by
  unfold noteOf at h
  split at h
  · cases h
  · rename_i g
    injection h with h
    subst h
    refine ⟨?_, rfl, rfl, rfl, g⟩
    rcases Nat.le_total i j with q | q
    · rwa [Nat.min_eq_left q, Nat.max_eq_right q] at g
    · rwa [Nat.min_eq_right q, Nat.max_eq_left q, kind_comm] at g
def alive (x e : Ent) : Bool := !decide (e.hi.x < x.lo.x)
def levelB (x e : Ent) : Bool := decide (e.lo.y ≤ x.hi.y) && decide (x.lo.y ≤ e.hi.y)
def keptN (x : Ent) (O : List Ent) : List Ent := O.filter (alive x)
def notesN (l : List Sg) (x : Ent) (O : List Ent) : List Met := O.filterMap fun e => if alive x e && levelB x e then noteOf l e.i x.i else none
theorem keptN_snoc (x e : Ent) (O : List Ent) : keptN x (O ++ [e]) = if alive x e then keptN x O ++ [e] else keptN x O := by
  unfold keptN
  rw [List.filter_append]
  cases h : alive x e <;> simp [h]
theorem notesN_snoc (l : List Sg) (x e : Ent) (O : List Ent) : notesN l x (O ++ [e]) = notesN l x O ++ (if alive x e && levelB x e then noteOf l e.i x.i else none).toList := by
  unfold notesN
  rw [List.filterMap_append]
  congr 1
def stepN (l : List Sg) (s : List Ent × List Met) (x : Ent) : List Ent × List Met := (keptN x s.1 ++ [x], s.2 ++ notesN l x s.1)
def sweepN (l : List Sg) (E : List Ent) : List Ent × List Met := E.foldl (stepN l) ([], [])
theorem sweepN_snoc (l : List Sg) (E : List Ent) (x : Ent) : sweepN l (E ++ [x]) = stepN l (sweepN l E) x := by unfold sweepN; rw [List.foldl_append]; rfl
def AscE (P : List Ent) : Prop := P.Pairwise fun e f => e.lo.x ≤ f.lo.x
def keyM (m n : Met) : Prop := ¬ (m.a = n.a ∧ m.b = n.b)
theorem keyM_of {l : List Sg} {i j p q : Nat} {m n : Met} (h : noteOf l i j = some m) (g : noteOf l p q = some n) (hne : ¬ (i = p ∧ j = q) ∧ ¬ (i = q ∧ j = p)) : keyM m n := by
  obtain ⟨_, h1, h2, _⟩ := note_kind h
  obtain ⟨_, g1, g2, _⟩ := note_kind g
  unfold keyM
  omega
structure Swept (l : List Sg) (P O : List Ent) (F : List Met) : Prop where
  sub : O.Sublist P
  dead : ∀ e ∈ P, e ∈ O ∨ ∃ z ∈ P, e.hi.x < z.lo.x
  src : ∀ m ∈ F, ∃ e ∈ P, ∃ x ∈ P, e.i ≠ x.i ∧ noteOf l e.i x.i = some m
  all : ∀ e ∈ P, ∀ x ∈ P, e.i ≠ x.i → ∀ m, noteOf l e.i x.i = some m → m ∈ F
  key : F.Pairwise keyM
theorem kind_ents {l : List Sg} {e x : Ent} (he : e = entOf l e.i) (hx : x = entOf l x.i) (h : kindN l e.i x.i ≠ 0) : e.lo.x ≤ x.hi.x ∧ x.lo.x ≤ e.hi.x ∧ e.lo.y ≤ x.hi.y ∧ x.lo.y ≤ e.hi.y := by
  have := meet_box h
  rw [he, hx]
  exact this
theorem Swept.step {l : List Sg} {P O : List Ent} {F : List Met} (H : Swept l P O F) (x : Ent) (hP : ∀ e ∈ P ++ [x], e = entOf l e.i) (hs : AscE (P ++ [x])) (hi : (P ++ [x]).Pairwise fun e f => e.i ≠ f.i) :
    Swept l (P ++ [x]) (keptN x O ++ [x]) (F ++ notesN l x O) := by
  obtain ⟨hs1, _, hs3⟩ := List.pairwise_append.1 hs
  obtain ⟨hi1, _, hi3⟩ := List.pairwise_append.1 hi
  have hs4 : ∀ e ∈ P, e.lo.x ≤ x.lo.x := fun e h => hs3 e h x (by simp)
  have hi4 : ∀ e ∈ P, e.i ≠ x.i := fun e h => hi3 e h x (by simp)
  have noted : ∀ e ∈ P, ∀ m, noteOf l e.i x.i = some m → m ∈ notesN l x O := by
    intro e he m hm
    have hb := kind_ents (hP e (by simp [he])) (hP x (by simp)) (note_kind hm).1
    have hO : e ∈ O := by
      rcases H.dead e he with h | ⟨z, hz, hlt⟩
      · exact h
      · have := hs4 z hz; omega
    unfold notesN
    rw [List.mem_filterMap]
    refine ⟨e, hO, ?_⟩
    rw [if_pos]
    · exact hm
    · unfold alive levelB
      simp
      omega
  have noted2 : ∀ m ∈ notesN l x O, ∃ e ∈ P, noteOf l e.i x.i = some m := by
    intro m hm
    unfold notesN at hm
    rw [List.mem_filterMap] at hm
    obtain ⟨e, he, h⟩ := hm
    split at h
    · exact ⟨e, H.sub.subset he, h⟩
    · cases h
  refine ⟨?_, ?_, ?_, ?_, ?_⟩
  · exact List.Sublist.append ((List.filter_sublist).trans H.sub) (List.Sublist.refl _)
  · intro e he
    rw [List.mem_append] at he
    rcases he with he | he
    · rcases H.dead e he with h | ⟨z, hz, hlt⟩
      · by_cases g : alive x e = true
        · exact .inl (by rw [List.mem_append]; exact .inl (List.mem_filter.2 ⟨h, g⟩))
        · unfold alive at g
          simp at g
          exact .inr ⟨x, by simp, g⟩
      · exact .inr ⟨z, by simp [hz], hlt⟩
    · simp at he
      subst he
      exact .inl (by simp)
  · intro m hm
    rw [List.mem_append] at hm
    rcases hm with hm | hm
    · obtain ⟨e, he, y, hy, h⟩ := H.src m hm
      exact ⟨e, by simp [he], y, by simp [hy], h⟩
    · obtain ⟨e, he, h⟩ := noted2 m hm
      exact ⟨e, by simp [he], x, by simp, hi4 e he, h⟩
  · intro e he y hy hne m hm
    rw [List.mem_append] at he hy ⊢
    simp only [List.mem_singleton] at he hy
    rcases he with he | rfl
    · rcases hy with hy | rfl
      · exact .inl (H.all e he y hy hne m hm)
      · exact .inr (noted e he m hm)
    · rcases hy with hy | rfl
      · exact .inr (noted y hy m (by rw [note_comm]; exact hm))
      · exact absurd rfl hne
  · rw [List.pairwise_append]
    refine ⟨H.key, ?_, ?_⟩
    · unfold notesN
      rw [List.pairwise_filterMap]
      have hO : O.Pairwise fun e f => e.i ≠ f.i := hi1.sublist H.sub
      refine (List.Pairwise.and_mem.1 hO).imp ?_
      rintro e f ⟨he, hf, hne⟩ m hm n hn
      have h1 := hi4 e (H.sub.subset he)
      have h2 := hi4 f (H.sub.subset hf)
      have hm' : noteOf l e.i x.i = some m := by
        split at hm
        · exact hm
        · cases hm
      have hn' : noteOf l f.i x.i = some n := by
        split at hn
        · exact hn
        · cases hn
      exact keyM_of hm' hn' ⟨fun h => hne h.1, fun h => h1 h.1⟩
    · intro m hm n hn
      obtain ⟨e, he, y, hy, hne, h⟩ := H.src m hm
      obtain ⟨f, hf, h'⟩ := noted2 n hn
      have h1 := hi4 e he
      have h2 := hi4 y hy
      exact keyM_of h h' ⟨fun h => h2 h.2, fun h => h1 h.1⟩
theorem swept_nil (l : List Sg) : Swept l [] [] [] := ⟨List.Sublist.refl _, by simp, by simp, by simp, List.Pairwise.nil⟩
theorem swept_take {l : List Sg} {E : List Ent} (hE : ∀ e ∈ E, e = entOf l e.i) (hs : AscE E) (hi : E.Pairwise fun e f => e.i ≠ f.i) : ∀ k, k ≤ E.length → Swept l (E.take k) (sweepN l (E.take k)).1 (sweepN l (E.take k)).2 := by
  intro k
  induction k with
  | zero => intro _; exact swept_nil l
  | succ k ih =>
    intro hk
    have e : E.take (k + 1) = E.take k ++ [E[k]] := by rw [List.take_succ_eq_append_getElem (by omega)]
    rw [e, sweepN_snoc]
    refine (ih (by omega)).step E[k] ?_ ?_ ?_
    · rw [← e]; intro x hx; exact hE x (List.take_subset _ _ hx)
    · rw [← e]; exact hs.sublist (List.take_sublist _ _)
    · rw [← e]; exact hi.sublist (List.take_sublist _ _)
/-- the answer: all pairs, in order. -/
def rowN (l : List Sg) (i : Nat) (js : List Nat) : List Met := js.filterMap fun j => if kindN l i j = 0 then none else some ⟨i, j, kindN l i j⟩
def ansN (l : List Sg) : List Met := (List.range l.length).flatMap fun i => rowN l i (List.range' (i + 1) (l.length - (i + 1)))
def ltM (m n : Met) : Prop := m.a < n.a ∨ m.a = n.a ∧ m.b < n.b
theorem mem_row {l : List Sg} {i : Nat} {js : List Nat} {m : Met} : m ∈ rowN l i js ↔ m.a = i ∧ m.b ∈ js ∧ m.k = kindN l m.a m.b ∧ m.k ≠ 0 := by
  unfold rowN
  rw [List.mem_filterMap]
  constructor
  · rintro ⟨j, hj, h⟩
    split at h
    · cases h
    · rename_i g
      injection h with h
      subst h
      exact ⟨rfl, hj, rfl, g⟩
  · rintro ⟨rfl, h1, h2, h3⟩
    refine ⟨m.b, h1, ?_⟩
    rw [if_neg (by rw [← h2]; exact h3)]
    exact congrArg some (Met.ext' rfl rfl h2.symm)
theorem mem_ans {l : List Sg} {m : Met} : m ∈ ansN l ↔ m.a < m.b ∧ m.b < l.length ∧ m.k = kindN l m.a m.b ∧ m.k ≠ 0 := by
  unfold ansN
  rw [List.mem_flatMap]
  constructor
  · rintro ⟨i, hi, h⟩
    rw [mem_row, List.mem_range'_1] at h
    rw [List.mem_range] at hi
    obtain ⟨rfl, h1, h2, h3⟩ := h
    exact ⟨by omega, by omega, h2, h3⟩
  · rintro ⟨h1, h2, h3, h4⟩
    refine ⟨m.a, by rw [List.mem_range]; omega, ?_⟩
    rw [mem_row, List.mem_range'_1]
    exact ⟨rfl, by omega, h3, h4⟩
theorem row_sorted (l : List Sg) (i s n : Nat) : (rowN l i (List.range' s n)).Pairwise ltM := by
  unfold rowN
  rw [List.pairwise_filterMap]
  refine (List.pairwise_lt_range').imp ?_
  intro p q hpq m hm n hn
  split at hm
  · cases hm
  · split at hn
    · cases hn
    · injection hm with hm
      injection hn with hn
      subst hm hn
      exact .inr ⟨rfl, hpq⟩
theorem ans_sorted (l : List Sg) : (ansN l).Pairwise ltM := by
  unfold ansN
  rw [List.pairwise_flatMap]
  refine ⟨fun i _ => row_sorted l i _ _, ?_⟩
  refine (List.pairwise_lt_range).imp ?_
  intro p q hpq m hm n hn
  rw [mem_row] at hm hn
  exact .inl (by omega)
theorem lt_irrefl (m : Met) : ¬ ltM m m := by unfold ltM; omega
theorem lt_asymm {m n : Met} (h : ltM m n) (g : ltM n m) : False := by unfold ltM at *; omega
theorem sorted_unique : ∀ {l m : List Met}, l.Pairwise ltM → m.Pairwise ltM → (∀ x, x ∈ l ↔ x ∈ m) → l = m := by
  intro l
  induction l with
  | nil =>
    intro m _ _ h
    cases m with
    | nil => rfl
    | cons y m => exact absurd ((h y).2 (by simp)) (by simp)
  | cons x l ih =>
    intro m hl hm h
    cases m with
    | nil => exact absurd ((h x).1 (by simp)) (by simp)
    | cons y m =>
      rw [List.pairwise_cons] at hl hm
      have e : x = y := by
        have h1 := (h x).1 (by simp)
        have h2 := (h y).2 (by simp)
        rw [List.mem_cons] at h1 h2
        rcases h1 with h1 | h1
        · exact h1
        · rcases h2 with h2 | h2
          · exact h2.symm
          · exact (lt_asymm (hl.1 y h2) (hm.1 x h1)).elim
      subst e
      congr 1
      refine ih hl.2 hm.2 fun z => ?_
      have hz := h z
      rw [List.mem_cons, List.mem_cons] at hz
      constructor
      · intro hzl
        rcases hz.1 (.inr hzl) with e | h'
        · subst e; exact absurd (hl.1 z hzl) (lt_irrefl z)
        · exact h'
      · intro hzm
        rcases hz.2 (.inr hzm) with e | h'
        · subst e; exact absurd (hm.1 z hzm) (lt_irrefl z)
        · exact h'
/-- the comparison of two meetings. -/
def ordM (m n : Met) : Int := if m.a = n.a ∧ m.b = n.b ∧ m.k = n.k then 0 else if m.a < n.a ∨ m.a = n.a ∧ m.b < n.b then -1 else 1
theorem ord_lt {m n : Met} : ordM m n < 0 ↔ ltM m n := by unfold ordM ltM; split <;> (try split) <;> omega
def AscM (l : List Met) : Prop := l.Pairwise fun m n => ¬ ltM n m
/-- What the sweep has noted, sorted, is the answer. -/
theorem swept_sorted {l : List Sg} {E : List Ent} {G : List Met} (hp : E.Perm (entsOf l)) (hs : AscE E) (hg : G.Perm (sweepN l E).2) (ha : AscM G) : G = ansN l := by
  have hE : ∀ e ∈ E, e = entOf l e.i := by
    intro e he
    have := hp.mem_iff.1 he
    unfold entsOf at this
    rw [List.mem_map] at this
    obtain ⟨i, _, rfl⟩ := this
    rfl
  have hi : E.Pairwise fun e f => e.i ≠ f.i := by
    refine (hp.pairwise_iff (fun h => fun e => h e.symm)).2 ?_
    unfold entsOf
    rw [List.pairwise_map]
    exact (List.pairwise_lt_range).imp (fun h e => by have e' : _ = _ := e; unfold entOf entS at e'; simp at e'; omega)
  have H := swept_take hE hs hi E.length (Nat.le_refl _)
  rw [List.take_length] at H
  have hk : G.Pairwise keyM := (hg.pairwise_iff (fun h => fun e => h ⟨e.1.symm, e.2.symm⟩)).2 H.key
  refine sorted_unique ?_ (ans_sorted l) fun m => ?_
  · refine (hk.and ha).imp ?_
    rintro m n ⟨h1, h2⟩
    unfold keyM at h1
    unfold ltM at *
    omega
  · rw [hg.mem_iff, mem_ans]
    have hmem : ∀ i, i < l.length → entOf l i ∈ E := fun i h => hp.mem_iff.2 (by unfold entsOf; rw [List.mem_map]; exact ⟨i, by rw [List.mem_range]; exact h, rfl⟩)
    have hlt : ∀ e ∈ E, e.i < l.length := by
      intro e he
      have := hp.mem_iff.1 he
      unfold entsOf at this
      rw [List.mem_map] at this
      obtain ⟨i, h, rfl⟩ := this
      rw [List.mem_range] at h
      exact h
    constructor
    · intro hm
      obtain ⟨e, he, x, hx, hne, h⟩ := H.src m hm
      obtain ⟨_, h1, h2, h3, h4⟩ := note_kind h
      have := hlt e he
      have := hlt x hx
      exact ⟨by omega, by omega, h3, h4⟩
    · rintro ⟨h1, h2, h3, h4⟩
      refine H.all _ (hmem m.a (by omega)) _ (hmem m.b h2) (by show m.a ≠ m.b; omega) m ?_
      show noteOf l m.a m.b = some m
      unfold noteOf
      rw [Nat.min_eq_left (by omega), Nat.max_eq_right (by omega), if_neg (by rw [← h3]; exact h4)]
      exact congrArg some (Met.ext' rfl rfl h3.symm)
end Go.Proofs.Ytlgmlgogpohgoaa.Sw
