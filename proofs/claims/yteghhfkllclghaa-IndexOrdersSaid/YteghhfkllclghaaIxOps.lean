/- Lists of Ids with boxes, sorted by Id; places of Ids in leaves (plain mathematics). -/
import Derived.Test.YteghhfkllclghaaIxTree
namespace Go.Proofs.Yteghhfkllclghaa.Ix
abbrev Id := List UInt8
abbrev It := Id × Bx
theorem id_lt_or {a b : Id} : a < b ∨ a = b ∨ b < a := by
  by_cases h : a < b
  · exact .inl h
  · by_cases g : b < a
    · exact .inr (.inr g)
    · rw [List.not_lt] at h g
      exact .inr (.inl (List.le_antisymm g h))
theorem id_lt_ne {a b : Id} (h : a < b) : a ≠ b := fun e => List.lt_irrefl b (e ▸ h)
theorem id_lt_not {a b : Id} (h : a < b) : ¬ b < a := fun g => List.lt_irrefl a (List.lt_trans h g)
theorem id_le {a b : Id} (h : a < b) : a ≤ b := by rw [← List.not_lt]; exact id_lt_not h
theorem id_lt {a b : Id} (h : a ≤ b) (g : a ≠ b) : a < b := by
  rcases id_lt_or (a := a) (b := b) with k | k | k
  · exact k
  · exact absurd k g
  · rw [← List.not_lt] at h; exact absurd k h
/-- sorted strictly by Ids. -/
def Srt (S : List It) : Prop := S.Pairwise fun p q => p.1 < q.1
theorem Srt.nodup {S : List It} (h : Srt S) : (S.map Prod.fst).Nodup := by
  unfold List.Nodup
  rw [List.pairwise_map]
  exact h.imp fun h => id_lt_ne h
theorem Srt.filter {S : List It} (h : Srt S) (f : It → Bool) : Srt (S.filter f) := List.Pairwise.filter f h
theorem Srt.map_fst {S : List It} (h : Srt S) : (S.map Prod.fst).Pairwise (· < ·) := by rw [List.pairwise_map]; exact h
theorem sort_is {L M : List Id} (hp : L.Perm M) (hm : M.Pairwise (· < ·)) : (L.mergeSort fun x y => decide (x ≤ y)) = M := by
  refine List.Perm.eq_of_pairwise (le := (· ≤ ·)) (fun a b _ _ h1 h2 => List.le_antisymm h1 h2) ?_ (hm.imp id_le) ((List.mergeSort_perm _ _).trans hp)
  have := List.pairwise_mergeSort (le := fun x y : Id => decide (x ≤ y)) (fun a b c h1 h2 => by
    rw [decide_eq_true_iff] at *
    exact List.le_trans h1 h2) (fun a b => by
    rw [Bool.or_eq_true, decide_eq_true_iff, decide_eq_true_iff]
    exact List.le_total a b) L
  exact this.imp fun h => of_decide_eq_true h
/-- what In answers. -/
def inS (q : Bx) (S : List It) : List Id := (S.filter fun p => meetB p.2 q).map Prod.fst
theorem in_is {L S : List It} (hp : L.Perm S) (hs : Srt S) (q : Bx) : ((L.filter fun p => meetB p.2 q).map Prod.fst).mergeSort (fun x y => decide (x ≤ y)) = inS q S :=
  sort_is ((hp.filter _).map _) (hs.filter _).map_fst
/-- the order of Near. -/
def kLe (x y : Int) (p q : It) : Bool := decide (sqN p.2 x y < sqN q.2 x y) || (decide (sqN p.2 x y = sqN q.2 x y) && decide (p.1 ≤ q.1))
def kLt (x y : Int) (p q : It) : Prop := sqN p.2 x y < sqN q.2 x y ∨ sqN p.2 x y = sqN q.2 x y ∧ p.1 < q.1
theorem kLe_iff {x y : Int} {p q : It} : kLe x y p q = true ↔ sqN p.2 x y < sqN q.2 x y ∨ sqN p.2 x y = sqN q.2 x y ∧ p.1 ≤ q.1 := by
  unfold kLe
  rw [Bool.or_eq_true, Bool.and_eq_true, decide_eq_true_iff, decide_eq_true_iff, decide_eq_true_iff]
theorem kLt_le {x y : Int} {p q : It} (h : kLt x y p q) : kLe x y p q = true := by
  rw [kLe_iff]
  exact h.imp id fun h => ⟨h.1, id_le h.2⟩
theorem kLe_trans (x y : Int) (p q r : It) (h1 : kLe x y p q = true) (h2 : kLe x y q r = true) : kLe x y p r = true := by
  rw [kLe_iff] at *
  rcases h1 with h1 | ⟨e1, h1⟩ <;> rcases h2 with h2 | ⟨e2, h2⟩
  · left; omega
  · left; omega
  · left; omega
  · right; exact ⟨by omega, List.le_trans h1 h2⟩
theorem kLe_total (x y : Int) (p q : It) : (kLe x y p q || kLe x y q p) = true := by
  rw [Bool.or_eq_true, kLe_iff, kLe_iff]
  rcases Int.lt_trichotomy (sqN p.2 x y) (sqN q.2 x y) with h | h | h
  · exact .inl (.inl h)
  · rcases List.le_total p.1 q.1 with g | g
    · exact .inl (.inr ⟨h, g⟩)
    · exact .inr (.inr ⟨h.symm, g⟩)
  · exact .inr (.inl h)
theorem kLe_anti {x y : Int} {p q : It} (h1 : kLe x y p q = true) (h2 : kLe x y q p = true) : p.1 = q.1 := by
  rw [kLe_iff] at *
  rcases h1 with h1 | ⟨e1, h1⟩ <;> rcases h2 with h2 | ⟨e2, h2⟩
  · omega
  · omega
  · omega
  · exact List.le_antisymm h1 h2
theorem fst_inj {L : List It} (hn : (L.map Prod.fst).Nodup) {p q : It} (hp : p ∈ L) (hq : q ∈ L) (h : p.1 = q.1) : p = q := by
  induction L with
  | nil => cases hp
  | cons a L ih =>
    rw [List.map_cons, List.nodup_cons] at hn
    rcases List.mem_cons.1 hp with rfl | hp' <;> rcases List.mem_cons.1 hq with rfl | hq'
    · rfl
    · exact absurd (h ▸ List.mem_map_of_mem hq') hn.1
    · exact absurd (h ▸ List.mem_map_of_mem hp') hn.1
    · exact ih hn.2 hp' hq'
/-- all of them in the order of Near. -/
def nearA (x y : Int) (S : List It) : List It := S.mergeSort (kLe x y)
theorem near_perm {x y : Int} {L M : List It} (hp : L.Perm M) (hn : (M.map Prod.fst).Nodup) : nearA x y L = nearA x y M := by
  refine List.Perm.eq_of_pairwise (le := fun a b => kLe x y a b = true) (fun a b ha hb h1 h2 => ?_) (List.pairwise_mergeSort (kLe_trans x y) (kLe_total x y) L) (List.pairwise_mergeSort (kLe_trans x y) (kLe_total x y) M)
    (((List.mergeSort_perm _ _).trans hp).trans (List.mergeSort_perm _ _).symm)
  have ha' := hp.mem_iff.1 ((List.mergeSort_perm _ _).mem_iff.1 ha)
  have hb' := (List.mergeSort_perm _ _).mem_iff.1 hb
  exact fst_inj hn ha' hb' (kLe_anti h1 h2)
theorem near_step {x y : Int} {L R : List It} {m : It} (hp : L.Perm (m :: R)) (hn : (L.map Prod.fst).Nodup) (hm : ∀ q ∈ R, kLe x y m q = true) : nearA x y L = m :: nearA x y R := by
  have hn' : ((m :: R).map Prod.fst).Nodup := (hp.map Prod.fst).nodup_iff.1 hn
  rw [near_perm hp hn']
  refine List.Perm.eq_of_pairwise (le := fun a b => kLe x y a b = true) (fun a b ha hb h1 h2 => ?_) (List.pairwise_mergeSort (kLe_trans x y) (kLe_total x y) _) ?_ ?_
  · have ha' := (List.mergeSort_perm _ _).mem_iff.1 ha
    have hb' : b ∈ m :: R := by
      rcases List.mem_cons.1 hb with rfl | h
      · exact List.mem_cons_self ..
      · exact List.mem_cons_of_mem _ ((List.mergeSort_perm _ _).mem_iff.1 h)
    exact fst_inj hn' ha' hb' (kLe_anti h1 h2)
  · rw [List.pairwise_cons]
    exact ⟨fun q hq => hm q ((List.mergeSort_perm _ _).mem_iff.1 hq), List.pairwise_mergeSort (kLe_trans x y) (kLe_total x y) R⟩
  · exact (List.mergeSort_perm _ _).trans ((List.mergeSort_perm R _).symm.cons m)
theorem near_len (x y : Int) (S : List It) : (nearA x y S).length = S.length := (List.mergeSort_perm _ _).length_eq
/-- what Near answers. -/
def nearS (x y : Int) (n : Nat) (S : List It) : List Id := ((nearA x y S).take n).map Prod.fst
/-- a box added, an Id removed, the box of an Id. -/
def putS (i : Id) (b : Bx) : List It → List It
  | [] => [(i, b)]
  | p :: S => if p.1 < i then p :: putS i b S else (i, b) :: p :: S
def dropS (i : Id) (S : List It) : List It := S.filter fun p => decide (p.1 ≠ i)
def boxS (i : Id) (S : List It) : Option Bx := (S.find? fun p => decide (p.1 = i)).map Prod.snd
theorem putS_perm (i : Id) (b : Bx) : ∀ S, (putS i b S).Perm ((i, b) :: S)
  | [] => List.Perm.refl _
  | p :: S => by
    unfold putS
    split
    · exact ((putS_perm i b S).cons p).trans (List.Perm.swap _ _ _)
    · exact List.Perm.refl _
theorem Srt.put {i : Id} {b : Bx} : ∀ {S : List It}, Srt S → (∀ p ∈ S, p.1 ≠ i) → Srt (putS i b S)
  | [], _, _ => by unfold putS Srt; simp
  | p :: S, h, hn => by
    have hS := List.pairwise_cons.1 h
    unfold putS
    split
    · rename_i g
      refine List.pairwise_cons.2 ⟨fun q hq => ?_, Srt.put hS.2 fun q hq => hn q (List.mem_cons_of_mem _ hq)⟩
      rcases List.mem_cons.1 ((putS_perm i b S).mem_iff.1 hq) with rfl | hq
      · exact g
      · exact hS.1 q hq
    · rename_i g
      have hlt : i < p.1 := by
        rcases id_lt_or (a := i) (b := p.1) with k | k | k
        · exact k
        · exact absurd k.symm (hn p (List.mem_cons_self ..))
        · exact absurd k g
      refine List.pairwise_cons.2 ⟨fun q hq => ?_, h⟩
      rcases List.mem_cons.1 hq with rfl | hq
      · exact hlt
      · exact List.lt_trans hlt (hS.1 q hq)
theorem Srt.drop {S : List It} (h : Srt S) (i : Id) : Srt (dropS i S) := h.filter _
theorem srt_eq {S M : List It} (h : Srt S) (k : Srt M) (hp : S.Perm M) : S = M :=
  List.Perm.eq_of_pairwise (le := fun p q : It => p.1 < q.1) (fun _ _ _ _ h1 h2 => absurd h2 (id_lt_not h1)) h k hp
theorem box_some {S : List It} {i : Id} {b : Bx} (hn : (S.map Prod.fst).Nodup) : boxS i S = some b ↔ (i, b) ∈ S := by
  unfold boxS
  rw [Option.map_eq_some_iff]
  constructor
  · rintro ⟨⟨j, c⟩, h, rfl⟩
    have h1 := List.mem_of_find?_eq_some h
    have h2 := List.find?_some h
    rw [decide_eq_true_iff] at h2
    dsimp only at h2 ⊢
    rw [← h2]; exact h1
  · intro h
    cases hf : S.find? fun p => decide (p.1 = i) with
    | none =>
      rw [List.find?_eq_none] at hf
      exact absurd (decide_eq_true rfl) (hf _ h)
    | some p =>
      have h1 := List.mem_of_find?_eq_some hf
      have h2 := List.find?_some hf
      rw [decide_eq_true_iff] at h2
      have := fst_inj hn h1 h h2
      exact ⟨p, rfl, by rw [this]⟩
theorem box_none {S : List It} {i : Id} : boxS i S = none ↔ ∀ p ∈ S, p.1 ≠ i := by
  unfold boxS
  rw [Option.map_eq_none_iff, List.find?_eq_none]
  simp
theorem box_perm {S M : List It} {i : Id} (hp : S.Perm M) (hn : (M.map Prod.fst).Nodup) : boxS i S = boxS i M := by
  have hn' : (S.map Prod.fst).Nodup := (hp.map Prod.fst).nodup_iff.2 hn
  cases h : boxS i M with
  | none => rw [box_none] at h ⊢; exact fun p hp' => h p (hp.mem_iff.1 hp')
  | some b => rw [box_some hn] at h; rw [box_some hn']; exact hp.mem_iff.2 h
/-- where an Id is. -/
abbrev Lf (V : Type) := Nat × Bx × List Id × V
section
variable {V : Type}
def Plc (L : List (Lf V)) (x : Id) (p i : Nat) : Prop := ∃ b ids v, (p, b, ids, v) ∈ L ∧ ids[i]? = some x
def mapOK (lk : Id → Option (Nat × Nat)) (L : List (Lf V)) : Prop := ∀ x p i, lk x = some (p, i) ↔ Plc L x p i
def itemsL (L : List (Lf V)) : List It := L.flatMap fun x => x.2.2.1.map fun i => (i, x.2.1)
theorem items_is (t : Tr V) : t.items = itemsL t.leaves := rfl
theorem itemsL_perm {L M : List (Lf V)} (h : L.Perm M) : (itemsL L).Perm (itemsL M) := h.flatMap_right _
theorem itemsL_cons (x : Lf V) (L : List (Lf V)) : itemsL (x :: L) = (x.2.2.1.map fun i => (i, x.2.1)) ++ itemsL L := rfl
theorem Plc.perm {L M : List (Lf V)} {x : Id} {p i : Nat} (h : L.Perm M) : Plc L x p i ↔ Plc M x p i := by
  constructor <;> rintro ⟨b, ids, v, h1, h2⟩
  · exact ⟨b, ids, v, h.mem_iff.1 h1, h2⟩
  · exact ⟨b, ids, v, h.mem_iff.2 h1, h2⟩
theorem mapOK.perm {lk : Id → Option (Nat × Nat)} {L M : List (Lf V)} (h : L.Perm M) (k : mapOK lk L) : mapOK lk M := fun x p i => (k x p i).trans (Plc.perm h)
theorem plc_cons {b : Bx} {ids : List Id} {v : V} {q : Nat} {L : List (Lf V)} {x : Id} {p i : Nat} : Plc ((q, b, ids, v) :: L) x p i ↔ (p = q ∧ ids[i]? = some x) ∨ Plc L x p i := by
  constructor
  · rintro ⟨b', ids', v', h1, h2⟩
    rcases List.mem_cons.1 h1 with e | h
    · injection e with e1 e; injection e with e2 e; injection e with e3 e4
      subst e1 e2 e3 e4
      exact .inl ⟨rfl, h2⟩
    · exact .inr ⟨b', ids', v', h, h2⟩
  · rintro (⟨rfl, h⟩ | ⟨b', ids', v', h1, h2⟩)
    · exact ⟨b, ids, v, List.mem_cons_self .., h⟩
    · exact ⟨b', ids', v', List.mem_cons_of_mem _ h1, h2⟩
/-- an Id is placed exactly if it is among the items. -/
theorem plc_item {L : List (Lf V)} {x : Id} : (∃ p i, Plc L x p i) ↔ ∃ b, (x, b) ∈ itemsL L := by
  constructor
  · rintro ⟨p, i, b, ids, v, h1, h2⟩
    refine ⟨b, List.mem_flatMap.2 ⟨_, h1, ?_⟩⟩
    exact List.mem_map.2 ⟨x, List.mem_of_getElem? h2, rfl⟩
  · rintro ⟨b, h⟩
    obtain ⟨⟨p, c, ids, v⟩, h1, h2⟩ := List.mem_flatMap.1 h
    obtain ⟨y, hy, e⟩ := List.mem_map.1 h2
    injection e with e1 e2
    dsimp only at e1 e2 hy
    subst e1 e2
    obtain ⟨i, hi, e⟩ := List.mem_iff_getElem.1 hy
    exact ⟨p, i, c, ids, v, h1, by rw [List.getElem?_eq_getElem hi, e]⟩
theorem lk_none {lk : Id → Option (Nat × Nat)} {L : List (Lf V)} (h : mapOK lk L) {x : Id} : lk x = none ↔ ∀ b, (x, b) ∉ itemsL L := by
  constructor
  · intro e b hb
    obtain ⟨p, i, hp⟩ := plc_item.2 ⟨b, hb⟩
    rw [(h x p i).2 hp] at e; cases e
  · intro hb
    cases e : lk x with
    | none => rfl
    | some v =>
      obtain ⟨p, i⟩ := v
      obtain ⟨b, hb'⟩ := plc_item.1 ⟨p, i, (h x p i).1 e⟩
      exact absurd hb' (hb b)
/-- an Id more at the end of a leaf. -/
theorem mapOK.add {lk : Id → Option (Nat × Nat)} {q : Nat} {b : Bx} {ids : List Id} {v u : V} {L : List (Lf V)} {x : Id} (h : mapOK lk ((q, b, ids, v) :: L)) (hx : lk x = none) :
    mapOK (fun y => if y = x then some (q, ids.length) else lk y) ((q, b, ids ++ [x], u) :: L) := by
  intro y p i
  rw [plc_cons]
  dsimp only
  by_cases e : y = x
  · subst e
    rw [if_pos rfl]
    constructor
    · intro k; injection k with k; injection k with k1 k2
      subst k1 k2
      exact .inl ⟨rfl, by simp⟩
    · rintro (⟨rfl, k⟩ | k)
      · rw [List.getElem?_append] at k
        split at k
        · have := (h y p i).2 (plc_cons.2 (.inl ⟨rfl, k⟩))
          rw [hx] at this; cases this
        · rename_i g
          have : i - ids.length = 0 := by
            by_cases g' : i - ids.length = 0
            · exact g'
            · rw [List.getElem?_eq_none (by simp; omega)] at k; cases k
          rw [show i = ids.length by omega]
      · have := (h y p i).2 (plc_cons.2 (.inr k))
        rw [hx] at this; cases this
  · rw [if_neg e, h y p i, plc_cons]
    refine or_congr (and_congr_right fun _ => ?_) Iff.rfl
    rw [List.getElem?_append]
    split
    · exact Iff.rfl
    · rename_i g
      rw [List.getElem?_eq_none (by omega)]
      constructor
      · intro k; cases k
      · intro k
        exfalso
        by_cases g' : i - ids.length = 0
        · rw [g'] at k
          simp at k
          exact e k.symm
        · rw [List.getElem?_eq_none (by simp; omega)] at k; cases k
/-- the last Id of a leaf takes the place of one. -/
def moveL (ids : List Id) (i : Nat) (m : Id) : List Id := (ids.set i m).take (ids.length - 1)
theorem moveL_perm {ids : List Id} {i : Nat} {x m : Id} (hi : ids[i]? = some x) (hm : ids[ids.length - 1]? = some m) : ids.Perm (x :: moveL ids i m) := by
  obtain ⟨h1, e1⟩ := List.getElem?_eq_some_iff.1 hi
  obtain ⟨h2, e2⟩ := List.getElem?_eq_some_iff.1 hm
  have hl : ids.take (ids.length - 1) ++ [m] = ids := by
    have := List.take_append_getElem (l := ids) (i := ids.length - 1) (by omega)
    rw [e2] at this
    rw [this, List.take_of_length_le (by omega)]
  unfold moveL
  by_cases g : i = ids.length - 1
  · rw [List.take_set, g, List.set_eq_of_length_le (by rw [List.length_take]; omega)]
    have : x = m := by rw [g] at hi; rw [hi] at hm; injection hm
    subst this
    have hp := List.perm_append_comm (l₁ := ids.take (ids.length - 1)) (l₂ := [x])
    rw [hl] at hp
    exact hp
  · rw [List.take_set]
    have hi' : (ids.take (ids.length - 1))[i]? = some x := by rw [List.getElem?_take, if_pos (by omega)]; exact hi
    obtain ⟨h3, e3⟩ := List.getElem?_eq_some_iff.1 hi'
    have hs := List.perm_iff_count (l₁ := ids) (l₂ := x :: (ids.take (ids.length - 1)).set i m)
    rw [hs]
    intro a
    have hc : ids.count a = (ids.take (ids.length - 1)).count a + (if m = a then 1 else 0) := by
      conv => lhs; rw [← hl]
      rw [List.count_append, List.count_singleton]
      simp
    rw [hc, List.count_cons, List.count_set h3, e3]
    have hpos : x = a → 0 < (ids.take (ids.length - 1)).count a := fun e => by
      rw [List.count_pos_iff]; rw [← e]; exact List.mem_of_getElem? hi'
    by_cases k1 : x = a <;> by_cases k2 : m = a <;> simp [k1, k2] <;> (try (have := hpos k1; omega))
theorem moveL_get {ids : List Id} {i : Nat} {m : Id} (hi : i < ids.length) (j : Nat) : (moveL ids i m)[j]? = if j < ids.length - 1 then (if i = j then some m else ids[j]?) else none := by
  unfold moveL
  rw [List.getElem?_take]
  split
  · rw [List.getElem?_set]
    split
    · rename_i h g; subst g; simp; try omega
    · rfl
  · rfl
theorem plc_ne {q : Nat} {L : List (Lf V)} (hq : ∀ z ∈ L, z.1 ≠ q) {y : Id} {p j : Nat} (h : Plc L y p j) : p ≠ q := by
  obtain ⟨b, ids, v, h1, _⟩ := h
  exact hq _ h1
theorem mapOK.move {lk : Id → Option (Nat × Nat)} {q i : Nat} {b : Bx} {ids : List Id} {v u : V} {L : List (Lf V)} {x m : Id} (h : mapOK lk ((q, b, ids, v) :: L)) (hq : ∀ z ∈ L, z.1 ≠ q) (hx : ids[i]? = some x) (hm : ids[ids.length - 1]? = some m) :
    mapOK (fun y => if y = x then none else if y = m then some (q, i) else lk y) ((q, b, moveL ids i m, u) :: L) := by
  have hx' : lk x = some (q, i) := (h x q i).2 (plc_cons.2 (.inl ⟨rfl, hx⟩))
  have hm' : lk m = some (q, ids.length - 1) := (h m q _).2 (plc_cons.2 (.inl ⟨rfl, hm⟩))
  have hi := (List.getElem?_eq_some_iff.1 hx).1
  have hlast := (List.getElem?_eq_some_iff.1 hm).1
  have at_ : ∀ y p j, Plc ((q, b, ids, v) :: L) y p j → lk y = some (p, j) := fun y p j k => (h y p j).2 k
  have uniq : ∀ {a c : Nat × Nat} {y : Id}, lk y = some a → lk y = some c → a = c := fun e1 e2 => by rw [e1] at e2; injection e2
  intro y p j
  rw [plc_cons, moveL_get hi]
  dsimp only
  by_cases ex : y = x
  · subst ex
    rw [if_pos rfl]
    constructor
    · intro k; cases k
    · rintro (⟨rfl, k⟩ | k)
      · exfalso
        by_cases g1 : j < ids.length - 1
        · rw [if_pos g1] at k
          by_cases g2 : i = j
          · rw [if_pos g2] at k
            injection k with k
            subst k
            have := uniq hx' hm'
            injection this with _ e
            omega
          · rw [if_neg g2] at k
            have := uniq (at_ y p j (plc_cons.2 (.inl ⟨rfl, k⟩))) hx'
            injection this with _ e
            exact g2 e.symm
        · rw [if_neg g1] at k; cases k
      · exfalso
        have := uniq (at_ y p j (plc_cons.2 (.inr k))) hx'
        injection this with e _
        exact plc_ne hq k e
  · rw [if_neg ex]
    have hix : ∀ {z}, ids[i]? = some z → z = x := fun {z} e => by rw [hx] at e; injection e with e; exact e.symm
    by_cases em : y = m
    · subst em
      rw [if_pos rfl]
      have hil : i ≠ ids.length - 1 := fun e => ex (hix (by rw [e]; exact hm))
      constructor
      · intro k
        injection k with k
        injection k with k1 k2
        subst k1 k2
        left
        refine ⟨rfl, ?_⟩
        rw [if_pos (by omega), if_pos rfl]
      · rintro (⟨rfl, k⟩ | k)
        · by_cases g1 : j < ids.length - 1
          · rw [if_pos g1] at k
            by_cases g2 : i = j
            · rw [g2]
            · rw [if_neg g2] at k
              have := uniq (at_ y p j (plc_cons.2 (.inl ⟨rfl, k⟩))) hm'
              injection this with _ e
              omega
          · rw [if_neg g1] at k; cases k
        · exfalso
          have := uniq (at_ y p j (plc_cons.2 (.inr k))) hm'
          injection this with e _
          exact plc_ne hq k e
    · rw [if_neg em, h y p j, plc_cons]
      refine or_congr (and_congr_right fun _ => ?_) Iff.rfl
      by_cases g1 : j < ids.length - 1
      · rw [if_pos g1]
        by_cases g2 : i = j
        · rw [if_pos g2]
          constructor
          · intro k; rw [← g2] at k; exact absurd (hix k) ex
          · intro k; injection k with k; exact absurd k.symm em
        · rw [if_neg g2]
      · rw [if_neg g1]
        constructor
        · intro k
          have h3 := (List.getElem?_eq_some_iff.1 k).1
          have : j = ids.length - 1 := by omega
          rw [this, hm] at k
          injection k with k
          exact absurd k.symm em
        · intro k; cases k
end
end Go.Proofs.Yteghhfkllclghaa.Ix
