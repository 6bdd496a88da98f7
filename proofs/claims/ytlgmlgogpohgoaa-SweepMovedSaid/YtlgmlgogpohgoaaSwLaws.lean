/- What the laws of sweep say of the list of all pairs that meet. -/
import Derived.Test.YtlgmlgogpohgoaaSwMath
namespace Go.Proofs.Ytlgmlgogpohgoaa.Sw
open Go.Proofs.Ytlgmlgogpohgoaa.Geo hiding intOf
theorem sg_get {l : List Sg} {i : Nat} (h : i < l.length) : sgAt l i = l[i] := by unfold sgAt; rw [List.getD_eq_getElem?_getD, List.getElem?_eq_getElem h]; rfl
/-- P5.3: the other order, and the ends exchanged. -/
def turnS (s : Sg) : Sg := ⟨s.b, s.a⟩
def backN (l : List Sg) : List Sg := l.reverse.map turnS
theorem back_len (l : List Sg) : (backN l).length = l.length := by unfold backN; simp
theorem back_at {l : List Sg} {i : Nat} (h : i < l.length) : sgAt (backN l) i = turnS (sgAt l (l.length - 1 - i)) := by
  rw [sg_get (by rw [back_len]; exact h), sg_get (show l.length - 1 - i < l.length by omega)]
  unfold backN
  simp
theorem meet_turn (s t : Sg) : meetSg (turnS s) (turnS t) = meetSg s t := by
  unfold meetSg meetsF turnS
  dsimp only
  rw [meets_back, meets_back2]
  by_cases h1 : nearB s.a = true <;> by_cases h2 : nearB s.b = true <;> by_cases h3 : nearB t.a = true <;> by_cases h4 : nearB t.b = true <;> simp_all
theorem kind_back {l : List Sg} {i j : Nat} (hi : i < l.length) (hj : j < l.length) : kindN (backN l) i j = kindN l (l.length - 1 - i) (l.length - 1 - j) := by
  unfold kindN
  rw [back_at hi, back_at hj, meet_turn]
def isPair (a b : Nat) (m : Met) : Bool := decide (m.a = min a b) && decide (m.b = max a b)
def findN (L : List Met) (a b : Nat) : Int := match L.find? (isPair a b) with
  | some m => m.k
  | none => 0
theorem find_ans {l : List Sg} {a b : Nat} (hne : a ≠ b) (ha : a < l.length) (hb : b < l.length) : findN (ansN l) a b = kindN l a b := by
  have e : kindN l a b = kindN l (min a b) (max a b) := by
    rcases Nat.le_total a b with q | q
    · rw [Nat.min_eq_left q, Nat.max_eq_right q]
    · rw [Nat.min_eq_right q, Nat.max_eq_left q, kind_comm]
  rw [e]
  unfold findN
  cases hf : (ansN l).find? (isPair a b) with
  | none =>
    rw [List.find?_eq_none] at hf
    by_cases g : kindN l (min a b) (max a b) = 0
    · exact g.symm
    · refine absurd (hf ⟨min a b, max a b, kindN l (min a b) (max a b)⟩ ?_) (by simp [isPair])
      rw [mem_ans]
      exact ⟨by dsimp only; omega, by dsimp only; omega, rfl, g⟩
  | some m =>
    have h1 := List.find?_some hf
    have h2 := mem_ans.1 (List.mem_of_find?_eq_some hf)
    unfold isPair at h1
    rw [Bool.and_eq_true, decide_eq_true_iff, decide_eq_true_iff] at h1
    rw [← h1.1, ← h1.2]
    exact h2.2.2.1
theorem find_back {l : List Sg} {m : Met} (h : m ∈ ansN l) : findN (ansN (backN l)) (l.length - 1 - m.a) (l.length - 1 - m.b) = m.k := by
  obtain ⟨h1, h2, h3, h4⟩ := mem_ans.1 h
  rw [find_ans (by omega) (by rw [back_len]; omega) (by rw [back_len]; omega), kind_back (by omega) (by omega), h3]
  congr 1 <;> omega
theorem nodup_le : ∀ {l m : List Met}, l.Pairwise keyM → (∀ x, x ∈ l → x ∈ m) → l.length ≤ m.length := by
  intro l
  induction l with
  | nil => intro m _ _; simp
  | cons x l ih =>
    intro m hl h
    obtain ⟨s, t, rfl⟩ := List.append_of_mem (h x (by simp))
    rw [List.pairwise_cons] at hl
    have := ih (m := s ++ t) hl.2 (fun y hy => by
      have hy' := h y (by simp [hy])
      have hk := hl.1 y hy
      simp only [List.mem_append, List.mem_cons] at hy' ⊢
      rcases hy' with g | g | g
      · exact .inl g
      · subst g; exact absurd ⟨rfl, rfl⟩ hk
      · exact .inr g)
    simp only [List.length_append, List.length_cons] at *
    omega
theorem ans_key (l : List Sg) : (ansN l).Pairwise keyM := (ans_sorted l).imp (fun h g => by unfold ltM at h; omega)
def flipM (n : Nat) (m : Met) : Met := ⟨n - 1 - m.b, n - 1 - m.a, m.k⟩
theorem back_le (l : List Sg) : (ansN l).length ≤ (ansN (backN l)).length := by
  have h : ((ansN l).map (flipM l.length)).length ≤ (ansN (backN l)).length := by
    refine nodup_le ?_ ?_
    · rw [List.pairwise_map]
      refine (List.Pairwise.and_mem.1 (ans_key l)).imp ?_
      rintro m n ⟨hm, hn, h⟩
      have := mem_ans.1 hm
      have := mem_ans.1 hn
      unfold keyM flipM at *
      dsimp only
      omega
    · intro x hx
      rw [List.mem_map] at hx
      obtain ⟨m, hm, rfl⟩ := hx
      obtain ⟨h1, h2, h3, h4⟩ := mem_ans.1 hm
      rw [mem_ans]
      unfold flipM
      dsimp only
      refine ⟨by omega, by rw [back_len]; omega, ?_, h4⟩
      rw [kind_back (by omega) (by omega), kind_comm, h3]
      congr 1 <;> omega
  simpa using h
theorem turn_turn (s : Sg) : turnS (turnS s) = s := rfl
theorem back_back (l : List Sg) : backN (backN l) = l := by
  unfold backN
  rw [← List.map_reverse, List.reverse_reverse, List.map_map]
  conv => rhs; rw [← List.map_id l]
  rfl
theorem back_same (l : List Sg) : (ansN (backN l)).length = (ansN l).length := by
  have h1 := back_le l
  have h2 := back_le (backN l)
  rw [back_back] at h2
  omega
/-- P5.4: the first segments. -/
theorem take_at {l : List Sg} {n i : Nat} (h : i < n) (hn : n ≤ l.length) : sgAt (l.take n) i = sgAt l i := by
  rw [sg_get (by rw [List.length_take]; omega), sg_get (show i < l.length by omega)]
  simp
theorem ans_take {l : List Sg} {n : Nat} (hn : n ≤ l.length) : ansN (l.take n) = (ansN l).filter fun m => decide (m.b < n) := by
  refine sorted_unique (ans_sorted _) ((ans_sorted l).sublist List.filter_sublist) fun m => ?_
  rw [List.mem_filter, mem_ans, mem_ans, decide_eq_true_iff, List.length_take]
  constructor
  · rintro ⟨h1, h2, h3, h4⟩
    unfold kindN at *
    rw [take_at (by omega) hn, take_at (by omega) hn] at h3
    exact ⟨⟨h1, by omega, h3, h4⟩, by omega⟩
  · rintro ⟨⟨h1, h2, h3, h4⟩, h5⟩
    unfold kindN at *
    rw [take_at (by omega) hn, take_at (by omega) hn]
    exact ⟨h1, by omega, h3, h4⟩
/-- P5.5: all points moved. -/
def mvS (d : Pt) (s : Sg) : Sg := ⟨movedN s.a d, movedN s.b d⟩
theorem meetsN_moved (a b c e d : Pt) : meetsN (movedN a d) (movedN b d) (movedN c d) (movedN e d) = meetsN a b c e := by
  have inj : ∀ p q : Pt, movedN p d = movedN q d ↔ p = q := by
    intro p q
    constructor
    · intro h
      have h1 := congrArg Pt.x h
      have h2 := congrArg Pt.y h
      unfold movedN at h1 h2
      dsimp only at h1 h2
      exact Pt.ext' (by omega) (by omega)
    · rintro rfl; rfl
  have back : ∀ p : Pt, ∃ q, p = movedN q d := fun p => ⟨⟨p.x - d.x, p.y - d.y⟩, Pt.ext' (by unfold movedN; dsimp only; omega) (by unfold movedN; dsimp only; omega)⟩
  have hdt : ∀ p q r : Pt, dt (movedN p d) (movedN q d) (movedN r d) = dt p q r := by intro p q r; unfold dt movedN; grind
  have hh : ∀ p q r : Pt, holdsN (movedN p d) (movedN q d) (movedN r d) = holdsN p q r := by intro p q r; unfold holdsN; rw [crs_moved, hdt]
  have hcmp : ∀ p q : Pt, cmpN (movedN p d) (movedN q d) = cmpN p q := by intro p q; unfold cmpN movedN; grind
  have hlow : ∀ p q : Pt, lowN (movedN p d) (movedN q d) = movedN (lowN p q) d := by intro p q; unfold lowN; rw [hcmp]; split <;> rfl
  have hhigh : ∀ p q : Pt, highN (movedN p d) (movedN q d) = movedN (highN p q) d := by intro p q; unfold highN; rw [hcmp]; split <;> rfl
  have hmax : ∀ p q : Pt, maxN (movedN p d) (movedN q d) = movedN (maxN p q) d := by intro p q; unfold maxN; rw [hcmp]; split <;> rfl
  have hmin : ∀ p q : Pt, minN (movedN p d) (movedN q d) = movedN (minN p q) d := by intro p q; unfold minN; rw [hcmp]; split <;> rfl
  have heq : ∀ p q : Pt, eqP (movedN p d) (movedN q d) = eqP p q := by intro p q; rw [Bool.eq_iff_iff, eqP_iff, eqP_iff, inj]
  have hat : ∀ a b c e p : Pt, atN (movedN a d) (movedN b d) (movedN c d) (movedN e d) (movedN p d) = atN a b c e p := by intro a b c e p; unfold atN; rw [heq, heq, heq, heq]
  have hside : ∀ p q r : Pt, sideN (movedN p d) (movedN q d) (movedN r d) = sideN p q r := by intro p q r; unfold sideN; rw [crs_moved]
  have hline : ∀ a b c e : Pt, lineN (movedN a d) (movedN b d) (movedN c d) (movedN e d) = lineN a b c e := by intro a b c e; unfold lineN; rw [hmax, hmin, hcmp, hat]
  have hcross : ∀ a b c e : Pt, crossN (movedN a d) (movedN b d) (movedN c d) (movedN e d) = crossN a b c e := by intro a b c e; unfold crossN; simp only [hside, hh, hat]
  have hsort : ∀ a b c e : Pt, sortedN (movedN a d) (movedN b d) (movedN c d) (movedN e d) = sortedN a b c e := by
    intro a b c e
    unfold sortedN inLineB
    rw [heq, heq, hside, hside, hside, hline, hcross]
  unfold meetsN
  rw [hlow, hlow, hhigh, hhigh, hsort]
def nearS (s : Sg) : Bool := nearB s.a && nearB s.b
theorem meet_moved {d : Pt} {s t : Sg} (hs : nearS s = true) (ht : nearS t = true) (hs' : nearS (mvS d s) = true) (ht' : nearS (mvS d t) = true) : meetSg (mvS d s) (mvS d t) = meetSg s t := by
  unfold nearS mvS at *
  rw [Bool.and_eq_true] at *
  unfold meetSg meetsF
  dsimp only at *
  rw [hs.1, hs.2, ht.1, ht.2, hs'.1, hs'.2, ht'.1, ht'.2, meetsN_moved]
theorem ans_kind {l m : List Sg} (hl : m.length = l.length) (hk : ∀ i j, i < l.length → j < l.length → kindN m i j = kindN l i j) : ansN m = ansN l := by
  refine sorted_unique (ans_sorted _) (ans_sorted _) fun x => ?_
  rw [mem_ans, mem_ans, hl]
  constructor
  · rintro ⟨h1, h2, h3, h4⟩
    exact ⟨h1, h2, by rw [← hk _ _ (by omega) h2]; exact h3, h4⟩
  · rintro ⟨h1, h2, h3, h4⟩
    exact ⟨h1, h2, by rw [hk _ _ (by omega) h2]; exact h3, h4⟩
theorem ans_moved {d : Pt} {l : List Sg} (h1 : l.all nearS = true) (h2 : (l.map (mvS d)).all nearS = true) : ansN (l.map (mvS d)) = ansN l := by
  rw [List.all_eq_true] at h1 h2
  have n1 : ∀ i, i < l.length → nearS (sgAt l i) = true := fun i hi => by rw [sg_get hi]; exact h1 _ (List.getElem_mem _)
  have e : ∀ i, i < l.length → sgAt (l.map (mvS d)) i = mvS d (sgAt l i) := fun i hi => by rw [sg_get (by simpa using hi), sg_get hi]; simp
  have n2 : ∀ i, i < l.length → nearS (mvS d (sgAt l i)) = true := fun i hi => by rw [← e i hi, sg_get (by simpa using hi)]; exact h2 _ (List.getElem_mem _)
  refine ans_kind (by simp) fun i j hi hj => ?_
  unfold kindN
  rw [e i hi, e j hj]
  exact meet_moved (n1 i hi) (n1 j hj) (n2 i hi) (n2 j hj)
/-- P5.6: many segments that stand apart, and two that cross. -/
def limS (i : Nat) : Sg := ⟨⟨100 * i - 1000000, 10⟩, ⟨100 * i - 1000000 + 50, 20 + ((i % 7 : Nat) : Int)⟩⟩
def limN (k : Nat) : List Sg := (List.range k).map limS
def limEnd : List Sg := [⟨⟨-1000000, 0⟩, ⟨1000000, 5⟩⟩, ⟨⟨-1000000, 5⟩, ⟨1000000, 0⟩⟩]
theorem lim_apart {i j : Nat} (h : i < j) : meetSg (limS i) (limS j) = 0 := by
  by_cases g : meetSg (limS i) (limS j) = 0
  · exact g
  · have := meet_box g
    unfold limS at this
    dsimp only at this
    omega
theorem lim_end {i : Nat} {s : Sg} (hs : s ∈ limEnd) : meetSg (limS i) s = 0 := by
  by_cases g : meetSg (limS i) s = 0
  · exact g
  · have := meet_box g
    unfold limEnd at hs
    simp only [List.mem_cons, List.not_mem_nil, or_false] at hs
    rcases hs with rfl | rfl <;> (unfold limS at this; dsimp only at this; omega)
theorem lim_at (k i : Nat) (h : i < k) : sgAt (limN k ++ limEnd) i = limS i := by
  rw [sg_get (by unfold limN limEnd; simp; omega)]
  unfold limN
  rw [List.getElem_append_left (by simpa using h)]
  simp
theorem lim_at0 (k : Nat) : sgAt (limN k ++ limEnd) k = ⟨⟨-1000000, 0⟩, ⟨1000000, 5⟩⟩ := by
  rw [sg_get (by unfold limN limEnd; simp)]
  rw [List.getElem_append_right (by unfold limN; simp)]
  unfold limN limEnd
  simp
theorem lim_at1 (k : Nat) : sgAt (limN k ++ limEnd) (k + 1) = ⟨⟨-1000000, 5⟩, ⟨1000000, 0⟩⟩ := by
  rw [sg_get (by unfold limN limEnd; simp)]
  rw [List.getElem_append_right (by unfold limN; simp)]
  unfold limN limEnd
  simp
theorem lim_cross : meetSg ⟨⟨-1000000, 0⟩, ⟨1000000, 5⟩⟩ ⟨⟨-1000000, 5⟩, ⟨1000000, 0⟩⟩ = 3 := by decide +kernel
theorem ans_lim (k : Nat) : ansN (limN k ++ limEnd) = [⟨k, k + 1, 3⟩] := by
  have hlen : (limN k ++ limEnd).length = k + 2 := by unfold limN limEnd; simp
  refine sorted_unique (ans_sorted _) (List.pairwise_singleton _ _) fun m => ?_
  rw [mem_ans, hlen, List.mem_singleton]
  constructor
  · rintro ⟨h1, h2, h3, h4⟩
    by_cases ha : m.a < k
    · exfalso
      apply h4
      rw [h3]
      unfold kindN
      rw [lim_at k _ ha]
      by_cases hb : m.b < k
      · rw [lim_at k _ hb]; exact lim_apart h1
      · by_cases hb' : m.b = k
        · rw [hb', lim_at0]; exact lim_end (by unfold limEnd; simp)
        · rw [show m.b = k + 1 by omega, lim_at1]; exact lim_end (by unfold limEnd; simp)
    · have e1 : m.a = k := by omega
      have e2 : m.b = k + 1 := by omega
      refine Met.ext' e1 e2 ?_
      rw [h3, e1, e2]
      unfold kindN
      rw [lim_at0, lim_at1]
      exact lim_cross
  · rintro rfl
    refine ⟨by dsimp only; omega, by dsimp only; omega, ?_, by dsimp only; decide⟩
    show 3 = kindN _ k (k + 1)
    unfold kindN
    rw [lim_at0, lim_at1]
    exact lim_cross.symm
end Go.Proofs.Ytlgmlgogpohgoaa.Sw
