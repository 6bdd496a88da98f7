/- When a ring is simple: all pairs of sides, or only those whose boxes have a common point, in whatever order. -/
import Derived.Test.YtlagolgmkmdhhaaRgPairs
namespace Go.Proofs.Ytlagolgmkmdhhaa.Rg
open Go.RowKit Go.Sort
open Go.Proofs.Ytlagolgmkmdhhaa.Geo hiding intOf Apart
theorem cross_ident {a b c d : Pt} : crs a b c - crs a b d = crs c d b - crs c d a ∧ d.x * crs a b c - c.x * crs a b d = a.x * crs c d b - b.x * crs c d a ∧ d.y * crs a b c - c.y * crs a b d = a.y * crs c d b - b.y * crs c d a := by
  unfold crs
  refine ⟨?_, ?_, ?_⟩ <;> grind
theorem lin_key {C D A B ax bx cx dx m : Int} (h0 : C - D = B - A) (h1 : dx * C - cx * D = ax * B - bx * A) (p1 : 0 < (dx - m) * C) (p2 : 0 < (cx - m) * -D) (p3 : 0 ≤ (m - ax) * B) (p4 : 0 ≤ (m - bx) * -A) : False := by
  have e : (dx - m) * C + (cx - m) * -D + (m - ax) * B + (m - bx) * -A = (dx * C - cx * D) - (ax * B - bx * A) - m * ((C - D) - (B - A)) := by
    clear h0 h1 p1 p2 p3 p4
    grind
  rw [h1, h0, Int.sub_self, Int.sub_self, Int.mul_zero] at e
  omega
/-- a proper crossing has a point in both boxes. -/
theorem no_cross {C D A B ax bx cx dx : Int} (h0 : C - D = B - A) (h1 : dx * C - cx * D = ax * B - bx * A) (hc : C * D < 0) (ha : A * B < 0) (e1 : ax < cx) (e2 : ax < dx) (e3 : bx < cx) (e4 : bx < dx) : False := by
  have key : ∀ {C D A B ax bx cx dx : Int}, C - D = B - A → dx * C - cx * D = ax * B - bx * A → 0 < C → D < 0 → A * B < 0 → ax < cx → ax < dx → bx < cx → bx < dx → False := by
    intro C D A B ax bx cx dx h0 h1 hC hD ha e1 e2 e3 e4
    have hB : 0 < B := by
      refine Int.not_le.1 (fun hB => ?_)
      have hA : A < 0 := by omega
      have := Int.mul_nonneg_of_nonpos_of_nonpos (Int.le_of_lt hA) hB
      omega
    have hA : A < 0 := by
      refine Int.not_le.1 (fun hA => ?_)
      have := Int.mul_nonneg hA (Int.le_of_lt hB)
      omega
    obtain ⟨m, hm1, hm2, hm3, hm4⟩ : ∃ m, ax ≤ m ∧ bx ≤ m ∧ m < cx ∧ m < dx := ⟨max ax bx, by omega, by omega, by omega, by omega⟩
    have p1 := Int.mul_pos (show 0 < dx - m by omega) hC
    have p2 := Int.mul_pos (show 0 < cx - m by omega) (show 0 < -D by omega)
    have p3 := Int.mul_nonneg (show 0 ≤ m - ax by omega) (Int.le_of_lt hB)
    have p4 := Int.mul_nonneg (show 0 ≤ m - bx by omega) (show 0 ≤ -A by omega)
    exact lin_key h0 h1 p1 p2 p3 p4
  rcases Int.lt_trichotomy C 0 with h | h | h
  · have hD : 0 < D := by
      refine Int.not_le.1 (fun hD => ?_)
      have := Int.mul_nonneg_of_nonpos_of_nonpos (Int.le_of_lt h) hD
      omega
    exact key (C := -C) (D := -D) (A := -A) (B := -B) (ax := ax) (bx := bx) (cx := cx) (dx := dx) (by omega) (by grind) (by omega) (by omega) (by grind) e1 e2 e3 e4
  · rw [h] at hc; simp at hc
  · have hD : D < 0 := by
      refine Int.not_le.1 (fun hD => ?_)
      have := Int.mul_nonneg (Int.le_of_lt h) hD
      omega
    exact key h0 h1 h hD ha e1 e2 e3 e4
theorem holds_box {a b p : Pt} (h : holdsN a b p = true) : min a.x b.x ≤ p.x ∧ p.x ≤ max a.x b.x ∧ min a.y b.y ≤ p.y ∧ p.y ≤ max a.y b.y := by
  rw [holds_iff] at h
  exact (box h.1).1 h.2
theorem meets_apart {a b c d : Pt} (h : (a.x < c.x ∧ a.x < d.x ∧ b.x < c.x ∧ b.x < d.x) ∨ (a.y < c.y ∧ a.y < d.y ∧ b.y < c.y ∧ b.y < d.y)) : meetsN a b c d = 0 := by
  refine (meets_kind a b c d).one (.inr ⟨?_, .inr (.inr ⟨?_, .inr ⟨?_, rfl⟩⟩)⟩)
  · rintro (⟨rfl, rfl⟩ | ⟨rfl, rfl⟩) <;> omega
  · rintro p - ⟨h1, h2⟩
    have b1 := holds_box h1
    have b2 := holds_box h2
    omega
  · rintro ⟨h1, h2⟩
    obtain ⟨i0, i1, i2⟩ := cross_ident (a := a) (b := b) (c := c) (d := d)
    rcases h with ⟨e1, e2, e3, e4⟩ | ⟨e1, e2, e3, e4⟩
    · exact no_cross i0 i1 h1 h2 e1 e2 e3 e4
    · exact no_cross i0 i2 h1 h2 e1 e2 e3 e4
theorem meetsF_apart {a b c d : Pt} (h : (a.x < c.x ∧ a.x < d.x ∧ b.x < c.x ∧ b.x < d.x) ∨ (a.y < c.y ∧ a.y < d.y ∧ b.y < c.y ∧ b.y < d.y)) : meetsF a b c d = 0 := by
  unfold meetsF
  rw [meets_apart h]
  split <;> rfl
theorem meetsF_swap (a b c d : Pt) : meetsF c d a b = meetsF a b c d := by
  unfold meetsF
  rw [meets_swap]
  congr 1
  cases nearB a <;> cases nearB b <;> cases nearB c <;> cases nearB d <;> rfl
theorem meetsF_back (a b c d : Pt) : meetsF b a c d = meetsF a b c d := by
  unfold meetsF
  rw [meets_back]
  congr 1
  cases nearB a <;> cases nearB b <;> rfl
def mtN (s t : Sd) : Int := meetsF s.a s.b t.a t.b
theorem mtN_swap (s t : Sd) : mtN s t = mtN t s := meetsF_swap _ _ _ _
theorem mtN_sd (l m : List Pt) (r q i j : Nat) : mtN (sdOf l r i) (sdOf m q j) = meetsF (cor l i) (nxt l i) (cor m j) (nxt m j) := by
  unfold mtN sdOf
  split <;> split <;> dsimp only
  · rw [meetsF_back, meetsF_swap, meetsF_back, meetsF_swap]
  · rw [meetsF_back]
  · rw [meetsF_swap, meetsF_back, meetsF_swap]
theorem sd_order (l : List Pt) (r k : Nat) : cmpN (sdOf l r k).a (sdOf l r k).b ≤ 0 := by
  unfold sdOf
  split
  · rename_i h
    dsimp only
    rw [cmp_swap]
    omega
  · rename_i h
    dsimp only
    omega
/-- the boxes of two sides have no common point. -/
theorem mt_none {s t : Sd} (hs : cmpN s.a s.b ≤ 0) (ht : cmpN t.a t.b ≤ 0) (h : ¬ (t.a.x ≤ s.b.x ∧ levelN s t = true)) (hx : s.a.x ≤ t.a.x) : mtN s t = 0 ∧ s.a ≠ t.a ∧ s.a ≠ t.b ∧ s.b ≠ t.a ∧ s.b ≠ t.b := by
  rw [cmp_le] at hs ht
  unfold levelN at h
  rw [decide_eq_true_iff] at h
  have hc : (s.a.x < t.a.x ∧ s.a.x < t.b.x ∧ s.b.x < t.a.x ∧ s.b.x < t.b.x) ∨ (s.a.y < t.a.y ∧ s.a.y < t.b.y ∧ s.b.y < t.a.y ∧ s.b.y < t.b.y) ∨ (t.a.y < s.a.y ∧ t.a.y < s.b.y ∧ t.b.y < s.a.y ∧ t.b.y < s.b.y) := by
    by_cases h1 : t.a.x ≤ s.b.x
    · have h2 : ¬ (max (min s.a.y s.b.y) (min t.a.y t.b.y) ≤ min (max s.a.y s.b.y) (max t.a.y t.b.y)) := fun h2 => h ⟨h1, h2⟩
      omega
    · omega
  refine ⟨?_, ?_, ?_, ?_, ?_⟩
  · rcases hc with hc | hc | hc
    · exact meetsF_apart (.inl hc)
    · exact meetsF_apart (.inr hc)
    · rw [mtN_swap]
      exact meetsF_apart (.inr (by omega))
  all_goals
    intro e
    rw [e] at hc
    omega
def wantN (i j n : Nat) : Int := if nbN i j n then 1 else 0
theorem nb_swap (i j n : Nat) : nbN i j n = nbN j i n := by unfold nbN; rw [Bool.or_comm]
theorem want_swap (i j n : Nat) : wantN i j n = wantN j i n := by unfold wantN; rw [nb_swap]
/-- each two sides meet as they should. -/
def simpleB (l : List Pt) : Bool := (List.range l.length).all fun j => (List.range j).all fun i => decide (meetsF (cor l i) (nxt l i) (cor l j) (nxt l j) = wantN i j l.length)
def simpleN (l : List Pt) : Bool := fitsN l && simpleB l
theorem simpleB_iff {l : List Pt} : simpleB l = true ↔ ∀ i j, i < j → j < l.length → meetsF (cor l i) (nxt l i) (cor l j) (nxt l j) = wantN i j l.length := by
  unfold simpleB
  rw [List.all_eq_true]
  constructor
  · intro h i j hij hj
    have := List.all_eq_true.1 (h j (List.mem_range.2 hj)) i (List.mem_range.2 hij)
    simpa using this
  · intro h j hj
    rw [List.all_eq_true]
    intro i hi
    rw [decide_eq_true_iff]
    exact h i j (List.mem_range.1 hi) (List.mem_range.1 hj)
theorem nxt_cor {l : List Pt} {k : Nat} (hk : k < l.length) : nxt l k = cor l ((k + 1) % l.length) := by
  unfold nxt cor
  rw [List.getD_eq_getElem?_getD, List.getD_eq_getElem?_getD]
  congr 1
  by_cases h : k + 1 < l.length
  · rw [Nat.mod_eq_of_lt h, List.getElem?_append_left (by rw [List.length_drop]; omega), List.getElem?_drop, Nat.add_comm]
  · have e : k + 1 = l.length := by omega
    rw [e, Nat.mod_self, List.getElem?_append_right (by rw [List.length_drop]; omega), List.length_drop, List.getElem?_take, if_pos (by omega)]
    congr 1
    omega
theorem sdAt_mem {L : List Sd} {k : Nat} (h : k < L.length) : sdAt L k ∈ L := List.mem_of_getElem? (sdAt_get h)
theorem mem_sdAt {L : List Sd} {s : Sd} (h : s ∈ L) : ∃ k, k < L.length ∧ sdAt L k = s := by
  obtain ⟨k, hk, e⟩ := List.mem_iff_getElem.1 h
  refine ⟨k, hk, ?_⟩
  have := sdAt_get hk
  rw [List.getElem?_eq_getElem hk] at this
  injection this with this
  rw [← this, e]
theorem mem_sds {l : List Pt} {r : Nat} {s : Sd} : s ∈ sdsOf l r ↔ ∃ k, k < l.length ∧ s = sdOf l r k := by
  unfold sdsOf
  rw [List.mem_map]
  exact ⟨fun ⟨k, _, e⟩ => ⟨k.val, k.isLt, e.symm⟩, fun ⟨k, hk, e⟩ => ⟨⟨k, hk⟩, List.mem_finRange _, e.symm⟩⟩
theorem places_nodup {l : List Pt} {L : List Sd} (hp : L.Perm (sdsOf l 0)) : (L.map Sd.p).Nodup := by
  rw [(hp.map Sd.p).nodup_iff]
  unfold sdsOf
  rw [List.map_map]
  have : (List.finRange l.length).map (Sd.p ∘ fun k => sdOf l 0 k.val) = (List.finRange l.length).map (fun k => k.val) := List.map_congr_left (fun k _ => (sdOf_rp l 0 k.val).2)
  rw [this]
  rw [List.nodup_iff_pairwise_ne, List.pairwise_map]
  exact (List.nodup_iff_pairwise_ne.1 (List.nodup_finRange _)).imp (fun h e => h (Fin.ext e))
theorem places_ne {L : List Sd} (h : (L.map Sd.p).Nodup) {i j : Nat} (hij : i < j) (hj : j < L.length) : (sdAt L i).p ≠ (sdAt L j).p := by
  have h1 := List.pairwise_iff_getElem.1 (List.nodup_iff_pairwise_ne.1 h) i j (by simpa using (by omega : i < L.length)) (by simpa using hj) hij
  rw [List.getElem_map, List.getElem_map] at h1
  have e1 := sdAt_get (L := L) (k := i) (by omega)
  have e2 := sdAt_get hj
  rw [List.getElem?_eq_getElem (by omega)] at e1 e2
  injection e1 with e1
  injection e2 with e2
  rw [← e1, ← e2]
  exact h1
theorem sd_ends {l : List Pt} {r k : Nat} (hk : k < l.length) : (((sdOf l r k).a = cor l k ∧ (sdOf l r k).b = cor l ((k + 1) % l.length)) ∨ ((sdOf l r k).b = cor l k ∧ (sdOf l r k).a = cor l ((k + 1) % l.length))) := by
  rw [← nxt_cor hk]
  unfold sdOf
  split
  · exact .inr ⟨rfl, rfl⟩
  · exact .inl ⟨rfl, rfl⟩
/-- a pair of different sides that the loop passes over meets nowhere. -/
theorem passed_over {L : List Sd} (hs : ∀ i, i < L.length → cmpN (sdAt L i).a (sdAt L i).b ≤ 0) (hasc : Asc L) {x : Fin L.length × Fin L.length} (hx : x.1.val < x.2.val) (hc : ¬ Cond L x) :
    mtN (sdAt L x.1.val) (sdAt L x.2.val) = 0 ∧ (sdAt L x.1.val).a ≠ (sdAt L x.2.val).a ∧ (sdAt L x.1.val).a ≠ (sdAt L x.2.val).b ∧ (sdAt L x.1.val).b ≠ (sdAt L x.2.val).a ∧ (sdAt L x.1.val).b ≠ (sdAt L x.2.val).b :=
  mt_none (hs _ x.1.isLt) (hs _ x.2.isLt) (fun h => hc ⟨hx, h⟩) (asc_x hasc (Nat.le_of_lt hx) x.2.isLt)
theorem simple_pairs {l : List Pt} {L : List Sd} (hp : L.Perm (sdsOf l 0)) (hasc : Asc L) :
    (∀ x, Cond L x → mtN (sdAt L x.1.val) (sdAt L x.2.val) = wantN (sdAt L x.1.val).p (sdAt L x.2.val).p l.length) ↔ simpleB l = true := by
  have F1 : ∀ i, i < L.length → ∃ k, k < l.length ∧ sdAt L i = sdOf l 0 k := fun i hi => mem_sds.1 (hp.mem_iff.1 (sdAt_mem hi))
  have F2 : ∀ k, k < l.length → ∃ i, i < L.length ∧ sdAt L i = sdOf l 0 k := fun k hk => mem_sdAt (hp.mem_iff.2 (mem_sds.2 ⟨k, hk, rfl⟩))
  have F3 := places_nodup hp
  have hs : ∀ i, i < L.length → cmpN (sdAt L i).a (sdAt L i).b ≤ 0 := fun i hi => by
    obtain ⟨k, _, e⟩ := F1 i hi
    rw [e]
    exact sd_order l 0 k
  rw [simpleB_iff]
  constructor
  · intro h i j hij hj
    have hi : i < l.length := by omega
    obtain ⟨p, hpL, ep⟩ := F2 i hi
    obtain ⟨q, hqL, eq⟩ := F2 j hj
    have main : ∀ (x : Fin L.length × Fin L.length) (u v : Nat), u < l.length → v < l.length → u ≠ v → sdAt L x.1.val = sdOf l 0 u → sdAt L x.2.val = sdOf l 0 v → x.1.val < x.2.val → mtN (sdOf l 0 u) (sdOf l 0 v) = wantN u v l.length := by
      intro x u v hu hv huv e1 e2 hx
      by_cases hc : Cond L x
      · have := h x hc
        rwa [e1, e2, (sdOf_rp l 0 u).2, (sdOf_rp l 0 v).2] at this
      · obtain ⟨m0, n1, n2, n3, n4⟩ := passed_over hs hasc hx hc
        rw [e1, e2] at m0 n1 n2 n3 n4
        rw [m0]
        unfold wantN
        rw [if_neg]
        unfold nbN
        rw [Bool.or_eq_true, decide_eq_true_iff, decide_eq_true_iff]
        have z1 := sd_ends (r := 0) hu
        have z2 := sd_ends (r := 0) hv
        rintro (e | e)
        · rw [e] at z1
          rcases z1 with ⟨a1, a2⟩ | ⟨a1, a2⟩ <;> rcases z2 with ⟨b1, b2⟩ | ⟨b1, b2⟩
          · exact n3 (a2.trans b1.symm)
          · exact n4 (a2.trans b1.symm)
          · exact n1 (a2.trans b1.symm)
          · exact n2 (a2.trans b1.symm)
        · rw [e] at z2
          rcases z1 with ⟨a1, a2⟩ | ⟨a1, a2⟩ <;> rcases z2 with ⟨b1, b2⟩ | ⟨b1, b2⟩
          · exact n2 (a1.trans b2.symm)
          · exact n1 (a1.trans b2.symm)
          · exact n4 (a1.trans b2.symm)
          · exact n3 (a1.trans b2.symm)
    rw [← mtN_sd l l 0 0 i j]
    rcases Nat.lt_trichotomy p q with hpq | hpq | hpq
    · exact main (⟨p, hpL⟩, ⟨q, hqL⟩) i j hi hj (by omega) ep eq hpq
    · subst hpq
      rw [ep] at eq
      have := congrArg Sd.p eq
      rw [(sdOf_rp l 0 i).2, (sdOf_rp l 0 j).2] at this
      omega
    · rw [mtN_swap, want_swap]
      exact main (⟨q, hqL⟩, ⟨p, hpL⟩) j i hj hi (by omega) eq ep hpq
  · intro h x hc
    obtain ⟨i, hi, e1⟩ := F1 x.1.val x.1.isLt
    obtain ⟨j, hj, e2⟩ := F1 x.2.val x.2.isLt
    have hne := places_ne F3 hc.1 x.2.isLt
    rw [e1, e2, (sdOf_rp l 0 i).2, (sdOf_rp l 0 j).2] at hne
    rw [e1, e2, (sdOf_rp l 0 i).2, (sdOf_rp l 0 j).2]
    rcases Nat.lt_or_gt_of_ne hne with hij | hij
    · rw [mtN_sd]; exact h i j hij hj
    · rw [mtN_swap, want_swap, mtN_sd]; exact h j i hij hi
theorem met_pairs {l m : List Pt} {L : List Sd} {k : Int} (hp : L.Perm (sdsOf l 0 ++ sdsOf m 1)) (hasc : Asc L) (hk : k ≠ 0) :
    (∃ x, Cond L x ∧ (sdAt L x.1.val).r ≠ (sdAt L x.2.val).r ∧ mtN (sdAt L x.1.val) (sdAt L x.2.val) = k) ↔ ∃ i j, i < l.length ∧ j < m.length ∧ meetsF (cor l i) (nxt l i) (cor m j) (nxt m j) = k := by
  have F1 : ∀ i, i < L.length → (∃ k, k < l.length ∧ sdAt L i = sdOf l 0 k) ∨ (∃ k, k < m.length ∧ sdAt L i = sdOf m 1 k) := fun i hi => (List.mem_append.1 (hp.mem_iff.1 (sdAt_mem hi))).imp mem_sds.1 mem_sds.1
  have hs : ∀ i, i < L.length → cmpN (sdAt L i).a (sdAt L i).b ≤ 0 := fun i hi => by
    rcases F1 i hi with ⟨k, _, e⟩ | ⟨k, _, e⟩
    · rw [e]; exact sd_order l 0 k
    · rw [e]; exact sd_order m 1 k
  constructor
  · rintro ⟨x, hc, hr, he⟩
    rcases F1 _ x.1.isLt with ⟨i, hi, e1⟩ | ⟨i, hi, e1⟩ <;> rcases F1 _ x.2.isLt with ⟨j, hj, e2⟩ | ⟨j, hj, e2⟩
    · rw [e1, e2, (sdOf_rp l 0 i).1, (sdOf_rp l 0 j).1] at hr; exact absurd rfl hr
    · rw [e1, e2, mtN_sd] at he; exact ⟨i, j, hi, hj, he⟩
    · rw [e1, e2, mtN_swap, mtN_sd] at he; exact ⟨j, i, hj, hi, he⟩
    · rw [e1, e2, (sdOf_rp m 1 i).1, (sdOf_rp m 1 j).1] at hr; exact absurd rfl hr
  · rintro ⟨i, j, hi, hj, he⟩
    rw [← mtN_sd l m 0 1 i j] at he
    obtain ⟨p, hpL, ep⟩ := mem_sdAt (hp.mem_iff.2 (List.mem_append.2 (.inl (mem_sds.2 ⟨i, hi, rfl⟩))))
    obtain ⟨q, hqL, eq⟩ := mem_sdAt (hp.mem_iff.2 (List.mem_append.2 (.inr (mem_sds.2 ⟨j, hj, rfl⟩))))
    have r1 := (sdOf_rp l 0 i).1
    have r2 := (sdOf_rp m 1 j).1
    rcases Nat.lt_trichotomy p q with hpq | hpq | hpq
    · refine ⟨(⟨p, hpL⟩, ⟨q, hqL⟩), Classical.byContradiction (fun hc => ?_), by dsimp only; rw [ep, eq, r1, r2]; decide, by dsimp only; rw [ep, eq]; exact he⟩
      have := (passed_over hs hasc (x := (⟨p, hpL⟩, ⟨q, hqL⟩)) hpq hc).1
      dsimp only at this
      rw [ep, eq, he] at this
      exact hk this
    · subst hpq
      rw [ep] at eq
      have := congrArg Sd.r eq
      rw [r1, r2] at this
      omega
    · refine ⟨(⟨q, hqL⟩, ⟨p, hpL⟩), Classical.byContradiction (fun hc => ?_), by dsimp only; rw [ep, eq, r1, r2]; decide, by dsimp only; rw [ep, eq, mtN_swap]; exact he⟩
      have := (passed_over hs hasc (x := (⟨q, hqL⟩, ⟨p, hpL⟩)) hpq hc).1
      dsimp only at this
      rw [ep, eq, mtN_swap, he] at this
      exact hk this
end Go.Proofs.Ytlagolgmkmdhhaa.Rg
