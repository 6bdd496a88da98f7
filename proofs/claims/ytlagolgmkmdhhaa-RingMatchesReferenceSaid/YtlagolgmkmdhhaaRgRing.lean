/- A simple ring is a closed way (Pl.Ring): its area is not 0; Twice and Simple of a ring that is turned or goes the other way round. -/
import Derived.Test.YtlagolgmkmdhhaaRgSimpleMath
import Derived.Test.YtlagolgmkmdhhaaRgTwice
import Derived.Test.YtlagolgmkmdhhaaPlArea
namespace Go.Proofs.Ytlagolgmkmdhhaa.Rg
open Go.Proofs.Ytlagolgmkmdhhaa.Geo hiding intOf Apart
open Go.Proofs.Ytlagolgmkmdhhaa.Pl (sds rot rotN lst prs Free FreeP Dif sb tws Ring)
theorem rot_eq (l : List Pt) : rot l = l.drop 1 ++ l.take 1 := by cases l <;> rfl
theorem cor_rot (l : List Pt) (k : Nat) : cor (rot l) k = nxt l k := by rw [rot_eq]; rfl
theorem rot_len (l : List Pt) : (rot l).length = l.length := by cases l <;> simp [rot]
theorem sds_at_ {l : List Pt} {k : Nat} (hk : k < l.length) : (sds l)[k]? = some (cor l k, nxt l k) := by
  rw [Pl.sds_zip, List.getElem?_zip_eq_some]
  exact ⟨cor_get hk, by rw [← cor_rot]; exact cor_get (by rw [rot_len]; exact hk)⟩
theorem sds_fin (l : List Pt) : sds l = (List.finRange l.length).map fun k => (cor l k.val, nxt l k.val) := by
  apply List.ext_getElem?
  intro k
  by_cases hk : k < l.length
  · rw [sds_at_ hk]; simp [hk]
  · rw [List.getElem?_eq_none (by rw [Pl.sds_len]; omega), List.getElem?_eq_none (by simp; omega)]
theorem tw_tws (l : List Pt) : tw l (List.finRange l.length) = tws l := by
  unfold tw tws
  rw [sds_fin, List.map_map]
  rfl
/-- each two sides meet as they should, whether near or not. -/
structure Smp (l : List Pt) : Prop where
  three : 3 ≤ l.length
  meet : ∀ i j, i < j → j < l.length → meetsN (cor l i) (nxt l i) (cor l j) (nxt l j) = wantN i j l.length
theorem smp_of {l : List Pt} (h : simpleN l = true) : Smp l := by
  unfold simpleN at h
  rw [Bool.and_eq_true] at h
  obtain ⟨h3, _, hn⟩ := fits_parts h.1
  refine ⟨h3, fun i j hij hj => ?_⟩
  have := simpleB_iff.1 h.2 i j hij hj
  unfold meetsF at this
  rw [near_cor hn (by omega), near_nxt hn (by omega) (by omega), near_cor hn hj, near_nxt hn hj (by omega)] at this
  simpa using this
theorem Smp.to {l : List Pt} (h : Smp l) (hf : fitsN l = true) : simpleN l = true := by
  unfold simpleN
  rw [hf, Bool.true_and]
  obtain ⟨h3, _, hn⟩ := fits_parts hf
  refine simpleB_iff.2 fun i j hij hj => ?_
  unfold meetsF
  rw [near_cor hn (by omega), near_nxt hn (by omega) (by omega), near_cor hn hj, near_nxt hn hj (by omega)]
  exact h.meet i j hij hj
theorem Smp.any {l : List Pt} (h : Smp l) {i j : Nat} (hi : i < l.length) (hj : j < l.length) (hn : i ≠ j) : meetsN (cor l i) (nxt l i) (cor l j) (nxt l j) = wantN i j l.length := by
  rcases Nat.lt_or_gt_of_ne hn with k | k
  · exact h.meet i j k hj
  · rw [meets_swap, want_swap]; exact h.meet j i k hi
theorem nb_turn {i j n : Nat} (h3 : 3 ≤ n) (hij : i < j) (hj : j < n) : nbN (i + 1) ((j + 1) % n) n = nbN i j n := by
  unfold nbN
  rw [Bool.eq_iff_iff, Bool.or_eq_true, Bool.or_eq_true, decide_eq_true_iff, decide_eq_true_iff, decide_eq_true_iff, decide_eq_true_iff]
  rw [Nat.mod_eq_of_lt (show i + 1 < n by omega)]
  by_cases g : j + 1 < n
  · rw [Nat.mod_eq_of_lt g, Nat.mod_eq_of_lt (show i + 1 + 1 < n by omega)]
    by_cases k : j + 1 + 1 < n
    · rw [Nat.mod_eq_of_lt k]; omega
    · rw [show j + 1 + 1 = n by omega, Nat.mod_self]; omega
  · rw [show j + 1 = n by omega, Nat.mod_self, Nat.mod_eq_of_lt (show 0 + 1 < n by omega)]
    by_cases k : i + 1 + 1 < n
    · rw [Nat.mod_eq_of_lt k]; omega
    · rw [show i + 1 + 1 = n by omega, Nat.mod_self]; omega
theorem Smp.rot {l : List Pt} (h : Smp l) : Smp (Pl.rot l) := by
  have h3 := h.three
  refine ⟨by rw [rot_len]; exact h3, fun i j hij hj => ?_⟩
  rw [rot_len] at *
  have hi : i < l.length := by omega
  have pi : (i + 1) % l.length < l.length := Nat.mod_lt _ (by omega)
  have pj : (j + 1) % l.length < l.length := Nat.mod_lt _ (by omega)
  have c : ∀ k, k < l.length → cor (Pl.rot l) k = cor l ((k + 1) % l.length) := fun k hk => by rw [cor_rot, nxt_cor hk]
  have x : ∀ k, k < l.length → nxt (Pl.rot l) k = nxt l ((k + 1) % l.length) := fun k hk => by
    have hp : (k + 1) % l.length < l.length := Nat.mod_lt _ (by omega)
    rw [nxt_cor (by rw [rot_len]; exact hk), rot_len, c _ hp, nxt_cor hp]
  have ei : (i + 1) % l.length = i + 1 := Nat.mod_eq_of_lt (by omega)
  rw [c i hi, c j hj, x i hi, x j hj, h.any pi pj (by
    rw [ei]
    by_cases g : j + 1 < l.length
    · rw [Nat.mod_eq_of_lt g]; omega
    · rw [show j + 1 = l.length by omega, Nat.mod_self]; omega)]
  unfold wantN
  rw [ei, nb_turn h3 hij hj]
theorem Smp.rotN {l : List Pt} (h : Smp l) (n : Nat) : Smp (Pl.rotN n l) := by
  induction n generalizing l with
  | zero => exact h
  | succ n ih => exact ih h.rot
theorem cor_at_app (x : List Pt) (p : Pt) (y : List Pt) (k : Nat) (hk : k = x.length) : cor (x ++ p :: y) k = p := by
  subst hk
  unfold cor
  rw [List.getD_eq_getElem?_getD, List.getElem?_append_right (Nat.le_refl _), Nat.sub_self]; rfl
theorem lst_cor (d : Pt) (t : List Pt) : cor (d :: t) t.length = lst d t := by
  induction t generalizing d with
  | nil => rfl
  | cons c t ih => exact ih c
theorem freeP_of {a : Pt} {t : List Pt} {p q : Pt} (h : ∀ s ∈ prs a t, Free s.1 s.2 p q) : FreeP a t p q := by
  induction t generalizing a with
  | nil => trivial
  | cons c t ih => exact ⟨h (a, c) (List.mem_cons_self ..), ih fun s hs => h s (List.mem_cons_of_mem _ hs)⟩
theorem Smp.cond {l : List Pt} (h : Smp l) : Pl.Cond l := by
  have h3 := h.three
  match l, h, h3 with
  | b :: c :: d :: t, h, _ =>
    have hn : (b :: c :: d :: t).length = t.length + 3 := rfl
    have c0 : cor (b :: c :: d :: t) 0 = b := rfl
    have n0 : nxt (b :: c :: d :: t) 0 = c := rfl
    have cz : cor (b :: c :: d :: t) (t.length + 2) = lst d t := lst_cor d t
    have nz : nxt (b :: c :: d :: t) (t.length + 2) = b := by
      rw [nxt_cor (by omega), hn, show t.length + 2 + 1 = t.length + 3 by omega, Nat.mod_self]; rfl
    have hlast := h.meet 0 (t.length + 2) (by omega) (by omega)
    rw [c0, n0, cz, nz] at hlast
    have hw : wantN 0 (t.length + 2) (t.length + 3) = 1 := by
      unfold wantN nbN
      rw [if_pos]
      rw [Bool.or_eq_true, decide_eq_true_iff, decide_eq_true_iff]
      right
      rw [show t.length + 2 + 1 = t.length + 3 by omega, Nat.mod_self]
    rw [hn, hw] at hlast
    have c1 : cor (b :: c :: d :: t) 1 = c := rfl
    have n1 : nxt (b :: c :: d :: t) 1 = d := by rw [nxt_cor (by omega), Nat.mod_eq_of_lt (by omega)]; rfl
    have hbc : b ≠ c := by
      intro e
      have hm := h.meet 1 (t.length + 2) (by omega) (by omega)
      rw [c1, n1, cz, nz, hn] at hm
      cases t with
      | nil =>
        change meetsN c d d b = 1 at hm
        rw [e, meets_back2, meets_self] at hm
        omega
      | cons f t =>
        refine common_kind (p := b) ⟨?_, holds_right _ _⟩ (hm.trans ?_)
        · rw [e]; exact holds_left _ _
        · unfold wantN nbN
          rw [if_neg]
          rw [Bool.or_eq_true, decide_eq_true_iff, decide_eq_true_iff, show (f :: t).length + 2 + 1 = (f :: t).length + 3 by omega, Nat.mod_self, Nat.mod_eq_of_lt (by simp)]
          simp
    have hab : lst d t ≠ b := by
      intro e
      have hm := h.meet 0 (t.length + 1) (by omega) (by omega)
      have nx : nxt (b :: c :: d :: t) (t.length + 1) = lst d t := by
        rw [nxt_cor (by omega), Nat.mod_eq_of_lt (by omega)]; exact cz
      rw [c0, n0, nx, e, hn] at hm
      cases t with
      | nil =>
        change meetsN b c c b = 1 at hm
        rw [meets_back2, meets_self] at hm
        omega
      | cons f t =>
        refine common_kind (p := b) ⟨holds_left _ _, holds_right _ _⟩ (hm.trans ?_)
        unfold wantN nbN
        rw [if_neg]
        rw [Bool.or_eq_true, decide_eq_true_iff, decide_eq_true_iff, Nat.mod_eq_of_lt (by omega), Nat.mod_eq_of_lt (by omega)]
        simp
    refine ⟨hbc, Pl.dif_of hab hbc.symm hlast, freeP_of fun s hs => ?_⟩
    obtain ⟨x, y, e⟩ := Pl.prs_at hs
    have e2 : b :: c :: d :: t = (b :: c :: x) ++ s.1 :: s.2 :: y := by rw [e]; rfl
    have e3 : (b :: c :: d :: t) = (b :: c :: (x ++ [s.1])) ++ s.2 :: y := by rw [e]; simp
    have hlen : (b :: c :: d :: t).length = x.length + 4 + y.length := by rw [e2]; simp; omega
    have k1 : cor (b :: c :: d :: t) (x.length + 2) = s.1 := by rw [e2]; exact cor_at_app _ _ _ _ rfl
    have k2 : nxt (b :: c :: d :: t) (x.length + 2) = s.2 := by
      rw [nxt_cor (by omega), Nat.mod_eq_of_lt (by omega), e3]; exact cor_at_app _ _ _ _ (by simp)
    have := h.meet 0 (x.length + 2) (by omega) (by omega)
    rw [c0, n0, k1, k2] at this
    refine Pl.free_turn (Pl.free_iff.2 (this.trans ?_))
    unfold wantN nbN
    rw [if_neg]
    rw [Bool.or_eq_true, decide_eq_true_iff, decide_eq_true_iff, Nat.mod_eq_of_lt (show 0 + 1 < _ by omega), Nat.mod_eq_of_lt (show x.length + 2 + 1 < _ by omega)]
    omega
theorem Smp.ring {l : List Pt} (h : Smp l) : Ring l := fun n => (h.rotN n).cond
/-- P4.2: a simple ring has not 0. -/
theorem twice_ne {l : List Pt} (h : simpleN l = true) : twiceN l ≠ 0 := by
  have hf : fitsN l = true := by unfold simpleN at h; rw [Bool.and_eq_true] at h; exact h.1
  unfold twiceN
  rw [if_pos hf, tw_tws]
  rcases Pl.area_sign (smp_of h).ring with ⟨_, k⟩ | ⟨_, k⟩ <;> omega
theorem fits_perm {l m : List Pt} (h : l.Perm m) : fitsN l = fitsN m := by
  unfold fitsN
  rw [h.length_eq, h.all_eq]
theorem twice_reverse (l : List Pt) : twiceN l.reverse = -twiceN l := by
  unfold twiceN
  rw [fits_perm (List.reverse_perm l), tw_tws, tw_tws, Pl.tws_reverse]
  split <;> rfl
theorem twice_turn (l : List Pt) (k : Nat) (hk : k ≤ l.length) : twiceN (l.drop k ++ l.take k) = twiceN l := by
  have hp : (l.drop k ++ l.take k).Perm l := by
    have := List.perm_append_comm (l₁ := l.drop k) (l₂ := l.take k)
    rwa [List.take_append_drop] at this
  unfold twiceN
  rw [fits_perm hp, tw_tws, tw_tws, ← Pl.rotN_drop l k hk, Pl.tws_rotN]
end Go.Proofs.Ytlagolgmkmdhhaa.Rg
