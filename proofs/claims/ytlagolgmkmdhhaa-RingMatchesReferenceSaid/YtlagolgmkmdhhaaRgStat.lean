/- Where the sides of a ring are, seen from another one (plain mathematics): what ring.places finds is what the sides are. -/
import Derived.Test.YtlagolgmkmdhhaaRgRing
import Derived.Test.YtlagolgmkmdhhaaRgRelation
import Derived.Test.YtlagolgmkmdhhaaRgTri2
import Derived.Test.YtlagolgmkmdhhaaPlSee
namespace Go.Proofs.Ytlagolgmkmdhhaa.Rg
open Go.Proofs.Ytlagolgmkmdhhaa.Geo hiding intOf Apart
open Go.Proofs.Ytlagolgmkmdhhaa.Pl (sds rot rotN lst prs Free FreeP Dif sb tws Ring wn dbl ad flip kl arc cr)
/-- 0: a side of the ring m; else 1 if it is inside of m, and -1 if it is outside. -/
noncomputable def stN (m : List Pt) (s : Pt × Pt) : Int :=
  open Classical in if s ∈ sds m ∨ flip s ∈ sds m then 0 else if wn (dbl m) (ad s.1 s.2) % 2 = 0 then -1 else 1
theorem sum_mod2 {α : Type} (l : List α) (f g : α → Int) (h : ∀ e ∈ l, (f e) % 2 = (g e) % 2) : (l.map f).sum % 2 = (l.map g).sum % 2 := by
  induction l with
  | nil => rfl
  | cons a l ih =>
    have h1 := h a (by simp)
    have h2 := ih fun e he => h e (by simp [he])
    simp only [List.map_cons, List.sum_cons]
    omega
def bt (x : Bool) : Int := if x then 1 else 0
theorem par_sum' (l : List Pt) (p : Pt) : ∀ (pre : List (Fin l.length)) (s : Int), (s = 1 ∨ s = -1) →
    pre.foldl (fun s k => if passN (cor l k.val) (nxt l k.val) p then -s else s) s = if (pre.map fun k => bt (passN (cor l k.val) (nxt l k.val) p)).sum % 2 = 0 then s else -s
  | [], s, _ => by simp
  | k :: pre, s, hs => by
    rw [List.foldl_cons, par_sum' l p pre _ (by split <;> omega), List.map_cons, List.sum_cons]
    cases passN (cor l k.val) (nxt l k.val) p with
    | false => simp [bt]
    | true =>
      simp only [bt, if_true]
      split <;> split <;> omega
theorem bt_xs (d e A : Int) : bt (cross1 d e A) % 2 = Pl.xs d e A % 2 := by
  have hc : cross1 d e A = true ↔ (d ≤ 0 ∧ 0 < e ∧ 0 < A) ∨ (e ≤ 0 ∧ 0 < d ∧ A < 0) := by unfold cross1; simp [and_assoc]
  unfold bt Pl.xs
  by_cases g : cross1 d e A = true
  · rw [if_pos g]
    have := hc.1 g
    repeat' split <;> omega
  · rw [if_neg g]
    have : ¬ _ := fun h => g (hc.2 h)
    repeat' split <;> omega
/-- a point that is not on the ring: its place is the parity of the count. -/
theorem loc_wn {m : List Pt} {p : Pt} (hn : m.all nearB = true) (np : nearB p = true) (hoff : ∀ s ∈ sds m, holdsN s.1 s.2 p = false) : locN m p = if wn m p % 2 = 0 then -1 else 1 := by
  have hs : ∀ k : Fin m.length, holdsN (cor m k.val) (nxt m k.val) p = false := fun k => hoff _ (List.mem_of_getElem? (sds_at_ k.isLt))
  rw [loc_off fun x _ => by unfold onK onN; rw [hs x]; simp]
  unfold par
  rw [par_sum' m p _ _ (.inr rfl)]
  have e : wn m p % 2 = ((List.finRange m.length).map fun k => bt (passN (cor m k.val) (nxt m k.val) p)).sum % 2 := by
    unfold wn
    rw [sds_fin, List.map_map]
    refine (sum_mod2 _ _ _ fun k _ => ?_).symm
    rw [pass_cross (near_cor hn k.isLt) (near_nxt hn k.isLt (by have := k.isLt; omega)) np]
    exact bt_xs _ _ _
  rw [e]
  split <;> rfl
theorem cor_rotN (m : List Pt) : ∀ (i j : Nat), j < m.length → cor (rotN i m) j = cor m ((i + j) % m.length) := by
  intro i
  induction i generalizing m with
  | zero => intro j hj; rw [Nat.zero_add, Nat.mod_eq_of_lt hj]; rfl
  | succ i ih =>
    intro j hj
    have hm : (i + j) % m.length < m.length := Nat.mod_lt _ (by omega)
    show cor (rotN i (rot m)) j = _
    rw [ih (rot m) j (by rw [rot_len]; exact hj), rot_len, cor_rot, nxt_cor hm]
    congr 1
    rw [Nat.mod_add_mod]
    congr 1
    omega
theorem rotN_len (n : Nat) (m : List Pt) : (rotN n m).length = m.length := by
  induction n generalizing m with
  | zero => rfl
  | succ n ih => show (rotN n (rot m)).length = _; rw [ih, rot_len]
theorem prv_cor {m : List Pt} {i : Nat} (hi : i < m.length) : prv m i = cor m ((i + (m.length - 1)) % m.length) := by
  unfold prv
  rw [← Pl.rotN_drop m (m.length - 1) (by omega), cor_rotN m _ _ hi]
  congr 2
  omega
/-- the ring, turned so that it begins with corner i. -/
theorem turn_at {m : List Pt} (h3 : 3 ≤ m.length) {i : Nat} (hi : i < m.length) : ∃ t, rotN i m = cor m i :: nxt m i :: t ∧ lst (nxt m i) t = prv m i := by
  have hl := rotN_len i m
  match hL : rotN i m, hl with
  | [], hl => simp at hl; omega
  | [_], hl => simp at hl; omega
  | b :: c :: t, hl =>
    have h0 := cor_rotN m i 0 (by omega)
    have h1 := cor_rotN m i 1 (by omega)
    have h2 := cor_rotN m i (m.length - 1) (by omega)
    rw [hL] at h0 h1 h2
    have eb : b = cor m i := by rw [Nat.add_zero, Nat.mod_eq_of_lt hi] at h0; exact h0
    have ec : c = nxt m i := by rw [nxt_cor hi]; exact h1
    subst eb ec
    refine ⟨t, rfl, ?_⟩
    rw [prv_cor hi, ← h2]
    have : m.length - 1 = t.length + 1 := by simp at hl; omega
    rw [this]
    exact (lst_cor (nxt m i) t).symm
/-- only two sides touch a corner. -/
theorem touch {m : List Pt} (hr : Ring m) {b c : Pt} {t : List Pt} {n : Nat} (hn : rotN n m = b :: c :: t) {s : Pt × Pt} (hs : s ∈ sds m) (hb : holdsN s.1 s.2 b = true) : s = (b, c) ∨ s = (lst c t, b) := by
  have hr' := hr.rotN n
  have hp := Pl.sds_permN n m
  have hr1 := hr' 1
  obtain ⟨b', c', d, t', e, hbc, hd, hf⟩ := hr'.open_
  rw [hn] at e
  have e1 : b = b' := (List.cons.inj e).1
  have e2 : c = c' := (List.cons.inj (List.cons.inj e).2).1
  have e3 : t = d :: t' := (List.cons.inj (List.cons.inj e).2).2
  subst e1 e2 e3
  rw [hn] at hr1 hp
  obtain ⟨hcd, hd2⟩ := Pl.cond_next (c := c) (d := d) (t := t') (b := b) hr1
  have hs2 := hp.mem_iff.2 hs
  change s ∈ prs b ((c :: d :: t') ++ [b]) at hs2
  rw [Pl.prs_snoc] at hs2
  rcases List.mem_append.1 hs2 with hs2 | hs2
  · rcases List.mem_cons.1 hs2 with h | hs2
    · exact .inl h
    · exfalso
      rcases List.mem_cons.1 hs2 with rfl | hs2
      · rw [Pl.dif_holds hd2] at hb; cases hb
      · rw [(Pl.freeP_at hf s hs2).1] at hb; cases hb
  · exact .inr (List.mem_singleton.1 hs2)
theorem orient_pos {a b c : Pt} (na : nearB a = true) (nb : nearB b = true) (nc : nearB c = true) : orientN a b c > 0 ↔ 0 < crs a b c := by
  unfold orientN sideN sgn
  rw [na, nb, nc]
  simp only [Bool.and_true, if_true]
  repeat' split <;> omega
theorem kl_twice {m : List Pt} (h : simpleN m = true) : twiceN m < 0 ∧ kl m = -1 ∨ 0 < twiceN m ∧ kl m = 0 := by
  have hf : fitsN m = true := by unfold simpleN at h; rw [Bool.and_eq_true] at h; exact h.1
  unfold twiceN
  rw [if_pos hf, tw_tws]
  rcases Pl.area_sign (smp_of h).ring with ⟨h1, h2⟩ | ⟨h1, h2⟩
  · exact .inr ⟨h2, h1⟩
  · exact .inl ⟨h2, h1⟩
theorem near_of {m : List Pt} (h : simpleN m = true) : m.all nearB = true := by
  unfold simpleN at h
  rw [Bool.and_eq_true] at h
  exact (fits_parts h.1).2.2
/-- what the corner answers of the side to q. -/
theorem stat_corner {m : List Pt} (hm : simpleN m = true) {i : Nat} (hi : i < m.length) {q : Pt} (hq : q ≠ cor m i) (nq : nearB q = true)
    (hk : ∀ s ∈ sds m, meetsN s.1 s.2 (cor m i) q = 0 ∨ meetsN s.1 s.2 (cor m i) q = 1 ∨ meetsN s.1 s.2 (cor m i) q = 4) : beginsN (cnAt m i) q = stN m (cor m i, q) := by
  have hS := smp_of hm
  have hr := hS.ring
  have hn := near_of hm
  obtain ⟨t, ht, hlst⟩ := turn_at hS.three hi
  have nb := near_cor hn hi
  have nc := near_nxt hn hi (by omega)
  have na : nearB (prv m i) = true := by rw [prv_cor hi]; exact near_cor hn (Nat.mod_lt _ (by omega))
  have hp := Pl.sds_permN i m
  rw [ht] at hp
  have m1 : (cor m i, nxt m i) ∈ sds m := List.mem_of_getElem? (sds_at_ hi)
  have m2 : (prv m i, cor m i) ∈ sds m := by
    rw [← hlst]
    refine hp.mem_iff.1 ?_
    show _ ∈ prs (cor m i) ((nxt m i :: t) ++ [cor m i])
    rw [Pl.prs_snoc]
    exact List.mem_append_right _ (List.mem_singleton.2 rfl)
  have htouch : ∀ s ∈ sds m, holdsN s.1 s.2 (cor m i) = true → s = (cor m i, nxt m i) ∨ s = (prv m i, cor m i) := fun s hs hb => by
    have := touch hr ht hs hb
    rw [hlst] at this
    exact this
  by_cases g : q = prv m i ∨ q = nxt m i
  · have h0 : beginsN (cnAt m i) q = 0 := by
      unfold beginsN
      rw [if_pos]
      unfold cnAt
      rw [Bool.or_eq_true, eqP_iff, eqP_iff]
      split <;> (dsimp only; rcases g with g | g <;> simp [g])
    rw [h0]
    unfold stN
    rw [if_pos]
    rcases g with g | g
    · right; rw [g]; exact m2
    · left; rw [g]; exact m1
  · have g1 : q ≠ prv m i := fun e => g (.inl e)
    have g2 : q ≠ nxt m i := fun e => g (.inr e)
    have hk' : ∀ s ∈ sds m, meetsN s.1 s.2 (cor m i) q = 0 ∨ meetsN s.1 s.2 (cor m i) q = 1 := fun s hs => by
      rcases hk s hs with h | h | h
      · exact .inl h
      · exact .inr h
      · exfalso
        have hK := meets_kind s.1 s.2 (cor m i) q
        rw [h] at hK
        have hsm : Sm s.1 s.2 (cor m i) q := by
          rcases hK with ⟨h, _⟩ | ⟨_, ⟨_, h⟩ | ⟨p, _, _, _, ⟨_, _, h⟩ | ⟨_, h⟩⟩ | ⟨_, ⟨_, h⟩ | ⟨_, h⟩⟩⟩
          · exact h
          all_goals omega
        have hb : holdsN s.1 s.2 (cor m i) = true := by
          rcases hsm with ⟨e1, _⟩ | ⟨_, e2⟩
          · rw [← e1]; exact holds_left _ _
          · rw [← e2]; exact holds_right _ _
        rcases htouch s hs hb with e | e
        · rw [e] at hsm
          rcases hsm with ⟨_, e2⟩ | ⟨e1, _⟩
          · exact g2 e2.symm
          · exact hq e1.symm
        · rw [e] at hsm
          rcases hsm with ⟨_, e2⟩ | ⟨e1, _⟩
          · exact hq e2.symm
          · exact g1 e1.symm
    obtain ⟨⟨dz, du, dd⟩, hw⟩ := Pl.see_corner hr ht hq hk'
    rw [hlst] at du dd hw
    have hno : ¬ ((cor m i, q) ∈ sds m ∨ flip (cor m i, q) ∈ sds m) := by
      rintro (h | h)
      · rcases htouch _ h (holds_left _ _) with e | e
        · exact g2 (congrArg Prod.snd e)
        · exact hq (congrArg Prod.snd e)
      · rcases htouch _ h (holds_right _ _) with e | e
        · exact hq (congrArg Prod.fst e)
        · exact g1 (congrArg Prod.fst e)
    have hu0 := Pl.dif_ne dd
    have hz0 := Pl.dif_ne dz
    have ha := Pl.arc_iff (Pl.sb_ne hu0) (Pl.sb_ne hz0) (Pl.sb_ne hq) dd dz du
    unfold stN
    rw [if_neg hno]
    dsimp only
    rw [hw, ha]
    have c1 : crs (prv m i) (cor m i) q = -cr (sb (prv m i) (cor m i)) (sb q (cor m i)) := by unfold crs cr sb; grind
    have c2 : crs (cor m i) (nxt m i) q = cr (sb (nxt m i) (cor m i)) (sb q (cor m i)) := by unfold crs cr sb; grind
    have c3 : crs (prv m i) (cor m i) (nxt m i) = cr (sb (nxt m i) (cor m i)) (sb (prv m i) (cor m i)) := by unfold crs cr sb; grind
    have c4 : crs (nxt m i) (cor m i) q = -cr (sb (nxt m i) (cor m i)) (sb q (cor m i)) := by unfold crs cr sb; grind
    have c5 : crs (cor m i) (prv m i) q = cr (sb (prv m i) (cor m i)) (sb q (cor m i)) := by unfold crs cr sb; grind
    have c6 : crs (nxt m i) (cor m i) (prv m i) = -cr (sb (nxt m i) (cor m i)) (sb (prv m i) (cor m i)) := by unfold crs cr sb; grind
    have n1 := Pl.dif_cr (Pl.sb_ne hu0) dd
    unfold beginsN cnAt
    rcases kl_twice hm with ⟨ht, hkl⟩ | ⟨ht, hkl⟩
    · rw [if_pos ht, hkl]
      dsimp only
      rw [if_neg (by rw [Bool.or_eq_true, eqP_iff, eqP_iff]; exact fun h => h.elim g2 g1)]
      simp only [orient_pos nc nb na, orient_pos nc nb nq, orient_pos nb na nq, c4, c5, c6]
      have ha2 := Pl.arc_iff (Pl.sb_ne hz0) (Pl.sb_ne hu0) (Pl.sb_ne hq) (Pl.dif_swap dd) du dz
      have hsum : arc (sb (prv m i) (cor m i)) (sb (nxt m i) (cor m i)) (sb q (cor m i)) + arc (sb (nxt m i) (cor m i)) (sb (prv m i) (cor m i)) (sb q (cor m i)) = 1 := by
        have := Pl.tn_swap (Pl.sb_ne hu0) dd
        unfold arc
        omega
      rw [← ha]
      rw [Pl.cr_swap (sb (nxt m i) (cor m i)) (sb (prv m i) (cor m i))] at ha2
      generalize arc (sb (prv m i) (cor m i)) (sb (nxt m i) (cor m i)) (sb q (cor m i)) = A at *
      generalize arc (sb (nxt m i) (cor m i)) (sb (prv m i) (cor m i)) (sb q (cor m i)) = B at *
      generalize cr (sb (prv m i) (cor m i)) (sb q (cor m i)) = Y at *
      generalize cr (sb (nxt m i) (cor m i)) (sb q (cor m i)) = X at *
      generalize cr (sb (nxt m i) (cor m i)) (sb (prv m i) (cor m i)) = Z at *
      have e1 : (0 < -X) = (X < 0) := by apply propext; omega
      have hA : A = 1 - B := by omega
      rw [hA, ha2]
      have e2 : (0 < -Z) = (Z < 0) := by apply propext; omega
      simp only [e1, e2]
      by_cases z1 : Z < 0 <;> by_cases z2 : X < 0 <;> by_cases z3 : 0 < Y <;> simp [z1, z2, z3]
    · rw [if_neg (show ¬ twiceN m < 0 by omega), hkl]
      dsimp only
      rw [if_neg (by rw [Bool.or_eq_true, eqP_iff, eqP_iff]; exact fun h => h.elim g1 g2)]
      simp only [orient_pos na nb nc, orient_pos na nb nq, orient_pos nb nc nq, c1, c2, c3]
      generalize cr (sb (prv m i) (cor m i)) (sb q (cor m i)) = Y
      generalize cr (sb (nxt m i) (cor m i)) (sb q (cor m i)) = X
      generalize cr (sb (nxt m i) (cor m i)) (sb (prv m i) (cor m i)) = Z
      by_cases z1 : 0 < Z <;> by_cases z2 : Y < 0 <;> by_cases z3 : 0 < X <;> simp [z1, z2, z3]
/-- two simple rings that meet in common corners and sides alone. -/
structure Okk (l m : List Pt) : Prop where
  sl : simpleN l = true
  sm : simpleN m = true
  kind : ∀ s ∈ sds l, ∀ s' ∈ sds m, meetsN s.1 s.2 s'.1 s'.2 = 0 ∨ meetsN s.1 s.2 s'.1 s'.2 = 1 ∨ meetsN s.1 s.2 s'.1 s'.2 = 4
theorem Okk.swap {l m : List Pt} (h : Okk l m) : Okk m l := ⟨h.sm, h.sl, fun s hs s' hs' => by rw [meets_swap]; exact h.kind s' hs' s hs⟩
theorem last_some {m : List Pt} {p : Pt} : ∀ {k i : Nat}, lastAt m p k = some i → i < k ∧ cor m i = p
  | 0, i, h => by cases h
  | k + 1, i, h => by
    unfold lastAt at h
    split at h
    · rename_i e
      injection h with h
      subst h
      exact ⟨by omega, eqP_iff.1 e⟩
    · have := last_some h; exact ⟨by omega, this.2⟩
theorem last_none {m : List Pt} {p : Pt} : ∀ {k : Nat}, lastAt m p k = none → ∀ j, j < k → cor m j ≠ p
  | 0, _, j, hj => by omega
  | k + 1, h, j, hj => by
    unfold lastAt at h
    split at h
    · cases h
    · rename_i e
      by_cases g : j = k
      · subst g; exact fun h => e (eqP_iff.2 h)
      · exact last_none h j (by omega)
theorem sds_in {l : List Pt} {k : Nat} (hk : k < l.length) : (cor l k, nxt l k) ∈ sds l := List.mem_of_getElem? (sds_at_ hk)
theorem sds_ex {l : List Pt} {s : Pt × Pt} (h : s ∈ sds l) : ∃ k, k < l.length ∧ s = (cor l k, nxt l k) := by
  rw [sds_fin, List.mem_map] at h
  obtain ⟨k, _, e⟩ := h
  exact ⟨k.val, k.isLt, e.symm⟩
theorem side_ne {l : List Pt} (h : Smp l) {k : Nat} (hk : k < l.length) : nxt l k ≠ cor l k := by
  obtain ⟨t, ht, _⟩ := turn_at h.three hk
  have := (h.rotN k).cond
  rw [ht] at this
  match t, this with
  | d :: t, this => exact this.1.symm
/-- A corner that is no common one is not on the other ring. -/
theorem Okk.off {l m : List Pt} (h : Okk l m) {k : Nat} (hk : k < l.length) (hc : ∀ j, j < m.length → cor m j ≠ cor l k) : ∀ s' ∈ sds m, holdsN s'.1 s'.2 (cor l k) = false := by
  intro s' hs'
  rw [← Bool.not_eq_true]
  intro hb
  obtain ⟨j, hj, e⟩ := sds_ex hs'
  have h3 := (smp_of h.sm).three
  have n1 : cor l k ≠ s'.1 := by rw [e]; exact fun e => hc j hj e.symm
  have n2 : cor l k ≠ s'.2 := by rw [e, nxt_cor hj]; exact fun e => hc _ (Nat.mod_lt _ (by omega)) e.symm
  have hcom : Com (cor l k) (nxt l k) s'.1 s'.2 (cor l k) := ⟨holds_left _ _, hb⟩
  have hK := meets_kind (cor l k) (nxt l k) s'.1 s'.2
  rcases h.kind _ (sds_in hk) s' hs' with h0 | h0 | h0
  · exact common_kind hcom h0
  · change meetsN (cor l k) (nxt l k) s'.1 s'.2 = 1 at h0
    rw [h0] at hK
    rcases hK with ⟨_, h⟩ | ⟨_, ⟨_, h⟩ | ⟨p, hp, cp, hu, hk'⟩ | ⟨_, ⟨_, h⟩ | ⟨_, h⟩⟩⟩
    · omega
    · omega
    · have e1 := hu (cor l k) (.inl (.inl rfl)) hcom
      rcases hk' with ⟨_, hy, _⟩ | ⟨_, h⟩
      · rcases hy with hy | hy
        · exact n1 (e1.trans hy)
        · exact n2 (e1.trans hy)
      · omega
    · omega
    · omega
  · change meetsN (cor l k) (nxt l k) s'.1 s'.2 = 4 at h0
    rw [h0] at hK
    rcases hK with ⟨hs, _⟩ | ⟨_, ⟨_, h⟩ | ⟨p, hp, cp, hu, ⟨_, _, h⟩ | ⟨_, h⟩⟩ | ⟨_, ⟨_, h⟩ | ⟨_, h⟩⟩⟩
    · rcases hs with ⟨e1, _⟩ | ⟨e1, _⟩
      · exact n1 e1
      · exact n2 e1
    all_goals omega
theorem kind_sm {a b c d : Pt} (h : meetsN a b c d = 4) : Sm a b c d := by
  have hK := meets_kind a b c d
  rw [h] at hK
  rcases hK with ⟨h, _⟩ | ⟨_, ⟨_, h⟩ | ⟨p, _, _, _, ⟨_, _, h⟩ | ⟨_, h⟩⟩ | ⟨_, ⟨_, h⟩ | ⟨_, h⟩⟩⟩
  · exact h
  all_goals omega
/-- A side at a corner that is not on the other ring is where the corner is. -/
theorem st_off {m : List Pt} (hm : simpleN m = true) {p q : Pt} (hq : q ≠ p) (np : nearB p = true) (hoff : ∀ s ∈ sds m, holdsN s.1 s.2 p = false)
    (hk : ∀ s ∈ sds m, meetsN s.1 s.2 p q = 0 ∨ meetsN s.1 s.2 p q = 1 ∨ meetsN s.1 s.2 p q = 4) : stN m (p, q) = locN m p := by
  have hno : ¬ ((p, q) ∈ sds m ∨ flip (p, q) ∈ sds m) := by
    rintro (h | h)
    · have := hoff _ h; rw [show holdsN (p, q).1 (p, q).2 p = true from holds_left p q] at this; cases this
    · have := hoff _ h; rw [show holdsN (flip (p, q)).1 (flip (p, q)).2 p = true from holds_right q p] at this; cases this
  have hk' : ∀ s ∈ sds m, meetsN s.1 s.2 p q = 0 ∨ meetsN s.1 s.2 p q = 1 := fun s hs => by
    rcases hk s hs with h | h | h
    · exact .inl h
    · exact .inr h
    · exfalso
      have h0 := hoff s hs
      rcases kind_sm h with ⟨e, _⟩ | ⟨_, e⟩
      · rw [← e, holds_left] at h0; cases h0
      · rw [← e, holds_right] at h0; cases h0
  unfold stN
  rw [if_neg hno]
  dsimp only
  rw [Pl.see_off hq.symm hoff hk', loc_wn (near_of hm) np hoff]
theorem st_flip (m : List Pt) (s : Pt × Pt) : stN m (flip s) = stN m s := by
  have e : (flip s ∈ sds m ∨ flip (flip s) ∈ sds m) ↔ (s ∈ sds m ∨ flip s ∈ sds m) := by
    show (flip s ∈ sds m ∨ s ∈ sds m) ↔ _
    exact or_comm
  unfold stN
  by_cases g : s ∈ sds m ∨ flip s ∈ sds m
  · rw [if_pos g, if_pos (e.2 g)]
  · rw [if_neg g, if_neg fun h => g (e.1 h)]
    show (if wn (dbl m) (ad s.2 s.1) % 2 = 0 then (-1 : Int) else 1) = _
    rw [Pl.ad_comm]
section
variable {l m : List Pt}
theorem Okk.kinds (h : Okk l m) {k : Nat} (hk : k < l.length) : ∀ s ∈ sds m, meetsN s.1 s.2 (cor l k) (nxt l k) = 0 ∨ meetsN s.1 s.2 (cor l k) (nxt l k) = 1 ∨ meetsN s.1 s.2 (cor l k) (nxt l k) = 4 := fun s hs => by
  rw [meets_swap]; exact h.kind _ (sds_in hk) s hs
theorem Okk.kinds' (h : Okk l m) {k : Nat} (hk : k < l.length) : ∀ s ∈ sds m, meetsN s.1 s.2 (nxt l k) (cor l k) = 0 ∨ meetsN s.1 s.2 (nxt l k) (cor l k) = 1 ∨ meetsN s.1 s.2 (nxt l k) (cor l k) = 4 := fun s hs => by
  rw [meets_back2]; exact h.kinds hk s hs
/-- from a common corner. -/
theorem Okk.leave (h : Okk l m) {k i : Nat} (hk : k < l.length) (hi : lastAt m (cor l k) m.length = some i) : leaveN l m k = some (stN m (cor l k, nxt l k)) := by
  obtain ⟨hi1, hi2⟩ := last_some hi
  unfold leaveN
  rw [hi, Option.map_some]
  have hkk := h.kinds hk
  rw [← hi2] at hkk ⊢
  rw [stat_corner h.sm hi1 (by rw [hi2]; exact side_ne (smp_of h.sl) hk) (near_nxt (near_of h.sl) hk (by omega)) hkk]
theorem Okk.here (h : Okk l m) {k : Nat} (hk : k < l.length) (hi : lastAt m (cor l k) m.length = none) : stN m (cor l k, nxt l k) = locN m (cor l k) :=
  st_off h.sm (side_ne (smp_of h.sl) hk) (near_cor (near_of h.sl) hk) (h.off hk (last_none hi)) (h.kinds hk)
theorem Okk.there (h : Okk l m) {k : Nat} (hk : k + 1 < l.length) (hi : lastAt m (cor l (k + 1)) m.length = none) : stN m (cor l k, nxt l k) = locN m (cor l (k + 1)) := by
  have e : nxt l k = cor l (k + 1) := by rw [nxt_cor (by omega), Nat.mod_eq_of_lt hk]
  have := side_ne (smp_of h.sl) (show k < l.length by omega)
  have hkk := h.kinds' (show k < l.length by omega)
  rw [← st_flip]
  show stN m (nxt l k, cor l k) = _
  rw [e] at this hkk ⊢
  exact st_off h.sm this.symm (near_cor (near_of h.sl) hk) (h.off hk (last_none hi)) hkk
/-- What ring.places finds is what the sides are. -/
theorem Okk.places (h : Okk l m) {c : Int} (hc : c ≠ 0) : plA l m c = true ↔ ∃ s ∈ sds l, stN m s = c := by
  have h3 := (smp_of h.sl).three
  unfold plA plB
  rw [Bool.or_eq_true, decide_eq_true_iff, List.any_eq_true]
  constructor
  · rintro (h0 | ⟨k, _, hk⟩)
    · refine ⟨_, sds_in (show 0 < l.length by omega), ?_⟩
      cases hi : lastAt m (cor l 0) m.length with
      | none => rw [h.here (by omega) hi]; exact h0
      | some i =>
        exfalso
        obtain ⟨hi1, hi2⟩ := last_some hi
        apply hc
        rw [← h0, ← hi2]
        refine loc_on hi1 ?_
        unfold onK onN
        rw [near_cor (near_of h.sm) hi1, near_nxt (near_of h.sm) hi1 (by omega), holds_left]; rfl
    · refine ⟨_, sds_in k.isLt, ?_⟩
      cases hi : lastAt m (cor l k.val) m.length with
      | none => unfold leaveN at hk; rw [hi] at hk; simp at hk
      | some i => rw [h.leave k.isLt hi] at hk; simpa using hk
  · rintro ⟨s, hs, hst⟩
    obtain ⟨k, hk, rfl⟩ := sds_ex hs
    induction k with
    | zero =>
      cases hi : lastAt m (cor l 0) m.length with
      | none => left; rw [← h.here hk hi]; exact hst
      | some i =>
        right
        refine ⟨⟨0, hk⟩, List.mem_finRange _, ?_⟩
        rw [h.leave hk hi, hst]; simp
    | succ k ih =>
      cases hi : lastAt m (cor l (k + 1)) m.length with
      | none =>
        refine ih (by omega) (sds_in (by omega)) ?_
        rw [h.there hk hi, ← h.here hk hi]; exact hst
      | some i =>
        right
        refine ⟨⟨k + 1, hk⟩, List.mem_finRange _, ?_⟩
        rw [h.leave hk hi, hst]; simp
end
end Go.Proofs.Ytlagolgmkmdhhaa.Rg
