/- P4.4: Simple, Side and Relation do not depend on the first corner nor on the direction (plain mathematics). -/
import Derived.Test.YtlagolgmkmdhhaaRgStat
namespace Go.Proofs.Ytlagolgmkmdhhaa.Rg
open Go.Proofs.Ytlagolgmkmdhhaa.Geo hiding intOf Apart
open Go.Proofs.Ytlagolgmkmdhhaa.Pl (sds rot rotN lst prs Free FreeP Dif sb tws Ring wn dbl ad flip kl arc cr)
/-- the same sides, up to their directions. -/
structure Like (l l' : List Pt) : Prop where
  sim : simpleN l' = simpleN l
  sid : ∀ s, (s ∈ sds l' ∨ flip s ∈ sds l') ↔ (s ∈ sds l ∨ flip s ∈ sds l)
  cnt : ∀ p, wn (dbl l') p % 2 = wn (dbl l) p % 2
  cnt1 : ∀ p, wn l' p % 2 = wn l p % 2
section
variable {l l' m m' : List Pt}
theorem Like.st (h : Like l l') (s : Pt × Pt) : stN l' s = stN l s := by
  unfold stN
  by_cases g : s ∈ sds l ∨ flip s ∈ sds l
  · rw [if_pos g, if_pos ((h.sid s).2 g)]
  · rw [if_neg g, if_neg fun k => g ((h.sid s).1 k), h.cnt]
theorem Like.all {P : Pt × Pt → Prop} (h : Like l l') (hf : ∀ s, P (flip s) ↔ P s) : (∃ s ∈ sds l', P s) ↔ ∃ s ∈ sds l, P s := by
  constructor
  · rintro ⟨s, hs, hp⟩
    rcases (h.sid s).1 (.inl hs) with g | g
    · exact ⟨s, g, hp⟩
    · exact ⟨_, g, (hf s).2 hp⟩
  · rintro ⟨s, hs, hp⟩
    rcases (h.sid s).2 (.inl hs) with g | g
    · exact ⟨s, g, hp⟩
    · exact ⟨_, g, (hf s).2 hp⟩
theorem met_sds (l m : List Pt) (k : Int) : MetP l m k ↔ ∃ s ∈ sds l, ∃ s' ∈ sds m, meetsF s.1 s.2 s'.1 s'.2 = k := by
  unfold MetP
  constructor
  · rintro ⟨i, j, hi, hj, h⟩
    exact ⟨_, sds_in hi, _, sds_in hj, h⟩
  · rintro ⟨s, hs, s', hs', h⟩
    obtain ⟨i, hi, rfl⟩ := sds_ex hs
    obtain ⟨j, hj, rfl⟩ := sds_ex hs'
    exact ⟨i, j, hi, hj, h⟩
theorem meetsF_back2 (a b c d : Pt) : meetsF a b d c = meetsF a b c d := by rw [meetsF_swap, meetsF_back, meetsF_swap]
theorem Like.met (h : Like l l') (h' : Like m m') (k : Int) : MetP l' m' k ↔ MetP l m k := by
  rw [met_sds, met_sds]
  rw [h.all (P := fun s => ∃ s' ∈ sds m', meetsF s.1 s.2 s'.1 s'.2 = k) fun s => by
    constructor
    · rintro ⟨s', hs', e⟩; exact ⟨s', hs', by rw [← e]; exact (meetsF_back _ _ _ _).symm⟩
    · rintro ⟨s', hs', e⟩; exact ⟨s', hs', by rw [← e]; exact meetsF_back _ _ _ _⟩]
  constructor
  · rintro ⟨s, hs, h2⟩
    exact ⟨s, hs, (h'.all (P := fun s' => meetsF s.1 s.2 s'.1 s'.2 = k) fun s' => by show meetsF s.1 s.2 s'.2 s'.1 = k ↔ _; rw [meetsF_back2]).1 h2⟩
  · rintro ⟨s, hs, h2⟩
    exact ⟨s, hs, (h'.all (P := fun s' => meetsF s.1 s.2 s'.1 s'.2 = k) fun s' => by show meetsF s.1 s.2 s'.2 s'.1 = k ↔ _; rw [meetsF_back2]).2 h2⟩
theorem okk_of (hl : simpleN l = true) (hm : simpleN m = true) (hc : crossB l m = false) : Okk l m where
  sl := hl
  sm := hm
  kind := fun s hs s' hs' => by
    unfold crossB at hc
    rw [decide_eq_false_iff_not] at hc
    obtain ⟨i, hi, e⟩ := sds_ex hs
    obtain ⟨j, hj, e'⟩ := sds_ex hs'
    have hr := meets_range s.1 s.2 s'.1 s'.2
    have hF : meetsF s.1 s.2 s'.1 s'.2 = meetsN s.1 s.2 s'.1 s'.2 := by
      rw [e, e']
      unfold meetsF
      rw [near_cor (near_of hl) hi, near_nxt (near_of hl) hi (by omega), near_cor (near_of hm) hj, near_nxt (near_of hm) hj (by omega)]
      rfl
    have hno : ∀ k : Int, k = 2 ∨ k = 3 ∨ k = 5 → meetsN s.1 s.2 s'.1 s'.2 ≠ k := fun k hk h => hc (by
      have : MetP l m k := (met_sds l m k).2 ⟨s, hs, s', hs', hF.trans h⟩
      rcases hk with rfl | rfl | rfl
      · exact .inl this
      · exact .inr (.inl this)
      · exact .inr (.inr this))
    have h2 := hno 2 (.inl rfl)
    have h3 := hno 3 (.inr (.inl rfl))
    have h5 := hno 5 (.inr (.inr rfl))
    omega
theorem bool_eq {x y : Bool} (h : x = true ↔ y = true) : x = y := Bool.eq_iff_iff.2 h
open Classical in
theorem Like.cross (h : Like l l') (h' : Like m m') : crossB l' m' = crossB l m := by
  unfold crossB
  exact bool_eq (by rw [decide_eq_true_iff, decide_eq_true_iff, h.met h', h.met h', h.met h'])
theorem Like.okk (h : Like l l') (h' : Like m m') (hk : Okk l m) (hc : crossB l m = false) : Okk l' m' :=
  okk_of (by rw [h.sim]; exact hk.sl) (by rw [h'.sim]; exact hk.sm) (by rw [h.cross h']; exact hc)
theorem Like.pl (h : Like l l') (h' : Like m m') (hk : Okk l m) (hc : crossB l m = false) {c : Int} (h0 : c ≠ 0) : plA l' m' c = plA l m c := by
  refine bool_eq ?_
  rw [hk.places h0, (h.okk h' hk hc).places h0]
  rw [h.all (P := fun s => stN m' s = c) fun s => by rw [st_flip]]
  constructor
  · rintro ⟨s, hs, e⟩; exact ⟨s, hs, by rw [← h'.st]; exact e⟩
  · rintro ⟨s, hs, e⟩; exact ⟨s, hs, by rw [h'.st]; exact e⟩
open Classical in
theorem cross_comm (l m : List Pt) : crossB l m = crossB m l := by
  have h : ∀ k, MetP l m k ↔ MetP m l k := fun k => by
    unfold MetP
    exact ⟨fun ⟨i, j, hi, hj, e⟩ => ⟨j, i, hj, hi, by rw [meetsF_swap]; exact e⟩, fun ⟨i, j, hi, hj, e⟩ => ⟨j, i, hj, hi, by rw [meetsF_swap]; exact e⟩⟩
  unfold crossB
  exact bool_eq (by rw [decide_eq_true_iff, decide_eq_true_iff, h, h, h])
/-- P4.4: Relation. -/
theorem Like.rel (h : Like l l') (h' : Like m m') : relN l' m' = relN l m := by
  unfold relN
  rw [h.sim, h'.sim, h.cross h']
  cases hs : (simpleN l && simpleN m) with
  | false => rfl
  | true =>
    rw [Bool.and_eq_true] at hs
    cases hc : crossB l m with
    | true => rfl
    | false =>
      have hk := okk_of hs.1 hs.2 hc
      have hc' : crossB m l = false := by rw [cross_comm]; exact hc
      rw [h.pl h' hk hc (by decide), h.pl h' hk hc (by decide), h'.pl h hk.swap hc' (by decide)]
/-- P4.4: Side. -/
theorem Like.side (h : Like l l') (p : Pt) : sideQ l' p = sideQ l p := by
  unfold sideQ
  rw [h.sim]
  cases hs : simpleN l with
  | false => rfl
  | true =>
    cases np : nearB p with
    | false => rfl
    | true =>
      simp only [Bool.true_and, if_true]
      have hn := near_of hs
      have hn' := near_of (h.sim.trans hs)
      have key : ∀ {x : List Pt}, x.all nearB = true → (∃ s ∈ sds x, holdsN s.1 s.2 p = true) → locN x p = 0 := fun {x} hx ⟨s, hs, e⟩ => by
        obtain ⟨k, hk, rfl⟩ := sds_ex hs
        refine loc_on hk ?_
        unfold onK onN
        rw [near_cor hx hk, near_nxt hx hk (by omega), np]
        exact e
      have heq := h.all (P := fun s => holdsN s.1 s.2 p = true) fun s => by show holdsN s.2 s.1 p = true ↔ _; rw [holds_back]
      by_cases g : ∃ s ∈ sds l, holdsN s.1 s.2 p = true
      · rw [key hn g, key hn' (heq.2 g)]
      · have off : ∀ {x : List Pt}, ¬ (∃ s ∈ sds x, holdsN s.1 s.2 p = true) → ∀ s ∈ sds x, holdsN s.1 s.2 p = false := fun hx s hs => by
          rw [← Bool.not_eq_true]; exact fun e => hx ⟨s, hs, e⟩
        rw [loc_wn hn np (off g), loc_wn hn' np (off fun k => g (heq.1 k)), h.cnt1]
end
theorem Like.trans {l m k : List Pt} (h1 : Like l m) (h2 : Like m k) : Like l k :=
  ⟨h2.sim.trans h1.sim, fun s => (h2.sid s).trans (h1.sid s), fun p => (h2.cnt p).trans (h1.cnt p), fun p => (h2.cnt1 p).trans (h1.cnt1 p)⟩
theorem like_rotN (l : List Pt) (k : Nat) (hk : k ≤ l.length) : Like l (rotN k l) := by
  have hp := Pl.sds_permN k l
  have hperm : (rotN k l).Perm l := by
    rw [Pl.rotN_drop l k hk]
    have := List.perm_append_comm (l₁ := l.drop k) (l₂ := l.take k)
    rwa [List.take_append_drop] at this
  have hback : rotN (l.length - k) (rotN k l) = l := by
    have h1 : (l.drop k).length = l.length - k := by rw [List.length_drop]
    rw [Pl.rotN_drop l k hk, ← h1, Pl.rotN_app, List.take_append_drop]
  refine ⟨bool_eq ⟨fun h => ?_, fun h => ?_⟩, fun s => ?_, fun p => ?_, fun p => ?_⟩
  · have := (smp_of h).rotN (l.length - k)
    rw [hback] at this
    exact this.to (by unfold simpleN at h; rw [Bool.and_eq_true] at h; rw [← fits_perm hperm]; exact h.1)
  · exact ((smp_of h).rotN k).to (by unfold simpleN at h; rw [Bool.and_eq_true] at h; rw [fits_perm hperm]; exact h.1)
  · rw [hp.mem_iff, hp.mem_iff]
  · unfold dbl
    rw [← Pl.rotN_map, Pl.wn_rotN]
  · rw [Pl.wn_rotN]
theorem rev_cor {l : List Pt} {i : Nat} (h : i < l.length) : cor l.reverse i = cor l (l.length - 1 - i) := by
  unfold cor
  rw [List.getD_eq_getElem?_getD, List.getD_eq_getElem?_getD, List.getElem?_reverse h]
/-- side i the other way round. -/
def rh (n i : Nat) : Nat := if i + 1 < n then n - 2 - i else i
theorem rev_side {l : List Pt} {i : Nat} (h : i < l.length) : cor l.reverse i = nxt l (rh l.length i) ∧ nxt l.reverse i = cor l (rh l.length i) := by
  have hr : nxt l.reverse i = cor l.reverse ((i + 1) % l.length) := by
    have := nxt_cor (l := l.reverse) (k := i) (by rw [List.length_reverse]; exact h)
    rw [List.length_reverse] at this
    exact this
  unfold rh
  rw [hr, rev_cor h]
  by_cases g : i + 1 < l.length
  · rw [if_pos g, Nat.mod_eq_of_lt g, rev_cor g, nxt_cor (show l.length - 2 - i < l.length by omega), Nat.mod_eq_of_lt (show l.length - 2 - i + 1 < l.length by omega)]
    exact ⟨by congr 1; omega, by congr 1; omega⟩
  · have e : i + 1 = l.length := by omega
    rw [if_neg g, e, Nat.mod_self, rev_cor (show 0 < l.length by omega), nxt_cor h, e, Nat.mod_self]
    exact ⟨by congr 1; omega, by congr 1; omega⟩
theorem nb_rev {n i j : Nat} (hij : i < j) (hj : j < n) : nbN (rh n i) (rh n j) n = nbN i j n := by
  refine bool_eq ?_
  unfold nbN rh
  rw [Bool.or_eq_true, Bool.or_eq_true, decide_eq_true_iff, decide_eq_true_iff, decide_eq_true_iff, decide_eq_true_iff, if_pos (show i + 1 < n by omega), Nat.mod_eq_of_lt (show i + 1 < n by omega)]
  by_cases g : j + 1 < n
  · rw [if_pos g, Nat.mod_eq_of_lt (show n - 2 - i + 1 < n by omega), Nat.mod_eq_of_lt (show n - 2 - j + 1 < n by omega), Nat.mod_eq_of_lt g]
    omega
  · have e : j + 1 = n := by omega
    rw [if_neg g, Nat.mod_eq_of_lt (show n - 2 - i + 1 < n by omega), e, Nat.mod_self]
    omega
theorem Smp.reverse {l : List Pt} (h : Smp l) : Smp l.reverse := by
  have h3 := h.three
  refine ⟨by rw [List.length_reverse]; exact h3, fun i j hij hj => ?_⟩
  rw [List.length_reverse] at hj ⊢
  obtain ⟨a1, a2⟩ := rev_side (show i < l.length by omega)
  obtain ⟨b1, b2⟩ := rev_side hj
  have hi' : rh l.length i < l.length := by unfold rh; split <;> omega
  have hj' : rh l.length j < l.length := by unfold rh; split <;> omega
  rw [a1, a2, b1, b2, meets_back, meets_back2, h.any hi' hj' (by unfold rh; split <;> split <;> omega)]
  unfold wantN
  rw [nb_rev hij hj]
theorem like_reverse (l : List Pt) : Like l l.reverse := by
  have hp := Pl.sds_reverse l
  refine ⟨bool_eq ⟨fun h => ?_, fun h => ?_⟩, fun s => ?_, fun p => ?_, fun p => ?_⟩
  · have := (smp_of h).reverse
    rw [List.reverse_reverse] at this
    exact this.to (by unfold simpleN at h; rw [Bool.and_eq_true] at h; rw [← fits_perm (List.reverse_perm l)]; exact h.1)
  · exact (smp_of h).reverse.to (by unfold simpleN at h; rw [Bool.and_eq_true] at h; rw [fits_perm (List.reverse_perm l)]; exact h.1)
  · have hm : ∀ s, s ∈ sds l.reverse ↔ flip s ∈ sds l := fun s => by
      rw [hp.mem_iff, List.mem_map]
      exact ⟨fun ⟨x, hx, e⟩ => by rw [← e]; exact hx, fun h => ⟨_, h, rfl⟩⟩
    rw [hm, hm]
    exact or_comm
  · unfold dbl
    rw [List.map_reverse, Pl.wn_reverse]
    omega
  · rw [Pl.wn_reverse]
    omega
end Go.Proofs.Ytlagolgmkmdhhaa.Rg
