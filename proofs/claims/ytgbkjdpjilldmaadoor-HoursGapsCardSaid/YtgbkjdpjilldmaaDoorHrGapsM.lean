/- Plain: tokens with one line feed after each: the same spans, the error at the same token. -/
import Derived.Test.YtgbkjdpjilldmaaDoorHrErrM
namespace Go.Proofs.YtgbkjdpjilldmaaDoor.Hr
open Lx (Tk B lexR kt nx gp hd isWord)
/-- tokens with a line feed after each. -/
def spc (ts : List Tk) : B := ts.flatMap fun t => t.t ++ [10]
def usOf : Nat → List Tk → List Tk
  | _, [] => []
  | b, t :: ts => ⟨t.k, t.t, b⟩ :: usOf (b + (t.t.length + 1)) ts
theorem spc_cons (t : Tk) (ts : List Tk) : spc (t :: ts) = t.t ++ 10 :: spc ts := by unfold spc; rw [List.flatMap_cons]; simp
theorem spc_snoc {ts : List Tk} {k : Nat} (h : k < ts.length) : spc (ts.take (k + 1)) = spc (ts.take k) ++ (ts[k].t ++ [10]) := by
  rw [List.take_succ_eq_append_getElem h]
  unfold spc
  rw [List.flatMap_append]
  simp
theorem lx_lf {a : Nat} {l : B} {ts : List Tk} {r : Option (Int × Nat)} (h : Lx.Lx (a + 1) l ts r) : Lx.Lx a (10 :: l) ts r := by
  have hg : gp false (10 :: l) = gp false l + 1 := by rw [Lx.gp, if_pos (by decide)]
  have e : a + 1 + gp false l = a + gp false (10 :: l) := by rw [hg]; omega
  cases h with
  | done h => exact .done (by rw [hg, List.drop_succ_cons]; exact h)
  | bad h h0 hn => rw [e]; exact .bad (by rw [hg, List.drop_succ_cons]; exact h) h0 hn
  | tok h h0 hn hr => rw [e] at hr ⊢; exact .tok (by rw [hg, List.drop_succ_cons]; exact h) h0 hn hr
theorem spc_lx {a : Nat} {l : B} {ts : List Tk} {r : Option (Int × Nat)} (h : Lx.Lx a l ts r) : (∀ t ∈ ts, t.k ≠ 3) → ∀ b, Lx.Lx b (spc ts) (usOf b ts) none := by
  induction h with
  | done _ => intro _ b; exact .done rfl
  | bad _ _ _ => intro _ b; exact .done rfl
  | @tok a l m k t n ts r h h0 hn _ ih =>
    intro h3 b
    have hk : k ≠ 3 := h3 _ (List.mem_cons_self ..)
    have hw := Lx.nx_wr hn
    have hwr : Lx.wr k t = t := by unfold Lx.wr; rw [if_neg hk]
    have hlen : t.length = n := by rw [← hwr, ← hw.2.2, List.length_take]; omega
    have ha := Lx.nx_again hn (10 :: spc ts) (by show isWord 10 = false; decide)
    rw [hwr] at ha
    have hg : gp false (t ++ 10 :: spc ts) = 0 := by
      have := Lx.nx_gap ha
      cases hq : t ++ 10 :: spc ts with
      | nil => rfl
      | cons c q =>
        rw [hq] at this
        simp only [hd, Bool.or_eq_false_iff, beq_eq_false_iff_ne, ne_eq] at this
        exact Lx.gp_zero this.1 this.2
    rw [spc_cons]
    have ih2 := ih (fun u hu => h3 u (List.mem_cons_of_mem _ hu)) (b + n + 1)
    have := Lx.Lx.tok (a := b) (l := t ++ 10 :: spc ts) (m := t ++ 10 :: spc ts) (by rw [hg]; rfl) (by simp) ha (ts := usOf (b + n + 1) ts) (r := none) (by
      rw [hg, List.drop_left' hlen]
      exact lx_lf ih2)
    rw [hg] at this
    show Lx.Lx b (t ++ 10 :: spc ts) (⟨k, t, b⟩ :: usOf (b + (t.length + 1)) ts) none
    rw [hlen]
    exact this
theorem us_kt : ∀ (b : Nat) (ts : List Tk), (usOf b ts).map kt = ts.map kt
  | _, [] => rfl
  | b, t :: ts => by rw [usOf, List.map_cons, List.map_cons, us_kt]; rfl
theorem us_at : ∀ (b : Nat) (ts : List Tk) (j : Nat), ((usOf b ts)[j]?).map (·.a) = if j < ts.length then some (b + (spc (ts.take j)).length) else none
  | b, [], j => by simp [usOf]
  | b, t :: ts, 0 => by simp [usOf, spc]
  | b, t :: ts, j + 1 => by
    rw [usOf, List.getElem?_cons_succ, us_at, List.take_succ_cons, spc_cons, List.length_cons, List.length_append, List.length_cons]
    by_cases h : j < ts.length
    · rw [if_pos h, if_pos (by omega)]; congr 1; omega
    · rw [if_neg h, if_neg (by omega)]
theorem esc_ge : ∀ l : B, l.length ≤ (Lx.esc l).length
  | [] => Nat.le_refl _
  | c :: l => by have := esc_ge l; rw [Lx.esc]; (repeat' split) <;> simp <;> omega
theorem wr_ge (k : Int) (t : B) : t.length ≤ (Lx.wr k t).length := by
  unfold Lx.wr
  split
  · unfold Lx.quote
    have := esc_ge t
    simp
    omega
  · exact Nat.le_refl _
theorem spc_len {a : Nat} {l : B} {ts : List Tk} {r : Option (Int × Nat)} (h : Lx.Lx a l ts r) : (spc ts).length ≤ 2 * l.length := by
  induction h with
  | done _ => exact Nat.zero_le _
  | bad _ _ _ => exact Nat.zero_le _
  | @tok a l m k t n ts r h h0 hn _ ih =>
    have hw := Lx.nx_wr hn
    have hlen : (Lx.wr k t).length = n := by rw [← hw.2.2, List.length_take]; omega
    have := wr_ge k t
    have hm : m.length ≤ l.length := by rw [← h, List.length_drop]; omega
    rw [List.length_drop] at ih
    rw [spc_cons, List.length_append, List.length_cons]
    dsimp only
    omega
theorem spc_take (ts : List Tk) (k : Nat) : (spc (ts.take k)).length ≤ (spc ts).length := by
  have : spc ts = spc (ts.take k) ++ spc (ts.drop k) := by
    unfold spc
    rw [← List.flatMap_append, List.take_append_drop]
  rw [this, List.length_append]
  omega
/-- where the loop finds the place. -/
def plF (x : Int) (ts : List Tk) : Nat → Int
  | 0 => -1
  | k + 1 => match ts[k]? with
    | some t => if (t.a : Int) = x then ((spc (ts.take k)).length : Int) else plF x ts k
    | none => plF x ts k
theorem plF_succ {x : Int} {ts : List Tk} {k : Nat} (h : k < ts.length) : plF x ts (k + 1) = if (ts[k].a : Int) = x then ((spc (ts.take k)).length : Int) else plF x ts k := by
  rw [plF, List.getElem?_eq_getElem h]
theorem plF_at {ts : List Tk} {j : Nat} (hj : j < ts.length) (hp : ts.Pairwise fun x y => x.a < y.a) : ∀ k, k ≤ ts.length → plF (ts[j].a : Int) ts k = if j < k then ((spc (ts.take j)).length : Int) else -1
  | 0, _ => by rw [if_neg (by omega)]; rfl
  | k + 1, hk => by
    rw [plF_succ (by omega), plF_at hj hp k (by omega)]
    have hpw := List.pairwise_iff_getElem.1 hp
    by_cases h : j = k
    · subst h
      rw [if_pos rfl, if_pos (by omega)]
    · have hne : ¬ (ts[k].a : Int) = (ts[j].a : Int) := fun e => by
        rcases Nat.lt_or_gt_of_ne h with h1 | h1
        · have := hpw j k hj (by omega) h1; omega
        · have := hpw k j (by omega) hj h1; omega
      rw [if_neg hne]
      by_cases h2 : j < k
      · rw [if_pos h2, if_pos (by omega)]
      · rw [if_neg h2, if_neg (by omega)]
/-- what both texts are parsed to. -/
theorem gaps_parse {s : B} (hs : s.length ≤ 1500) (h0 : (lexR s).2.1 = 0) (h3 : ∀ t ∈ (lexR s).1, t.k ≠ 3) :
    (parseR (spc (lexR s).1)).1 = (parseR s).1 ∧ (parseR (spc (lexR s).1)).2.1 = (parseR s).2.1 ∧
    ((parseR s).2.1 = 0 → (parseR s).2.2 = 0 ∧ (parseR (spc (lexR s).1)).2.2 = 0) ∧
    ((parseR s).2.1 ≠ 0 → (parseR s).2.2 = (s.length : Int) → (parseR (spc (lexR s).1)).2.2 = ((spc (lexR s).1).length : Int)) ∧
    ((parseR s).2.1 ≠ 0 → (parseR s).2.2 ≠ (s.length : Int) → 0 ≤ plF (parseR s).2.2 (lexR s).1 (lexR s).1.length ∧ (parseR (spc (lexR s).1)).2.2 = plF (parseR s).2.2 (lexR s).1 (lexR s).1.length) := by
  have hl := lex_toks (by omega) h0
  obtain ⟨ho, hp⟩ := lx_offs hl
  have hsl := spc_len hl
  have hl2 := Lx.lex_lx (spc_lx hl h3 0) (by omega)
  dsimp only at hl2
  generalize hts : (lexR s).1 = ts at *
  obtain ⟨e', he'⟩ : ∃ e', (spc ts).length = e' := ⟨_, rfl⟩
  have hre : rl (offs ts (usOf 0 ts) e') ts = usOf 0 ts := offs_map ts (usOf 0 ts) e' (us_kt 0 ts).symm (hp.imp fun h => by omega)
  have hpe : offs ts (usOf 0 ts) e' s.length = e' := offs_far ts (usOf 0 ts) e' s.length fun t ht => by have := ho t ht; omega
  have hat : ∀ t ∈ ts, ∃ j, ∃ hj : j < ts.length, ts[j] = t ∧ offs ts (usOf 0 ts) e' t.a = (spc (ts.take j)).length := by
    intro t ht
    obtain ⟨j, hj, rfl⟩ := List.mem_iff_getElem.1 ht
    refine ⟨j, hj, rfl, ?_⟩
    have h1 := us_at 0 ts j
    rw [if_pos hj] at h1
    have h2 : (rl (offs ts (usOf 0 ts) e') ts)[j]? = (usOf 0 ts)[j]? := by rw [hre]
    rw [List.getElem?_map, List.getElem?_eq_getElem hj] at h2
    rw [← h2] at h1
    simp only [Option.map_some, Option.some.injEq, Nat.zero_add] at h1
    exact h1
  have hN := textR_re (offs ts (usOf 0 ts) e') s.length ts
  rw [hre, hpe] at hN
  have e1 : parseR s = match textR s.length ts with
    | .error f => ([], f.1, f.2)
    | .ok L => if 60 < (uni L).length then ([], 2, (s.length : Int)) else (uni L, 0, 0) := by
    unfold parseR
    rw [if_neg (by rw [h0]; simp), hts]
    rfl
  have e2 : parseR (spc ts) = match textR e' (usOf 0 ts) with
    | .error f => ([], f.1, f.2)
    | .ok L => if 60 < (uni L).length then ([], 2, (e' : Int)) else (uni L, 0, 0) := by
    unfold parseR
    rw [hl2]
    dsimp only
    rw [if_neg (by simp), he']
    rfl
  rw [e1, e2, hN]
  cases hT : textR s.length ts with
  | error f =>
    have hfc : f.1 ≠ 0 := by have := textR_ec hT; unfold Ec at this; omega
    refine ⟨rfl, rfl, fun h => absurd h hfc, fun _ h => ?_, fun _ h => ?_⟩
    · have h : f.2 = (s.length : Int) := h
      show ((offs ts (usOf 0 ts) e' f.2.toNat : Nat) : Int) = _
      rw [h, Int.toNat_natCast, hpe, he']
    · have h : f.2 ≠ (s.length : Int) := h
      rcases textR_at hT with h1 | ⟨t, ht, h1⟩
      · exact absurd h1 h
      · obtain ⟨j, hj, hjt, h2⟩ := hat t ht
        have h5 : plF f.2 ts ts.length = ((spc (ts.take j)).length : Int) := by
          rw [h1, ← hjt, plF_at hj hp ts.length (Nat.le_refl _), if_pos hj]
        show 0 ≤ plF f.2 ts ts.length ∧ ((offs ts (usOf 0 ts) e' f.2.toNat : Nat) : Int) = plF f.2 ts ts.length
        rw [h5]
        refine ⟨by omega, ?_⟩
        rw [h1, Int.toNat_natCast, h2]
  | ok L =>
    dsimp only [tr, id]
    by_cases h60 : 60 < (uni L).length
    · rw [if_pos h60, if_pos h60]
      refine ⟨rfl, rfl, fun h => (by cases h), fun _ _ => (by show (e' : Int) = _; rw [he']), fun _ h => absurd rfl h⟩
    · rw [if_neg h60, if_neg h60]
      exact ⟨rfl, rfl, fun _ => ⟨rfl, rfl⟩, fun h => absurd rfl h, fun h => absurd rfl h⟩
end Go.Proofs.YtgbkjdpjilldmaaDoor.Hr
