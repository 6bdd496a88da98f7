/- Merged: TgPutMath, TgTxtMath, TgRefA, TgRefV, TgRefP, TgRefS, TgRefM, TgRefQ, TgMergesWalk, TgMatchWalk. -/
import Derived.Test.YtlknbjaippfemaaTgSetMath
import Derived.Test.YtlknbjaippfemaaTgMath2
import Derived.Test.YtlknbjaippfemaaTgParMath
import Derived.Test.YtlknbjaippfemaaLxLaws2
import Derived.Test.YtlknbjaippfemaaTgLeaf2
import Derived.Test.YtlknbjaippfemaaLxRefAll
import Derived.Test.YtlknbjaippfemaaTgMerge
import Derived.Test.YtlknbjaippfemaaTgSet
import Derived.Test.YtlknbjaippfemaaTgText
import Derived.Test.YtlknbjaippfemaaTgMergeMath
import Derived.Test.YtlknbjaippfemaaTgParse
import Derived.Deep.RegionLaw
import Derived.Test.YtlknbjaippfemaaTgHead
/- Plain mathematics of the reference's put: it is setting; the keys of what was put one by one. -/
namespace Go.Proofs.Ytlknbjaippfemaa.Tg
open Lx (nmB)
/-- what put makes of the tags that are left. -/
def putF (k v : B) : List T → Bool → List T
  | [], d => if d then [] else [(k, v)]
  | t :: l, d => (if !d && !decide (t.1 < k) then [(k, v)] else []) ++ (if t.1 ≠ k then [t] else []) ++ putF k v l (d || !decide (t.1 < k))
theorem putF_done (k v : B) : ∀ l : List T, putF k v l true = l.filter fun t => decide (t.1 ≠ k)
  | [] => rfl
  | t :: l => by
    rw [putF, Bool.true_or, putF_done k v l, List.filter_cons]
    by_cases h : t.1 = k <;> simp [h]
theorem filter_no {l : List T} {p : T → Bool} (h : ∀ t ∈ l, p t = false) : l.filter p = [] := List.filter_eq_nil_iff.2 fun t ht => by rw [h t ht]; decide
theorem filter_yes {l : List T} {p : T → Bool} (h : ∀ t ∈ l, p t = true) : l.filter p = l := List.filter_eq_self.2 h
theorem put_done {k v : B} {l : List T} : putF k v l true = lowT l k ++ upT l k ∨ ¬ Inc l := by
  by_cases hi : Inc l
  · refine .inl ?_
    rw [putF_done]
    induction l with
    | nil => rfl
    | cons t l ih =>
      have ih := ih hi.of_cons
      have hl : ∀ u ∈ l, t.1 < u.1 := fun u hu => List.rel_of_pairwise_cons hi hu
      unfold lowT upT at ih ⊢
      rw [List.filter_cons, List.filter_cons, List.filter_cons, ih]
      rcases b_lt_or t.1 k with h | h | h
      · have h1 : t.1 ≠ k := b_ne h
        have h2 : ¬ k < t.1 := b_not h
        simp [h, h1, h2]
      · have h2 : ¬ t.1 < k := by rw [h]; exact List.lt_irrefl _
        have h3 : ¬ k < t.1 := by rw [h]; exact List.lt_irrefl _
        have h4 : ¬ k < k := List.lt_irrefl _
        simp [h, h4]
      · have h1 : t.1 ≠ k := fun e => b_ne h e.symm
        have h2 : ¬ t.1 < k := b_not h
        have e1 : l.filter (fun t => decide (t.1 < k)) = [] := filter_no fun u hu => decide_eq_false (b_not (List.lt_trans h (hl u hu)))
        simp [h, h1, h2, e1]
  · exact .inr hi
theorem put_not {k v : B} : ∀ {l : List T}, Inc l → putF k v l false = lowT l k ++ [(k, v)] ++ upT l k
  | [], _ => rfl
  | t :: l, hi => by
    have hi2 := hi.of_cons
    have hl : ∀ u ∈ l, t.1 < u.1 := fun u hu => List.rel_of_pairwise_cons hi hu
    rw [putF]
    by_cases h : t.1 < k
    · have h1 : t.1 ≠ k := b_ne h
      have h2 : ¬ k < t.1 := b_not h
      rw [show (false || !decide (t.1 < k)) = false by simp [h], put_not hi2]
      unfold lowT upT
      simp [h, h1, h2]
    · rw [show (false || !decide (t.1 < k)) = true by simp [h], (put_done (k := k) (v := v) (l := l)).resolve_right (fun g => g hi2)]
      have e1 : lowT l k = [] := filter_no fun u hu => decide_eq_false (fun g => h (List.lt_trans (hl u hu) g))
      rcases b_lt_or t.1 k with g | g | g
      · exact absurd g h
      · have h3 : ¬ k < t.1 := by rw [g]; exact List.lt_irrefl _
        have h4 : ¬ k < k := List.lt_irrefl _
        rw [e1]
        unfold lowT at e1
        unfold lowT upT
        simp [g, e1, h4]
      · have h1 : t.1 ≠ k := fun e => b_ne g e.symm
        rw [e1]
        unfold lowT at e1
        unfold lowT upT
        simp [h, h1, g, e1]
theorem put_set {l : List T} (hi : Inc l) (k v : B) : putF k v l (decide (v = [])) = setL l k v := by
  unfold setL midT
  by_cases hv : v = []
  · rw [decide_eq_true hv, if_pos hv, List.append_nil]
    exact put_done.resolve_right fun h => h hi
  · rw [decide_eq_false hv, if_neg hv]
    exact put_not hi
theorem put_len (k v : B) : ∀ (l : List T) (d : Bool), (putF k v l d).length ≤ l.length + 1
  | [], d => by rw [putF]; split <;> simp
  | t :: l, true => by rw [putF_done]; exact Nat.le_trans (List.length_filter_le ..) (by omega)
  | t :: l, false => by
    rw [putF]
    by_cases h : t.1 < k
    · have := put_len k v l false
      simp [h] at this ⊢
      split <;> simp <;> omega
    · have : (putF k v l true).length ≤ l.length := by rw [putF_done]; exact List.length_filter_le ..
      simp [h] at this ⊢
      split <;> simp <;> omega
/-- the keys of what is put into tags in order. -/
theorem add_low : ∀ {l : List T} (k : B), Inc l → addK (l.map Prod.fst) k = (lowT l k).map Prod.fst ++ [k] ++ (upT l k).map Prod.fst
  | [], k, _ => rfl
  | t :: l, k, hi => by
    have hi2 := hi.of_cons
    have hl : ∀ u ∈ l, t.1 < u.1 := fun u hu => List.rel_of_pairwise_cons hi hu
    show (if k < t.1 then k :: t.1 :: l.map Prod.fst else if t.1 = k then t.1 :: l.map Prod.fst else t.1 :: addK (l.map Prod.fst) k) = _
    unfold lowT upT
    rw [List.filter_cons, List.filter_cons]
    rcases b_lt_or t.1 k with h | h | h
    · have h1 : t.1 ≠ k := b_ne h
      have h2 : ¬ k < t.1 := b_not h
      rw [if_neg h2, if_neg h1, add_low k hi2]
      unfold lowT upT
      simp [h, h2]
    · have h2 : ¬ t.1 < k := by rw [h]; exact List.lt_irrefl _
      have h3 : ¬ k < t.1 := by rw [h]; exact List.lt_irrefl _
      have e1 : l.filter (fun t => decide (t.1 < k)) = [] := filter_no fun u hu => decide_eq_false (b_not (h ▸ hl u hu))
      have e2 : l.filter (fun t => decide (k < t.1)) = l := filter_yes fun u hu => decide_eq_true (h ▸ hl u hu)
      have h4 : ¬ k < k := List.lt_irrefl _
      rw [if_neg h3, if_pos h, e1, e2]
      simp [h, h4]
    · have h2 : ¬ t.1 < k := b_not h
      have e1 : l.filter (fun t => decide (t.1 < k)) = [] := filter_no fun u hu => decide_eq_false (b_not (List.lt_trans h (hl u hu)))
      have e2 : l.filter (fun t => decide (k < t.1)) = l := filter_yes fun u hu => decide_eq_true (List.lt_trans h (hl u hu))
      rw [if_pos h, e1, e2]
      simp [h, h2]
theorem put_keys {l : List T} (hi : Inc l) (k : B) {v : B} (hv : v ≠ []) : (setL l k v).map Prod.fst = addK (l.map Prod.fst) k := by
  rw [add_low k hi]
  unfold setL midT
  rw [if_neg hv]
  simp
/-- what the reference makes of tags that are put one by one. -/
def putAll (ts : List T) : List T := ts.foldl (fun l t => setL l t.1 t.2) []
theorem putAll_snoc (ts : List T) (t : T) : putAll (ts ++ [t]) = setL (putAll ts) t.1 t.2 := by unfold putAll; rw [List.foldl_append]; rfl
theorem putAll_inc : ∀ ts : List T, Inc (putAll ts) := fun ts => by
  have key : ∀ (ts acc : List T), Inc acc → Inc (ts.foldl (fun l t => setL l t.1 t.2) acc) := by
    intro ts
    induction ts with
    | nil => intro acc h; exact h
    | cons t ts ih => intro acc h; exact ih _ (set_inc _ _ h)
  exact key ts [] List.Pairwise.nil
theorem putAll_keys {ts : List T} (h : ∀ t ∈ ts, t.2 ≠ []) : (putAll ts).map Prod.fst = sortK (ts.map Prod.fst) := by
  have key : ∀ (ts acc : List T), Inc acc → (∀ t ∈ ts, t.2 ≠ []) → (ts.foldl (fun l t => setL l t.1 t.2) acc).map Prod.fst = (ts.map Prod.fst).foldl addK (acc.map Prod.fst) := by
    intro ts
    induction ts with
    | nil => intro acc _ _; rfl
    | cons t ts ih =>
      intro acc hi h
      rw [List.foldl_cons, ih _ (set_inc _ _ hi) (fun u hu => h u (List.mem_cons_of_mem _ hu)), put_keys hi _ (h t (List.mem_cons_self ..)), List.map_cons, List.foldl_cons]
  exact key ts [] List.Pairwise.nil h
theorem putAll_len (ts : List T) : (putAll ts).length ≤ ts.length := by
  have key : ∀ (ts acc : List T), (ts.foldl (fun l t => setL l t.1 t.2) acc).length ≤ acc.length + ts.length := by
    intro ts
    induction ts with
    | nil => intro acc; exact Nat.le_refl _
    | cons t ts ih =>
      intro acc
      have h1 := ih (setL acc t.1 t.2)
      have h2 := set_len acc t.1 t.2
      rw [List.foldl_cons, List.length_cons]
      omega
  have := key ts []
  unfold putAll
  simpa using this
end Go.Proofs.Ytlknbjaippfemaa.Tg
/- Plain mathematics of the text of tags: it is parsed as the tags. -/
namespace Go.Proofs.Ytlknbjaippfemaa.Tg
open Lx (Tk Lx nx gp hd esc quote kt isWord nmB)
/-- a text has these tokens, apart from offsets. -/
def LxK (l : B) (ks : List (Int × B)) : Prop := ∀ b, ∃ us, Lx.Lx b l us none ∧ us.map kt = ks
theorem lxk_nil : LxK [] [] := fun _ => ⟨[], .done rfl, rfl⟩
theorem lxk_cons {w rest : B} {k : Int} {t : B} {ks : List (Int × B)} (hn : nx (w ++ rest) = .tok k t w.length) (hg : gp false (w ++ rest) = 0) (h0 : w ≠ []) (h : LxK rest ks) : LxK (w ++ rest) ((k, t) :: ks) := by
  intro b
  obtain ⟨us, h1, h2⟩ := h (b + gp false (w ++ rest) + w.length)
  refine ⟨_, .tok (m := w ++ rest) (by rw [hg]; rfl) (by simp [h0]) hn (by rw [List.drop_left]; exact h1), ?_⟩
  rw [List.map_cons, h2]
  rfl
theorem lxk_blank {l : B} {ks : List (Int × B)} (h : LxK l ks) : LxK (32 :: l) ks := fun b => (h (b + 1)).elim fun us hu => ⟨us, Lx.lx_blank hu.1, hu.2⟩
theorem lxk_tag {t : T} {rest : B} {ks : List (Int × B)} (ht : nmB t.1 = true) (h : LxK rest ks) : LxK (txt1 t ++ rest) ((1, t.1) :: (4, [61]) :: (3, t.2) :: ks) := by
  have e : txt1 t ++ rest = t.1 ++ ([61] ++ (quote t.2 ++ rest)) := by simp [txt1]
  have h1 := Lx.name_nx ht ([61] ++ (quote t.2 ++ rest)) (by show isWord 61 = false; decide)
  have h2 : nx ([61] ++ (quote t.2 ++ rest)) = .tok 4 [61] 1 := (Lx.nx_sym (by decide) (by decide) (by decide)).trans (if_pos (by decide))
  have h3 : nx (quote t.2 ++ rest) = .tok 3 t.2 (quote t.2).length := by
    have : quote t.2 ++ rest = 34 :: (esc t.2 ++ 34 :: rest) := by simp [quote]
    rw [this, Lx.nx_quo, Lx.st_quote rest t.2]
    simp [quote]
  rw [e]
  refine lxk_cons h1.1 h1.2 (by intro h; rw [h] at ht; cases ht) ?_
  refine lxk_cons h2 (Lx.gp_zero (by decide) (by decide)) (by simp) ?_
  refine lxk_cons h3 (Lx.gp_zero (by decide) (by decide)) (by simp [quote]) h
def tks (l : List T) : List (Int × B) := l.flatMap fun t => [(1, t.1), (4, [61]), (3, t.2)]
theorem tks_cons (t : T) (l : List T) : tks (t :: l) = (1, t.1) :: (4, [61]) :: (3, t.2) :: tks l := rfl
theorem txt_lxk : ∀ {l : List T}, (∀ t ∈ l, nmB t.1 = true) → LxK (txtL l) (tks l)
  | [], _ => lxk_nil
  | [t], h => by
    have := lxk_tag (h t (List.mem_cons_self ..)) lxk_nil
    rw [List.append_nil] at this
    exact this
  | t :: u :: l, h => by
    rw [tks_cons]
    exact lxk_tag (rest := 32 :: txtL (u :: l)) (h t (List.mem_cons_self ..)) (lxk_blank (txt_lxk fun v hv => h v (List.mem_cons_of_mem _ hv)))
theorem lex_lx2 {s : B} {ts : List Tk} (h : Lx.Lx 0 s ts none) (hs : s.length ≤ 20000) (ht : ts.length ≤ 5000) : Lx.lexR s = (ts, 0, 0) := by
  have e := Lx.evs_lx h
  rw [Nat.zero_add] at e
  unfold Lx.lexR Lx.evL
  rw [if_neg (by omega), e, Lx.scan_map none (fun e x hx => by cases hx) ts [] (by simp; omega)]
  rfl
def tokK (ks : List (Int × B)) (i : Nat) : B := (ks[i]?.map Prod.snd).getD []
theorem tokT_k (ts : List Tk) (i : Nat) : tokT ts i = tokK (ts.map kt) i := by
  unfold tokT tokK
  rw [List.getElem?_map, Option.map_map]
  rfl
theorem trs_tks : ∀ l : List T, (List.range l.length).map (fun k => (tokK (tks l) (3 * k), tokK (tks l) (3 * k + 2))) = l
  | [] => rfl
  | t :: l => by
    rw [List.length_cons, List.range_succ_eq_map, List.map_cons, List.map_map]
    refine congr (congrArg List.cons rfl) ?_
    conv => rhs; rw [← trs_tks l]
    exact List.map_congr_left fun k _ => rfl
theorem tks_len (l : List T) : (tks l).length = 3 * l.length := by
  induction l with
  | nil => rfl
  | cons t l ih => rw [tks_cons]; simp only [List.length_cons, ih]; omega
theorem text_par {l : List T} (h : (textR l).2 = 0) : parR (textR l).1 = (l, 0) := by
  unfold textR at h ⊢
  by_cases hv : vld l = true
  · rw [if_pos hv] at h ⊢
    by_cases hl : 20000 < (txtL l).length
    · rw [if_pos hl] at h; cases h
    · rw [if_neg hl]
      have hv2 := vld_iff.1 hv
      obtain ⟨ts, h1, h2⟩ := txt_lxk (l := l) (fun t ht => (okT_iff.1 (hv2.2.1 t ht)).1) 0
      have hn : ts.length = 3 * l.length := by rw [← tks_len, ← h2, List.length_map]
      have hx := lex_lx2 h1 (by omega) (by have := hv2.1; omega)
      have ht : trs ts l.length = l := by
        conv => rhs; rw [← trs_tks l]
        unfold trs
        refine List.map_congr_left fun k _ => ?_
        rw [tokT_k, tokT_k, h2]
      unfold parR
      have hd3 : ts.length / 3 = l.length := by omega
      show (if 20000 < (txtL l).length then _ else _) = _
      rw [if_neg hl, hx, if_neg (by simp only []; omega)]
      simp only []
      rw [hd3, ht]
      have e : textR l = (txtL l, 0) := by unfold textR; rw [if_pos hv, if_neg hl]
      rw [e, if_neg (by simp)]
  · rw [if_neg hv] at h; cases h
theorem text_vld {l : List T} (h : (textR l).2 = 0) : vld l = true := by
  unfold textR at h
  by_cases hv : vld l = true
  · exact hv
  · rw [if_neg hv] at h; cases h
theorem text_arg (l : List T) : ((textR l).2 = 1 ↔ vld l = false) ∧ ((textR l).2 ≠ 0 → (textR l).1 = []) ∧ ((textR l).2 = 0 ∨ (textR l).2 = 1 ∨ (textR l).2 = 2) := by
  unfold textR
  cases hv : vld l with
  | false => exact ⟨⟨fun _ => rfl, fun _ => rfl⟩, fun _ => rfl, .inr (.inl rfl)⟩
  | true =>
    by_cases hl : 20000 < (txtL l).length
    · rw [if_pos rfl, if_pos hl]; exact ⟨⟨fun h => (by cases h), fun h => (by cases h)⟩, fun _ => rfl, .inr (.inr rfl)⟩
    · rw [if_pos rfl, if_neg hl]; exact ⟨⟨fun h => (by cases h), fun h => (by cases h)⟩, fun h => absurd rfl h, .inl rfl⟩
theorem text_inj {a b : List T} (ha : (textR a).2 = 0) (hb : (textR b).2 = 0) : (textR a).1 = (textR b).1 ↔ a = b := by
  constructor
  · intro h
    have h1 := text_par ha
    rw [h, text_par hb] at h1
    exact (congrArg Prod.fst h1).symm
  · rintro rfl; rfl
theorem par_cases {s : B} (hs : s.length ≤ 20000) : parR s = ([], 5) ∨ ∃ l, parR s = (l, 0) ∧ textR l = (s, 0) ∧ vld l = true := by
  unfold parR
  rw [if_neg (by omega)]
  split
  · exact .inl rfl
  · split
    · exact .inl rfl
    · rename_i h
      have h2 : (textR (trs (Lx.lexR s).1 ((Lx.lexR s).1.length / 3))).2 = 0 := Classical.byContradiction fun g => h (.inl g)
      have h3 : (textR (trs (Lx.lexR s).1 ((Lx.lexR s).1.length / 3))).1 = s := Classical.byContradiction fun g => h (.inr g)
      exact .inr ⟨_, rfl, Prod.ext h3 h2, text_vld h2⟩
end Go.Proofs.Ytlknbjaippfemaa.Tg
/- tag: the reference's Get, Valid, One. -/
namespace Go.Proofs.Ytlknbjaippfemaa.Tg
open Go.RowKit
open Lx hiding intOf
set_option maxRecDepth 100000 in
set_option maxHeartbeats 4000000 in
theorem refGet_any (ao : Option Addr) (n cap : Nat) (l : List T) (key : B) (w : World) (hn : l.length = n) (ha : TagsT w w.heap.size ao l) (hc : n ≤ cap) (hm : n ≤ 1000000) :
    Calls Try.prog 17 #[.slice ao n cap, .string ⟨key.toArray⟩] w fun e w' => e = .returned (.tuple #[.string ⟨(getV l key).toArray⟩, .bool (getO l key).isSome]) ∧ Below w.heap.size w w' := by
  have HA := Lib.hid ha
  have HN := Lib.hid hn
  have hc' : (n : Int) ≤ (cap : Int) := by omega
  have hm' : (n : Int) ≤ 1000000 := by omega
  obtain ⟨v, hv⟩ : ∃ v, getV l key = v := ⟨_, rfl⟩
  obtain ⟨s, hs⟩ : ∃ v, (getO l key).isSome = v := ⟨_, rfl⟩
  rw [hv, hs]
  have HV := Lib.hid (show ∀ o, getO l key = o → o.getD [] = v ∧ o.isSome = s from fun o ho => by rw [← ho]; exact ⟨hv, hs⟩)
  clear hn ha hv hs
  go_enter Try.func17, Try.ntmps17
  go_wp2
  go_loopw [6] (fun i wr => ∃ k : Nat, k ≤ n ∧ i = .int .i64 k ∧ Hid (∀ t ∈ l.take k, t.1 ≠ key) ∧ Hid (Below w.heap.size w wr)) (fun i _ => n - (Lx.intOf i).toNat)
  case atStart => exact ⟨0, by omega, rfl, Lib.hid (fun t h => by simp at h), Lib.hid (Below.refl _ _)⟩
  case round =>
    obtain ⟨k, hk, rfl, HC, HK⟩ := hrel
    by_cases hlt : k < n
    · have hkl : k < l.length := by rw [HN.out]; exact hlt
      have hlt2 : (k : Int) < (n : Int) := by omega
      obtain ⟨g, off, rfl, hg, x0, x1⟩ := (HA.out.below HK.out (Nat.le_refl _)).at_ hkl
      have G1 := Lib.hid (fun he => get_at HC.out hkl he)
      have G2 := Lib.hid (show l[k].1 ≠ key → ∀ t ∈ l.take (k + 1), t.1 ≠ key from fun hne t ht => by
        rw [List.take_succ_eq_append_getElem hkl] at ht
        rcases List.mem_append.1 ht with h | h
        · exact HC.out t h
        · rw [List.mem_singleton] at h
          rw [h]; exact hne)
      generalize l[k].1 = ky at *
      generalize l[k].2 = val at *
      clear hkl HC
      by_cases he : ky = key
      · obtain ⟨rfl, rfl⟩ : val = v ∧ true = s := by
          have := HV.out _ (G1.out he)
          exact this
        subst he
        clear G1 G2 HV
        go_wp2
        go_ret2
        exact ⟨rfl, HK.out⟩
      · have he3 : (ky == key) = false := by rw [beq_eq_false_iff_ne]; exact he
        have HG := Lib.hid (G2.out he)
        clear G1 G2 he
        go_wp2
        go_roundw
        case rel => exact ⟨k + 1, by omega, by go_num, HG, HK⟩
        case measure => simp [Lx.intOf]; omega
    · obtain rfl : n = k := by omega
      obtain ⟨rfl, rfl⟩ : ([] : B) = v ∧ false = s := by
        have h := HC.out
        rw [← HN.out, List.take_length] at h
        have := HV.out none (get_none.2 h)
        exact this
      go_wp2
      go_ret2
      exact ⟨rfl, HK.out⟩
theorem oneR_cases (b x y : B) : ((x = y ∨ y = b) ∧ oneR b x y = (x, false)) ∨ (x ≠ y ∧ y ≠ b ∧ x = b ∧ oneR b x y = (y, false)) ∨ (x ≠ y ∧ y ≠ b ∧ x ≠ b ∧ oneR b x y = (b, true)) := by
  unfold oneR
  by_cases h : x = y ∨ y = b
  · exact .inl ⟨h, if_pos h⟩
  · rw [if_neg h]
    have h1 : x ≠ y := fun e => h (.inl e)
    have h2 : y ≠ b := fun e => h (.inr e)
    by_cases h3 : x = b
    · exact .inr (.inl ⟨h1, h2, h3, if_pos h3⟩)
    · exact .inr (.inr ⟨h1, h2, h3, if_neg h3⟩)
set_option maxRecDepth 100000 in
set_option maxHeartbeats 4000000 in
theorem refOne_any (a0 a1 a2 : Option Addr) (n0 n1 n2 c0 c1 c2 : Nat) (l0 l1 l2 : List T) (key : B) (w : World) (hl0 : l0.length = n0) (hl1 : l1.length = n1) (hl2 : l2.length = n2) (hp0 : TagsT w w.heap.size a0 l0) (hp1 : TagsT w w.heap.size a1 l1) (hp2 : TagsT w w.heap.size a2 l2) (hc0 : n0 ≤ c0) (hc1 : n1 ≤ c1) (hc2 : n2 ≤ c2) (hm0 : n0 ≤ 1000000) (hm1 : n1 ≤ 1000000) (hm2 : n2 ≤ 1000000) :
    Calls Try.prog 31 #[.slice a0 n0 c0, .slice a1 n1 c1, .slice a2 n2 c2, .string ⟨key.toArray⟩] w fun e w' => e = .returned (.tuple #[.string ⟨(oneR (getV l0 key) (getV l1 key) (getV l2 key)).1.toArray⟩, .bool (oneR (getV l0 key) (getV l1 key) (getV l2 key)).2]) ∧ Below w.heap.size w w' := by
  have K0 := Lib.hid (refGet_any a0 n0 c0 l0 key w hl0 hp0 hc0 hm0)
  have K1 := Lib.hid (fun (W : World) (h : Below w.heap.size w W) => refGet_any a1 n1 c1 l1 key W hl1 (hp1.later h) hc1 hm1)
  have K2 := Lib.hid (fun (W : World) (h : Below w.heap.size w W) => refGet_any a2 n2 c2 l2 key W hl2 (hp2.later h) hc2 hm2)
  obtain ⟨b, hb⟩ : ∃ v, getV l0 key = v := ⟨_, rfl⟩
  obtain ⟨x, hx⟩ : ∃ v, getV l1 key = v := ⟨_, rfl⟩
  obtain ⟨y, hy⟩ : ∃ v, getV l2 key = v := ⟨_, rfl⟩
  rw [hb] at K0
  rw [hx] at K1
  rw [hy] at K2
  rw [hb, hx, hy]
  obtain ⟨R, hR⟩ : ∃ R, oneR b x y = R := ⟨_, rfl⟩
  rw [hR]
  have HR := Lib.hid hR
  clear hR
  clear hb hx hy hl0 hl1 hl2 hp0 hp1 hp2 hc0 hc1 hc2 hm0 hm1 hm2
  go_enter Try.func31, Try.ntmps31
  go_wp2_with fail
  refine K0.out.mono ?_
  rintro e w1 ⟨rfl, b1⟩
  have B1 := Lib.hid b1
  have K1' := Lib.hid (K1.out w1 b1)
  clear b1 K0 K1
  go_wp2_with fail
  refine K1'.out.mono ?_
  rintro e w2 ⟨rfl, bb⟩
  have B2 := Lib.hid (B1.out.trans (bb.mono B1.out.size))
  have K2' := Lib.hid (K2.out w2 B2.out)
  clear bb K1' K2 B1
  go_wp2_with fail
  refine K2'.out.mono ?_
  rintro e w3 ⟨rfl, bb⟩
  have B3 := Lib.hid (B2.out.trans (bb.mono B2.out.size))
  clear bb K2' B2
  rcases oneR_cases b x y with ⟨h, e⟩ | ⟨h1, h2, h3, e⟩ | ⟨h1, h2, h3, e⟩
  · obtain rfl : (x, false) = R := e.symm.trans HR.out
    clear HR
    by_cases hxy : x = y
    · subst hxy
      clear h e
      go_wp2
      go_ret2
      exact ⟨rfl, B3.out⟩
    · have hyb : y = b := h.resolve_left hxy
      subst hyb
      have e1 : (x == y) = false := by rw [beq_eq_false_iff_ne]; exact hxy
      clear h e hxy
      go_wp2
      go_ret2
      exact ⟨rfl, B3.out⟩
  · obtain rfl : (y, false) = R := e.symm.trans HR.out
    clear HR
    subst h3
    have e1 : (x == y) = false := by rw [beq_eq_false_iff_ne]; exact h1
    have e2 : (y == x) = false := by rw [beq_eq_false_iff_ne]; exact h2
    clear e h1 h2
    go_wp2
    go_ret2
    exact ⟨rfl, B3.out⟩
  · obtain rfl : (b, true) = R := e.symm.trans HR.out
    clear HR
    have e1 : (x == y) = false := by rw [beq_eq_false_iff_ne]; exact h1
    have e2 : (y == b) = false := by rw [beq_eq_false_iff_ne]; exact h2
    have e3 : (x == b) = false := by rw [beq_eq_false_iff_ne]; exact h3
    clear e h1 h2 h3
    go_wp2
    go_ret2
    exact ⟨rfl, B3.out⟩
end Go.Proofs.Ytlknbjaippfemaa.Tg
/- tag: the reference's Valid. -/
namespace Go.Proofs.Ytlknbjaippfemaa.Tg
open Go.RowKit
open Lx hiding intOf
theorem drewN_below3 (w : World) (k : Nat) : Below w.heap.size w (w.drewN k) := ⟨rfl, rfl, rfl, Nat.le_refl _, fun _ _ => rfl⟩
set_option maxRecDepth 100000 in
set_option maxHeartbeats 8000000 in
theorem refValid_any (ao : Option Addr) (n cap : Nat) (l : List T) (w : World) (hn : l.length = n) (ha : TagsT w w.heap.size ao l) (hc : n ≤ cap) (hS : Siz l) :
    Calls Try.prog 21 #[.slice ao n cap] w fun e w' => e = .returned (.bool (vld l)) ∧ Below w.heap.size w w' := by
  have HA := Lib.hid ha
  have HN := Lib.hid hn
  have HS := Lib.hid hS
  have hc' : (n : Int) ≤ (cap : Int) := by omega
  obtain ⟨R, hR⟩ : ∃ R, vld l = R := ⟨_, rfl⟩
  rw [hR]
  have HR := Lib.hid hR
  by_cases h60 : n ≤ 60
  rotate_left
  · have hz : (60 : Int) < (n : Int) := by omega
    have e : R = false := by rw [← hR]; unfold vld; rw [hn, decide_eq_false h60, Bool.false_and]
    subst e
    clear hR hn ha
    go_enter Try.func21, Try.ntmps21
    go_wp2
    go_ret
    exact ⟨rfl, Below.refl _ _⟩
  have hz : ¬ (60 : Int) < (n : Int) := by omega
  have HV := Lib.hid (show chk l = R by rw [← hR]; unfold vld; rw [hn, decide_eq_true h60, Bool.true_and])
  have hn60 : (n : Int) ≤ 60 := by omega
  clear hR hn ha hS
  go_enter Try.func21, Try.ntmps21
  go_wp2
  go_loopw [3] (fun i wr => ∃ k : Nat, k ≤ n ∧ i = .int .i64 k ∧ Hid (chk (l.take k) = true) ∧ Hid (Below w.heap.size w wr)) (fun i _ => n - (intOf i).toNat)
  case atStart => exact ⟨0, by omega, rfl, Lib.hid rfl, Lib.hid (Below.refl _ _)⟩
  case round =>
    obtain ⟨k, hk, rfl, HC, HK⟩ := hrel
    by_cases hlt : k < n
    · have hkl : k < l.length := by rw [HN.out]; exact hlt
      have hlt2 : (k : Int) < (n : Int) := by omega
      have hA := HA.out.below HK.out (Nat.le_refl _)
      obtain ⟨g, off, rfl, hg, x0, x1⟩ := hA.at_ hkl
      have hsz := HS.out _ (List.getElem_mem hkl)
      have hst := chk_step hkl
      rw [HC.out, Bool.true_and] at hst
      have PRE := Lib.hid (show 0 < k → ∃ p : B, wr.cell? ⟨g, off + (k - 1) * 2, none⟩ = some (.string ⟨p.toArray⟩) ∧ chk (l.take (k + 1)) = (okT l[k] && decide (p < l[k].1)) from fun h0 => by
        obtain ⟨g2, o2, e2, hg2, x2, _⟩ := hA.at_ (k := k - 1) (by omega)
        injection e2 with e2
        injection e2 with e3 e4
        exact ⟨(l[k - 1]'(by omega)).1, by rw [e3, e4]; exact x2, by rw [hst, decide_eq_false (by omega), Bool.false_or]⟩)
      have FST := Lib.hid (show k = 0 → chk (l.take (k + 1)) = okT l[k] from fun h0 => by rw [hst, decide_eq_true h0, Bool.true_or, Bool.and_true])
      have ALL := Lib.hid (show okT l[k] = false → chk (l.take (k + 1)) = false from fun h0 => by rw [hst, h0, Bool.false_and])
      have END := Lib.hid (show chk (l.take (k + 1)) = false → R = false from fun h => by
        have := chk_bad h
        rw [HR.out] at this
        exact this)
      obtain ⟨c2, hc2⟩ : ∃ c, chk (l.take (k + 1)) = c := ⟨_, rfl⟩
      rw [hc2] at PRE FST ALL END
      have C2 := Lib.hid hc2
      have hkk : l[k] = (l[k].1, l[k].2) := rfl
      generalize l[k].1 = key at *
      generalize l[k].2 = val at *
      rw [hkk] at PRE FST ALL
      obtain ⟨nm, hnm⟩ : ∃ b, nmB key = b := ⟨_, rfl⟩
      have NM : ∀ W, Calls Try.prog 26 #[.string ⟨key.toArray⟩] W fun e w' => e = .returned (.bool nm) ∧ W = w' := fun W => by
        have := name_ref ⟨key.toArray⟩ W (by rw [str_size]; exact hsz.1)
        rw [str_eq, hnm] at this
        exact this
      have NQ : ∀ W, Calls Try.prog 26 #[.string ⟨key.toArray⟩] W fun e w' => e = .returned (.bool nm) ∧ w' = W := fun W => (NM W).mono fun e w' h => ⟨h.1, h.2.symm⟩
      have OK := Lib.hid (show okT (key, val) = (nm && decide (0 < val.length) && decide (val.length ≤ 200)) by unfold okT; rw [hnm])
      have hsz2 : (val.length : Int) ≤ 100000 := by have := hsz.2; omega
      clear hc2 hkk hst hsz hA hnm HC hkl NM
      cases nm with
      | false =>
        obtain rfl := END.out (ALL.out (by rw [OK.out]; rfl))
        clear PRE FST ALL END
        go_upto_region 6 with fail
        go_quiet ((go_at_call 26; exact Calls.quiet_of_same (NQ _)))
        go_wp2
        go_ret
        exact ⟨rfl, HK.out.trans ((drewN_below3 _ _).mono HK.out.size)⟩
      | true =>
        by_cases v0 : val.length < 1
        · obtain rfl := END.out (ALL.out (by rw [OK.out, decide_eq_false (by omega)]; simp))
          have v1 : (val.length : Int) < 1 := by omega
          clear PRE FST ALL END OK v0
          go_upto_region 6 with fail
          go_quiet ((go_at_call 26; exact Calls.quiet_of_same (NQ _)))
          go_wp2
          go_ret
          exact ⟨rfl, HK.out.trans ((drewN_below3 _ _).mono HK.out.size)⟩
        have v1 : ¬ (val.length : Int) < 1 := by omega
        by_cases v2 : 200 < val.length
        · obtain rfl := END.out (ALL.out (by rw [OK.out, decide_eq_false (show ¬ val.length ≤ 200 by omega)]; simp))
          have v3 : (200 : Int) < (val.length : Int) := by omega
          clear PRE FST ALL END OK v0 v2
          go_upto_region 6 with fail
          go_quiet ((go_at_call 26; exact Calls.quiet_of_same (NQ _)))
          go_wp2
          go_ret
          exact ⟨rfl, HK.out.trans ((drewN_below3 _ _).mono HK.out.size)⟩
        have v3 : ¬ (200 : Int) < (val.length : Int) := by omega
        have OK2 := Lib.hid (show okT (key, val) = true by rw [OK.out, decide_eq_true (show 0 < val.length by omega), decide_eq_true (show val.length ≤ 200 by omega)]; rfl)
        clear v0 v2 ALL OK
        by_cases h0 : 0 < k
        · obtain ⟨p, xp, hp⟩ := PRE.out h0
          have hd : decide ((0 : Int) < (k : Int)) = true := decide_eq_true (by omega)
          have hk1 : IntKind.i64.wrap ((k : Int) - 1) = ((k - 1 : Nat) : Int) := by
            rw [IntWalk.i64_in _ (by omega)]
            omega
          have hk2 : ((k - 1 : Nat) : Int) < (n : Int) := by omega
          have HP := Lib.hid (show c2 = Op.bytesLess p key by rw [hp, OK2.out, Bool.true_and, bytesLess_eq])
          clear PRE FST hp
          cases c2 with
          | false =>
            have hlt3 : Op.bytesLess p key = false := HP.out.symm
            obtain rfl := END.out (by first | rfl | trivial)
            go_upto_region 6 with fail
            go_quiet ((go_at_call 26; exact Calls.quiet_of_same (NQ _)))
            go_wp2
            go_ret
            exact ⟨rfl, HK.out.trans ((drewN_below3 _ _).mono HK.out.size)⟩
          | true =>
            have hlt3 : Op.bytesLess p key = true := HP.out.symm
            go_upto_region 6 with fail
            go_quiet ((go_at_call 26; exact Calls.quiet_of_same (NQ _)))
            go_wp2
            go_roundw
            case rel => exact ⟨k + 1, by omega, by go_num, C2, Lib.hid (HK.out.trans ((drewN_below3 _ _).mono HK.out.size))⟩
            case measure => simp [intOf]; omega
        · have hd : decide ((0 : Int) < (k : Int)) = false := decide_eq_false (by omega)
          have HT := Lib.hid (show chk (l.take (k + 1)) = true by rw [C2.out, FST.out (by omega), OK2.out])
          clear PRE FST
          go_upto_region 6 with fail
          go_quiet ((go_at_call 26; exact Calls.quiet_of_same (NQ _)))
          go_wp2
          go_roundw
          case rel => exact ⟨k + 1, by omega, by go_num, HT, Lib.hid (HK.out.trans ((drewN_below3 _ _).mono HK.out.size))⟩
          case measure => simp [intOf]; omega
    · obtain rfl : n = k := by omega
      obtain rfl : true = R := by
        have := HC.out
        rw [← HN.out, List.take_length, HV.out] at this
        exact this.symm
      go_wp2
      go_ret
      exact ⟨rfl, HK.out⟩
end Go.Proofs.Ytlknbjaippfemaa.Tg
/- tag: the reference's put and Set. -/
namespace Go.Proofs.Ytlknbjaippfemaa.Tg
open Go.RowKit
open Lx (IsRow alloc1 drew_below nmB)
theorem drop_put {k v : B} {l : List T} {j : Nat} (hj : j < l.length) (d : Bool) : putF k v (l.drop j) d = (if !d && !decide (l[j].1 < k) then [(k, v)] else []) ++ (if l[j].1 ≠ k then [l[j]] else []) ++ putF k v (l.drop (j + 1)) (d || !decide (l[j].1 < k)) := by
  rw [List.drop_eq_getElem_cons hj, putF]
set_option maxRecDepth 100000 in
set_option maxHeartbeats 8000000 in
theorem refPut_any (ao : Option Addr) (n cap : Nat) (l : List T) (key val : B) (w : World) (hn : l.length = n) (ha : TagsT w w.heap.size ao l) (hc : n ≤ cap) (hm : n ≤ 10000) :
    Calls Try.prog 27 #[.slice ao n cap, .string ⟨key.toArray⟩, .string ⟨val.toArray⟩] w fun e w' => (∃ v, e = .returned v ∧ OwnG w' w.heap.size v (putF key val l (decide (val = [])))) ∧ Below w.heap.size w w' := by
  have HA := Lib.hid ha
  have HN := Lib.hid hn
  have hc' : (n : Int) ≤ (cap : Int) := by omega
  have hm' : (n : Int) ≤ 10000 := by omega
  obtain ⟨R, hR⟩ : ∃ R, putF key val l (decide (val = [])) = R := ⟨_, rfl⟩
  rw [hR]
  have HR := Lib.hid hR
  obtain ⟨bs, hbs⟩ : ∃ b, w.heap.size = b := ⟨_, rfl⟩
  have HB := Lib.hid (Nat.le_of_eq hbs.symm)
  rw [hbs]
  rw [hbs] at HA
  obtain ⟨d0, hd0⟩ : ∃ d, (val == []) = d := ⟨_, rfl⟩
  have D0 := Lib.hid (show decide (val = []) = d0 by rw [← hd0, Bool.eq_iff_iff]; simp)
  clear hn ha hR hbs
  go_enter Try.func27, Try.ntmps27
  have hd1 : val.isEmpty = d0 := by rw [← hd0]; cases val <;> rfl
  go_wp2
  rw [D0.out] at HR
  go_loopw [7, 8, 9] (fun v d i wr => ∃ (k : Nat) (acc : List T) (dn : Bool), k ≤ n ∧ i = .int .i64 k ∧ d = .bool dn ∧ Hid (OwnG wr bs v acc) ∧ Hid (acc ++ putF key val (l.drop k) dn = R) ∧ Hid (acc.length ≤ 2 * k) ∧ Hid (Below bs w wr)) (fun _ _ i _ => n - (Lx.intOf i).toNat)
  case atStart => exact ⟨0, [], d0, by omega, rfl, rfl, Lib.hid (OwnG.nil _ _), Lib.hid (by rw [List.drop_zero]; exact HR.out), Lib.hid (Nat.zero_le _), Lib.hid (Below.refl _ _)⟩
  case round =>
    obtain ⟨k, acc, dn, hk, rfl, rfl, HO, HE, HL, HK⟩ := hrel
    by_cases hlt : k < n
    · have hkl : k < l.length := by rw [HN.out]; exact hlt
      have hlt2 : (k : Int) < (n : Int) := by omega
      obtain ⟨g, off, rfl, hg, x0, x1⟩ := (HA.out.below HK.out (Nat.le_refl _)).at_ hkl
      have HS := Lib.hid (drop_put (k := key) (v := val) hkl dn)
      have hkk : l[k] = (l[k].1, l[k].2) := rfl
      generalize l[k].1 = ky at *
      generalize l[k].2 = vl at *
      rw [hkk] at HS
      obtain ⟨al, cl, rfl, hcl, _, _⟩ := HO.out.tags
      have hl1 : acc.length ≤ 20000 := by have := HL.out; omega
      have ZW := Lib.hid (show bs ≤ wr.heap.size from Nat.le_trans HB.out HK.out.size)
      obtain ⟨q, hq⟩ : ∃ q, Op.bytesLess ky key = q := ⟨_, rfl⟩
      have HQ := Lib.hid (show decide (ky < key) = q by rw [← hq, bytesLess_eq])
      have T0 : ∀ W : World, Below bs w W → bs ≤ W.heap.size := fun W h => Nat.le_trans HB.out h.size
      clear hkk hkl hcl
      by_cases he : ky = key
      · have NE := Lib.hid (show (ky = key) = True from eq_true he)
        have e3 : (ky == key) = true := by rw [beq_iff_eq]; exact he
        have e4 : (ky != key) = false := by rw [bne, e3]; rfl
        clear he
        cases dn with
        | true =>
          cases q with
          | false =>
            go_wp2
            go_roundw
            case rel => exact ⟨k + 1, acc, true, by omega, by go_num, rfl, HO, Lib.hid (by rw [← HE.out, HS.out, HQ.out]; simp [NE.out]), Lib.hid (by have := HL.out; omega), HK⟩
            case measure => simp [Lx.intOf]; omega
          | true =>
            go_wp2
            go_roundw
            case rel => exact ⟨k + 1, acc, true, by omega, by go_num, rfl, HO, Lib.hid (by rw [← HE.out, HS.out, HQ.out]; simp [NE.out]), Lib.hid (by have := HL.out; omega), HK⟩
            case measure => simp [Lx.intOf]; omega
        | false =>
          cases q with
          | false =>
            have ow := HO.out.below (alloc1 wr (.cells #[.string ⟨key.toArray⟩, .string ⟨val.toArray⟩] 43))
            have tg := tags_one wr key val
            have hz := Nat.le_trans ZW.out (alloc1 wr (.cells #[.string ⟨key.toArray⟩, .string ⟨val.toArray⟩] 43)).size
            go_upto_region 8 with (at_builtin; refine wpList_appG rfl _ _ (by rfl) bs _ acc [(key, val)] (some ⟨wr.heap.size, 0, none⟩) 1 1 (by rfl) ow (by rfl) tg rfl (by omega) hz ?_; intro v6 w6 ho6 hg6 hlt6)
            have O6 := Lib.hid ho6
            have B6 := Lib.hid ((HK.out.trans ((alloc1 wr _).mono ZW.out)).grown hg6 hz (fun k hk => (hlt6 k hk).1))
            have LT := Lib.hid (show ∀ i v, wr.cell? ⟨g, i, none⟩ = some v → w6.cell? ⟨g, i, none⟩ = some v from fun i v h => (show wr.cell? ⟨g, i, none⟩ = some v ↔ w6.cell? ⟨g, i, none⟩ = some v from by
              rw [(HK.out.cell (p := ⟨g, i, none⟩) hg), (B6.out.cell (p := ⟨g, i, none⟩) hg)]).1 h)
            have x0 := LT.out _ _ x0
            have x1 := LT.out _ _ x1
            obtain ⟨al6, cl6, rfl, hcl6, _, _⟩ := O6.out.tags
            have hl6 : (acc ++ [(key, val)]).length ≤ 20001 := by simp; omega
            obtain ⟨acc6, hacc6⟩ : ∃ a, acc ++ [(key, val)] = a := ⟨_, rfl⟩
            have LA6 := Lib.hid (show acc6.length = acc.length + 1 by rw [← hacc6]; simp)
            rw [hacc6] at O6 hl6 ⊢
            have HA6 := Lib.hid hacc6
            have ZW6 := Lib.hid (T0 _ B6.out)
            clear ow tg hz ho6 hg6 hlt6 LT hacc6 hcl6 ZW HO
            go_wp2
            go_roundw
            case rel => exact ⟨k + 1, acc6, true, by omega, by go_num, rfl, O6, Lib.hid (by rw [← HA6.out]; rw [← HE.out, HS.out, HQ.out]; simp [NE.out]), Lib.hid (by have := HL.out; have := LA6.out; omega), B6⟩
            case measure => simp [Lx.intOf]; omega
          | true =>
            go_wp2
            go_roundw
            case rel => exact ⟨k + 1, acc, false, by omega, by go_num, rfl, HO, Lib.hid (by rw [← HE.out, HS.out, HQ.out]; simp [NE.out]), Lib.hid (by have := HL.out; omega), HK⟩
            case measure => simp [Lx.intOf]; omega
      · have NE := Lib.hid (show (ky = key) = False from eq_false he)
        have e3 : (ky == key) = false := by rw [beq_eq_false_iff_ne]; exact he
        have e4 : (ky != key) = true := by rw [bne, e3]; rfl
        clear he
        cases dn with
        | true =>
          cases q with
          | false =>
            have ow := HO.out.below (alloc1 wr (.cells #[.string ⟨ky.toArray⟩, .string ⟨vl.toArray⟩] 43))
            have tg := tags_one wr ky vl
            have hz := Nat.le_trans ZW.out (alloc1 wr (.cells #[.string ⟨ky.toArray⟩, .string ⟨vl.toArray⟩] 43)).size
            go_wp2_with (at_builtin; refine wpList_appG rfl _ _ (by rfl) bs _ acc [(ky, vl)] (some ⟨wr.heap.size, 0, none⟩) 1 1 (by rfl) ow (by rfl) tg rfl (by omega) hz ?_; intro v7 w7 ho7 hg7 hlt7)
            have O7 := Lib.hid ho7
            have B7 := Lib.hid ((HK.out.trans ((alloc1 wr _).mono ZW.out)).grown hg7 hz (fun k hk => (hlt7 k hk).1))
            clear ow tg hz ho7 hg7 hlt7
            go_wp2
            go_roundw
            case rel => exact ⟨k + 1, acc ++ [(ky, vl)], true, by omega, by go_num, rfl, O7, Lib.hid (by rw [← HE.out, HS.out, HQ.out]; simp [NE.out]), Lib.hid (by have := HL.out; rw [List.length_append, List.length_singleton]; omega), B7⟩
            case measure => simp [Lx.intOf]; omega
          | true =>
            have ow := HO.out.below (alloc1 wr (.cells #[.string ⟨ky.toArray⟩, .string ⟨vl.toArray⟩] 43))
            have tg := tags_one wr ky vl
            have hz := Nat.le_trans ZW.out (alloc1 wr (.cells #[.string ⟨ky.toArray⟩, .string ⟨vl.toArray⟩] 43)).size
            go_wp2_with (at_builtin; refine wpList_appG rfl _ _ (by rfl) bs _ acc [(ky, vl)] (some ⟨wr.heap.size, 0, none⟩) 1 1 (by rfl) ow (by rfl) tg rfl (by omega) hz ?_; intro v7 w7 ho7 hg7 hlt7)
            have O7 := Lib.hid ho7
            have B7 := Lib.hid ((HK.out.trans ((alloc1 wr _).mono ZW.out)).grown hg7 hz (fun k hk => (hlt7 k hk).1))
            clear ow tg hz ho7 hg7 hlt7
            go_wp2
            go_roundw
            case rel => exact ⟨k + 1, acc ++ [(ky, vl)], true, by omega, by go_num, rfl, O7, Lib.hid (by rw [← HE.out, HS.out, HQ.out]; simp [NE.out]), Lib.hid (by have := HL.out; rw [List.length_append, List.length_singleton]; omega), B7⟩
            case measure => simp [Lx.intOf]; omega
        | false =>
          cases q with
          | false =>
            have ow := HO.out.below (alloc1 wr (.cells #[.string ⟨key.toArray⟩, .string ⟨val.toArray⟩] 43))
            have tg := tags_one wr key val
            have hz := Nat.le_trans ZW.out (alloc1 wr (.cells #[.string ⟨key.toArray⟩, .string ⟨val.toArray⟩] 43)).size
            go_upto_region 8 with (at_builtin; refine wpList_appG rfl _ _ (by rfl) bs _ acc [(key, val)] (some ⟨wr.heap.size, 0, none⟩) 1 1 (by rfl) ow (by rfl) tg rfl (by omega) hz ?_; intro v6 w6 ho6 hg6 hlt6)
            have O6 := Lib.hid ho6
            have B6 := Lib.hid ((HK.out.trans ((alloc1 wr _).mono ZW.out)).grown hg6 hz (fun k hk => (hlt6 k hk).1))
            have LT := Lib.hid (show ∀ i v, wr.cell? ⟨g, i, none⟩ = some v → w6.cell? ⟨g, i, none⟩ = some v from fun i v h => (show wr.cell? ⟨g, i, none⟩ = some v ↔ w6.cell? ⟨g, i, none⟩ = some v from by
              rw [(HK.out.cell (p := ⟨g, i, none⟩) hg), (B6.out.cell (p := ⟨g, i, none⟩) hg)]).1 h)
            have x0 := LT.out _ _ x0
            have x1 := LT.out _ _ x1
            obtain ⟨al6, cl6, rfl, hcl6, _, _⟩ := O6.out.tags
            have hl6 : (acc ++ [(key, val)]).length ≤ 20001 := by simp; omega
            obtain ⟨acc6, hacc6⟩ : ∃ a, acc ++ [(key, val)] = a := ⟨_, rfl⟩
            have LA6 := Lib.hid (show acc6.length = acc.length + 1 by rw [← hacc6]; simp)
            rw [hacc6] at O6 hl6 ⊢
            have HA6 := Lib.hid hacc6
            have ZW6 := Lib.hid (T0 _ B6.out)
            clear ow tg hz ho6 hg6 hlt6 LT hacc6 hcl6 ZW HO
            have ow := O6.out.below (alloc1 w6 (.cells #[.string ⟨ky.toArray⟩, .string ⟨vl.toArray⟩] 43))
            have tg := tags_one w6 ky vl
            have hz := Nat.le_trans ZW6.out (alloc1 w6 (.cells #[.string ⟨ky.toArray⟩, .string ⟨vl.toArray⟩] 43)).size
            go_wp2_with (at_builtin; refine wpList_appG rfl _ _ (by rfl) bs _ acc6 [(ky, vl)] (some ⟨w6.heap.size, 0, none⟩) 1 1 (by rfl) ow (by rfl) tg rfl (by omega) hz ?_; intro v7 w7 ho7 hg7 hlt7)
            have O7 := Lib.hid ho7
            have B7 := Lib.hid ((B6.out.trans ((alloc1 w6 _).mono ZW6.out)).grown hg7 hz (fun k hk => (hlt7 k hk).1))
            clear ow tg hz ho7 hg7 hlt7
            go_wp2
            go_roundw
            case rel => exact ⟨k + 1, acc6 ++ [(ky, vl)], true, by omega, by go_num, rfl, O7, Lib.hid (by rw [← HA6.out]; rw [← HE.out, HS.out, HQ.out]; simp [NE.out]), Lib.hid (by have := HL.out; have := LA6.out; rw [List.length_append, List.length_singleton]; omega), B7⟩
            case measure => simp [Lx.intOf]; omega
          | true =>
            have ow := HO.out.below (alloc1 wr (.cells #[.string ⟨ky.toArray⟩, .string ⟨vl.toArray⟩] 43))
            have tg := tags_one wr ky vl
            have hz := Nat.le_trans ZW.out (alloc1 wr (.cells #[.string ⟨ky.toArray⟩, .string ⟨vl.toArray⟩] 43)).size
            go_wp2_with (at_builtin; refine wpList_appG rfl _ _ (by rfl) bs _ acc [(ky, vl)] (some ⟨wr.heap.size, 0, none⟩) 1 1 (by rfl) ow (by rfl) tg rfl (by omega) hz ?_; intro v7 w7 ho7 hg7 hlt7)
            have O7 := Lib.hid ho7
            have B7 := Lib.hid ((HK.out.trans ((alloc1 wr _).mono ZW.out)).grown hg7 hz (fun k hk => (hlt7 k hk).1))
            clear ow tg hz ho7 hg7 hlt7
            go_wp2
            go_roundw
            case rel => exact ⟨k + 1, acc ++ [(ky, vl)], false, by omega, by go_num, rfl, O7, Lib.hid (by rw [← HE.out, HS.out, HQ.out]; simp [NE.out]), Lib.hid (by have := HL.out; rw [List.length_append, List.length_singleton]; omega), B7⟩
            case measure => simp [Lx.intOf]; omega
    · obtain rfl : n = k := by omega
      have HE2 := Lib.hid (show acc ++ (if dn then [] else [(key, val)]) = R by
        have := HE.out
        rw [List.drop_of_length_le (by rw [HN.out]; exact Nat.le_refl _), putF] at this
        exact this)
      obtain ⟨al, cl, rfl, hcl, _, _⟩ := HO.out.tags
      have hl1 : acc.length ≤ 20000 := by have := HL.out; omega
      have ZW := Lib.hid (show bs ≤ wr.heap.size from Nat.le_trans HB.out HK.out.size)
      cases dn with
      | true =>
        obtain rfl : acc = R := by simpa using HE2.out
        go_wp2
        go_ret
        exact ⟨⟨_, rfl, HO.out⟩, HK.out⟩
      | false =>
        have ow := HO.out.below (alloc1 wr (.cells #[.string ⟨key.toArray⟩, .string ⟨val.toArray⟩] 43))
        have tg := tags_one wr key val
        have hz := Nat.le_trans ZW.out (alloc1 wr (.cells #[.string ⟨key.toArray⟩, .string ⟨val.toArray⟩] 43)).size
        go_wp2_with (at_builtin; refine wpList_appG rfl _ _ (by rfl) bs _ acc [(key, val)] (some ⟨wr.heap.size, 0, none⟩) 1 1 (by rfl) ow (by rfl) tg rfl (by omega) hz ?_; intro v7 w7 ho7 hg7 hlt7)
        have O7 := Lib.hid (show OwnG w7 bs v7 R from HE2.out ▸ ho7)
        have B7 := Lib.hid ((HK.out.trans ((alloc1 wr _).mono ZW.out)).grown hg7 hz (fun k hk => (hlt7 k hk).1))
        clear ow tg hz ho7 hg7 hlt7
        go_wp2
        go_ret
        exact ⟨⟨_, rfl, O7.out⟩, B7.out⟩
end Go.Proofs.Ytlknbjaippfemaa.Tg
/- tag: the reference's Set and Text. -/
namespace Go.Proofs.Ytlknbjaippfemaa.Tg
open Go.RowKit
open Lx (IsRow alloc1 drew_below nmB app_list str_of str_eq str_size)
set_option maxRecDepth 100000 in
set_option maxHeartbeats 4000000 in
theorem refSet_any (ao : Option Addr) (n cap : Nat) (l : List T) (key val : B) (w : World) (hn : l.length = n) (ha : TagsT w w.heap.size ao l) (hc : n ≤ cap) (hS : Siz l) (hk : key.length ≤ 100000) :
    Calls Try.prog 9 #[.slice ao n cap, .string ⟨key.toArray⟩, .string ⟨val.toArray⟩] w (SOut w (setR l key val)) := by
  obtain ⟨r, hr⟩ : ∃ r, setR l key val = r := ⟨_, rfl⟩
  rw [hr]
  have HR := Lib.hid hr
  have HN := Lib.hid hn
  have HA := Lib.hid ha
  have HC := Lib.hid hc
  obtain ⟨v, hv⟩ : ∃ v, vld l = v := ⟨_, rfl⟩
  have HV := Lib.hid hv
  have KV := Lib.hid (refValid_any ao n cap l w hn ha hc hS)
  rw [hv] at KV
  have KN := Lib.hid (fun W => Lx.name_ref ⟨key.toArray⟩ W (by rw [str_size]; exact hk))
  rw [str_eq] at KN
  obtain ⟨nm, hnm⟩ : ∃ b, nmB key = b := ⟨_, rfl⟩
  have NM := Lib.hid hnm
  rw [hnm] at KN
  clear hr hn ha hc hS hv hnm hk
  go_enter Try.func9, Try.ntmps9
  go_wp2_with fail
  refine KV.out.mono ?_
  rintro e w1 ⟨rfl, b1⟩
  have B1 := Lib.hid b1
  clear b1 KV
  cases v with
  | false =>
    obtain rfl : (([], 1) : List T × Int) = r := by rw [← HR.out]; unfold setR; rw [if_pos (.inl HV.out)]
    go_wp2
    go_ret2
    exact ⟨⟨_, rfl, OwnG.nil _ _⟩, B1.out⟩
  | true =>
  have KN1 := Lib.hid (KN.out w1)
  go_wp2_with fail
  refine KN1.out.mono ?_
  rintro e w2 ⟨rfl, rfl⟩
  clear KN KN1
  cases nm with
  | false =>
    obtain rfl : (([], 1) : List T × Int) = r := by rw [← HR.out]; unfold setR; rw [if_pos (.inr (.inl NM.out))]
    go_wp2
    go_ret2
    exact ⟨⟨_, rfl, OwnG.nil _ _⟩, B1.out⟩
  | true =>
  by_cases h2 : 200 < val.length
  · have h3 : (200 : Int) < (val.length : Int) := by omega
    obtain rfl : (([], 1) : List T × Int) = r := by rw [← HR.out]; unfold setR; rw [if_pos (.inr (.inr h2))]
    go_wp2
    go_ret2
    exact ⟨⟨_, rfl, OwnG.nil _ _⟩, B1.out⟩
  have h3 : ¬ (200 : Int) < (val.length : Int) := by omega
  have HR2 := Lib.hid (show (if 60 < (setL l key val).length then ([], 2) else (setL l key val, 0)) = r by
    rw [← HR.out]
    unfold setR
    symm
    refine if_neg ?_
    rw [HV.out, NM.out]
    simp
    omega)
  have KP := Lib.hid (refPut_any ao n cap l key val w1 HN.out (HA.out.later B1.out) HC.out (by have := vld_few HV.out; rw [HN.out] at this; omega))
  rw [put_set (vld_inc HV.out)] at KP
  obtain ⟨L, hL⟩ : ∃ L, setL l key val = L := ⟨_, rfl⟩
  rw [hL] at KP HR2
  clear hL h2
  go_wp2_with fail
  refine KP.out.mono ?_
  rintro e w3 ⟨⟨v3, rfl, h3⟩, b3⟩
  have B3 := Lib.hid (B1.out.trans (b3.mono B1.out.size))
  have O3 := Lib.hid (OwnG.down h3 B1.out.size)
  obtain ⟨al, cl, rfl, _, _, _⟩ := h3.tags
  clear b3 KP h3
  by_cases h6 : 60 < L.length
  · have h7 : (60 : Int) < (L.length : Int) := by omega
    obtain rfl : (([], 2) : List T × Int) = r := by have := HR2.out; rw [if_pos h6] at this; exact this
    go_wp2
    go_ret2
    exact ⟨⟨_, rfl, OwnG.nil _ _⟩, B3.out⟩
  · have h7 : ¬ (60 : Int) < (L.length : Int) := by omega
    obtain rfl : (L, (0 : Int)) = r := by have := HR2.out; rw [if_neg h6] at this; exact this
    go_wp2
    go_ret2
    exact ⟨⟨_, rfl, O3.out⟩, B3.out⟩
theorem ret_pair {a b : ByteArray} {v : Value} (h : a = b) : Ending.returned (.tuple #[.string a, v]) = Ending.returned (.tuple #[.string b, v]) := by rw [h]
set_option maxRecDepth 100000 in
set_option maxHeartbeats 4000000 in
theorem refText_any (ao : Option Addr) (n cap : Nat) (l : List T) (w : World) (hn : l.length = n) (ha : TagsT w w.heap.size ao l) (hc : n ≤ cap) (hS : Siz l) :
    Calls Try.prog 13 #[.slice ao n cap] w fun e w' => e = .returned (.tuple #[.string ⟨(textR l).1.toArray⟩, .int .i64 (textR l).2]) ∧ Below w.heap.size w w' := by
  have HA := Lib.hid ha
  have HN := Lib.hid hn
  have HS := Lib.hid hS
  have hc' : (n : Int) ≤ (cap : Int) := by omega
  obtain ⟨t1, ht1⟩ : ∃ x, (textR l).1 = x := ⟨_, rfl⟩
  obtain ⟨t2, ht2⟩ : ∃ x, (textR l).2 = x := ⟨_, rfl⟩
  rw [ht1, ht2]
  have HT := Lib.hid (show textR l = (t1, t2) by rw [← ht1, ← ht2])
  have KV := Lib.hid (refValid_any ao n cap l w hn ha hc hS)
  obtain ⟨v, hv⟩ : ∃ v, vld l = v := ⟨_, rfl⟩
  have HV := Lib.hid hv
  rw [hv] at KV
  clear hn ha hS ht1 ht2 hv
  go_enter Try.func13, Try.ntmps13
  go_wp2_with fail
  refine KV.out.mono ?_
  rintro e w1 ⟨rfl, b1⟩
  have B1 := Lib.hid b1
  have HA1 := Lib.hid (HA.out.later b1)
  clear b1 KV HA
  cases v with
  | false =>
    obtain ⟨rfl, rfl⟩ : ([] : B) = t1 ∧ (1 : Int) = t2 := by
      have := HT.out
      unfold textR at this
      rw [HV.out] at this
      exact ⟨congrArg Prod.fst this, congrArg Prod.snd this⟩
    go_wp2
    go_ret2
    exact ⟨rfl, B1.out⟩
  | true =>
  have n60 : (n : Int) ≤ 60 := by
    have := vld_few HV.out
    rw [HN.out] at this
    omega
  have TL := Lib.hid (fun k => txt_len l k HS.out)
  have HT2 := Lib.hid (show (if 20000 < (txtL l).length then ([], 2) else (txtL l, 0)) = (t1, t2) by
    have := HT.out
    unfold textR at this
    rw [HV.out, if_pos rfl] at this
    exact this)
  clear HT
  go_wp2
  go_loopw [4, 5] (fun s i wr => ∃ (q : ByteArray) (k : Nat), k ≤ n ∧ q.size ≤ 24000000 ∧ s = .string q ∧ i = .int .i64 k ∧ Hid (q = ⟨(txtL (l.take k)).toArray⟩) ∧ Hid (Below w1.heap.size w1 wr)) (fun _ i _ => n - (Lx.intOf i).toNat)
  case atStart => exact ⟨⟨#[]⟩, 0, by omega, by decide, rfl, rfl, Lib.hid rfl, Lib.hid (Below.refl _ _)⟩
  case round =>
    obtain ⟨q, k, hk, hq, rfl, rfl, HQ, HK⟩ := hrel
    by_cases hlt : k < n
    · have hkl : k < l.length := by rw [HN.out]; exact hlt
      have hlt2 : (k : Int) < (n : Int) := by omega
      obtain ⟨g, off, rfl, hg, x0, x1⟩ := (HA1.out.below HK.out (Nat.le_refl _)).at_ hkl
      have hsz := HS.out _ (List.getElem_mem hkl)
      have hst := Lib.hid (show txtL (l.take (k + 1)) = txtL (l.take k) ++ (if k = 0 then [] else [32]) ++ txt1 l[k] by
        rw [List.take_succ_eq_append_getElem hkl, txt_snoc]
        congr 2
        by_cases h0 : k = 0
        · rw [if_pos h0, h0]; rfl
        · rw [if_neg h0, if_neg]
          intro e
          have h1 : (l.take k).length = 0 := by rw [e]; rfl
          rw [List.length_take] at h1
          omega)
      have hbig := TL.out (k + 1)
      have hbig2 : (txtL (l.take (k + 1))).length ≤ 24000000 := by
        have : (k + 1) * 400000 ≤ 60 * 400000 := Nat.mul_le_mul_right _ (by omega)
        omega
      generalize l[k] = t at *
      obtain ⟨ky, vl⟩ := t
      dsimp only at x0 x1 hsz
      have KQ := fun W => Lx.quote_ref ⟨vl.toArray⟩ W (by rw [str_size]; exact hsz.2)
      have hqv : (ByteArray.mk (Lx.quote (ByteArray.mk vl.toArray).data.toList).toArray).size ≤ 200002 := by
        rw [str_size, str_eq]
        have := quote_len vl
        have := hsz.2
        omega
      have hky : (ByteArray.mk ky.toArray).size ≤ 100000 := by rw [str_size]; exact hsz.1
      have HX := Lib.hid (show ∀ p : ByteArray, p.data.toList = q.data.toList ++ (if k = 0 then [] else [32]) ++ ky ++ [61] ++ Lx.quote vl → p.size ≤ 24000000 ∧ p = ⟨(txtL (l.take (k + 1))).toArray⟩ from fun p hp => by
        have e : p = ⟨(txtL (l.take (k + 1))).toArray⟩ := str_of (by
          rw [hp, HQ.out, str_eq, hst.out]
          unfold txt1
          simp)
        exact ⟨by rw [e, str_size]; exact hbig2, e⟩)
      have KQ2 : ∀ W, Calls Try.prog 37 #[.string ⟨vl.toArray⟩] W fun e w' => e = .returned (.string ⟨(Lx.quote (ByteArray.mk vl.toArray).data.toList).toArray⟩) ∧ w' = W := fun W => (KQ W).mono fun e w' h => ⟨h.1, h.2.symm⟩
      have EK := Lib.hid (show (ByteArray.mk ky.toArray).data.toList = ky from str_eq ky)
      have EV := Lib.hid (show (ByteArray.mk (Lx.quote (ByteArray.mk vl.toArray).data.toList).toArray).data.toList = Lx.quote vl from by rw [str_eq, str_eq])
      generalize ByteArray.mk (Lx.quote (ByteArray.mk vl.toArray).data.toList).toArray = qv at *
      generalize ByteArray.mk ky.toArray = kyb at *
      clear KQ hbig hbig2 hkl hsz hst
      by_cases h0 : 0 < k
      · have hd : (0 : Int) < (k : Int) := by omega
        rw [if_neg (show k ≠ 0 by omega)] at HX
        clear h0
        go_upto_region 9 with fail
        go_quiet ((go_at_call 37; exact Calls.quiet_of_same (KQ2 _)))
        go_wp2
        go_roundw
        case rel => exact ⟨_, k + 1, by omega, (HX.out _ (by simp only [app_list, EK.out, EV.out])).1, rfl, by go_num, Lib.hid (HX.out _ (by simp only [app_list, EK.out, EV.out])).2, Lib.hid (HK.out.trans ((drewN_below3 _ _).mono HK.out.size))⟩
        case measure => simp [Lx.intOf]; omega
      · have hd : ¬ (0 : Int) < (k : Int) := by omega
        rw [if_pos (show k = 0 by omega)] at HX
        clear h0
        go_upto_region 9 with fail
        go_quiet ((go_at_call 37; exact Calls.quiet_of_same (KQ2 _)))
        go_wp2
        go_roundw
        case rel => exact ⟨_, k + 1, by omega, (HX.out _ (by simp [EK.out, EV.out])).1, rfl, by go_num, Lib.hid (HX.out _ (by simp [EK.out, EV.out])).2, Lib.hid (HK.out.trans ((drewN_below3 _ _).mono HK.out.size))⟩
        case measure => simp [Lx.intOf]; omega
    · obtain rfl : k = n := by omega
      have HF := Lib.hid (show q = ⟨(txtL l).toArray⟩ by rw [HQ.out, ← HN.out, List.take_length])
      have HL := Lib.hid (show q.size = (txtL l).length by rw [HF.out, str_size])
      by_cases hb : 20000 < (txtL l).length
      · have hb2 : (20000 : Int) < (q.size : Int) := by have := HL.out; omega
        obtain ⟨rfl, rfl⟩ : ([] : B) = t1 ∧ (2 : Int) = t2 := by
          have := HT2.out
          rw [if_pos hb] at this
          exact ⟨congrArg Prod.fst this, congrArg Prod.snd this⟩
        clear hb
        go_wp2
        go_ret2
        exact ⟨rfl, B1.out.trans (HK.out.mono B1.out.size)⟩
      · have hb2 : ¬ (20000 : Int) < (q.size : Int) := by have := HL.out; omega
        obtain ⟨rfl, rfl⟩ : txtL l = t1 ∧ (0 : Int) = t2 := by
          have := HT2.out
          rw [if_neg hb] at this
          exact ⟨congrArg Prod.fst this, congrArg Prod.snd this⟩
        clear hb
        go_wp2
        go_ret2
        exact ⟨ret_pair HF.out, B1.out.trans (HK.out.mono B1.out.size)⟩
end Go.Proofs.Ytlknbjaippfemaa.Tg
/- tag: the reference's Merge. -/
namespace Go.Proofs.Ytlknbjaippfemaa.Tg
open Go.RowKit
open Lx (IsRow alloc1 drew_below nmB)
theorem ownG_made (w : World) (base : Nat) (hb : base ≤ w.heap.size) : OwnG (w.alloc (.cells #[] 43)) base (.slice (some ⟨w.heap.size, 0, none⟩) 0 0) [] :=
  ⟨rfl, .inr ⟨w.heap.size, 0, #[], rfl, hb, by unfold World.alloc; simp, Nat.le_refl _, Nat.zero_le _, rfl, rfl⟩⟩
theorem quiet_mergeR {b o t : List T} (h : vld b = false ∨ vld o = false ∨ vld t = false) : mergeR b o t = ([], []) := by
  unfold mergeR
  rcases h with h | h | h <;> simp [h]
theorem mergeR_keys {b o t : List T} (hb : vld b = true) (ho : vld o = true) (ht : vld t = true) :
    mergeR b o t = mrgL (fun k => oneR (getV b k) (getV o k) (getV t k)) ((putAll (b ++ o ++ t)).map Prod.fst) := by
  unfold mergeR
  rw [hb, ho, ht, putAll_keys (fun u hu => by
    rcases List.mem_append.1 hu with hu | hu
    · rcases List.mem_append.1 hu with hu | hu
      · exact vld_val hb hu
      · exact vld_val ho hu
    · exact vld_val ht hu)]
  unfold keysR
  simp
set_option maxRecDepth 100000 in
set_option maxHeartbeats 8000000 in
theorem refMerge_any (a1 a2 a3 : Option Addr) (n1 n2 n3 c1 c2 c3 : Nat) (l1 l2 l3 : List T) (w : World) (hn1 : l1.length = n1) (hn2 : l2.length = n2) (hn3 : l3.length = n3) (h1 : TagsT w w.heap.size a1 l1) (h2 : TagsT w w.heap.size a2 l2) (h3 : TagsT w w.heap.size a3 l3)
    (hc1 : n1 ≤ c1) (hc2 : n2 ≤ c2) (hc3 : n3 ≤ c3) (s1 : Siz l1) (s2 : Siz l2) (s3 : Siz l3) :
    Calls Try.prog 11 #[.slice a1 n1 c1, .slice a2 n2 c2, .slice a3 n3 c3] w (MOut w (mergeR l1 l2 l3)) := by
  obtain ⟨v1, hv1⟩ : ∃ v, vld l1 = v := ⟨_, rfl⟩
  obtain ⟨v2, hv2⟩ : ∃ v, vld l2 = v := ⟨_, rfl⟩
  obtain ⟨v3, hv3⟩ : ∃ v, vld l3 = v := ⟨_, rfl⟩
  obtain ⟨r, hr⟩ : ∃ r, mergeR l1 l2 l3 = r := ⟨_, rfl⟩
  have HR := Lib.hid hr
  have HQ := Lib.hid (fun h => (quiet_mergeR (b := l1) (o := l2) (t := l3) h).symm.trans hr)
  rw [hr]
  have N1 := Lib.hid hn1
  have N2 := Lib.hid hn2
  have N3 := Lib.hid hn3
  have H1 := Lib.hid h1
  have H2 := Lib.hid h2
  have H3 := Lib.hid h3
  have X1 := Lib.hid hc1
  have X2 := Lib.hid hc2
  have X3 := Lib.hid hc3
  have S1 := Lib.hid s1
  have S2 := Lib.hid s2
  have S3 := Lib.hid s3
  have V1 := Lib.hid hv1
  have V2 := Lib.hid hv2
  have V3 := Lib.hid hv3
  have KV1 := Lib.hid (refValid_any a1 n1 c1 l1 w hn1 h1 hc1 s1)
  rw [hv1] at KV1
  clear hr hn1 hn2 hn3 h1 h2 h3 hc1 hc2 hc3 s1 s2 s3 hv1 hv2 hv3
  go_enter Try.func11, Try.ntmps11
  go_wp2_with fail
  refine KV1.out.mono ?_
  rintro e w1 ⟨rfl, b1⟩
  have B1 := Lib.hid b1
  clear b1 KV1
  cases v1 with
  | false =>
    obtain rfl : (([], []) : List T × List B) = r := HQ.out (.inl V1.out)
    go_wp2
    go_ret2
    exact ⟨⟨_, _, rfl, OwnG.nil _ _, OwnC.nil _ _⟩, B1.out⟩
  | true =>
  have KV2 := Lib.hid (refValid_any a2 n2 c2 l2 w1 N2.out (H2.out.later B1.out) X2.out S2.out)
  rw [V2.out] at KV2
  go_wp2_with fail
  refine KV2.out.mono ?_
  rintro e w2 ⟨rfl, b2⟩
  have B2 := Lib.hid (B1.out.trans (b2.mono B1.out.size))
  clear b2 KV2 B1
  cases v2 with
  | false =>
    obtain rfl : (([], []) : List T × List B) = r := HQ.out (.inr (.inl V2.out))
    go_wp2
    go_ret2
    exact ⟨⟨_, _, rfl, OwnG.nil _ _, OwnC.nil _ _⟩, B2.out⟩
  | true =>
  have KV3 := Lib.hid (refValid_any a3 n3 c3 l3 w2 N3.out (H3.out.later B2.out) X3.out S3.out)
  rw [V3.out] at KV3
  go_wp2_with fail
  refine KV3.out.mono ?_
  rintro e w3 ⟨rfl, b3⟩
  have B3 := Lib.hid (B2.out.trans (b3.mono B2.out.size))
  clear b3 KV3 B2
  cases v3 with
  | false =>
    obtain rfl : (([], []) : List T × List B) = r := HQ.out (.inr (.inr V3.out))
    go_wp2
    go_ret2
    exact ⟨⟨_, _, rfl, OwnG.nil _ _, OwnC.nil _ _⟩, B3.out⟩
  | true =>
  obtain ⟨f, hf⟩ : ∃ f : B → B × Bool, (fun k => oneR (getV l1 k) (getV l2 k) (getV l3 k)) = f := ⟨_, rfl⟩
  have HF := Lib.hid (show ∀ k, oneR (getV l1 k) (getV l2 k) (getV l3 k) = f k from fun k => by rw [← hf])
  have HR2 := Lib.hid (show mrgL f ((putAll (l1 ++ l2 ++ l3)).map Prod.fst) = r by
    rw [← HR.out, mergeR_keys V1.out V2.out V3.out, hf])
  have M1 := Lib.hid (show n1 ≤ 60 by have := vld_len V1.out; rw [N1.out] at this; exact this)
  have M2 := Lib.hid (show n2 ≤ 60 by have := vld_len V2.out; rw [N2.out] at this; exact this)
  have M3 := Lib.hid (show n3 ≤ 60 by have := vld_len V3.out; rw [N3.out] at this; exact this)
  clear hf HR HQ
  obtain ⟨bs, hbs⟩ : ∃ b, w3.heap.size = b := ⟨_, rfl⟩
  have A1 := Lib.hid (show TagsT w3 bs a1 l1 from hbs ▸ H1.out.later B3.out)
  have A2 := Lib.hid (show TagsT w3 bs a2 l2 from hbs ▸ H2.out.later B3.out)
  have A3 := Lib.hid (show TagsT w3 bs a3 l3 from hbs ▸ H3.out.later B3.out)
  have ZB := Lib.hid (show bs ≤ w3.heap.size from Nat.le_of_eq hbs.symm)
  have BZ := Lib.hid (show w.heap.size ≤ bs from hbs ▸ B3.out.size)
  have own0 := ownG_made w3 bs (Nat.le_of_eq hbs.symm)
  have bel0 : Below bs w3 (w3.alloc (.cells #[] 43)) := by rw [← hbs]; exact alloc1 _ _
  have hz0 : bs ≤ (w3.alloc (.cells #[] 43)).heap.size := Nat.le_trans (Nat.le_of_eq hbs.symm) (alloc1 w3 (.cells #[] 43)).size
  have tg0 : TagsT (w3.alloc (.cells #[] 43)) (w3.alloc (.cells #[] 43)).heap.size a1 l1 := (A1.out.below bel0 (Nat.le_refl _)).more hz0
  have T0 : ∀ W : World, Below bs w3 W → bs ≤ W.heap.size := fun W h => Nat.le_trans (Nat.le_of_eq hbs.symm) h.size
  clear H1 H2 H3 hbs
  have m1 : n1 ≤ 60 := M1.out
  have m2 : n2 ≤ 60 := M2.out
  have m3 : n3 ≤ 60 := M3.out
  have e1 := N1.out
  have e2 := N2.out
  have e3 := N3.out
  go_upto_region 4 with (first
    | (at_builtin; refine wpList_appG rfl _ _ (by rfl) bs _ [] l1 a1 n1 c1 (by rfl) own0 (by rfl) tg0 N1.out.symm (by simp; omega) hz0 ?_; intro v4 w4 ho4 hg4 hlt4; have B4 := bel0.grown hg4 hz0 (fun k hk => (hlt4 k hk).1); have t4 := (A2.out.below B4 (Nat.le_refl _)).more (T0 _ B4); have z4 := T0 _ B4; clear hg4 hlt4 tg0 own0)
    | (at_builtin; refine wpList_appG rfl _ _ (by rfl) bs _ ([] ++ l1) l2 a2 n2 c2 (by rfl) ho4 (by rfl) t4 N2.out.symm (by simp; omega) z4 ?_; intro v5 w5 ho5 hg5 hlt5; have B5 := B4.grown hg5 z4 (fun k hk => (hlt5 k hk).1); have t5 := (A3.out.below B5 (Nat.le_refl _)).more (T0 _ B5); have z5 := T0 _ B5; clear hg5 hlt5 ho4 t4)
    | (at_builtin; refine wpList_appG rfl _ _ (by rfl) bs _ ([] ++ l1 ++ l2) l3 a3 n3 c3 (by rfl) ho5 (by rfl) t5 N3.out.symm (by simp; omega) z5 ?_; intro v6 w6 ho6 hg6 hlt6; have B6' := B5.grown hg6 z5 (fun k hk => (hlt6 k hk).1)))
  have B6 := Lib.hid B6'
  obtain ⟨aA, cA, hv6, hcA, _, tA⟩ := ho6.tags
  obtain ⟨ALL, hALL⟩ : ∃ x, l1 ++ l2 ++ l3 = x := ⟨_, rfl⟩
  rw [show [] ++ l1 ++ l2 ++ l3 = ALL by rw [← hALL]; simp] at hv6 hcA tA
  obtain ⟨na, hna⟩ : ∃ n, ALL.length = n := ⟨_, rfl⟩
  have NA := Lib.hid hna
  have LA : na ≤ 180 := by rw [← hna, ← hALL]; simp; omega
  rw [hna] at hv6 hcA
  rw [hALL] at HR2
  subst hv6
  obtain ⟨b6, hb6⟩ : ∃ b, w6.heap.size = b := ⟨_, rfl⟩
  have TA := Lib.hid (show TagsT w6 b6 aA ALL from hb6 ▸ tA)
  have Q1 := Lib.hid (show TagsT w6 b6 a1 l1 from hb6 ▸ (A1.out.below B6.out (Nat.le_refl _)).more (T0 _ B6.out))
  have Q2 := Lib.hid (show TagsT w6 b6 a2 l2 from hb6 ▸ (A2.out.below B6.out (Nat.le_refl _)).more (T0 _ B6.out))
  have Q3 := Lib.hid (show TagsT w6 b6 a3 l3 from hb6 ▸ (A3.out.below B6.out (Nat.le_refl _)).more (T0 _ B6.out))
  have Z6 := Lib.hid (show b6 ≤ w6.heap.size from Nat.le_of_eq hb6.symm)
  have BZ6 := Lib.hid (show bs ≤ b6 from hb6 ▸ T0 _ B6.out)
  have hca' : (na : Int) ≤ (cA : Int) := by omega
  have hla' : (na : Int) ≤ 180 := by omega
  clear hALL hna ho6 hg6 hlt6 B6' B5 B4 z4 z5 t5 ho5 bel0 hz0 T0 A1 A2 A3 hcA tA hb6 e1 e2 e3
  go_wp2
  go_loopw [9, 10] (fun v i wr => ∃ k : Nat, k ≤ na ∧ i = .int .i64 k ∧ Hid (OwnG wr b6 v (putAll (ALL.take k))) ∧ Hid (Below b6 w6 wr)) (fun _ i _ => na - (Lx.intOf i).toNat)
  case atStart => exact ⟨0, by omega, rfl, Lib.hid (OwnG.nil _ _), Lib.hid (Below.refl _ _)⟩
  case round =>
    obtain ⟨k, hk, rfl, HO, HK⟩ := hrel
    by_cases hlt : k < na
    · have hkl : k < ALL.length := by rw [NA.out]; exact hlt
      have hlt2 : (k : Int) < (na : Int) := by omega
      obtain ⟨g, off, rfl, hg, x0, x1⟩ := (TA.out.below HK.out (Nat.le_refl _)).at_ hkl
      have hst := Lib.hid (putAll_snoc (ALL.take k) ALL[k])
      rw [← List.take_succ_eq_append_getElem hkl] at hst
      have hinc := Lib.hid (putAll_inc (ALL.take k))
      have hlen : (putAll (ALL.take k)).length ≤ 180 := Nat.le_trans (putAll_len _) (by rw [List.length_take]; omega)
      obtain ⟨L, hL⟩ : ∃ L, putAll (ALL.take k) = L := ⟨_, rfl⟩
      rw [hL] at HO hst hinc hlen
      clear hL
      generalize ALL[k] = t at *
      obtain ⟨ky, vl⟩ := t
      dsimp only at x0 x1 hst
      obtain ⟨aL, cL, rfl, hcL, _, tL⟩ := HO.out.tags
      have KP := Lib.hid (refPut_any aL L.length cL L ky vl wr.drew rfl tL hcL (by omega))
      rw [put_set hinc.out] at KP
      have BW := Lib.hid (show b6 ≤ wr.heap.size from Nat.le_trans Z6.out HK.out.size)
      clear hkl hcL tL hlen hinc
      go_upto_region 8 with fail
      go_region_with (go_at_call 27; refine KP.out.mono ?_; rintro e w7 ⟨⟨v7, rfl, ho7⟩, hb7⟩)
      all_goals
        have O7 := Lib.hid (show OwnG w7 b6 v7 (putAll (ALL.take (k + 1))) from by rw [hst.out]; exact OwnG.down ho7 BW.out)
        have B7 := Lib.hid (show Below b6 w6 w7 from (HK.out.trans ((drew_below wr).mono BW.out)).trans (hb7.mono BW.out))
        clear ho7 hb7 KP x0 x1 hst HO
        go_wp2
        go_roundw
        case rel => exact ⟨k + 1, by omega, by go_num, O7, B7⟩
        case measure => simp [Lx.intOf]; omega
    · obtain rfl : na = k := by omega
      have hO := HO.out
      rw [← NA.out, List.take_length] at hO
      obtain ⟨aK, cK, rfl, hcK, _, tK⟩ := hO.tags
      obtain ⟨KS, hKS⟩ : ∃ x, putAll ALL = x := ⟨_, rfl⟩
      rw [hKS] at HR2 hcK tK ⊢
      have LK : KS.length ≤ 180 := by rw [← hKS]; exact Nat.le_trans (putAll_len _) (by rw [NA.out]; exact LA)
      obtain ⟨nk, hnk⟩ : ∃ n, KS.length = n := ⟨_, rfl⟩
      rw [hnk] at hcK LK ⊢
      have NK := Lib.hid hnk
      have B7 := Lib.hid HK.out
      obtain ⟨b7, hb7⟩ : ∃ b, wr.heap.size = b := ⟨_, rfl⟩
      have TK := Lib.hid (show TagsT wr b7 aK KS from hb7 ▸ tK)
      have BW := Lib.hid (show b6 ≤ b7 from hb7 ▸ Nat.le_trans Z6.out HK.out.size)
      have R1 := Lib.hid ((Q1.out.below HK.out (Nat.le_refl _)).more BW.out)
      have R2 := Lib.hid ((Q2.out.below HK.out (Nat.le_refl _)).more BW.out)
      have R3 := Lib.hid ((Q3.out.below HK.out (Nat.le_refl _)).more BW.out)
      have Z7 := Lib.hid (show b7 ≤ wr.heap.size from Nat.le_of_eq hb7.symm)
      have hck' : (nk : Int) ≤ (cK : Int) := by omega
      have hlk' : (nk : Int) ≤ 180 := by omega
      obtain ⟨wk, hwk⟩ : ∃ x, x = wr := ⟨_, rfl⟩
      subst hwk
      have NM := Lib.hid (show (KS.map Prod.fst).length = nk by rw [List.length_map]; exact hnk)
      clear hKS hnk hO hcK tK hb7 HK HO
      go_wp2
      go_loopw [13, 11, 12] (fun i v u wr => ∃ k : Nat, k ≤ nk ∧ i = .int .i64 k ∧ Hid (OwnG wr b7 v (mrgL f ((KS.map Prod.fst).take k)).1) ∧ Hid (OwnC wr b7 u (mrgL f ((KS.map Prod.fst).take k)).2) ∧ Hid (Below b7 wk wr)) (fun i _ _ _ => nk - (Lx.intOf i).toNat)
      case atStart => exact ⟨0, by omega, rfl, Lib.hid (OwnG.nil _ _), Lib.hid (OwnC.nil _ _), Lib.hid (Below.refl _ _)⟩
      case round =>
        obtain ⟨k, hk, rfl, HO, HC, HK⟩ := hrel
        by_cases hlt : k < nk
        · have hkl : k < KS.length := by rw [NK.out]; exact hlt
          have hkm : k < (KS.map Prod.fst).length := by rw [NM.out]; exact hlt
          have hlt2 : (k : Int) < (nk : Int) := by omega
          obtain ⟨g, off, rfl, hg, x0, x1⟩ := (TK.out.below HK.out (Nat.le_refl _)).at_ hkl
          have hml := mrg_len f (KS.map Prod.fst) k
          have hst := mrg_snoc f (KS.map Prod.fst) k hkm
          rw [show (KS.map Prod.fst)[k] = KS[k].1 from List.getElem_map ..] at hst
          have FK := HF.out KS[k].1
          obtain ⟨p, q, hpq⟩ : ∃ p q, f KS[k].1 = (p, q) := ⟨_, _, rfl⟩
          have HST : mrgL f ((KS.map Prod.fst).take (k + 1)) = if p ≠ [] ∧ (mrgL f ((KS.map Prod.fst).take k)).1.length = 60 then ((mrgL f ((KS.map Prod.fst).take k)).1, (mrgL f ((KS.map Prod.fst).take k)).2 ++ [KS[k].1]) else ((mrgL f ((KS.map Prod.fst).take k)).1 ++ midT KS[k].1 p, (mrgL f ((KS.map Prod.fst).take k)).2 ++ if q then [KS[k].1] else []) := by
            rw [hst]
            unfold mrgS
            rw [hpq]
          rw [hpq] at FK
          obtain ⟨L, hL⟩ : ∃ L, (mrgL f ((KS.map Prod.fst).take k)).1 = L := ⟨_, rfl⟩
          obtain ⟨C, hC⟩ : ∃ C, (mrgL f ((KS.map Prod.fst).take k)).2 = C := ⟨_, rfl⟩
          rw [hL, hC] at HST
          rw [hL] at HO hml
          rw [hC] at HC hml
          generalize KS[k].1 = key at *
          have ST0 := Lib.hid HST
          have hl1 : L.length ≤ 180 := by omega
          have hl2 : C.length ≤ 180 := by omega
          obtain ⟨aL, cL, rfl, hcL, _, _⟩ := HO.out.tags
          have ZW := Lib.hid (show b7 ≤ wr.heap.size from Nat.le_trans Z7.out HK.out.size)
          have KO := Lib.hid (refOne_any a1 a2 a3 n1 n2 n3 c1 c2 c3 l1 l2 l3 key wr N1.out N2.out N3.out ((R1.out.below HK.out (Nat.le_refl _)).more ZW.out) ((R2.out.below HK.out (Nat.le_refl _)).more ZW.out) ((R3.out.below HK.out (Nat.le_refl _)).more ZW.out) X1.out X2.out X3.out (by omega) (by omega) (by omega))
          rw [FK] at KO
          clear x1
          clear hkl hkm hst hpq hL hC HST FK hml hcL
          go_wp2_with fail
          refine KO.out.mono ?_
          rintro e w5 ⟨rfl, b5⟩
          have O5 := Lib.hid (HO.out.below b5)
          have C5 := Lib.hid (HC.out.below b5)
          have B5 := Lib.hid (HK.out.trans (b5.mono ZW.out))
          have ZW5 := Lib.hid (Nat.le_trans Z7.out B5.out.size)
          clear b5 KO HO HC HK ZW x0
          by_cases hp0 : p = []
          · subst hp0
            have ST1 : mrgL f ((KS.map Prod.fst).take (k + 1)) = (L, C ++ if q then [key] else []) := by
              rw [ST0.out, if_neg (fun h => h.1 rfl)]
              unfold midT
              rw [if_pos rfl, List.append_nil]
            cases q with
            | true =>
              have ST := Lib.hid (show mrgL f ((KS.map Prod.fst).take (k + 1)) = (L, C ++ [key]) from ST1)
              clear ST1 ST0
              have cown6 := C5.out.below (alloc1 w5 (.cells #[.string ⟨key.toArray⟩] 9))
              have hz6 := Nat.le_trans ZW5.out (alloc1 w5 (.cells #[.string ⟨key.toArray⟩] 9)).size
              go_wp2_with (at_builtin; refine wpList_appC rfl _ _ (by rfl) b7 _ C key w5.heap.size (by rfl) cown6 (by rfl) (IsRow.get (IsRow.made w5 9 #[.string ⟨key.toArray⟩]) 0) (by omega) hz6 ?_; intro v6 w6 ho6 hg6 hlt6)
              have C6 := Lib.hid ho6
              have O6 := Lib.hid ((O5.out.below (alloc1 w5 _)).kept hg6 ((O5.out.below (alloc1 w5 _)).apart cown6).1)
              have B6 := Lib.hid ((B5.out.trans ((alloc1 w5 _).mono ZW5.out)).grown hg6 hz6 (fun k hk => (hlt6 k hk).1))
              clear cown6 ho6 hg6 hlt6 hz6 O5 C5 B5
              go_wp2
              go_roundw
              case rel => exact ⟨k + 1, by omega, by go_num, Lib.hid (by rw [ST.out]; exact O6.out), Lib.hid (by rw [ST.out]; exact C6.out), B6⟩
              case measure => simp [Lx.intOf]; omega
            | false =>
              have ST := Lib.hid (show mrgL f ((KS.map Prod.fst).take (k + 1)) = (L, C) by rw [ST1]; simp)
              clear ST1 ST0
              go_wp2
              go_roundw
              case rel => exact ⟨k + 1, by omega, by go_num, Lib.hid (by rw [ST.out]; exact O5.out), Lib.hid (by rw [ST.out]; exact C5.out), B5⟩
              case measure => simp [Lx.intOf]; omega
          · have e1 : (p == []) = false := by rw [beq_eq_false_iff_ne]; exact hp0
            have e2 : p.isEmpty = false := by cases p with | nil => exact absurd rfl hp0 | cons => rfl
            by_cases h60 : L.length = 60
            · have e3 : ((L.length : Int) == 60) = true := by rw [h60]; rfl
              have ST := Lib.hid (show mrgL f ((KS.map Prod.fst).take (k + 1)) = (L, C ++ [key]) by rw [ST0.out, if_pos ⟨hp0, h60⟩])
              clear ST0 hp0
              have H60 := Lib.hid h60
              clear h60
              have cown6 := C5.out.below (alloc1 w5 (.cells #[.string ⟨key.toArray⟩] 9))
              have hz6 := Nat.le_trans ZW5.out (alloc1 w5 (.cells #[.string ⟨key.toArray⟩] 9)).size
              go_wp2_with (at_builtin; refine wpList_appC rfl _ _ (by rfl) b7 _ C key w5.heap.size (by rfl) cown6 (by rfl) (IsRow.get (IsRow.made w5 9 #[.string ⟨key.toArray⟩]) 0) (by omega) hz6 ?_; intro v6 w6 ho6 hg6 hlt6)
              have C6 := Lib.hid ho6
              have O6 := Lib.hid ((O5.out.below (alloc1 w5 _)).kept hg6 ((O5.out.below (alloc1 w5 _)).apart cown6).1)
              have B6 := Lib.hid ((B5.out.trans ((alloc1 w5 _).mono ZW5.out)).grown hg6 hz6 (fun k hk => (hlt6 k hk).1))
              clear cown6 ho6 hg6 hlt6 hz6 O5 C5 B5
              go_wp2
              go_roundw
              case rel => exact ⟨k + 1, by omega, by go_num, Lib.hid (by rw [ST.out]; exact O6.out), Lib.hid (by rw [ST.out]; exact C6.out), B6⟩
              case measure => simp [Lx.intOf]; omega
            · have e3 : ((L.length : Int) == 60) = false := by rw [beq_eq_false_iff_ne]; omega
              have ST1 : mrgL f ((KS.map Prod.fst).take (k + 1)) = (L ++ [(key, p)], C ++ if q then [key] else []) := by
                rw [ST0.out, if_neg (fun h => h60 h.2)]
                unfold midT
                rw [if_neg hp0]
              clear ST0 hp0 h60
              have hown6 := O5.out.below (alloc1 w5 (.cells #[.string ⟨key.toArray⟩, .string ⟨p.toArray⟩] 43))
              have hp6 := tags_one w5 key p
              have hz6 := Nat.le_trans ZW5.out (alloc1 w5 (.cells #[.string ⟨key.toArray⟩, .string ⟨p.toArray⟩] 43)).size
              go_upto_region 21 with (at_builtin; refine wpList_appG rfl _ _ (by rfl) b7 _ L [(key, p)] (some ⟨w5.heap.size, 0, none⟩) 1 1 (by rfl) hown6 (by rfl) hp6 rfl (by omega) hz6 ?_; intro v6 w6a ho6 hg6 hlt6)
              have O6 := Lib.hid ho6
              have C6 := Lib.hid ((C5.out.below (alloc1 w5 _)).kept hg6 (hown6.apart (C5.out.below (alloc1 w5 _))).2)
              have B8 := Lib.hid ((B5.out.trans ((alloc1 w5 _).mono ZW5.out)).grown hg6 hz6 (fun k hk => (hlt6 k hk).1))
              have ZW6 := Lib.hid (Nat.le_trans Z7.out B8.out.size)
              clear hown6 hp6 ho6 hg6 hlt6 hz6 O5 C5 B5
              cases q with
              | true =>
                have ST := Lib.hid (show mrgL f ((KS.map Prod.fst).take (k + 1)) = (L ++ [(key, p)], C ++ [key]) from ST1)
                clear ST1
                have cown9 := C6.out.below (alloc1 w6a (.cells #[.string ⟨key.toArray⟩] 9))
                have hz9 := Nat.le_trans ZW6.out (alloc1 w6a (.cells #[.string ⟨key.toArray⟩] 9)).size
                go_wp2_with (at_builtin; refine wpList_appC rfl _ _ (by rfl) b7 _ C key w6a.heap.size (by rfl) cown9 (by rfl) (IsRow.get (IsRow.made w6a 9 #[.string ⟨key.toArray⟩]) 0) (by omega) hz9 ?_; intro v9 w9 ho9 hg9 hlt9)
                have C9 := Lib.hid ho9
                have O9 := Lib.hid ((O6.out.below (alloc1 w6a _)).kept hg9 ((O6.out.below (alloc1 w6a _)).apart cown9).1)
                have B9 := Lib.hid ((B8.out.trans ((alloc1 w6a _).mono ZW6.out)).grown hg9 hz9 (fun k hk => (hlt9 k hk).1))
                clear cown9 ho9 hg9 hlt9 hz9 O6 C6 B8
                go_wp2
                go_roundw
                case rel => exact ⟨k + 1, by omega, by go_num, Lib.hid (by rw [ST.out]; exact O9.out), Lib.hid (by rw [ST.out]; exact C9.out), B9⟩
                case measure => simp [Lx.intOf]; omega
              | false =>
                have ST := Lib.hid (show mrgL f ((KS.map Prod.fst).take (k + 1)) = (L ++ [(key, p)], C) by rw [ST1]; simp)
                clear ST1
                go_wp2
                go_roundw
                case rel => exact ⟨k + 1, by omega, by go_num, Lib.hid (by rw [ST.out]; exact O6.out), Lib.hid (by rw [ST.out]; exact C6.out), B8⟩
                case measure => simp [Lx.intOf]; omega
        · obtain rfl : nk = k := by omega
          have O9 := HO.out
          have C9 := HC.out
          rw [← NM.out, List.take_length, HR2.out] at O9 C9
          have ZZ := Lib.hid (show w.heap.size ≤ b7 from Nat.le_trans BZ.out (Nat.le_trans BZ6.out BW.out))
          have O9' := Lib.hid (O9.down ZZ.out)
          have C9' := Lib.hid (C9.down ZZ.out)
          clear O9 C9
          go_wp2
          go_ret2
          exact ⟨⟨_, _, rfl, O9'.out, C9'.out⟩, ((B3.out.trans (B6.out.mono BZ.out)).trans (B7.out.mono (Nat.le_trans BZ.out BZ6.out))).trans (HK.out.mono ZZ.out)⟩
end Go.Proofs.Ytlknbjaippfemaa.Tg
/- tag: the reference's Parse. -/
namespace Go.Proofs.Ytlknbjaippfemaa.Tg
open Go.RowKit
open Lx (IsRow alloc1 drew_below nmB Tk Toks lexR OwnK kt)
theorem tks_at : ∀ (l : List T) (k : Nat), k < l.length → ((tks l)[3 * k]?.map Prod.fst = some 1) ∧ ((tks l)[3 * k + 2]?.map Prod.fst = some 3)
  | [], k, h => by simp at h
  | t :: l, 0, _ => ⟨rfl, rfl⟩
  | t :: l, k + 1, h => by
    rw [tks_cons, show 3 * (k + 1) = 3 * k + 1 + 1 + 1 by omega, show 3 * k + 1 + 1 + 1 + 2 = (3 * k + 2) + 1 + 1 + 1 by omega]
    simp only [List.getElem?_cons_succ]
    exact tks_at l k (by simpa using h)
/-- what Parse takes has a name and a string in each three tokens. -/
theorem par_kinds {x : B} (hx : x.length ≤ 20000) {l : List T} (h : parR x = (l, 0)) (k : Nat) (hk : 3 * k + 2 < (lexR x).1.length) : ((lexR x).1[3 * k]'(by omega)).k = 1 ∧ (lexR x).1[3 * k + 2].k = 3 := by
  rcases par_cases hx with h2 | ⟨l', h2, ht, hv⟩
  · rw [h] at h2; cases h2
  · have hv2 := vld_iff.1 hv
    have e : x = txtL l' := by
      unfold textR at ht
      rw [if_pos hv] at ht
      split at ht
      · cases ht
      · exact (congrArg Prod.fst ht).symm
    obtain ⟨ts, h3, h4⟩ := txt_lxk (l := l') (fun t ht => (okT_iff.1 (hv2.2.1 t ht)).1) 0
    have hn : ts.length = 3 * l'.length := by rw [← tks_len, ← h4, List.length_map]
    have hl := lex_lx2 h3 (by rw [← e]; exact hx) (by have := hv2.1; omega)
    rw [← e] at hl
    have h5 : (lexR x).1.map kt = tks l' := by rw [hl]; exact h4
    have hlen : (lexR x).1.length = 3 * l'.length := by rw [hl]; exact hn
    obtain ⟨a1, a2⟩ := tks_at l' k (by omega)
    rw [← h5, List.getElem?_map, Option.map_map, List.getElem?_eq_getElem (by omega)] at a1 a2
    simp only [Option.map_some, Option.some.injEq] at a1 a2
    exact ⟨a1, a2⟩
theorem par_no {x : B} (hx : x.length ≤ 20000) (h : (lexR x).2.1 ≠ 0 ∨ (lexR x).1.length % 3 ≠ 0) : parR x = ([], 5) := by
  unfold parR
  rw [if_neg (by omega), if_pos h]
theorem par_yes {x : B} (hx : x.length ≤ 20000) {q : Nat} (h0 : (lexR x).2.1 = 0) (h : (lexR x).1.length = 3 * q) :
    parR x = if (textR (trs (lexR x).1 q)).2 ≠ 0 ∨ (textR (trs (lexR x).1 q)).1 ≠ x then ([], 5) else (trs (lexR x).1 q, 0) := by
  unfold parR
  rw [if_neg (by omega), if_neg (by rw [h0, h]; omega), show (lexR x).1.length / 3 = q by omega]
/-- what stands after the first j tokens. -/
def Read (b : Nat) (ts : List Tk) (W : World) (v : Value) (j : Nat) : Prop := ∃ k, j = 3 * k ∧ OwnG W b v (trs ts k)
set_option maxRecDepth 100000 in
set_option maxHeartbeats 8000000 in
theorem refParse_any (x : B) (w : World) (hx : x.length ≤ 20000) : Calls Try.prog 15 #[.string ⟨x.toArray⟩] w (SOut w (parR x)) := by
  obtain ⟨R, hR⟩ : ∃ R, parR x = R := ⟨_, rfl⟩
  rw [hR]
  have HR := Lib.hid hR
  have KL := Lib.hid (Lx.lexref_fit ⟨x.toArray⟩ w (by rw [Lx.str_size]; exact hx))
  rw [Lx.str_eq, show Lx.scan [] (Lx.evL x) = lexR x from by unfold lexR; rw [if_neg (by omega)]] at KL
  have PN := Lib.hid (fun h => (par_no hx h).symm.trans hR)
  have PY := Lib.hid (fun q h0 h => (par_yes hx (q := q) h0 h).symm.trans hR)
  have PK := Lib.hid (fun l k hk h => par_kinds hx (l := l) h k hk)
  have TX := Lib.hid (fun i => tokT_len (s := x) i)
  have LN := Lib.hid (show (lexR x).1.length ≤ 5000 from by
    unfold lexR
    rw [if_neg (by omega)]
    exact scan_few _ _ (by simp))
  obtain ⟨⟨ts, le, la⟩, hl⟩ : ∃ r, lexR x = r := ⟨_, rfl⟩
  rw [hl] at KL PN PY TX LN
  have PK2 := Lib.hid (show ∀ (k : Nat) (hk : 3 * k + 2 < ts.length), (R = ([], 5)) ∨ ((ts[3 * k]'(by omega)).k = 1 ∧ ts[3 * k + 2].k = 3) from fun k hk => by
    rcases par_cases hx with h | ⟨l, h, _⟩
    · exact .inl (hR.symm.trans h)
    · have := PK.out l k (by rw [hl]; exact hk) h
      simp only [hl] at this
      exact .inr this)
  dsimp only at PN PY TX LN
  clear hR hl PK
  have hx' : ¬ (20000 : Int) < (x.length : Int) := by omega
  have HM := Lib.hid (tmod3 ts.length)
  go_enter Try.func15, Try.ntmps15
  go_wp2_with fail
  refine KL.out.mono ?_
  rintro e w1 ⟨⟨v, rfl, ho⟩, b1⟩
  obtain ⟨ao, c, rfl, hc, ht⟩ := ho.toks
  have B1 := Lib.hid b1
  have HT := Lib.hid ht
  clear ho b1 KL ht
  by_cases he : le = 0
  rotate_left
  · have e1 : (le == 0) = false := by rw [beq_eq_false_iff_ne]; exact he
    have e2 : (le != 0) = true := by simp [bne, e1]
    obtain rfl := PN.out (.inl he)
    go_wp2
    go_ret2
    exact ⟨⟨_, rfl, OwnG.nil _ _⟩, B1.out⟩
  subst he
  by_cases h3 : ts.length % 3 = 0
  rotate_left
  · have h4 : (((ts.length % 3 : Nat) : Int) == 0) = false := by rw [beq_eq_false_iff_ne]; omega
    obtain rfl := PN.out (.inr h3)
    go_wp2
    go_ret2
    exact ⟨⟨_, rfl, OwnG.nil _ _⟩, B1.out⟩
  have h4 : (((ts.length % 3 : Nat) : Int) == 0) = true := by rw [beq_iff_eq]; omega
  have h5 : (ts.length : Int) % 3 = 0 := by omega
  obtain ⟨q, hq⟩ : ∃ q, ts.length = 3 * q := ⟨ts.length / 3, by omega⟩
  have PY2 := Lib.hid (PY.out q rfl hq)
  obtain ⟨n, hn⟩ : ∃ n, ts.length = n := ⟨_, rfl⟩
  have HN := Lib.hid hn
  have HQ := Lib.hid (show n = 3 * q from hn ▸ hq)
  have LN2 : n ≤ 5000 := hn ▸ LN.out
  obtain ⟨b, hb⟩ : ∃ b, w1.heap.size = b := ⟨_, rfl⟩
  have HT2 := Lib.hid (show Toks w1 b ao ts from hb ▸ HT.out)
  have ZB := Lib.hid (show b ≤ w1.heap.size from Nat.le_of_eq hb.symm)
  have BZ := Lib.hid (show w.heap.size ≤ b from hb ▸ B1.out.size)
  rw [hn] at hc h3 h4 h5 ⊢
  have hc' : (n : Int) ≤ (c : Int) := by omega
  have hn' : (n : Int) ≤ 5000 := by omega
  clear hq hn PN PY HM hb HT
  go_wp2
  go_loopw [7, 8] (fun v i wr => ∃ j : Nat, j ≤ n ∧ i = .int .i64 j ∧ Hid (Read b ts wr v j) ∧ Hid (Below b w1 wr)) (fun _ i _ => n - (Lx.intOf i).toNat)
  case atStart => exact ⟨0, by omega, rfl, Lib.hid ⟨0, rfl, OwnG.nil _ _⟩, Lib.hid (Below.refl _ _)⟩
  case round =>
    obtain ⟨j, hj, rfl, HJO, HK⟩ := hrel
    obtain ⟨k, hj3, ho3⟩ := HJO.out
    have HJ := Lib.hid hj3
    have HO := Lib.hid ho3
    clear hj3 ho3 HJO
    by_cases hlt : j < n
    · have hlt2 : (j : Int) < (n : Int) := by omega
      have hlt3 : (j : Int) + 2 < (n : Int) := by have := HJ.out; have := HQ.out; omega
      have j0 : j < ts.length := by rw [HN.out]; exact hlt
      have j2 : j + 2 < ts.length := by rw [HN.out]; omega
      have KK := Lib.hid (PK2.out k (by rw [← HJ.out]; exact j2))
      have hT := HT2.out.below HK.out (Nat.le_refl _)
      obtain ⟨g, off, rfl, hg, x0, x1, x2⟩ := hT.at_ j0
      obtain ⟨g2, off2, e2, hg2, y0, y1, y2⟩ := hT.at_ j2
      clear x2 y2
      injection e2 with e2
      injection e2 with e3 e4
      subst e3 e4
      have TS := Lib.hid (show trs ts (k + 1) = trs ts k ++ [(ts[j].t, ts[j + 2].t)] from by
        rw [trs_succ, ← HJ.out, tokT_at (List.getElem?_eq_getElem j0), tokT_at (List.getElem?_eq_getElem j2)])
      have KK2 := Lib.hid (show R = ([], 5) ∨ (ts[j].k = 1 ∧ ts[j + 2].k = 3) from by
        have := KK.out
        simp only [← HJ.out] at this
        exact this)
      have TJ1 : (ByteArray.mk ts[j].t.toArray).size ≤ 20000 := by
        have := TX.out j
        rw [tokT_at (List.getElem?_eq_getElem j0)] at this
        rw [Lx.str_size]; omega
      generalize ts[j].k = k1 at *
      generalize ts[j + 2].k = k2 at *
      generalize ts[j].t = t1 at *
      generalize ts[j + 2].t = t2 at *
      have HL := Lib.hid (show (trs ts k).length = k from trs_len ts k)
      obtain ⟨L, hL⟩ : ∃ L, trs ts k = L := ⟨_, rfl⟩
      rw [hL] at HO TS HL
      have hl5 : L.length ≤ 5000 := by have := HL.out; have := HJ.out; omega
      obtain ⟨aL, cL, rfl, hcL, _, _⟩ := HO.out.tags
      have ZW := Lib.hid (show b ≤ wr.heap.size from Nat.le_trans ZB.out HK.out.size)
      clear hL KK hT j0 j2 hcL hg2 TJ1
      by_cases h1 : k1 = 1
      rotate_left
      · have e1 : (k1 == 1) = false := by rw [beq_eq_false_iff_ne]; exact h1
        have e2 : (k1 != 1) = true := by simp [bne, e1]
        obtain rfl : R = ([], 5) := KK2.out.elim id (fun h => absurd h.1 h1)
        go_wp2
        go_ret2
        exact ⟨⟨_, rfl, OwnG.nil _ _⟩, B1.out.trans (HK.out.mono BZ.out)⟩
      by_cases h2 : k2 = 3
      rotate_left
      · have e1 : (k2 == 3) = false := by rw [beq_eq_false_iff_ne]; exact h2
        have e2 : (k2 != 3) = true := by simp [bne, e1]
        obtain rfl : R = ([], 5) := KK2.out.elim id (fun h => absurd h.2 h2)
        subst h1
        go_wp2
        go_ret2
        exact ⟨⟨_, rfl, OwnG.nil _ _⟩, B1.out.trans (HK.out.mono BZ.out)⟩
      subst h1 h2
      have ow := (HO.out.below (alloc1 wr (.cells #[.string ⟨t1.toArray⟩, .string ⟨t2.toArray⟩] 43))).below (drew_below _)
      have hz := Nat.le_trans ZW.out (alloc1 wr (.cells #[.string ⟨t1.toArray⟩, .string ⟨t2.toArray⟩] 43)).size
      have hrow : ((wr.alloc (.cells #[.string ⟨t1.toArray⟩, .string ⟨t2.toArray⟩] 43)).drew).heap[wr.heap.size]? = some (.cells (encT (t1, t2)).toArray 43 (0, 0)) := by
        show (wr.alloc _).heap[wr.heap.size]? = _
        unfold World.alloc
        simp [encT]
      go_upto_region 12 with fail
      have hwi : IntKind.i64.wrap ((j : Int) + 2) = (j : Int) + 2 := by rw [IntWalk.i64_in _ (by omega)]
      have hp0 : (0 : Int) ≤ (j : Int) + 2 := by omega
      have hp1 : ((j : Int) + 2).toNat = j + 2 := by omega
      go_region_law (refine step_appG1 (by rfl) _ _ (by rfl) b _ L (t1, t2) wr.heap.size (by rfl) ow (by rfl) hrow (by omega) hz ?_; intro g7 c7 w7 ho7 hg7 hlt7)
      all_goals
        have O7 := Lib.hid (show OwnG w7 b _ (trs ts (k + 1)) from by rw [TS.out]; exact ho7)
        have B7 := Lib.hid (((HK.out.trans ((alloc1 wr _).mono ZW.out)).trans ((drew_below _).mono hz)).grown hg7 hz (fun k hk => (hlt7 k hk).1))
        clear ho7 hg7 hlt7 ow hz hrow x0 x1 y0 y1
        go_wp2
        go_roundw
        case rel => exact ⟨_, _, _, _, ⟨j + 3, by omega, by go_num, Lib.hid ⟨k + 1, by have := HJ.out; omega, O7.out⟩⟩, rfl, rfl, rfl, rfl⟩
        case measure => simp [Lx.intOf]; omega
    · have hk : k = q := by have := HJ.out; have := HQ.out; omega
      subst hk
      obtain ⟨L, hL⟩ : ∃ L, trs ts k = L := ⟨_, rfl⟩
      have HS := Lib.hid (show Siz L from by
        rw [← hL]
        intro t ht
        unfold trs at ht
        obtain ⟨i, _, rfl⟩ := List.mem_map.1 ht
        have := TX.out (3 * i)
        have := TX.out (3 * i + 2)
        exact ⟨by dsimp only; omega, by dsimp only; omega⟩)
      rw [hL] at HO PY2
      clear hL
      obtain ⟨aL, cL, hv, hcL, _, tL⟩ := HO.out.tags
      have KT := Lib.hid (refText_any aL L.length cL L wr rfl tL hcL HS.out)
      obtain ⟨⟨tx, te⟩, htx⟩ : ∃ r, textR L = r := ⟨_, rfl⟩
      rw [htx] at KT PY2
      have PY3 := Lib.hid PY2.out
      dsimp only at PY3
      have O9 := Lib.hid (OwnG.down HO.out BZ.out)
      subst hv
      clear htx tL hcL PY2 HO
      go_wp2_with fail
      refine KT.out.mono ?_
      rintro e w8 ⟨rfl, b8⟩
      have O10 := Lib.hid (O9.out.below b8)
      have B8 := Lib.hid ((B1.out.trans (HK.out.mono BZ.out)).trans (b8.mono (Nat.le_trans BZ.out (Nat.le_trans ZB.out HK.out.size))))
      clear b8 KT O9
      by_cases h1 : te = 0
      rotate_left
      · have e1 : (te == 0) = false := by rw [beq_eq_false_iff_ne]; exact h1
        have e2 : (te != 0) = true := by simp [bne, e1]
        obtain rfl : (([], 5) : List T × Int) = R := by have := PY3.out; rw [if_pos (.inl h1)] at this; exact this
        go_wp2
        go_ret2
        exact ⟨⟨_, rfl, OwnG.nil _ _⟩, B8.out⟩
      subst h1
      by_cases h2 : tx = x
      · subst h2
        obtain rfl : ((L, 0) : List T × Int) = R := by have := PY3.out; rw [if_neg (by simp)] at this; exact this
        go_wp2
        go_ret2
        exact ⟨⟨_, rfl, O10.out⟩, B8.out⟩
      · have e1 : (tx == x) = false := by rw [beq_eq_false_iff_ne]; exact h2
        obtain rfl : (([], 5) : List T × Int) = R := by have := PY3.out; rw [if_pos (.inr h2)] at this; exact this
        go_wp2
        go_ret2
        exact ⟨⟨_, rfl, OwnG.nil _ _⟩, B8.out⟩
end Go.Proofs.Ytlknbjaippfemaa.Tg
/- tag: TagMerges. -/
namespace Go.Proofs.Ytlknbjaippfemaa.Tg
open Go.RowKit
open Lx (IsRow alloc1 drew_below)
theorem merge_len (b o t : List T) : (mergeR b o t).1.length ≤ 100000 ∧ (mergeR b o t).2.length ≤ 100000 := by
  unfold mergeR
  split
  · rename_i h
    rw [Bool.and_eq_true, Bool.and_eq_true] at h
    have h1 := vld_few h.1.1
    have h2 := vld_few h.1.2
    have h3 := vld_few h.2
    have k1 := keys_len [b, o, t]
    simp only [List.map_cons, List.map_nil, List.sum_cons, List.sum_nil] at k1
    have k2 := mrg_len (fun k => oneR (getV b k) (getV o k) (getV t k)) (keysR [b, o, t]) (keysR [b, o, t]).length
    rw [List.take_length] at k2
    omega
  · exact ⟨Nat.zero_le _, Nat.zero_le _⟩
theorem merge_bad {b o t : List T} (h : vld b = false ∨ vld o = false) : mergeR b o t = ([], []) := by
  unfold mergeR
  rcases h with h | h <;> simp [h]
end Go.Proofs.Ytlknbjaippfemaa.Tg
/- tag: TagMatchesReference (written by wip/tools/gen-tagmatch.py). -/
namespace Go.Proofs.Ytlknbjaippfemaa.Tg
open Go.RowKit
open Lx (IsRow alloc1 drew_below nmB)
theorem set_len2 (l : List T) (k v : B) : (setR l k v).1.length ≤ 1000000 := by
  unfold setR
  split
  · exact Nat.zero_le _
  · split
    · exact Nat.zero_le _
    · dsimp only; omega
theorem par_len {x : B} (hx : x.length ≤ 20000) : (parR x).1.length ≤ 1000000 := by
  rcases par_cases hx with h | ⟨l, h, _, hv⟩
  · rw [h]; exact Nat.zero_le _
  · rw [h]
    exact Nat.le_trans (vld_few hv) (by decide)
set_option maxRecDepth 100000 in
set_option maxHeartbeats 8000000 in
theorem matches_any (a0 a1 a2 : Option Addr) (n0 n1 n2 c0 c1 c2 : Nat) (l0 l1 l2 : List T) (ky vl x : B) (W : World) (hl0 : l0.length = n0) (hl1 : l1.length = n1) (hl2 : l2.length = n2) (hp0 : TagsT W W.heap.size a0 l0) (hp1 : TagsT W W.heap.size a1 l1) (hp2 : TagsT W W.heap.size a2 l2) (hc0 : n0 ≤ c0) (hc1 : n1 ≤ c1) (hc2 : n2 ≤ c2) :
    Calls Try.prog 3 #[.slice a0 n0 c0, .slice a1 n1 c1, .slice a2 n2 c2, .string ⟨ky.toArray⟩, .string ⟨vl.toArray⟩, .string ⟨x.toArray⟩] W fun e w' => e = .returned (.bool true) ∧ Below W.heap.size W w' := by
  have HL0 := Lib.hid hl0
  have HL1 := Lib.hid hl1
  have HL2 := Lib.hid hl2
  have P0 := Lib.hid hp0
  have P1 := Lib.hid hp1
  have P2 := Lib.hid hp2
  have C0 := Lib.hid hc0
  have C1 := Lib.hid hc1
  have C2 := Lib.hid hc2
  obtain ⟨Z, hZ⟩ : ∃ Z, W.heap.size = Z := ⟨_, rfl⟩
  clear hl0 hl1 hl2 hp0 hp1 hp2 hc0 hc1 hc2
  have HH := Lib.hid (head_any W)
  rw [hZ]
  go_enter Try.func3, Try.ntmps3
  go_upto_region 2 with ((with_reducible refine HH.out.mono ?_); rintro e w1 ⟨rfl, b1⟩)
  obtain ⟨w2, hw2, b2, r2⟩ : ∃ w2, w1.alloc (.cells #[.slice a0 n0 c0, .slice a1 n1 c1, .slice a2 n2 c2] 22) = w2 ∧ Below w1.heap.size w1 w2 ∧ IsRow w2 w1.heap.size 22 #[.slice a0 n0 c0, .slice a1 n1 c1, .slice a2 n2 c2] := ⟨_, rfl, alloc1 _ _, IsRow.made _ _ _⟩
  have B2 := Lib.hid (b1.trans (b2.mono b1.size))
  have HW2 := Lib.hid hw2
  have S2 : Hid (Sls w2 w1.heap.size [(a0, n0, c0, l0), (a1, n1, c1, l1), (a2, n2, c2, l2)]) := Lib.hid ⟨r2, fun s hs => by
    simp only [List.mem_cons, List.not_mem_nil, or_false] at hs
    rcases hs with rfl | rfl | rfl
    · exact ⟨HL0.out, P0.out.later B2.out, C0.out⟩
    · exact ⟨HL1.out, P1.out.later B2.out, C1.out⟩
    · exact ⟨HL2.out, P2.out.later B2.out, C2.out⟩⟩
  have KF := Lib.hid (few_any w1.heap.size 3 _ w2 S2.out rfl (by decide))
  obtain ⟨F, hF⟩ : ∃ F, (List.all [(a0, n0, c0, l0), (a1, n1, c1, l1), (a2, n2, c2, l2)] fun s => fewB 70 s.2.2.2) = F := ⟨_, rfl⟩
  rw [hF] at KF
  have HF := Lib.hid hF
  clear hw2 b2 r2 b1 HH hF S2
  go_wp2_with fail
  generalize hg : World.alloc w1 _ = w2'
  obtain rfl : w2' = w2 := hg.symm.trans HW2.out
  clear hg
  refine KF.out.mono ?_
  rintro e w3 ⟨rfl, rfl⟩
  cases F with
  | false =>
    go_wp2
    go_ret
    exact ⟨rfl, hZ ▸ B2.out⟩
  | true =>
  have hff := HF.out
  simp only [List.all_cons, List.all_nil, Bool.and_true, Bool.and_eq_true] at hff
  have Z0 := Lib.hid (few_siz hff.1)
  have Z1 := Lib.hid (few_siz hff.2.1)
  have Z2 := Lib.hid (few_siz hff.2.2)
  clear hff KF HF
  have L0 := Lib.hid (show n0 ≤ 1000000 from HL0.out ▸ Nat.le_trans Z0.out.1 (by decide))
  by_cases kk : 300 < ky.length
  · have kk' : (300 : Int) < (ky.length : Int) := by omega
    go_wp2
    go_ret
    exact ⟨rfl, hZ ▸ B2.out⟩
  have kk' : ¬ (300 : Int) < (ky.length : Int) := by omega
  by_cases kv : 300 < vl.length
  · have kv' : (300 : Int) < (vl.length : Int) := by omega
    go_wp2
    go_ret
    exact ⟨rfl, hZ ▸ B2.out⟩
  have kv' : ¬ (300 : Int) < (vl.length : Int) := by omega
  by_cases kx : 5000 < x.length
  · have kx' : (5000 : Int) < (x.length : Int) := by omega
    go_wp2
    go_ret
    exact ⟨rfl, hZ ▸ B2.out⟩
  have kx' : ¬ (5000 : Int) < (x.length : Int) := by omega
  have PX : parR (ByteArray.mk x.toArray).data.toList = parR x := by simp
  have LS := Lib.hid (set_len2 l0 ky vl)
  have LM := Lib.hid (merge_len l0 l1 l2)
  have LP := Lib.hid (par_len (x := x) (by omega))
  have HK := Lib.hid (show ky.length ≤ 100000 ∧ vl.length ≤ 1000000 ∧ x.length ≤ 20000 from by omega)
  have KP := Lib.hid (fun w => parse_any ⟨x.toArray⟩ w)
  rw [PX] at KP
  obtain ⟨⟨X, ex⟩, hX⟩ : ∃ r, setR l0 ky vl = r := ⟨_, rfl⟩
  obtain ⟨⟨M, G⟩, hM⟩ : ∃ r, mergeR l0 l1 l2 = r := ⟨_, rfl⟩
  obtain ⟨⟨s, es⟩, hs⟩ : ∃ r, textR l0 = r := ⟨_, rfl⟩
  obtain ⟨⟨Y, ey⟩, hY⟩ : ∃ r, parR x = r := ⟨_, rfl⟩
  obtain ⟨gv, hgv⟩ : ∃ v, getV l0 ky = v := ⟨_, rfl⟩
  obtain ⟨gi, hgi⟩ : ∃ v, (getO l0 ky).isSome = v := ⟨_, rfl⟩
  obtain ⟨v0, hv0⟩ : ∃ v, vld l0 = v := ⟨_, rfl⟩
  have EX := Lib.hid hX
  have EM := Lib.hid hM
  have ES := Lib.hid hs
  have EY := Lib.hid hY
  have EG := Lib.hid hgv
  have EI := Lib.hid hgi
  have EV := Lib.hid hv0
  rw [hX] at LS
  rw [hM] at LM
  rw [hY] at LP KP
  dsimp only at LS LM LP
  obtain ⟨nX, hnX⟩ : ∃ n, X.length = n := ⟨_, rfl⟩
  obtain ⟨nM, hnM⟩ : ∃ n, M.length = n := ⟨_, rfl⟩
  obtain ⟨nG, hnG⟩ : ∃ n, G.length = n := ⟨_, rfl⟩
  obtain ⟨nY, hnY⟩ : ∃ n, Y.length = n := ⟨_, rfl⟩
  have NX := Lib.hid hnX
  have NM := Lib.hid hnM
  have NG := Lib.hid hnG
  have NY := Lib.hid hnY
  rw [hnX] at LS
  rw [hnM, hnG] at LM
  rw [hnY] at LP
  clear hX hM hs hY hgv hgi hv0 hnX hnM hnG hnY kk kv kx PX
  have K := Lib.hid (set_any a0 n0 c0 l0 ky vl w2' HL0.out (P0.out.later B2.out) C0.out Z0.out.2 HK.out.1 HK.out.2.1)
  rw [EX.out] at K
  go_wp2_with fail
  refine K.out.mono ?_
  rintro e w3 ⟨⟨v, rfl, hx⟩, bb⟩
  have B3 := Lib.hid (B2.out.trans (bb.mono B2.out.size))
  obtain ⟨ax, cx, he, hcc, _, tt⟩ := hx.tags
  have he2 : v = .slice ax nX cx := by rw [← NX.out]; exact he
  subst he2
  have Cax := Lib.hid (show nX ≤ cx from NX.out ▸ hcc)
  have Tax := Lib.hid tt
  clear hx he hcc tt
  clear K bb B2
  have K := Lib.hid (refSet_any a0 n0 c0 l0 ky vl w3 HL0.out (P0.out.later B3.out) C0.out Z0.out.2 HK.out.1)
  rw [EX.out] at K
  go_wp2_with fail
  refine K.out.mono ?_
  rintro e w4 ⟨⟨v, rfl, hx⟩, bb⟩
  have B4 := Lib.hid (B3.out.trans (bb.mono B3.out.size))
  replace Tax := Lib.hid (Tax.out.later bb)
  obtain ⟨ay, cy, he, hcc, _, tt⟩ := hx.tags
  have he2 : v = .slice ay nX cy := by rw [← NX.out]; exact he
  subst he2
  have Cay := Lib.hid (show nX ≤ cy from NX.out ▸ hcc)
  have Tay := Lib.hid tt
  clear hx he hcc tt
  clear K bb B3
  have K := Lib.hid (merge_any a0 a1 a2 n0 n1 n2 c0 c1 c2 l0 l1 l2 w4 HL0.out HL1.out HL2.out (P0.out.later B4.out) (P1.out.later B4.out) (P2.out.later B4.out) C0.out C1.out C2.out Z0.out.2 Z1.out.2 Z2.out.2)
  rw [EM.out] at K
  go_wp2_with fail
  refine K.out.mono ?_
  rintro e w5 ⟨⟨v, u, rfl, hx, hy⟩, bb⟩
  have B5 := Lib.hid (B4.out.trans (bb.mono B4.out.size))
  replace Tax := Lib.hid (Tax.out.later bb)
  replace Tay := Lib.hid (Tay.out.later bb)
  obtain ⟨am, cm, he, hcc, _, tt⟩ := hx.tags
  have he2 : v = .slice am nM cm := by rw [← NM.out]; exact he
  subst he2
  have Cam := Lib.hid (show nM ≤ cm from NM.out ▸ hcc)
  have Tam := Lib.hid tt
  clear hx he hcc tt
  obtain ⟨ag, cg, he, hcc, tt⟩ := hy.strs
  have he2 : u = .slice ag nG cg := by rw [← NG.out]; exact he
  subst he2
  have Cag := Lib.hid (show nG ≤ cg from NG.out ▸ hcc)
  have Tag := Lib.hid tt
  clear hy he hcc tt
  clear K bb B4
  have K := Lib.hid (refMerge_any a0 a1 a2 n0 n1 n2 c0 c1 c2 l0 l1 l2 w5 HL0.out HL1.out HL2.out (P0.out.later B5.out) (P1.out.later B5.out) (P2.out.later B5.out) C0.out C1.out C2.out Z0.out.2 Z1.out.2 Z2.out.2)
  rw [EM.out] at K
  go_wp2_with fail
  refine K.out.mono ?_
  rintro e w6 ⟨⟨v, u, rfl, hx, hy⟩, bb⟩
  have B6 := Lib.hid (B5.out.trans (bb.mono B5.out.size))
  replace Tax := Lib.hid (Tax.out.later bb)
  replace Tay := Lib.hid (Tay.out.later bb)
  replace Tam := Lib.hid (Tam.out.later bb)
  replace Tag := Lib.hid (Tag.out.later bb)
  obtain ⟨an, cn, he, hcc, _, tt⟩ := hx.tags
  have he2 : v = .slice an nM cn := by rw [← NM.out]; exact he
  subst he2
  have Can := Lib.hid (show nM ≤ cn from NM.out ▸ hcc)
  have Tan := Lib.hid tt
  clear hx he hcc tt
  obtain ⟨ah, ch, he, hcc, tt⟩ := hy.strs
  have he2 : u = .slice ah nG ch := by rw [← NG.out]; exact he
  subst he2
  have Cah := Lib.hid (show nG ≤ ch from NG.out ▸ hcc)
  have Tah := Lib.hid tt
  clear hy he hcc tt
  clear K bb B5
  have K := Lib.hid (text_any a0 n0 c0 l0 w6 HL0.out (P0.out.later B6.out) C0.out Z0.out.2)
  rw [ES.out] at K
  go_wp2_with fail
  refine K.out.mono ?_
  rintro e w7 ⟨rfl, bb⟩
  have B7 := Lib.hid (B6.out.trans (bb.mono B6.out.size))
  replace Tax := Lib.hid (Tax.out.later bb)
  replace Tay := Lib.hid (Tay.out.later bb)
  replace Tam := Lib.hid (Tam.out.later bb)
  replace Tag := Lib.hid (Tag.out.later bb)
  replace Tan := Lib.hid (Tan.out.later bb)
  replace Tah := Lib.hid (Tah.out.later bb)
  clear K bb B6
  have K := Lib.hid (refText_any a0 n0 c0 l0 w7 HL0.out (P0.out.later B7.out) C0.out Z0.out.2)
  rw [ES.out] at K
  go_wp2_with fail
  refine K.out.mono ?_
  rintro e w8 ⟨rfl, bb⟩
  have B8 := Lib.hid (B7.out.trans (bb.mono B7.out.size))
  replace Tax := Lib.hid (Tax.out.later bb)
  replace Tay := Lib.hid (Tay.out.later bb)
  replace Tam := Lib.hid (Tam.out.later bb)
  replace Tag := Lib.hid (Tag.out.later bb)
  replace Tan := Lib.hid (Tan.out.later bb)
  replace Tah := Lib.hid (Tah.out.later bb)
  clear K bb B7
  have K := Lib.hid (KP.out w8)
  go_wp2_with fail
  refine K.out.mono ?_
  rintro e w9 ⟨⟨v, rfl, hx⟩, bb⟩
  have B9 := Lib.hid (B8.out.trans (bb.mono B8.out.size))
  replace Tax := Lib.hid (Tax.out.later bb)
  replace Tay := Lib.hid (Tay.out.later bb)
  replace Tam := Lib.hid (Tam.out.later bb)
  replace Tag := Lib.hid (Tag.out.later bb)
  replace Tan := Lib.hid (Tan.out.later bb)
  replace Tah := Lib.hid (Tah.out.later bb)
  obtain ⟨ap, cp, he, hcc, _, tt⟩ := hx.tags
  have he2 : v = .slice ap nY cp := by rw [← NY.out]; exact he
  subst he2
  have Cap := Lib.hid (show nY ≤ cp from NY.out ▸ hcc)
  have Tap := Lib.hid tt
  clear hx he hcc tt
  clear K bb B8
  have K := Lib.hid (refParse_any x w9 HK.out.2.2)
  rw [EY.out] at K
  go_wp2_with fail
  refine K.out.mono ?_
  rintro e w10 ⟨⟨v, rfl, hx⟩, bb⟩
  have B10 := Lib.hid (B9.out.trans (bb.mono B9.out.size))
  replace Tax := Lib.hid (Tax.out.later bb)
  replace Tay := Lib.hid (Tay.out.later bb)
  replace Tam := Lib.hid (Tam.out.later bb)
  replace Tag := Lib.hid (Tag.out.later bb)
  replace Tan := Lib.hid (Tan.out.later bb)
  replace Tah := Lib.hid (Tah.out.later bb)
  replace Tap := Lib.hid (Tap.out.later bb)
  obtain ⟨aq, cq, he, hcc, _, tt⟩ := hx.tags
  have he2 : v = .slice aq nY cq := by rw [← NY.out]; exact he
  subst he2
  have Caq := Lib.hid (show nY ≤ cq from NY.out ▸ hcc)
  have Taq := Lib.hid tt
  clear hx he hcc tt
  clear K bb B9
  have K := Lib.hid (get_any a0 n0 c0 l0 ky w10 HL0.out (P0.out.later B10.out) C0.out L0.out)
  rw [EG.out] at K
  rw [EI.out] at K
  go_wp2_with fail
  refine K.out.mono ?_
  rintro e w11 ⟨rfl, bb⟩
  have B11 := Lib.hid (B10.out.trans (bb.mono B10.out.size))
  replace Tax := Lib.hid (Tax.out.later bb)
  replace Tay := Lib.hid (Tay.out.later bb)
  replace Tam := Lib.hid (Tam.out.later bb)
  replace Tag := Lib.hid (Tag.out.later bb)
  replace Tan := Lib.hid (Tan.out.later bb)
  replace Tah := Lib.hid (Tah.out.later bb)
  replace Tap := Lib.hid (Tap.out.later bb)
  replace Taq := Lib.hid (Taq.out.later bb)
  clear K bb B10
  have K := Lib.hid (refGet_any a0 n0 c0 l0 ky w11 HL0.out (P0.out.later B11.out) C0.out L0.out)
  rw [EG.out] at K
  rw [EI.out] at K
  go_wp2_with fail
  refine K.out.mono ?_
  rintro e w12 ⟨rfl, bb⟩
  have B12 := Lib.hid (B11.out.trans (bb.mono B11.out.size))
  replace Tax := Lib.hid (Tax.out.later bb)
  replace Tay := Lib.hid (Tay.out.later bb)
  replace Tam := Lib.hid (Tam.out.later bb)
  replace Tag := Lib.hid (Tag.out.later bb)
  replace Tan := Lib.hid (Tan.out.later bb)
  replace Tah := Lib.hid (Tah.out.later bb)
  replace Tap := Lib.hid (Tap.out.later bb)
  replace Taq := Lib.hid (Taq.out.later bb)
  clear K bb B11
  have K := Lib.hid (same_any ax ay nX nX cx cy X X w12 NX.out NX.out Tax.out Tay.out Cax.out Cay.out LS.out)
  rw [decide_eq_true rfl] at K
  go_wp2_with fail
  refine K.out.mono ?_
  rintro e w13 ⟨rfl, bb⟩
  have B13 := Lib.hid (B12.out.trans (bb.mono B12.out.size))
  replace Tax := Lib.hid (Tax.out.later bb)
  replace Tay := Lib.hid (Tay.out.later bb)
  replace Tam := Lib.hid (Tam.out.later bb)
  replace Tag := Lib.hid (Tag.out.later bb)
  replace Tan := Lib.hid (Tan.out.later bb)
  replace Tah := Lib.hid (Tah.out.later bb)
  replace Tap := Lib.hid (Tap.out.later bb)
  replace Taq := Lib.hid (Taq.out.later bb)
  clear K bb B12
  clear Tax Tay
  have K := Lib.hid (same_any am an nM nM cm cn M M w13 NM.out NM.out Tam.out Tan.out Cam.out Can.out (Nat.le_trans LM.out.1 (by decide)))
  rw [decide_eq_true rfl] at K
  go_wp2_with fail
  refine K.out.mono ?_
  rintro e w14 ⟨rfl, bb⟩
  have B14 := Lib.hid (B13.out.trans (bb.mono B13.out.size))
  replace Tam := Lib.hid (Tam.out.later bb)
  replace Tag := Lib.hid (Tag.out.later bb)
  replace Tan := Lib.hid (Tan.out.later bb)
  replace Tah := Lib.hid (Tah.out.later bb)
  replace Tap := Lib.hid (Tap.out.later bb)
  replace Taq := Lib.hid (Taq.out.later bb)
  clear K bb B13
  clear Tam Tan
  have K := Lib.hid (strs_any ag ah nG nG cg ch G G w14 NG.out NG.out Tag.out Tah.out Cag.out Cah.out (Nat.le_trans LM.out.2 (by decide)))
  rw [decide_eq_true rfl] at K
  go_wp2_with fail
  refine K.out.mono ?_
  rintro e w15 ⟨rfl, bb⟩
  have B15 := Lib.hid (B14.out.trans (bb.mono B14.out.size))
  replace Tag := Lib.hid (Tag.out.later bb)
  replace Tah := Lib.hid (Tah.out.later bb)
  replace Tap := Lib.hid (Tap.out.later bb)
  replace Taq := Lib.hid (Taq.out.later bb)
  clear K bb B14
  clear Tag Tah
  have K := Lib.hid (same_any ap aq nY nY cp cq Y Y w15 NY.out NY.out Tap.out Taq.out Cap.out Caq.out LP.out)
  rw [decide_eq_true rfl] at K
  go_wp2_with fail
  refine K.out.mono ?_
  rintro e w16 ⟨rfl, bb⟩
  have B16 := Lib.hid (B15.out.trans (bb.mono B15.out.size))
  replace Tap := Lib.hid (Tap.out.later bb)
  replace Taq := Lib.hid (Taq.out.later bb)
  clear K bb B15
  clear Tap Taq
  have K := Lib.hid (valid_any a0 n0 c0 l0 w16 HL0.out (P0.out.later B16.out) C0.out Z0.out.2)
  rw [EV.out] at K
  go_wp2_with fail
  refine K.out.mono ?_
  rintro e w17 ⟨rfl, bb⟩
  have B17 := Lib.hid (B16.out.trans (bb.mono B16.out.size))
  clear K bb B16
  have K := Lib.hid (refValid_any a0 n0 c0 l0 w17 HL0.out (P0.out.later B17.out) C0.out Z0.out.2)
  rw [EV.out] at K
  go_wp2_with fail
  refine K.out.mono ?_
  rintro e w18 ⟨rfl, bb⟩
  have B18 := Lib.hid (B17.out.trans (bb.mono B17.out.size))
  clear K bb B17
  go_wp2
  go_ret
  exact ⟨rfl, hZ ▸ B18.out⟩
theorem matches_str (a0 a1 a2 : Option Addr) (n0 n1 n2 c0 c1 c2 : Nat) (l0 l1 l2 : List T) (s3 s4 s5 : ByteArray) (W : World) (hl0 : l0.length = n0) (hl1 : l1.length = n1) (hl2 : l2.length = n2) (hp0 : TagsT W W.heap.size a0 l0) (hp1 : TagsT W W.heap.size a1 l1) (hp2 : TagsT W W.heap.size a2 l2) (hc0 : n0 ≤ c0) (hc1 : n1 ≤ c1) (hc2 : n2 ≤ c2) :
    Calls Try.prog 3 #[.slice a0 n0 c0, .slice a1 n1 c1, .slice a2 n2 c2, .string s3, .string s4, .string s5] W fun e w' => e = .returned (.bool true) ∧ Below W.heap.size W w' := by
  have h := matches_any a0 a1 a2 n0 n1 n2 c0 c1 c2 l0 l1 l2 s3.data.toList s4.data.toList s5.data.toList W hl0 hl1 hl2 hp0 hp1 hp2 hc0 hc1 hc2
  rw [show (⟨s3.data.toList.toArray⟩ : ByteArray) = s3 from by simp, show (⟨s4.data.toList.toArray⟩ : ByteArray) = s4 from by simp, show (⟨s5.data.toList.toArray⟩ : ByteArray) = s5 from by simp] at h
  exact h
end Go.Proofs.Ytlknbjaippfemaa.Tg
