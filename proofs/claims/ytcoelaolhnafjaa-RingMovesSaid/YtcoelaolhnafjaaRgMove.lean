/- Rings that are moved: plain mathematics of P4.7. -/
import Derived.Test.YtcoelaolhnafjaaRgNear
namespace Go.Proofs.Ytcoelaolhnafjaa.Rg
open Go.Proofs.Ytcoelaolhnafjaa.Geo hiding intOf
def mv (d : Pt) (p : Pt) : Pt := movedN p d
def mvL (d : Pt) (l : List Pt) : List Pt := l.map (mv d)
theorem mvL_len (d : Pt) (l : List Pt) : (mvL d l).length = l.length := by unfold mvL; rw [List.length_map]
theorem mv_inj {d p q : Pt} : mv d p = mv d q ↔ p = q := by
  constructor
  · intro h
    unfold mv movedN at h
    injection h with h1 h2
    exact Pt.ext' (by omega) (by omega)
  · exact fun h => by rw [h]
theorem eqP_mv (d p q : Pt) : eqP (mv d p) (mv d q) = eqP p q := by
  rw [Bool.eq_iff_iff, eqP_iff, eqP_iff, mv_inj]
theorem crs_mv (d a b c : Pt) : crs (mv d a) (mv d b) (mv d c) = crs a b c := crs_moved a b c d
theorem side_mv (d a b c : Pt) : sideN (mv d a) (mv d b) (mv d c) = sideN a b c := by unfold sideN; rw [crs_mv]
theorem dt_mv (d a b c : Pt) : dt (mv d a) (mv d b) (mv d c) = dt a b c := by unfold dt mv movedN; grind
theorem holds_mv (d a b p : Pt) : holdsN (mv d a) (mv d b) (mv d p) = holdsN a b p := by unfold holdsN; rw [crs_mv, dt_mv]
theorem cmp_mv (d a b : Pt) : cmpN (mv d a) (mv d b) = cmpN a b := by unfold cmpN mv movedN; grind
theorem low_mv (d a b : Pt) : lowN (mv d a) (mv d b) = mv d (lowN a b) := by unfold lowN; rw [cmp_mv]; split <;> rfl
theorem high_mv (d a b : Pt) : highN (mv d a) (mv d b) = mv d (highN a b) := by unfold highN; rw [cmp_mv]; split <;> rfl
theorem max_mv (d a b : Pt) : maxN (mv d a) (mv d b) = mv d (maxN a b) := by unfold maxN; rw [cmp_mv]; split <;> rfl
theorem min_mv (d a b : Pt) : minN (mv d a) (mv d b) = mv d (minN a b) := by unfold minN; rw [cmp_mv]; split <;> rfl
theorem at_mv (d a b c e p : Pt) : atN (mv d a) (mv d b) (mv d c) (mv d e) (mv d p) = atN a b c e p := by unfold atN; rw [eqP_mv, eqP_mv, eqP_mv, eqP_mv]
theorem line_mv (d a b c e : Pt) : lineN (mv d a) (mv d b) (mv d c) (mv d e) = lineN a b c e := by unfold lineN; rw [max_mv, min_mv, cmp_mv, at_mv]
theorem sorted_mv (d a b c e : Pt) : sortedN (mv d a) (mv d b) (mv d c) (mv d e) = sortedN a b c e := by
  have hx : crossN (mv d a) (mv d b) (mv d c) (mv d e) = crossN a b c e := by unfold crossN; simp only [side_mv, holds_mv, at_mv]
  unfold sortedN inLineB
  rw [eqP_mv, eqP_mv, side_mv, side_mv, side_mv, line_mv, hx]
theorem meets_mv (d a b c e : Pt) : meetsN (mv d a) (mv d b) (mv d c) (mv d e) = meetsN a b c e := by unfold meetsN; rw [low_mv, low_mv, high_mv, high_mv, sorted_mv]
/-- near before and after. -/
def Nr (d p : Pt) : Prop := nearB p = true ∧ nearB (mv d p) = true
def NrL (d : Pt) (l : List Pt) : Prop := ∀ p ∈ l, Nr d p
theorem orient_mv {d a b c : Pt} (ha : Nr d a) (hb : Nr d b) (hc : Nr d c) : orientN (mv d a) (mv d b) (mv d c) = orientN a b c := by
  unfold orientN; rw [ha.1, ha.2, hb.1, hb.2, hc.1, hc.2, side_mv]
theorem on_mv {d a b c : Pt} (ha : Nr d a) (hb : Nr d b) (hc : Nr d c) : onN (mv d a) (mv d b) (mv d c) = onN a b c := by
  unfold onN; rw [ha.1, ha.2, hb.1, hb.2, hc.1, hc.2, holds_mv]
theorem meetsF_mv {d a b c e : Pt} (ha : Nr d a) (hb : Nr d b) (hc : Nr d c) (he : Nr d e) : meetsF (mv d a) (mv d b) (mv d c) (mv d e) = meetsF a b c e := by
  unfold meetsF; rw [ha.1, ha.2, hb.1, hb.2, hc.1, hc.2, he.1, he.2, meets_mv]
theorem pass_mv {d a b p : Pt} (ha : Nr d a) (hb : Nr d b) (hp : Nr d p) : passN (mv d a) (mv d b) (mv d p) = passN a b p := by
  rw [pass_cross ha.2 hb.2 hp.2, pass_cross ha.1 hb.1 hp.1, crs_mv]
  congr 1 <;> (unfold mv movedN; simp; omega)
theorem cor_mv {d : Pt} {l : List Pt} {k : Nat} (h : k < l.length) : cor (mvL d l) k = mv d (cor l k) := by
  unfold cor mvL
  rw [List.getD_eq_getElem?_getD, List.getD_eq_getElem?_getD, List.getElem?_map, List.getElem?_eq_getElem h]
  rfl
theorem mvL_turn (d : Pt) (l : List Pt) (k : Nat) : (mvL d l).drop k ++ (mvL d l).take k = mvL d (l.drop k ++ l.take k) := by
  unfold mvL; rw [List.map_append, List.map_drop, List.map_take]
theorem nxt_mv {d : Pt} {l : List Pt} {k : Nat} (h : k < l.length) : nxt (mvL d l) k = mv d (nxt l k) := by
  unfold nxt
  rw [mvL_turn, cor_mv]
  rw [turned_len 1 rfl (by omega)]
  exact h
theorem prv_mv {d : Pt} {l : List Pt} {k : Nat} (h : k < l.length) : prv (mvL d l) k = mv d (prv l k) := by
  unfold prv
  rw [mvL_len, mvL_turn, cor_mv]
  rw [turned_len (l.length - 1) rfl (by omega)]
  exact h
theorem nr_cor {d : Pt} {l : List Pt} (h : NrL d l) {k : Nat} (hk : k < l.length) : Nr d (cor l k) := h _ (List.mem_of_getElem? (cor_get hk))
theorem nrL_turn {d : Pt} {l : List Pt} (h : NrL d l) (k : Nat) : NrL d (l.drop k ++ l.take k) := fun p hp => by
  rcases List.mem_append.1 hp with hp | hp
  · exact h p (List.mem_of_mem_drop hp)
  · exact h p (List.mem_of_mem_take hp)
theorem nr_nxt {d : Pt} {l : List Pt} (h : NrL d l) {k : Nat} (hk : k < l.length) : Nr d (nxt l k) := nr_cor (nrL_turn h 1) (by rw [turned_len 1 rfl (by omega)]; exact hk)
theorem nr_prv {d : Pt} {l : List Pt} (h : NrL d l) {k : Nat} (hk : k < l.length) : Nr d (prv l k) := nr_cor (nrL_turn h (l.length - 1)) (by rw [turned_len (l.length - 1) rfl (by omega)]; exact hk)
theorem near_mvL {d : Pt} {l : List Pt} (h : NrL d l) : l.all nearB = true ∧ (mvL d l).all nearB = true := by
  constructor
  · exact List.all_eq_true.2 fun p hp => (h p hp).1
  · rw [List.all_eq_true]
    intro q hq
    unfold mvL at hq
    obtain ⟨p, hp, rfl⟩ := List.mem_map.1 hq
    exact (h p hp).2
theorem fits_mv {d : Pt} {l : List Pt} (h : NrL d l) : fitsN (mvL d l) = fitsN l := by
  unfold fitsN
  rw [mvL_len, (near_mvL h).1, (near_mvL h).2]
theorem sum_cor (g : Pt → Int) : ∀ (n : Nat) (l : List Pt), n = l.length → ((List.finRange n).map fun k => g (cor l k.val)) = l.map g := by
  rintro n l rfl
  apply List.ext_getElem
  · simp
  · intro i h1 h2
    simp at h1 h2
    simp [cor]
theorem sum_map_add {α : Type} (f g : α → Int) : ∀ (l : List α), (l.map fun k => f k + g k).sum = (l.map f).sum + (l.map g).sum
  | [] => rfl
  | a :: l => by simp [sum_map_add f g l]; omega
theorem sum_map_mul {α : Type} (c : Int) (f : α → Int) : ∀ (l : List α), (l.map fun k => c * f k).sum = c * (l.map f).sum
  | [] => by simp
  | a :: l => by simp [sum_map_mul c f l, Int.mul_add]
theorem sum_nxt (g : Pt → Int) (l : List Pt) : ((List.finRange l.length).map fun k => g (nxt l k.val)).sum = ((List.finRange l.length).map fun k => g (cor l k.val)).sum := by
  have h1 := sum_cor g l.length l rfl
  by_cases h0 : l.length = 0
  · have : l = [] := List.eq_nil_of_length_eq_zero h0
    subst this; rfl
  · have h2 := sum_cor g l.length (l.drop 1 ++ l.take 1) (turned_len 1 rfl (by omega)).symm
    show ((List.finRange l.length).map fun k => g (cor (l.drop 1 ++ l.take 1) k.val)).sum = _
    rw [h1, h2, List.map_append, List.sum_append]
    conv => rhs; rw [← List.take_append_drop 1 l, List.map_append, List.sum_append]
    omega
def twG (n : Nat) (f : Nat → Int) : Int := ((List.finRange n).map fun k => f k.val).sum
theorem twG_congr {n : Nat} {f g : Nat → Int} (h : ∀ k, k < n → f k = g k) : twG n f = twG n g := by
  unfold twG
  congr 1
  apply List.map_congr_left
  intro k _
  exact h k.val k.isLt
theorem twice_mv {d : Pt} {l : List Pt} (h : NrL d l) : twiceN (mvL d l) = twiceN l := by
  have e : ∀ l : List Pt, tw l (List.finRange l.length) = twG l.length (term l) := fun l => rfl
  unfold twiceN
  rw [fits_mv h, e, e, mvL_len]
  have e2 : twG l.length (term (mvL d l)) = twG l.length (fun k => (term l k + (d.x * (nxt l k).y + (-d.x) * (cor l k).y)) + ((-d.y) * (nxt l k).x + d.y * (cor l k).x)) := by
    apply twG_congr
    intro k hk
    unfold term
    rw [cor_mv hk, nxt_mv hk]
    unfold mv movedN
    grind
  have e3 : twG l.length (fun k => (term l k + (d.x * (nxt l k).y + (-d.x) * (cor l k).y)) + ((-d.y) * (nxt l k).x + d.y * (cor l k).x)) = twG l.length (term l) := by
    unfold twG
    rw [sum_map_add, sum_map_add, sum_map_add, sum_map_add, sum_map_mul, sum_map_mul, sum_map_mul, sum_map_mul]
    have s1 := sum_nxt (fun p => p.y) l
    have s2 := sum_nxt (fun p => p.x) l
    rw [s1, s2]
    grind
  rw [e2, e3]
theorem simple_mv {d : Pt} {l : List Pt} (h : NrL d l) : simpleN (mvL d l) = simpleN l := by
  unfold simpleN
  rw [fits_mv h]
  congr 1
  rw [Bool.eq_iff_iff, simpleB_iff, simpleB_iff, mvL_len]
  constructor
  · intro g i j hij hj
    have := g i j hij hj
    rwa [cor_mv (by omega), nxt_mv (by omega), cor_mv hj, nxt_mv hj, meetsF_mv (nr_cor h (by omega)) (nr_nxt h (by omega)) (nr_cor h hj) (nr_nxt h hj)] at this
  · intro g i j hij hj
    rw [cor_mv (by omega), nxt_mv (by omega), cor_mv hj, nxt_mv hj, meetsF_mv (nr_cor h (by omega)) (nr_nxt h (by omega)) (nr_cor h hj) (nr_nxt h hj)]
    exact g i j hij hj
def locG (n : Nat) (f g : Nat → Bool) : Int := if (List.finRange n).any (fun k => f k.val) then 0 else (List.finRange n).foldl (fun s k => if g k.val then -s else s) (-1)
theorem locG_congr {n : Nat} {f g f' g' : Nat → Bool} (h1 : ∀ k, k < n → f k = f' k) (h2 : ∀ k, k < n → g k = g' k) : locG n f g = locG n f' g' := by
  have e1 : (fun k : Fin n => f k.val) = fun k => f' k.val := funext fun k => h1 k.val k.isLt
  have e2 : (fun (s : Int) (k : Fin n) => if g k.val then -s else s) = fun s k => if g' k.val then -s else s := funext fun s => funext fun k => by rw [h2 k.val k.isLt]
  unfold locG
  rw [e1, e2]
theorem loc_mv {d : Pt} {l : List Pt} {p : Pt} (h : NrL d l) (hp : Nr d p) : locN (mvL d l) (mv d p) = locN l p := by
  have e : ∀ (l : List Pt) (p : Pt), locN l p = locG l.length (onK l p) (fun k => passN (cor l k) (nxt l k) p) := fun l p => rfl
  rw [e, e, mvL_len]
  apply locG_congr
  · intro k hk
    unfold onK
    rw [cor_mv hk, nxt_mv hk, on_mv (nr_cor h hk) (nr_nxt h hk) hp]
  · intro k hk
    rw [cor_mv hk, nxt_mv hk, pass_mv (nr_cor h hk) (nr_nxt h hk) hp]
theorem sideQ_mv {d : Pt} {l : List Pt} {p : Pt} (h : NrL d l) (hp : Nr d p) : sideQ (mvL d l) (mv d p) = sideQ l p := by
  unfold sideQ
  rw [simple_mv h, hp.1, hp.2, loc_mv h hp]
theorem last_mv {d : Pt} {m : List Pt} (p : Pt) : ∀ k, k ≤ m.length → lastAt (mvL d m) (mv d p) k = lastAt m p k
  | 0, _ => rfl
  | k + 1, hk => by
    unfold lastAt
    rw [cor_mv (by omega), eqP_mv, last_mv p k (by omega)]
theorem last_lt {m : List Pt} {p : Pt} : ∀ {k i : Nat}, lastAt m p k = some i → i < k
  | 0, i, h => by cases h
  | k + 1, i, h => by
    unfold lastAt at h
    split at h
    · injection h with h; omega
    · have := last_lt h; omega
theorem begins_mv {d b t a p : Pt} (hb : Nr d b) (ht : Nr d t) (ha : Nr d a) (hp : Nr d p) : beginsN ⟨mv d b, mv d t, mv d a⟩ (mv d p) = beginsN ⟨b, t, a⟩ p := by
  unfold beginsN
  simp only [eqP_mv, orient_mv hb ht ha, orient_mv hb ht hp, orient_mv ht ha hp]
theorem leave_mv {d : Pt} {l m : List Pt} (hl : NrL d l) (hm : NrL d m) {k : Nat} (hk : k < l.length) : leaveN (mvL d l) (mvL d m) k = leaveN l m k := by
  unfold leaveN
  rw [mvL_len, cor_mv hk, last_mv _ _ (Nat.le_refl _)]
  cases hi : lastAt m (cor l k) m.length with
  | none => rfl
  | some i =>
    have hi' := last_lt hi
    simp only [Option.map_some]
    congr 1
    unfold cnAt
    rw [twice_mv hm, cor_mv hi', nxt_mv hi', prv_mv hi', nxt_mv hk]
    split
    · exact begins_mv (nr_nxt hm hi') (nr_cor hm hi') (nr_prv hm hi') (nr_nxt hl hk)
    · exact begins_mv (nr_prv hm hi') (nr_cor hm hi') (nr_nxt hm hi') (nr_nxt hl hk)
def anyG (n : Nat) (f : Nat → Bool) : Bool := (List.finRange n).any fun k => f k.val
theorem anyG_congr {n : Nat} {f g : Nat → Bool} (h : ∀ k, k < n → f k = g k) : anyG n f = anyG n g := by
  have e1 : (fun k : Fin n => f k.val) = fun k => g k.val := funext fun k => h k.val k.isLt
  unfold anyG
  rw [e1]
theorem plA_mv {d : Pt} {l m : List Pt} (hl : NrL d l) (hm : NrL d m) (h0 : 0 < l.length) (c : Int) : plA (mvL d l) (mvL d m) c = plA l m c := by
  have e : ∀ (l m : List Pt), plA l m c = (decide (locN m (cor l 0) = c) || anyG l.length (fun k => leaveN l m k == some c)) := fun l m => rfl
  rw [e, e, mvL_len, cor_mv h0, loc_mv hm (nr_cor hl h0)]
  congr 1
  exact anyG_congr fun k hk => by rw [leave_mv hl hm hk]
theorem metP_mv {d : Pt} {l m : List Pt} (hl : NrL d l) (hm : NrL d m) (k : Int) : MetP (mvL d l) (mvL d m) k ↔ MetP l m k := by
  unfold MetP
  rw [mvL_len, mvL_len]
  constructor
  · rintro ⟨i, j, hi, hj, h⟩
    rw [cor_mv hi, nxt_mv hi, cor_mv hj, nxt_mv hj, meetsF_mv (nr_cor hl hi) (nr_nxt hl hi) (nr_cor hm hj) (nr_nxt hm hj)] at h
    exact ⟨i, j, hi, hj, h⟩
  · rintro ⟨i, j, hi, hj, h⟩
    refine ⟨i, j, hi, hj, ?_⟩
    rw [cor_mv hi, nxt_mv hi, cor_mv hj, nxt_mv hj, meetsF_mv (nr_cor hl hi) (nr_nxt hl hi) (nr_cor hm hj) (nr_nxt hm hj)]
    exact h
theorem rel_mv {d : Pt} {l m : List Pt} (hl : NrL d l) (hm : NrL d m) : relN (mvL d l) (mvL d m) = relN l m := by
  unfold relN
  rw [simple_mv hl, simple_mv hm]
  cases hs : (simpleN l && simpleN m) with
  | false => rfl
  | true =>
    rw [Bool.and_eq_true] at hs
    have h1 := (fits_parts (simple_fits hs.1)).1
    have h2 := (fits_parts (simple_fits hs.2)).1
    have hc : crossB (mvL d l) (mvL d m) = crossB l m := by
      unfold crossB
      exact decide_eq_decide.2 (by rw [metP_mv hl hm, metP_mv hl hm, metP_mv hl hm])
    rw [hc, plA_mv hl hm (by omega), plA_mv hl hm (by omega), plA_mv hm hl (by omega)]
end Go.Proofs.Ytcoelaolhnafjaa.Rg
