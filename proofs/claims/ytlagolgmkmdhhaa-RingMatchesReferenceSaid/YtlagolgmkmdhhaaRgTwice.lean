/- ring.Twice. -/
import Derived.Test.YtlagolgmkmdhhaaRgSides
namespace Go.Proofs.Ytlagolgmkmdhhaa.Rg
open Go.RowKit Go.Sort Go.Shelf
open Go.Proofs.Ytlagolgmkmdhhaa.Geo hiding intOf
attribute [local go_sem] Oper.semAt_some
theorem row_own {β : Type} (g : Nat) (t : TypeId) (f : β → Array Value) : Go.Own (fun (s : β) W => IsRow W g t (f s)) := fun s X Y row hs hg hr =>
  (hg.block g hs.inside (fun e => by obtain ⟨o, ho, hc⟩ := hr g e.symm; rw [show X.heap[g]? = _ from hs] at ho; cases ho; cases hc)).trans hs
theorem near_cor {l : List Pt} {k : Nat} (h : l.all nearB = true) (hk : k < l.length) : nearB (cor l k) = true := List.all_eq_true.1 h _ (List.mem_of_getElem? (cor_get hk))
theorem near_turn {l : List Pt} (h : l.all nearB = true) (k : Nat) : (l.drop k ++ l.take k).all nearB = true := by
  rw [List.all_eq_true] at h ⊢
  intro p hp
  rcases List.mem_append.1 hp with hp | hp
  · exact h p (List.mem_of_mem_drop hp)
  · exact h p (List.mem_of_mem_take hp)
theorem near_nxt {l : List Pt} {k : Nat} (h : l.all nearB = true) (hk : k < l.length) (h1 : 1 ≤ l.length) : nearB (nxt l k) = true := near_cor (near_turn h 1) (by rw [turned_len 1 rfl h1]; exact hk)
def term (l : List Pt) (k : Nat) : Int := (cor l k).x * (nxt l k).y - (nxt l k).x * (cor l k).y
def tw (l : List Pt) (pre : List (Fin l.length)) : Int := (pre.map fun k => term l k.val).sum
theorem term_bound {l : List Pt} {k : Nat} (h : l.all nearB = true) (hk : k < l.length) : -8796093022208 ≤ term l k ∧ term l k ≤ 8796093022208 := by
  have h1 := near_cor h hk
  have h2 := near_nxt h hk (by omega)
  rw [nearB_iff] at h1 h2
  obtain ⟨a1, a2, a3, a4⟩ := h1
  obtain ⟨b1, b2, b3, b4⟩ := h2
  have m1 := mul_bound (M := 2097152) a1 a2 b3 b4
  have m2 := mul_bound (M := 2097152) b1 b2 a3 a4
  unfold term
  omega
theorem tw_snoc (l : List Pt) (pre : List (Fin l.length)) (x : Fin l.length) : tw l (pre ++ [x]) = tw l pre + term l x.val := by unfold tw; simp
theorem tw_bound {l : List Pt} (h : l.all nearB = true) : ∀ (pre : List (Fin l.length)), -(8796093022208 * (pre.length : Int)) ≤ tw l pre ∧ tw l pre ≤ 8796093022208 * (pre.length : Int) := by
  intro pre
  induction pre with
  | nil => simp [tw]
  | cons x pre ih =>
    have := term_bound h x.isLt
    have e : tw l (x :: pre) = term l x.val + tw l pre := by unfold tw; simp
    rw [e, List.length_cons]
    omega
theorem twice_wraps {c d : Pt} {s : Int} (h1 : nearB c = true) (h2 : nearB d = true) (hs1 : -17592186044416000 ≤ s) (hs2 : s ≤ 17592186044416000) :
    wrap64 (c.x * d.y) = c.x * d.y ∧ wrap64 (d.x * c.y) = d.x * c.y ∧ wrap64 (c.x * d.y - d.x * c.y) = c.x * d.y - d.x * c.y ∧ wrap64 (s + (c.x * d.y - d.x * c.y)) = s + (c.x * d.y - d.x * c.y) := by
  rw [nearB_iff] at h1 h2
  obtain ⟨a1, a2, a3, a4⟩ := h1
  obtain ⟨b1, b2, b3, b4⟩ := h2
  have m1 := mul_bound (M := 2097152) a1 a2 b3 b4
  have m2 := mul_bound (M := 2097152) b1 b2 a3 a4
  unfold wrap64
  omega
def twiceN (l : List Pt) : Int := if fitsN l then tw l (List.finRange l.length) else 0
theorem fits_parts {l : List Pt} (h : fitsN l = true) : 3 ≤ l.length ∧ l.length ≤ 2000 ∧ l.all nearB = true := by
  unfold fitsN at h
  simpa [and_assoc] using h
set_option maxRecDepth 100000 in
set_option maxHeartbeats 4000000 in
theorem twice_any (a : Option Addr) (n cap : Nat) (l : List Pt) (w : World) (hl : Pts w w.heap.size a l) (hln : n = l.length) (hcap : n ≤ cap) (hm : cap ≤ maxLen) :
    Calls Try.prog 7 #[.slice a n cap] w fun e w' => e = .returned (.int .i64 (twiceN l)) ∧ Below w.heap.size w w' := by
  obtain ⟨R, hR⟩ : ∃ R, twiceN l = R := ⟨_, rfl⟩
  have HR := Lib.hid hR
  rw [hR]
  have HF := Lib.hid (fits_any a n cap l w hl hln (Nat.le_trans hcap hm))
  have HL := Lib.hid hl
  have HN := Lib.hid hln
  clear hR hl hln hm
  cases hf : fitsN l with
  | false =>
    have HE := Lib.hid (show (0 : Int) = R by rw [← HR.out]; unfold twiceN; rw [hf]; rfl)
    rw [hf] at HF
    clear hf
    go_enter Try.func7, Try.ntmps7
    go_wp2_with fail
    refine HF.out.mono ?_
    rintro e W1 ⟨rfl, hb1⟩
    go_wp2
    go_ret
    exact ⟨ret_int HE.out, hb1⟩
  | true =>
    obtain ⟨h3, h2, hnear⟩ := fits_parts hf
    have HE := Lib.hid (show tw l (List.finRange l.length) = R by rw [← HR.out]; unfold twiceN; rw [hf]; rfl)
    have HNR := Lib.hid hnear
    rw [hf] at HF
    clear hf hnear
    refine (callsIn_wide (n := 6)).1 ?_
    refine callsIn_of_wp_marks Try.func7 rfl trivial ?_ rfl
    simp only [Try.ntmps7, List.size_toArray, List.length_cons, List.length_nil, Nat.reduceAdd, Nat.reduceSub, Array.replicate_succ, Array.replicate_zero, List.push_toArray, List.append_toArray, List.nil_append, List.cons_append]
    gi_wp2_with (first
      | (refine ⟨trivial, ?_⟩; gi_at_call 17; refine (callsIn_wide.2 HF.out).mono ?_; rintro e W1 ⟨rfl, hb1⟩)
      | (refine ⟨trivial, ?_⟩; gi_at_call 18; refine (callsIn_wide.2 (sides_any a n cap _)).mono ?_; rintro e W2 ⟨rfl, rfl⟩))
    obtain ⟨W0, hW0⟩ : ∃ W0, (W1.alloc (.cells #[.int .i64 0] 3)).alloc (.cells #[.slice a n cap] 22) = W0 := ⟨_, rfl⟩
    have r0 : IsRow W0 W1.heap.size 3 #[.int .i64 (tw l [])] := hW0 ▸ (IsRow.made W1 _ _).later _
    have rb : IsRow W0 (W1.heap.size + 1) 22 #[.slice a n cap] := by
      have := IsRow.made (W1.alloc (.cells #[.int .i64 0] 3)) 22 #[.slice a n cap]
      rw [World.size_alloc] at this
      exact hW0 ▸ this
    have b0 : Below w.heap.size w W0 := hW0 ▸ hb1.trans ((alloc2 W1 _ _).mono hb1.size)
    have hs0 : W0.heap.size = W1.heap.size + 2 := by rw [← hW0]; simp
    have hs1 : w.heap.size ≤ W1.heap.size := hb1.size
    have HLW : Pts W0 w.heap.size a l := HL.out.below b0
    rw [hW0]
    clear hW0 hb1
    refine wpIn_rangeFunc_ownH rfl (by omega) (gf := 36) (lb := #[.pointer (some ⟨W1.heap.size + 1, 0, none⟩)]) rfl trivial (enters_of Try.func36 (by kernel_rfl) rfl)
      (sides_stops 5 (by omega) a n cap l w.heap.size (W1.heap.size + 1) W0 rb HLW b0.size HN.out (by have := HN.out; omega) (by have := HN.out; omega) hcap) KpT.trans (fun W l o o' h1 h2 h3 h4 => kpT_b (w := W0) W l o o' h1 h2 h3 h4) (Below.refl _ _) (fun _ => rfl)
      (fun pre W => IsRow W W1.heap.size 3 #[.int .i64 (tw l pre)] ∧ Below w.heap.size w W ∧ W0.heap.size ≤ W.heap.size)
      (fun _ _ _ => False)
      (OwnFrom.and (Own.from (row_own W1.heap.size _ (fun pre => #[.int .i64 (tw l pre)])) _) (OwnFrom.and (ownFrom_below (Nat.le_refl _) (by omega)) (fun _ _ _ _ hs hg _ => Nat.le_trans hs hg.size)))
      (fun _ _ _ _ _ hs _ _ => hs)
      ⟨r0, b0, Nat.le_refl _⟩
      (fun x a' W => ∃ Bx, W0.heap.size ≤ Bx ∧ IsRow W Bx 33 #[.int .i64 (cor l x.val).x, .int .i64 (cor l x.val).y, .int .i64 (nxt l x.val).x, .int .i64 (nxt l x.val).y] ∧
        a' = { tmps := #[.slice a n cap, undef, .int .i64 0, .pointer (some ⟨W1.heap.size, 0, none⟩), undef, .pointer (some ⟨Bx, 0, none⟩), .slice a n cap, .bool true, .bool false, .slice a n cap, .func (.func 36) #[] #[.pointer (some ⟨W1.heap.size + 1, 0, none⟩)], .int .i64 (x.val : Int), .agg #[.int .i64 (cor l x.val).x, .int .i64 (cor l x.val).y, .int .i64 (nxt l x.val).x, .int .i64 (nxt l x.val).y], undef, undef, undef, undef, undef, undef, undef, undef, undef, undef, undef, undef, undef, undef, undef, undef, undef, undef], defers := [] })
      (fun x a' _ X Y row hs hg hr => by
        obtain ⟨Bx, h1, h2, h3⟩ := hs
        exact ⟨Bx, h1, Own.from (row_own Bx _ (fun _ : Unit => _)) W0.heap.size () X Y row h2 hg hr, h3⟩) ?assign ?body ?done ?stop
    case assign =>
      rintro y pre x W K ⟨hi1, hi2, hi3⟩ hK
      gi_wp2
      exact hK _ _ ((KeepsOthers.alloc _ _).from _) (KpT.of_below (alloc1 _ _)) ⟨hi1.later _, hi2.alloc hi2.size _, by simp; omega⟩ ⟨W.heap.size, hi3, IsRow.made W _ _, rfl⟩
    case body =>
      rintro y pre ⟨k, hk⟩ a' W - - ⟨rs, hb, hsz⟩ ⟨Bx, hBx, rx, rfl⟩ hlt
      have c0 : W.cell? ⟨W1.heap.size, 0, none⟩ = some (.int .i64 (tw l pre)) := rs.get 0
      have f0 := rs.open_ 0
      obtain ⟨d0, d1, d2, d3⟩ : W.cell? ⟨Bx, 0, none⟩ = some (.int .i64 (cor l k).x) ∧ W.cell? ⟨Bx, 1, none⟩ = some (.int .i64 (cor l k).y) ∧ W.cell? ⟨Bx, 2, none⟩ = some (.int .i64 (nxt l k).x) ∧ W.cell? ⟨Bx, 3, none⟩ = some (.int .i64 (nxt l k).y) := ⟨rx.get 0, rx.get 1, rx.get 2, rx.get 3⟩
      have tb := term_bound HNR.out hk
      have wb := tw_bound HNR.out pre
      have n1 := near_cor HNR.out hk
      have n2 := near_nxt HNR.out hk (by omega)
      obtain ⟨w1, w2, w3, w4⟩ := twice_wraps n1 n2 (s := tw l pre) (by omega) (by omega)
      have HS := Lib.hid (tw_snoc l pre ⟨k, hk⟩)
      clear tb wb n1 n2
      gi_wp2
      refine ⟨(KeepsOthers.setCell _ _ _).from _, KpT.set (p := ⟨W1.heap.size, 0, none⟩) hs1 rs (by decide) (by decide) _, ?_, hb.setCell (p := ⟨W1.heap.size, 0, none⟩) hs1 _, by have := hs0; simp; omega⟩
      rw [HS.out]
      exact rs.put 0 _
    case done =>
      rintro D ys W hD rfl ⟨rs, hb, hsz⟩ hK
      have c0 : W.cell? ⟨W1.heap.size, 0, none⟩ = some (.int .i64 (tw l (List.finRange l.length))) := rs.get 0
      rw [HE.out] at c0
      gi_wp2
      refine ⟨by simp, .inl ⟨_, _, rfl, run_takeDeferred hK, ?_⟩⟩
      exact ⟨_, results_tmp rfl _ _ _, rfl, hb.trans (belowK_b (w := w) (Nat.le_refl _) W D _ _ (by omega) hK rfl rfl)⟩
    case stop =>
      rintro D c pre W _ _ h _
      exact h.elim
end Go.Proofs.Ytlagolgmkmdhhaa.Rg
