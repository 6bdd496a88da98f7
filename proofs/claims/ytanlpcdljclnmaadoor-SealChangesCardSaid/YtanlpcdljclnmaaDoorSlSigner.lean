/- signer by contract. -/
import Derived.Test.YtanlpcdljclnmaaDoorSlDigits
namespace Go.Proofs.YtanlpcdljclnmaaDoor.Sl
open Go.RowKit Go.Shelf
open Go.Proofs.YtanlpcdljclnmaaDoor.Dg hiding intOf
attribute [local go_sem] Oper.semAt_some

theorem row_own {β : Type} (g : Nat) (t : TypeId) (f : β → Array Value) : Go.Own (fun (s : β) W => IsRow W g t (f s)) := fun s X Y row hs hg hr =>
  (hg.block g hs.inside (fun e => by obtain ⟨o, ho, hc⟩ := hr g e.symm; rw [show X.heap[g]? = _ from hs] at ho; cases ho; cases hc)).trans hs
/-- what a round lays at place k. -/
def endAt (m : B) (sig : List B) (k : Nat) : B := chainN (sig.getD k []) (15 - dig m k)
def laid (m : B) (sig : List B) (pre : List (Fin 18)) : List B := (List.range 18).map fun j => if j ∈ pre.map (·.val) then endAt m sig j else []
theorem laid_nil (m : B) (sig : List B) : laid m sig [] = part (endAt m sig) 0 := rfl
theorem laid_len (m : B) (sig : List B) (pre : List (Fin 18)) : (strv (laid m sig pre)).length = 18 := by simp [strv, laid]
theorem laid_step (m : B) (sig : List B) (pre : List (Fin 18)) (k : Fin 18) : (strv (laid m sig pre)).toArray.setIfInBounds k.val (.string ⟨(endAt m sig k.val).toArray⟩) = (strv (laid m sig (pre ++ [k]))).toArray := by
  rw [List.setIfInBounds_toArray]
  congr 1
  unfold strv laid
  refine List.ext_getElem (by simp) fun j h1 h2 => ?_
  simp only [List.length_map, List.length_range] at h2
  rw [List.getElem_set]
  simp only [List.getElem_map, List.getElem_range]
  by_cases e : k.val = j
  · subst e; rw [if_pos rfl, if_pos (by simp)]
  · rw [if_neg e]
    congr 3
    by_cases hj : j ∈ pre.map (·.val)
    · rw [if_pos hj, if_pos (by rw [List.map_append]; exact List.mem_append_left _ hj)]
    · rw [if_neg hj, if_neg (by rw [List.map_append, List.mem_append]; rintro (h | h); exact hj h; simp at h; exact e h.symm)]
theorem laid_full (m : B) (sig : List B) : laid m sig (List.finRange 18) = signEnds m sig := by
  refine List.map_congr_left fun j hj => if_pos ?_
  exact List.mem_map.2 ⟨⟨j, List.mem_range.1 hj⟩, List.mem_finRange _, rfl⟩
theorem getD_small {L : List B} {m : Nat} (h : ∀ x ∈ L, x.length ≤ m) (k : Nat) : (L.getD k []).length ≤ m := by
  rw [List.getD_eq_getElem?_getD]
  cases e : L[k]? with
  | none => exact Nat.zero_le _
  | some x => exact h x (List.mem_of_getElem? e)
theorem signEnds_small {m : B} {sig : List B} (h : ∀ x ∈ sig, x.length ≤ 1000) : ∀ x ∈ signEnds m sig, x.length ≤ 1000 := by
  intro x hx
  simp only [signEnds, List.mem_map] at hx
  obtain ⟨k, _, rfl⟩ := hx
  exact chainN_len _ (getD_small h k) (by decide) _
set_option maxRecDepth 100000 in
set_option maxHeartbeats 4000000 in
theorem signer_any (m : B) (a : Option Addr) (n cap : Nat) (sig : List B) (w : World) (ht : Tab w) (hm : m.length ≤ 1000) (hl : Txt w w.heap.size a sig) (hn : n = 18) (hn' : sig.length = 18) (hx : ∀ x ∈ sig, x.length ≤ 1000) :
    Calls Tryd.prog 24 #[.string ⟨m.toArray⟩, .slice a n cap] w fun e w' => e = .returned (.string ⟨(signer m sig).toArray⟩) ∧ Below w.heap.size w w' := by
  subst hn
  have HT := Lib.hid ht
  have HX := Lib.hid hx
  have HN := Lib.hid hn'
  clear ht hx hn'
  refine (callsIn_wide (n := 6)).1 ?_
  refine callsIn_of_wp_marks Tryd.func24 rfl trivial ?_ rfl
  simp only [Tryd.ntmps24, List.size_toArray, List.length_cons, List.length_nil, Nat.reduceAdd, Nat.reduceSub, Array.replicate_succ, Array.replicate_zero, List.push_toArray, List.append_toArray, List.nil_append, List.cons_append]
  gi_wp2_with (refine ⟨trivial, ?_⟩; gi_at_call 18; refine (callsIn_wide.2 (digits_any m _)).mono ?_; rintro e W1 ⟨rfl, rfl⟩)
  obtain ⟨W0, hW0⟩ : ∃ W0, ((w.alloc (.cells #[.slice a 18 cap] 27)).alloc (.cells (strv (part (endAt m sig) 0)).toArray 59)).alloc (.cells #[.string ⟨m.toArray⟩] 9) = W0 := ⟨_, rfl⟩
  have rb : IsRow W0 w.heap.size 27 #[.slice a 18 cap] := hW0 ▸ ((IsRow.made w _ _).later _).later _
  have re : IsRow W0 (w.heap.size + 1) 59 (strv (laid m sig [])).toArray := by
    have := (IsRow.made (w.alloc (.cells #[.slice a 18 cap] 27)) 59 (strv (part (endAt m sig) 0)).toArray).later (.cells #[.string ⟨m.toArray⟩] 9)
    rw [World.size_alloc] at this
    exact hW0 ▸ this
  have rm : IsRow W0 (w.heap.size + 1 + 1) 9 #[.string ⟨m.toArray⟩] := by
    have := IsRow.made ((w.alloc (.cells #[.slice a 18 cap] 27)).alloc (.cells (strv (part (endAt m sig) 0)).toArray 59)) 9 #[.string ⟨m.toArray⟩]
    rw [World.size_alloc, World.size_alloc] at this
    exact hW0 ▸ this
  have B0 : Below w.heap.size w W0 := hW0 ▸ (((Below.refl _ w).alloc (Nat.le_refl _) _).alloc (by simp) _).alloc (by simp; omega) _
  have hs0 : w.heap.size + 3 ≤ W0.heap.size := by rw [← hW0]; simp
  rw [part_zero] at hW0
  rw [hW0]
  clear hW0
  refine wpIn_rangeFunc_ownG rfl (by omega) (gf := 34) (lb := #[.pointer (some ⟨w.heap.size + 1 + 1, 0, none⟩)]) rfl trivial (enters_of Tryd.func34 (by kernel_rfl) rfl)
    (digits_stops 5 (by omega) m hm w.heap.size (w.heap.size + 1 + 1) W0 (by omega) (rm.get 0)) belowK_t (belowK_b (by omega)) (Below.refl _ _) (fun _ => rfl)
    (fun pre W => (IsRow W w.heap.size 27 #[.slice a 18 cap] ∧ IsRow W (w.heap.size + 1) 59 (strv (laid m sig pre)).toArray) ∧ Below w.heap.size w W)
    (fun _ _ _ => False)
    (OwnFrom.and (OwnFrom.and (Own.from (row_own w.heap.size _ (fun _ => #[.slice a 18 cap])) _) (Own.from (row_own (w.heap.size + 1) _ (fun pre => (strv (laid m sig pre)).toArray)) _)) (ownFrom_below (Nat.le_refl _) (by omega)))
    (fun _ _ _ _ _ hs _ _ => hs)
    ⟨⟨rb, re⟩, B0⟩
    (fun x => { tmps := #[.string ⟨m.toArray⟩, .slice a 18 cap, undef, .pointer (some ⟨w.heap.size, 0, none⟩), .string ⟨#[]⟩, .pointer (some ⟨w.heap.size + 1, 0, none⟩), .int .i64 (x.val : Int), .int .i64 (dig m x.val : Int), .string ⟨m.toArray⟩, .func (.func 34) #[] #[.pointer (some ⟨w.heap.size + 1 + 1, 0, none⟩)], .int .i64 (x.val : Int), .int .i64 (dig m x.val : Int), undef, undef, undef, undef, undef, undef, undef, undef, undef, undef, undef], defers := [] }) ?assign ?body ?done ?stop
  case assign =>
    intro l x W K hK
    gi_wp2
    exact hK
  case body =>
    rintro l pre x W ⟨⟨rb, re⟩, hb⟩ hlt
    obtain ⟨k, hk⟩ := x
    have hd := dig_lt m k hk
    have hsz := hb.size
    have c0 : W.cell? ⟨w.heap.size, 0, none⟩ = some (.slice a 18 cap) := rb.get 0
    obtain ⟨b, off, rfl, hbN, e0⟩ := hl.at_ (k := k) (by rw [HN.out]; exact hk)
    have c1 : W.cell? ⟨b, off + k, none⟩ = some (.string ⟨(sig.getD k []).toArray⟩) := (hb.cell (p := ⟨b, off + k, none⟩) hbN).trans e0
    have i1 : (k : Int) < 18 := by omega
    clear e0
    gi_wp2_with fail
    refine ⟨trivial, ?_⟩
    have hsub : (15 : Int) - (dig m k : Int) = ((15 - dig m k : Nat) : Int) := by omega
    rw [hsub]
    refine (CallsIn.inRound l (callsIn_wide.2 (chain_any (sig.getD k []) (15 - dig m k) _ (Nat.le_trans (getD_small HX.out k) (by decide)) (by omega)))).mono ?_
    rintro e W1 ⟨rfl, hb1⟩
    have rb1 : IsRow W1 w.heap.size 27 #[.slice (some ⟨b, off, none⟩) 18 cap] := rb.below hb1 rb.inside
    have re1 : IsRow W1 (w.heap.size + 1) 59 (strv (laid m sig pre)).toArray := re.below hb1 re.inside
    have f1 : W1.frozen? ⟨w.heap.size + 1, k, none⟩ = false := re1.open_ k
    have d1 : W1.cell? ⟨w.heap.size + 1, k, none⟩ = some ((strv (laid m sig pre))[k]'(by rw [laid_len]; exact hk)) := by
      rw [re1.get k]; simp
    have re2 := Lib.hid (re1.put k (.string ⟨(endAt m sig k).toArray⟩))
    rw [laid_step m sig pre ⟨k, hk⟩] at re2
    have rb2 : Hid (IsRow (W1.setCell ⟨w.heap.size + 1, k, none⟩ (.string ⟨(endAt m sig k).toArray⟩)) w.heap.size 27 #[.slice (some ⟨b, off, none⟩) 18 cap]) := rb1.putOther (by simp) _
    have bb : Hid (Below w.heap.size W (W1.setCell ⟨w.heap.size + 1, k, none⟩ (.string ⟨(endAt m sig k).toArray⟩))) := (hb1.mono hsz).setCell (p := ⟨w.heap.size + 1, k, none⟩) (by simp) _
    have kf : Hid (KeepsFrom W0.heap.size W (W1.setCell ⟨w.heap.size + 1, k, none⟩ (.string ⟨(endAt m sig k).toArray⟩))) :=
      ⟨by have := hb1.size; simpa [World.setCell] using this, fun j o _ hj ho => by
        have hjl := (Array.getElem?_eq_some_iff.1 hj).1
        rw [Below.heap_setCell W1 ⟨w.heap.size + 1, k, none⟩ _ j (fun e => by
          have h1 := hb1.block j hjl
          rw [hj] at h1
          have h2 : W1.heap[w.heap.size + 1]? = _ := re1
          simp only at e
          subst e
          rw [h2] at h1
          injection h1 with h1
          subst h1
          cases ho), hb1.block j hjl]
        exact hj⟩
    clear rb re rb1 re1 hb1
    gi_wp2
    exact ⟨kf.out, bb.out, ⟨rb2.out, re2.out⟩, hb.trans bb.out⟩
  case done =>
    rintro D ys W hD rfl ⟨⟨rb, re⟩, hb⟩ hK
    rw [laid_full] at re
    have T1 : Txt W W.heap.size (some ⟨w.heap.size + 1, 0, none⟩) (signEnds m sig) := Txt.of_row re re.inside
    have HTR : Tab W := Tab.below HT.out hb (Nat.le_refl _)
    have hsz := hb.size
    have hDl : D < W.heap.size := (Array.getElem?_eq_some_iff.1 hK).1
    gi_wp2_with fail
    refine ⟨trivial, ?_⟩
    refine (callsIn_wide.2 (key_any (some ⟨w.heap.size + 1, 0, none⟩) 18 18 (signEnds m sig) _ HTR T1 (signEnds_len _ _).symm (few_ends (signEnds_len _ _) (signEnds_small HX.out)))).mono ?_
    rintro e W2 ⟨rfl, hb2⟩
    have hK2 : W2.heap[D]? = some (.deferred (some [])) := (hb2.block D hDl).trans hK
    have hbb := hb.trans (hb2.mono hsz)
    clear rb re T1 HTR hb hb2 hK
    gi_wp2
    refine ⟨by simp, .inl ⟨_, _, rfl, run_takeDeferred hK2, ?_⟩⟩
    exact ⟨_, results_tmp rfl _ _ _, rfl, hbb.trans (belowK_b (w := w) (Nat.le_refl _) W2 D _ _ (by omega) hK2 rfl rfl)⟩
  case stop =>
    rintro D c pre W _ _ h _
    exact h.elim
end Go.Proofs.YtanlpcdljclnmaaDoor.Sl
