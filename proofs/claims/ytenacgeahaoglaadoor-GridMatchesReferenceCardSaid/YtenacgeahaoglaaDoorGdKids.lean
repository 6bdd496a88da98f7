/- grid: Kids. -/
import Derived.Test.YtenacgeahaoglaaDoorGdColl
namespace Go.Proofs.YtenacgeahaoglaaDoor.Gd
open Go.RowKit Go.Sort
/-- a list of tiles and its error. -/
def AnsL (P : Program) (f : FuncId) (args : Array Value) (r : List Tl × Int) : Prop := ∀ w, Sides w → Calls P f args w fun e w' => (∃ v, e = .returned (.tuple #[v, .int .i64 r.2]) ∧ OwnT w' w.heap.size v r.1) ∧ Below w.heap.size w w'
theorem OwnT.base {w : World} {b b' : Nat} {v : Value} {l : List Tl} (h : OwnT w b v l) (hb : b' ≤ b) : OwnT w b' v l := by
  obtain ⟨h1, h2⟩ := h
  refine ⟨h1, ?_⟩
  rcases h2 with h | ⟨g, cap, cur, e, hg, h⟩
  · exact .inl h
  · exact .inr ⟨g, cap, cur, e, Nat.le_trans hb hg, h⟩
set_option maxRecDepth 100000 in
set_option maxHeartbeats 1000000 in
theorem collect_any (b1 b2 : Nat) (f l : Tl) (w : World) (h1 : IsRow w b1 25 (cT f)) (h2 : IsRow w b2 25 (cT l))
    (hf : -1000000000 ≤ f.x ∧ f.x ≤ 1000000000 ∧ -1000000000 ≤ f.y ∧ f.y ≤ 1000000000) (hl : -1000000000 ≤ l.x ∧ l.x ≤ 1000000000 ∧ -1000000000 ≤ l.y ∧ l.y ≤ 1000000000) (hN : (rect f l).length ≤ 5000) :
    Calls Tryd.prog 38 #[.func (.func 50) #[] #[.pointer (some ⟨b1, 0, none⟩), .pointer (some ⟨b2, 0, none⟩)]] w fun e w' => (∃ v, e = .returned v ∧ OwnT w' w.heap.size v (rect f l)) ∧ Below w.heap.size w w' := by
  have K := appendSeq_any b1 b2 f l w h1 h2 hf hl hN
  clear h1 h2
  go_enter Tryd.func38, Tryd.ntmps38
  go_wp2_with fail
  refine K.mono ?_
  rintro e w1 ⟨⟨v, rfl, hv⟩, hb⟩
  go_wp2
  go_ret
  exact ⟨⟨_, rfl, hv⟩, hb⟩
theorem between_rows (f l : Tl) (w : World) :
    Calls Tryd.prog 39 #[.agg #[.int .i64 f.z, .int .i64 f.x, .int .i64 f.y], .agg #[.int .i64 l.z, .int .i64 l.x, .int .i64 l.y]] w fun e w' => ∃ b1 b2, e = .returned (.func (.func 50) #[] #[.pointer (some ⟨b1, 0, none⟩), .pointer (some ⟨b2, 0, none⟩)]) ∧ IsRow w' b1 25 (cT f) ∧ IsRow w' b2 25 (cT l) ∧ Below w.heap.size w w' := by
  refine Calls.mono (between_any f l w) ?_
  rintro e w' ⟨rfl, rfl⟩
  obtain ⟨W, hW, hB, hP, hQ⟩ := two_made w 25 25 (cT f) (cT l)
  rw [hW]
  exact ⟨_, _, rfl, hP, hQ, hB⟩
set_option maxRecDepth 100000 in
set_option maxHeartbeats 1000000 in
theorem kids_any (t : Tl) : AnsL Tryd.prog 16 #[vT t] (kidsR t) := by
  intro w hS
  obtain ⟨V, hV⟩ : ∃ V, decide (okT t) = V := ⟨_, rfl⟩
  have K1 := (isValid_any t).to (congrArg Value.bool hV)
  obtain ⟨R, hR⟩ : ∃ R, kidsR t = R := ⟨_, rfl⟩
  have HR := Lib.hid hR
  rw [hR]
  obtain ⟨W, hW⟩ : ∃ W, w.alloc (.cells #[.int .i64 t.z, .int .i64 t.x, .int .i64 t.y] 25) = W := ⟨_, rfl⟩
  obtain ⟨HB, HP⟩ := rowB w _ _ hW
  have HW := Lib.hid hW
  have HV := Lib.hid hV
  have K1 := K1 W (hS.below HB.out (Nat.le_refl _))
  obtain ⟨c0, c1, c2, _, _, _⟩ := facts3 HP.out
  clear hW hV hR hS
  unfold vT at *
  go_enter Tryd.func16, Tryd.ntmps16
  go_wp2_with fail
  rw [HW.out]
  refine K1.mono ?_
  rintro e w1 ⟨rfl, b1⟩
  have B1 := Lib.hid (HB.out.trans (b1.mono HB.out.size))
  have P1 := Lib.hid (HP.out.below b1 HP.out.inside)
  clear b1 K1 HB HP HW c0 c1 c2
  obtain ⟨c0, c1, c2, _, _, _⟩ := facts3 P1.out
  have i1 := P1.out.inside
  cases V with
  | false =>
    obtain rfl : R = ([], 1) := by rw [← HR.out]; unfold kidsR; rw [if_neg (of_decide_eq_false HV.out)]
    go_wp2
    go_ret2
    exact ⟨⟨_, rfl, ownT_nil _ _⟩, B1.out⟩
  | true =>
    have ht := of_decide_eq_true HV.out
    by_cases hz : t.z = 17
    · obtain rfl : R = ([], 11) := by rw [← HR.out]; unfold kidsR; rw [if_pos ht, if_pos hz]
      rw [hz] at c0
      clear hz
      go_wp2
      go_ret2
      exact ⟨⟨_, rfl, ownT_nil _ _⟩, B1.out⟩
    · obtain rfl : R = (kidsN t, 0) := by rw [← HR.out]; unfold kidsR; rw [if_pos ht, if_neg hz]
      have HK := Lib.hid (kids_rect t)
      obtain ⟨z, x, y⟩ := t
      obtain ⟨⟨hz1, hz2⟩, h1, h2, h3, h4⟩ := ht
      have hn := cnt_bounds ⟨hz1, hz2⟩
      dsimp only at *
      have e1 : kid ⟨z, x, y⟩ 0 0 = ⟨z + 1, 2 * x, 2 * y⟩ := by unfold kid; simp
      have e2 : kid ⟨z, x, y⟩ 1 1 = ⟨z + 1, 2 * x + 1, 2 * y + 1⟩ := rfl
      rw [e1, e2] at HK
      have q1 : IntKind.i64.wrap (z + 1) = z + 1 := IntWalk.i64_in _ (by omega)
      have q2 : IntKind.i64.wrap (2 * x) = 2 * x := IntWalk.i64_in _ (by omega)
      have q3 : IntKind.i64.wrap (2 * y) = 2 * y := IntWalk.i64_in _ (by omega)
      have q4 : IntKind.i64.wrap (2 * x + 1) = 2 * x + 1 := IntWalk.i64_in _ (by omega)
      have q5 : IntKind.i64.wrap (2 * y + 1) = 2 * y + 1 := IntWalk.i64_in _ (by omega)
      have hx : 0 ≤ 2 * x ∧ 2 * x ≤ 300000 := by omega
      have hy : 0 ≤ 2 * y ∧ 2 * y ≤ 300000 := by omega
      have hlen := HK.out ▸ (show (kidsN ⟨z, x, y⟩).length = 4 from rfl)
      clear HR HV e1 e2 h1 h2 h3 h4 hn
      have KB := fun (W : World) => between_rows ⟨z + 1, 2 * x, 2 * y⟩ ⟨z + 1, 2 * x + 1, 2 * y + 1⟩ W
      dsimp only at KB
      go_wp2_with fail
      refine (KB _).mono ?_
      rintro e w2 ⟨b1, b2, rfl, r1, r2, hb2⟩
      have A2 := alloc2 w1 (.cells #[.int .i64 (z + 1), .int .i64 (2 * x), .int .i64 (2 * y)] 25) (.cells #[.int .i64 (z + 1), .int .i64 (2 * x + 1), .int .i64 (2 * y + 1)] 25)
      have B2 := Lib.hid (B1.out.trans ((A2.trans (hb2.mono A2.size)).mono B1.out.size))
      have K3 := collect_any b1 b2 _ _ w2 r1 r2 (by simp only; omega) (by simp only; omega) (by omega)
      clear hb2 A2 r1 r2 KB
      go_wp2_with fail
      refine K3.mono ?_
      rintro e w3 ⟨⟨v, rfl, hv⟩, hb3⟩
      have hv := OwnT.base hv B2.out.size
      rw [HK.out] at hv
      have B3 := Lib.hid (B2.out.trans (hb3.mono B2.out.size))
      clear hb3 B2 K3
      go_wp2
      go_ret2
      exact ⟨⟨_, rfl, hv⟩, B3.out⟩
end Go.Proofs.YtenacgeahaoglaaDoor.Gd
