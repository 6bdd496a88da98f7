/- P7.4: GridCovers walks. -/
import Derived.Test.YtenacgeahaoglaaDoorGdCover
import Derived.Test.YtenacgeahaoglaaDoorGdKidsWalk
namespace Go.Proofs.YtenacgeahaoglaaDoor.Gd
open Go.RowKit Go.Sort
theorem cover_to (b : Bb) (z : Int) {L : List Tl} {e : Int} (h : coverR b z = (L, e)) (w : World) (hG : Gw w) : Calls Tryd.prog 19 #[.agg #[.int .i64 b.a.x, .int .i64 b.a.y, .int .i64 b.b.x, .int .i64 b.b.y], .int .i64 z] w fun e' w' => (∃ v, e' = .returned (.tuple #[v, .int .i64 e]) ∧ OwnT w' w.heap.size v L) ∧ Below w.heap.size w w' := by
  have k := cover_any b z w hG.sides
  rw [h] at k
  exact k
theorem ownT_row2 {w : World} {base : Nat} {v : Value} {L : List Tl} (h : OwnT w base v L) (h0 : 0 < L.length) : ∃ g cap cur, v = .slice (some ⟨g, 0, none⟩) L.length cap ∧ base ≤ g ∧ IsRow w g 25 cur ∧ RowT cur L := by
  obtain ⟨g, cap, cur, rfl, hr, hrow⟩ := ownT_row h h0
  exact ⟨g, cap, cur, rfl, (h.row g rfl).1, hr, hrow⟩
theorem bool_eq (V : Bool) : (V == V) = true := by cases V <;> rfl
theorem own_nil {w : World} {base : Nat} {v : Value} (h : OwnT w base v []) : ∃ a cap, v = .slice a 0 cap := by
  obtain ⟨_, ⟨rfl, _⟩ | ⟨g, cap, cur, rfl, _⟩⟩ := h
  · exact ⟨_, _, rfl⟩
  · exact ⟨_, _, rfl⟩
theorem mem_take {L : List Tl} {k : Nat} {u : Tl} (h : L[k]? = some u) (t : Tl) : t ∈ L.take (k + 1) ↔ t ∈ L.take k ∨ u = t := by
  obtain ⟨hk, rfl⟩ := List.getElem?_eq_some_iff.1 h
  rw [List.take_succ_eq_append_getElem hk, List.mem_append, List.mem_singleton]
  exact or_congr_right eq_comm
theorem tl_eq {u : Tl} {z x y : Int} (h : u.z = z) : u = ⟨z, x, y⟩ ↔ u.x = x ∧ u.y = y := by
  obtain ⟨a, b, c⟩ := u
  dsimp only at *
  subst h
  simp
theorem bef_at {L : List Tl} (h : L.Pairwise bef) {j : Nat} {u u' : Tl} (h1 : L[j]? = some u') (h2 : L[j + 1]? = some u) : bef u' u := by
  obtain ⟨k1, rfl⟩ := List.getElem?_eq_some_iff.1 h1
  obtain ⟨k2, rfl⟩ := List.getElem?_eq_some_iff.1 h2
  exact List.pairwise_iff_getElem.1 h j (j + 1) k1 k2 (by omega)
set_option maxRecDepth 100000 in
set_option maxHeartbeats 4000000 in
theorem gridCovers_any (b : Bb) (z : Int) (t : Tl) (w : World) (hG : Gw w) :
    Calls Tryd.prog 6 #[.agg #[.int .i64 b.a.x, .int .i64 b.a.y, .int .i64 b.b.x, .int .i64 b.b.y], .int .i64 z, .agg #[.int .i64 t.z, .int .i64 t.x, .int .i64 t.y]] w fun e w' => e = .returned (.bool true) ∧ Below w.heap.size w w' := by
  have HG := Lib.hid hG
  obtain ⟨W, hW, hB, hP, hQ⟩ := two_made w 27 25 #[.int .i64 b.a.x, .int .i64 b.a.y, .int .i64 b.b.x, .int .i64 b.b.y] #[.int .i64 t.z, .int .i64 t.x, .int .i64 t.y]
  have HW := Lib.hid hW
  have B0 := Lib.hid hB
  have RB := Lib.hid hP
  have RT := Lib.hid hQ
  clear hG hW hB hP hQ
  go_enter Tryd.func6, Tryd.ntmps6
  go_wp2_with fail
  rw [HW.out]
  clear HW
  refine (head_any _ (HG.out.below B0.out)).mono ?_
  rintro e w1 ⟨rfl, b1⟩
  have B1 := Lib.hid (B0.out.trans (b1.mono B0.out.size))
  replace RB := Lib.hid (RB.out.below b1 RB.out.inside)
  replace RT := Lib.hid (RT.out.below b1 RT.out.inside)
  clear b1 B0
  obtain ⟨RB0, RB1, RB2, RB3, _, _, _, _⟩ := facts4 RB.out
  have RBi := RB.out.inside
  obtain ⟨⟨L, e0⟩, hk⟩ : ∃ R, coverR b z = R := ⟨_, rfl⟩
  go_wp2_with fail
  have iT := RT.out.inside
  refine (cover_to b z hk _ (HG.out.below B1.out)).mono ?_
  rintro e w2 ⟨⟨v, rfl, hv⟩, b2⟩
  have B2 := Lib.hid (B1.out.trans (b2.mono B1.out.size))
  clear RB0 RB1 RB2 RB3 RBi
  replace RB := Lib.hid (RB.out.below b2 RB.out.inside)
  replace RT := Lib.hid (RT.out.below b2 RT.out.inside)
  clear b2 B1
  obtain ⟨RT0, RT1, RT2, _, _, _⟩ := facts3 RT.out
  have RTi := RT.out.inside
  have tf := RT.out.open_ 0
  go_wp2_with fail
  obtain ⟨w3, hw⟩ : ∃ v, w2.setCell ⟨w.heap.size + 1, 0, none⟩ (.int .i64 z) = v := ⟨_, rfl⟩
  rw [hw]
  have B3 := Lib.hid (show Below w.heap.size w w3 from hw ▸ B2.out.setCell (p := ⟨w.heap.size + 1, 0, none⟩) (by show w.heap.size ≤ w.heap.size + 1; omega) _)
  replace RB := Lib.hid (show IsRow w3 w.heap.size 27 #[.int .i64 b.a.x, .int .i64 b.a.y, .int .i64 b.b.x, .int .i64 b.b.y] from hw ▸ RB.out.putOther (by show w.heap.size ≠ w.heap.size + 1; omega) _)
  replace RT := Lib.hid (show IsRow w3 (w.heap.size + 1) 25 #[.int .i64 z, .int .i64 t.x, .int .i64 t.y] by rw [← hw]; have := RT.out.put 0 (.int .i64 z); simpa using this)
  have HV := Lib.hid (fun (h0 : 0 < L.length) => by
    obtain ⟨g, cap, cur, hv1, hg, hr, hrow⟩ := ownT_row2 hv h0
    exact (⟨g, cap, cur, hv1, (show IsRow w3 g 25 cur from hw ▸ hr.putOther (p := ⟨w.heap.size + 1, 0, none⟩) (by show g ≠ w.heap.size + 1; omega) _), hrow⟩ : ∃ g cap cur, v = .slice (some ⟨g, 0, none⟩) L.length cap ∧ IsRow w3 g 25 cur ∧ RowT cur L))
  have HN := Lib.hid (fun (h0 : L = []) => own_nil (show OwnT w2 _ v [] from h0 ▸ hv))
  clear hw B2 hv iT
  obtain ⟨⟨C, e1⟩, hc⟩ : ∃ R, boxR ⟨z, t.x, t.y⟩ = R := ⟨_, rfl⟩
  clear RT0 RT1 RT2 RTi tf
  refine (box_to ⟨z, t.x, t.y⟩ hc _ (HG.out.below B3.out)).mono ?_
  rintro e w4 ⟨rfl, b4⟩
  replace HV := Lib.hid (fun (h0 : 0 < L.length) => by
    obtain ⟨g, cap, cur, a, r, c⟩ := HV.out h0
    exact (⟨g, cap, cur, a, r.below b4 r.inside, c⟩ : ∃ g cap cur, v = .slice (some ⟨g, 0, none⟩) L.length cap ∧ IsRow w4 g 25 cur ∧ RowT cur L))
  have B4 := Lib.hid (B3.out.trans (b4.mono B3.out.size))
  replace RB := Lib.hid (RB.out.below b4 RB.out.inside)
  replace RT := Lib.hid (RT.out.below b4 RT.out.inside)
  clear b4 B3
  by_cases hfit : fitB b z
  case neg =>
    obtain ⟨rfl, rfl⟩ : L = [] ∧ e0 = 1 := by
      unfold coverR at hk; rw [if_neg hfit] at hk; injection hk with h1 h2; exact ⟨h1.symm, h2.symm⟩
    obtain ⟨a, cap, rfl⟩ := HN.out rfl
    clear hk HV HN
    obtain ⟨⟨F, ea⟩, hf⟩ : ∃ R, ofR b.a z = R := ⟨_, rfl⟩
    obtain ⟨⟨G, eb⟩, hg⟩ : ∃ R, ofR b.b z = R := ⟨_, rfl⟩
    have hcase : ea ≠ 0 ∨ (ea = 0 ∧ eb ≠ 0) ∨ (ea = 0 ∧ eb = 0 ∧ b.b.x < b.a.x) ∨ (ea = 0 ∧ eb = 0 ∧ ¬ b.b.x < b.a.x ∧ b.b.y < b.a.y) := by
      unfold ofR at hf hg
      by_cases hz : isZ z
      · rw [if_pos hz] at hf hg
        by_cases ha : okP b.a
        · rw [if_pos ha] at hf
          injection hf with _ hf
          by_cases hb : okP b.b
          · rw [if_pos hb] at hg
            injection hg with _ hg
            by_cases hx : b.b.x < b.a.x
            · exact .inr (.inr (.inl ⟨hf.symm, hg.symm, hx⟩))
            · refine .inr (.inr (.inr ⟨hf.symm, hg.symm, hx, ?_⟩))
              refine Int.not_le.1 fun hy => hfit ⟨hz, ha, hb, by omega, by omega⟩
          · rw [if_neg hb] at hg
            injection hg with _ hg
            exact .inr (.inl ⟨hf.symm, by omega⟩)
        · rw [if_neg ha] at hf
          injection hf with _ hf
          exact .inl (by omega)
      · rw [if_neg hz] at hf
        injection hf with _ hf
        exact .inl (by omega)
    clear hfit
    obtain ⟨RB0, RB1, RB2, RB3, _, _, _, _⟩ := facts4 RB.out
    have RBi := RB.out.inside
    go_wp2_with fail
    obtain ⟨v4, hv, V, L, R⟩ := made w 27 #[.int .i64 C.a.x, .int .i64 C.a.y, .int .i64 C.b.x, .int .i64 C.b.y] B4.out B4.out.size
    rw [hv]
    clear RB0 RB1 RB2 RB3 RBi
    replace RB := Lib.hid (RB.out.below L.out RB.out.inside)
    replace RT := Lib.hid (RT.out.below L.out RT.out.inside)
    obtain ⟨gRC, hg⟩ : ∃ g, w4.heap.size = g := ⟨_, rfl⟩
    rw [hg] at R ⊢
    have RC := R
    clear hv L hg B4 R
    have B4 := V
    clear V
    refine (of_to b.a z hf _ (HG.out.below B4.out)).mono ?_
    rintro e w5 ⟨rfl, b5⟩
    have B5 := Lib.hid (B4.out.trans (b5.mono B4.out.size))
    replace RB := Lib.hid (RB.out.below b5 RB.out.inside)
    replace RT := Lib.hid (RT.out.below b5 RT.out.inside)
    replace RC := Lib.hid (RC.out.below b5 RC.out.inside)
    clear b5 B4
    obtain ⟨RB0, RB1, RB2, RB3, _, _, _, _⟩ := facts4 RB.out
    have RBi := RB.out.inside
    go_wp2_with fail
    obtain ⟨v5, hv, V, L, R⟩ := made w 25 #[.int .i64 F.z, .int .i64 F.x, .int .i64 F.y] B5.out B5.out.size
    rw [hv]
    clear RB0 RB1 RB2 RB3 RBi
    replace RB := Lib.hid (RB.out.below L.out RB.out.inside)
    replace RT := Lib.hid (RT.out.below L.out RT.out.inside)
    replace RC := Lib.hid (RC.out.below L.out RC.out.inside)
    obtain ⟨gRF, hg⟩ : ∃ g, w5.heap.size = g := ⟨_, rfl⟩
    rw [hg] at R ⊢
    have RF := R
    clear hv L hg B5 R
    have B5 := V
    clear V
    refine (of_to b.b z hg _ (HG.out.below B5.out)).mono ?_
    rintro e w6 ⟨rfl, b6⟩
    have B6 := Lib.hid (B5.out.trans (b6.mono B5.out.size))
    replace RB := Lib.hid (RB.out.below b6 RB.out.inside)
    replace RT := Lib.hid (RT.out.below b6 RT.out.inside)
    replace RC := Lib.hid (RC.out.below b6 RC.out.inside)
    replace RF := Lib.hid (RF.out.below b6 RF.out.inside)
    clear b6 B5
    obtain ⟨RB0, RB1, RB2, RB3, _, _, _, _⟩ := facts4 RB.out
    have RBi := RB.out.inside
    clear hf hg hc
    rcases hcase with h | ⟨rfl, h⟩ | ⟨rfl, rfl, h⟩ | ⟨rfl, rfl, h, h2⟩
    · have h1 : ¬ ea = 0 := h
      go_wp2
      go_ret
      exact ⟨rfl, B6.out.alloc B6.out.size _⟩
    · have h1 : ¬ eb = 0 := h
      go_wp2
      go_ret
      exact ⟨rfl, B6.out.alloc B6.out.size _⟩
    · go_wp2
      go_ret
      exact ⟨rfl, B6.out.alloc B6.out.size _⟩
    · go_wp2
      go_ret
      exact ⟨rfl, B6.out.alloc B6.out.size _⟩
  case pos =>
    by_cases hm : many b z > 4096
    case pos =>
      obtain ⟨rfl, rfl⟩ : L = [] ∧ e0 = 2 := by
        unfold coverR at hk; rw [if_pos hfit, if_pos hm] at hk; injection hk with h1 h2; exact ⟨h1.symm, h2.symm⟩
      obtain ⟨a, cap, rfl⟩ := HN.out rfl
      clear hk HV HN
      have hf : ofR b.a z = (ofN b.a z, 0) := by unfold ofR; rw [if_pos hfit.1, if_pos hfit.2.1]
      have hg : ofR b.b z = (ofN b.b z, 0) := by unfold ofR; rw [if_pos hfit.1, if_pos hfit.2.2.1]
      obtain ⟨a1, a2, a3, a4, a5, a6⟩ := corners hfit
      unfold many at hm
      generalize ofN b.a z = F at *
      generalize ofN b.b z = G at *
      have q1 : IntKind.i64.wrap (G.x - F.x) = G.x - F.x := IntWalk.i64_in _ (by omega)
      have q2 : IntKind.i64.wrap (G.x - F.x + 1) = G.x - F.x + 1 := IntWalk.i64_in _ (by omega)
      have q3 : IntKind.i64.wrap (G.y - F.y) = G.y - F.y := IntWalk.i64_in _ (by omega)
      have q4 : IntKind.i64.wrap (G.y - F.y + 1) = G.y - F.y + 1 := IntWalk.i64_in _ (by omega)
      have hm1 : (G.x - F.x + 1) * (G.y - F.y + 1) ≤ 131072 * 131072 := Int.mul_le_mul (by omega) (by omega) (by omega) (by omega)
      obtain ⟨M, hM⟩ : ∃ M, (G.x - F.x + 1) * (G.y - F.y + 1) = M := ⟨_, rfl⟩
      rw [hM] at hm hm1
      have q5 : IntKind.i64.wrap ((G.x - F.x + 1) * (G.y - F.y + 1)) = M := by rw [hM]; exact IntWalk.i64_in _ (by omega)
      have q6 : wrap64 ((G.x - F.x + 1) * (G.y - F.y + 1)) = M := by rw [hM]; unfold wrap64; omega
      have q7 : 4096 < M := hm
      clear hM hm1 a1 a2 a3 a4 a5 a6 hfit hc
      obtain ⟨RB0, RB1, RB2, RB3, _, _, _, _⟩ := facts4 RB.out
      have RBi := RB.out.inside
      go_wp2_with fail
      obtain ⟨v4, hv, V, L, R⟩ := made w 27 #[.int .i64 C.a.x, .int .i64 C.a.y, .int .i64 C.b.x, .int .i64 C.b.y] B4.out B4.out.size
      rw [hv]
      clear RB0 RB1 RB2 RB3 RBi
      replace RB := Lib.hid (RB.out.below L.out RB.out.inside)
      replace RT := Lib.hid (RT.out.below L.out RT.out.inside)
      obtain ⟨gRC, hg⟩ : ∃ g, w4.heap.size = g := ⟨_, rfl⟩
      rw [hg] at R ⊢
      have RC := R
      clear hv L hg B4 R
      have B4 := V
      clear V
      refine (of_to b.a z hf _ (HG.out.below B4.out)).mono ?_
      rintro e w5 ⟨rfl, b5⟩
      have B5 := Lib.hid (B4.out.trans (b5.mono B4.out.size))
      replace RB := Lib.hid (RB.out.below b5 RB.out.inside)
      replace RT := Lib.hid (RT.out.below b5 RT.out.inside)
      replace RC := Lib.hid (RC.out.below b5 RC.out.inside)
      clear b5 B4
      obtain ⟨RB0, RB1, RB2, RB3, _, _, _, _⟩ := facts4 RB.out
      have RBi := RB.out.inside
      go_wp2_with fail
      obtain ⟨v5, hv, V, L, R⟩ := made w 25 #[.int .i64 F.z, .int .i64 F.x, .int .i64 F.y] B5.out B5.out.size
      rw [hv]
      clear RB0 RB1 RB2 RB3 RBi
      replace RB := Lib.hid (RB.out.below L.out RB.out.inside)
      replace RT := Lib.hid (RT.out.below L.out RT.out.inside)
      replace RC := Lib.hid (RC.out.below L.out RC.out.inside)
      obtain ⟨gRF, hg⟩ : ∃ g, w5.heap.size = g := ⟨_, rfl⟩
      rw [hg] at R ⊢
      have RF := R
      clear hv L hg B5 R
      have B5 := V
      clear V
      refine (of_to b.b z hg _ (HG.out.below B5.out)).mono ?_
      rintro e w6 ⟨rfl, b6⟩
      have B6 := Lib.hid (B5.out.trans (b6.mono B5.out.size))
      replace RB := Lib.hid (RB.out.below b6 RB.out.inside)
      replace RT := Lib.hid (RT.out.below b6 RT.out.inside)
      replace RC := Lib.hid (RC.out.below b6 RC.out.inside)
      replace RF := Lib.hid (RF.out.below b6 RF.out.inside)
      clear b6 B5
      obtain ⟨RF0, RF1, RF2, _, _, _⟩ := facts3 RF.out
      have RFi := RF.out.inside
      clear hf hg
      go_wp2
      go_ret
      exact ⟨rfl, B6.out.alloc B6.out.size _⟩
    case neg =>
      obtain ⟨rfl, rfl⟩ : L = rect (ofN b.a z) (ofN b.b z) ∧ e0 = 0 := by
        unfold coverR at hk; rw [if_pos hfit, if_neg hm] at hk; injection hk with h1 h2; exact ⟨h1.symm, h2.symm⟩
      clear hk HN
      have hbx := hfit.2.2.2.1
      have hby := hfit.2.2.2.2
      have HO : Hid (∀ u, u ∈ rect (ofN b.a z) (ofN b.b z) → okT u ∧ u.z = z) := fun u h => ⟨cover_ok hfit.1 hfit.2.1 hfit.2.2.1 h, (rect_mem.1 h).1⟩
      have HI := Lib.hid (cover_iff (b := b) (z := z) (t := ⟨z, t.x, t.y⟩) rfl)
      have HP := Lib.hid (rect_sorted (ofN b.a z) (ofN b.b z))
      have hne : 0 < (rect (ofN b.a z) (ofN b.b z)).length := by
        obtain ⟨a1, a2, a3, a4, a5, a6⟩ := corners hfit
        exact List.length_pos_of_mem (a := ofN b.a z) (rect_mem.2 ⟨rfl, by omega, by omega, by omega, by omega⟩)
      have hmx := many_len hfit
      obtain ⟨g, cap, cur, rfl, hr, hrow⟩ := HV.out hne
      have RL := Lib.hid hr
      have HR := Lib.hid hrow
      clear HV hr hrow hfit
      generalize rect (ofN b.a z) (ofN b.b z) = L at *
      obtain ⟨n, hn⟩ : ∃ n, L.length = n := ⟨_, rfl⟩
      have HNL := Lib.hid hn
      rw [hn] at hne hmx ⊢
      have hn5 : n ≤ 5000 := by omega
      clear hn hmx hm
      go_wp2_with fail
      obtain ⟨v4, hv, V, L, R⟩ := made w 27 #[.int .i64 C.a.x, .int .i64 C.a.y, .int .i64 C.b.x, .int .i64 C.b.y] B4.out B4.out.size
      rw [hv]
      replace RB := Lib.hid (RB.out.below L.out RB.out.inside)
      replace RT := Lib.hid (RT.out.below L.out RT.out.inside)
      replace RL := Lib.hid (RL.out.below L.out RL.out.inside)
      obtain ⟨gRC, hg⟩ : ∃ g, w4.heap.size = g := ⟨_, rfl⟩
      rw [hg] at R ⊢
      have RC := R
      clear hv L hg B4 R
      have B4 := V
      clear V
      go_loopw [16, 17] (fun f i wr => ∃ k : Nat, k ≤ n ∧ i = .int .i64 k ∧ f = .bool (decide ((⟨z, t.x, t.y⟩ : Tl) ∈ L.take k)) ∧ Hid (Below w.heap.size w wr) ∧ Hid (IsRow wr w.heap.size 27 #[.int .i64 b.a.x, .int .i64 b.a.y, .int .i64 b.b.x, .int .i64 b.b.y]) ∧ Hid (IsRow wr (w.heap.size + 1) 25 #[.int .i64 z, .int .i64 t.x, .int .i64 t.y]) ∧ Hid (IsRow wr gRC 27 #[.int .i64 C.a.x, .int .i64 C.a.y, .int .i64 C.b.x, .int .i64 C.b.y]) ∧ Hid (IsRow wr g 25 cur)) (fun _ i _ => n - (intOf' i).toNat)
      case atStart => exact ⟨0, by omega, rfl, by simp, B4, RB, RT, RC, RL⟩
      case round =>
        clear B4 RT RB RC RL
        obtain ⟨k, hk, rfl, rfl, BK, RB, RT, RC, RL⟩ := hrel
        obtain ⟨Vk, hVk⟩ : ∃ V, decide ((⟨z, t.x, t.y⟩ : Tl) ∈ L.take k) = V := ⟨_, rfl⟩
        rw [hVk]
        have HVk := Lib.hid hVk
        clear hVk
        by_cases hlt : k < n
        case neg =>
          obtain rfl : k = n := by omega
          rw [List.take_of_length_le (by rw [HNL.out]; exact Nat.le_refl _)] at HVk
          have hk0 : (0 : Int) < (k : Int) := by omega
          by_cases hok : okT (⟨z, t.x, t.y⟩ : Tl)
          case neg =>
            obtain ⟨rfl, rfl⟩ : C = zB ∧ e1 = 1 := by
              unfold boxR at hc; rw [if_neg hok] at hc; injection hc with h1 h2; exact ⟨h1.symm, h2.symm⟩
            obtain rfl : Vk = false := by rw [← HVk.out]; exact decide_eq_false fun h => hok (HO.out _ h).1
            clear hc hok hbx hby
            go_wp2
            go_ret
            exact ⟨rfl, BK.out⟩
          case pos =>
            obtain ⟨rfl, rfl⟩ : C = boxN (⟨z, t.x, t.y⟩ : Tl) ∧ e1 = 0 := by
              unfold boxR at hc; rw [if_pos hok] at hc; injection hc with h1 h2; exact ⟨h1.symm, h2.symm⟩
            have hm : Vk = decide (meets (boxN (⟨z, t.x, t.y⟩ : Tl)) b) := by rw [← HVk.out]; exact dec_eq HI.out
            unfold meets at hm
            clear hc hok hbx hby HVk HI HO HP HR
            generalize boxN (⟨z, t.x, t.y⟩ : Tl) = C at *
            have HMt := Lib.hid hm
            clear hm
            obtain ⟨x0, x1, x2, x3, _, _, _, _⟩ := facts4 RC.out
            obtain ⟨y0, y1, y2, y3, _, _, _, _⟩ := facts4 RB.out
            go_upto_region 18 with fail
            go_cut [18] from 185 to 222 (fun s wx => s = .bool Vk ∧ wx = wr)
            case first =>
              go_wp2_with fail
              all_goals
                go_meet
                refine ⟨?_, rfl⟩
                rw [HMt.out]
                first
                  | exact congrArg Value.bool (decide_eq_false (by omega)).symm
                  | exact congrArg Value.bool (dec_eq (by omega))
            case rest =>
              obtain ⟨rfl, rfl⟩ := hcut
              have hb := bool_eq Vk
              clear HMt
              go_wp2
              go_ret
              exact ⟨rfl, BK.out⟩
        case pos =>
          obtain ⟨u, hu⟩ : ∃ u, L[k]? = some u := ⟨_, List.getElem?_eq_getElem (by rw [HNL.out]; exact hlt)⟩
          have hz := (HO.out u (List.mem_of_getElem? hu)).2
          have HM := Lib.hid (mem_take hu (⟨z, t.x, t.y⟩ : Tl))
          have i0 : (0 : Int) ≤ (k : Int) := by omega
          have i4 : (k : Int) < (n : Int) := by omega
          have HU := Lib.hid hu
          clear hu hbx hby hc
          go_upto_region 15 with fail
          go_cut [175] from 123 to 174 (fun s wx => s = .bool false ∧ Hid (Below wr.heap.size wr wx))
          case first =>
            obtain ⟨l0, l1, l2⟩ := HR.out.cells RL.out HU.out
            rw [hz] at l0
            by_cases hk0 : k = 0
            case pos =>
              subst hk0
              clear hz
              go_quiet (fail)
              go_wp2_with fail
              go_meet
              exact ⟨rfl, Lib.hid (drewN_below wr _)⟩
            case neg =>
              have hk1 : (0 : Int) < (k : Int) := by omega
              have hk2 : ¬ (k : Int) ≤ 0 := by omega
              have hk3 : 0 < k := by omega
              obtain ⟨j, rfl⟩ : ∃ j, k = j + 1 := ⟨k - 1, by omega⟩
              have hw : IntKind.i64.wrap (((j + 1 : Nat) : Int) - 1) = (j : Int) := by rw [show ((j + 1 : Nat) : Int) - 1 = (j : Int) by omega]; exact IntWalk.i64_in _ (by omega)
              obtain ⟨u', hu'⟩ : ∃ u', L[j]? = some u' := ⟨_, List.getElem?_eq_getElem (by rw [HNL.out]; omega)⟩
              obtain ⟨m0, m1, m2⟩ := HR.out.cells RL.out hu'
              have j0 : (0 : Int) ≤ (j : Int) := by omega
              have j4 : (j : Int) < (n : Int) := by omega
              have hb := bef_at HP.out hu' HU.out
              clear hk0 hu' hz
              rcases hb with hb | ⟨hb1, hb2⟩
              · have q1 : ¬ u.y < u'.y := by omega
                have q2 : u'.y ≤ u.y := by omega
                have q3 : (u.y == u'.y) = false := by rw [beq_eq_false_iff_ne]; omega
                have q4 : ¬ u.y = u'.y := by omega
                go_quiet (fail)
                go_wp2_with fail
                go_meet
                exact ⟨rfl, Lib.hid (drewN_below wr _)⟩
              · rw [hb1] at m2
                have q1 : ¬ u.x ≤ u'.x := by omega
                clear hb1
                go_quiet (fail)
                go_wp2_with fail
                go_meet
                exact ⟨rfl, Lib.hid (drewN_below wr _)⟩
          case rest =>
            obtain ⟨rfl, hb⟩ := hcut
            replace BK := Lib.hid (BK.out.trans (hb.out.mono BK.out.size))
            replace RB := Lib.hid (RB.out.below hb.out RB.out.inside)
            replace RT := Lib.hid (RT.out.below hb.out RT.out.inside)
            replace RC := Lib.hid (RC.out.below hb.out RC.out.inside)
            replace RL := Lib.hid (RL.out.below hb.out RL.out.inside)
            clear hb
            obtain ⟨l0, l1, l2⟩ := HR.out.cells RL.out HU.out
            rw [hz] at l0
            obtain ⟨t0, t1, t2, _, _, _⟩ := facts3 RT.out
            have HQ := Lib.hid (tl_eq (x := t.x) (y := t.y) hz)
            clear hz
            go_upto_region 17 with fail
            cases Vk with
            | true =>
              have HT := Lib.hid (show decide ((⟨z, t.x, t.y⟩ : Tl) ∈ L.take (k + 1)) = true from decide_eq_true (HM.out.2 (.inl (of_decide_eq_true HVk.out))))
              go_quiet (fail)
              have G9 := drewN_below wc nq
              obtain ⟨w9, hw9⟩ : ∃ w9, wc.drewN nq = w9 := ⟨_, rfl⟩
              rw [hw9] at G9 ⊢
              replace BK := Lib.hid (BK.out.trans (G9.mono BK.out.size))
              replace RB := Lib.hid (RB.out.below G9 RB.out.inside)
              replace RT := Lib.hid (RT.out.below G9 RT.out.inside)
              replace RC := Lib.hid (RC.out.below G9 RC.out.inside)
              replace RL := Lib.hid (RL.out.below G9 RL.out.inside)
              clear hw9 G9 l0 l1 l2 t0 t1 t2 HM HQ HU HVk
              go_wp2
              go_roundw
              case rel => exact ⟨k + 1, by omega, by go_num, by rw [HT.out], BK, RB, RT, RC, RL⟩
              case measure => simp [intOf']; omega
            | false =>
              have HF0 := of_decide_eq_false HVk.out
              by_cases hx : u.x = t.x
              · by_cases hy : u.y = t.y
                · have HT := Lib.hid (show decide ((⟨z, t.x, t.y⟩ : Tl) ∈ L.take (k + 1)) = true from decide_eq_true (HM.out.2 (.inr (HQ.out.2 ⟨hx, hy⟩))))
                  have hx' : (u.x == t.x) = true := beq_iff_eq.2 hx
                  have hy' : (u.y == t.y) = true := beq_iff_eq.2 hy
                  clear hx hy HF0
                  go_quiet (fail)
                  have G9 := drewN_below wc nq
                  obtain ⟨w9, hw9⟩ : ∃ w9, wc.drewN nq = w9 := ⟨_, rfl⟩
                  rw [hw9] at G9 ⊢
                  replace BK := Lib.hid (BK.out.trans (G9.mono BK.out.size))
                  replace RB := Lib.hid (RB.out.below G9 RB.out.inside)
                  replace RT := Lib.hid (RT.out.below G9 RT.out.inside)
                  replace RC := Lib.hid (RC.out.below G9 RC.out.inside)
                  replace RL := Lib.hid (RL.out.below G9 RL.out.inside)
                  clear hw9 G9 l0 l1 l2 t0 t1 t2 HM HQ HU HVk
                  go_wp2
                  go_roundw
                  case rel => exact ⟨k + 1, by omega, by go_num, by rw [HT.out], BK, RB, RT, RC, RL⟩
                  case measure => simp [intOf']; omega
                · have HT := Lib.hid (show decide ((⟨z, t.x, t.y⟩ : Tl) ∈ L.take (k + 1)) = false from decide_eq_false fun h => (HM.out.1 h).elim HF0 fun h => hy (HQ.out.1 h).2)
                  have hx' : (u.x == t.x) = true := beq_iff_eq.2 hx
                  have hy' : (u.y == t.y) = false := by rw [beq_eq_false_iff_ne]; exact hy
                  clear hx hy HF0
                  go_quiet (fail)
                  have G9 := drewN_below wc nq
                  obtain ⟨w9, hw9⟩ : ∃ w9, wc.drewN nq = w9 := ⟨_, rfl⟩
                  rw [hw9] at G9 ⊢
                  replace BK := Lib.hid (BK.out.trans (G9.mono BK.out.size))
                  replace RB := Lib.hid (RB.out.below G9 RB.out.inside)
                  replace RT := Lib.hid (RT.out.below G9 RT.out.inside)
                  replace RC := Lib.hid (RC.out.below G9 RC.out.inside)
                  replace RL := Lib.hid (RL.out.below G9 RL.out.inside)
                  clear hw9 G9 l0 l1 l2 t0 t1 t2 HM HQ HU HVk
                  go_wp2
                  go_roundw
                  case rel => exact ⟨k + 1, by omega, by go_num, by rw [HT.out], BK, RB, RT, RC, RL⟩
                  case measure => simp [intOf']; omega
              · have HT := Lib.hid (show decide ((⟨z, t.x, t.y⟩ : Tl) ∈ L.take (k + 1)) = false from decide_eq_false fun h => (HM.out.1 h).elim HF0 fun h => hx (HQ.out.1 h).1)
                have hx' : (u.x == t.x) = false := by rw [beq_eq_false_iff_ne]; exact hx
                clear hx HF0
                go_quiet (fail)
                have G9 := drewN_below wc nq
                obtain ⟨w9, hw9⟩ : ∃ w9, wc.drewN nq = w9 := ⟨_, rfl⟩
                rw [hw9] at G9 ⊢
                replace BK := Lib.hid (BK.out.trans (G9.mono BK.out.size))
                replace RB := Lib.hid (RB.out.below G9 RB.out.inside)
                replace RT := Lib.hid (RT.out.below G9 RT.out.inside)
                replace RC := Lib.hid (RC.out.below G9 RC.out.inside)
                replace RL := Lib.hid (RL.out.below G9 RL.out.inside)
                clear hw9 G9 l0 l1 l2 t0 t1 t2 HM HQ HU HVk
                go_wp2
                go_roundw
                case rel => exact ⟨k + 1, by omega, by go_num, by rw [HT.out], BK, RB, RT, RC, RL⟩
                case measure => simp [intOf']; omega
end Go.Proofs.YtenacgeahaoglaaDoor.Gd
