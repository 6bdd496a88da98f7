/- How segments meet that are not on one line; slices.IndexFunc of two points with a method value. -/
import Derived.Test.YtlagolgmkmdhhaaGmLine
import Derived.RegionTactic
import Derived.Deep.RegionHeld3
import Derived.Deep.CutRange
namespace Go.Proofs.Ytlagolgmkmdhhaa.Geo
open Go.RowKit Go.Sort
def firstOf (x y : Bool) : Int := if x then 0 else if y then 1 else -1
set_option maxRecDepth 100000 in
set_option maxHeartbeats 1000000 in
theorem indexFunc_any (a b p q : Pt) (na : nearB a = true) (nb : nearB b = true) (np : nearB p = true) (nq : nearB q = true) (g : Nat) (w : World) (hg : Has2 w g p q) :
    Calls Try.prog 59 #[.slice (some ⟨g, 0, none⟩) 2 2, .func (.func 34) #[.agg #[.int .i64 a.x, .int .i64 a.y, .int .i64 b.x, .int .i64 b.y]] #[]] w
      fun e w' => e = .returned (.int .i64 (firstOf (holdsN a b p) (holdsN a b q))) ∧ Below w.heap.size w w' := by
  have HG := Lib.hid hg
  clear hg
  obtain ⟨x, hx⟩ : ∃ x, holdsN a b p = x := ⟨_, rfl⟩
  obtain ⟨y, hy⟩ : ∃ y, holdsN a b q = y := ⟨_, rfl⟩
  rw [hx, hy]
  have HX := Lib.hid hx
  have HY := Lib.hid hy
  clear hx hy
  go_enter Try.func59, Try.ntmps59
  go_wp2
  go_loopw [8] (fun i wr => ∃ k : Nat, k ≤ 2 ∧ i = .int .i64 k ∧ Hid (0 < k → x = false) ∧ Hid (1 < k → y = false) ∧ Hid (Below w.heap.size w wr)) (fun i _ => 2 - (intOf i).toNat)
  case atStart => exact ⟨0, by omega, rfl, Lib.hid (by omega), Lib.hid (by omega), Lib.hid (Below.refl _ _)⟩
  case round =>
    obtain ⟨k, hk, rfl, h1, h2, hB⟩ := hrel
    obtain ⟨⟨_, p0, p1⟩, q0, q1⟩ := HG.out.below hB.out
    match k, hk with
    | 0, _ =>
      go_wp2_with fail
      refine (holds_any a b p na nb np _).mono ?_
      rintro e w1 ⟨rfl, hb1⟩
      have HB1 := Lib.hid (hB.out.trans (hb1.mono hB.out.size))
      rw [HX.out]
      clear hb1 p0 p1 q0 q1
      cases x with
      | true =>
        go_wp2
        go_ret
        exact ⟨rfl, HB1.out⟩
      | false =>
        go_wp2
        go_roundw
        case rel => exact ⟨1, by omega, by go_num, Lib.hid (by simp), Lib.hid (by omega), HB1⟩
        case measure => simp [intOf]
    | 1, _ =>
      obtain rfl := h1.out (by decide)
      go_wp2_with fail
      refine (holds_any a b q na nb nq _).mono ?_
      rintro e w1 ⟨rfl, hb1⟩
      have HB1 := Lib.hid (hB.out.trans (hb1.mono hB.out.size))
      rw [HY.out]
      clear hb1 p0 p1 q0 q1
      cases y with
      | true =>
        go_wp2
        go_ret
        exact ⟨rfl, HB1.out⟩
      | false =>
        go_wp2
        go_roundw
        case rel => exact ⟨2, by omega, by go_num, Lib.hid (by simp), Lib.hid (by simp), HB1⟩
        case measure => simp [intOf]
    | 2, _ =>
      obtain rfl := h1.out (by decide)
      obtain rfl := h2.out (by decide)
      go_wp2
      go_ret
      exact ⟨rfl, hB.out⟩
theorem wpAnyH_switch {P : Program} {md : Region.Mode} {ops : Array Oper} {Q : Exit → Act → World → Prop} {S S' : World → Prop} (hS : ∀ w, S' w → S w) :
    ∀ {fuel : Nat} {listed : Array Bool} {a : Act} {w : World}, wpAnyH P md ops Q S' fuel listed a w → wpAnyH P md ops Q S fuel listed a w
  | 0, _, _, _, h => h
  | _ + 1, _, _, _, h => ⟨h.1, fun i hi => wpOp_mono (fun _ _ h' => ⟨hS _ h'.1, wpAnyH_switch hS h'.2⟩) (h.2 i hi)⟩
theorem kept {w w' : World} {p : Addr} {x : Value} (hb : Below w.heap.size w w') (h : w.cell? p = some x) : w'.cell? p = some x := (hb.cell (World.block_lt_of_cell? _ _ h)).trans h
theorem has2_facts {w : World} {g : Nat} {a b : Pt} (h : Has2 w g a b) : w.cell? ⟨g, 0, none⟩ = some (.int .i64 a.x) ∧ w.cell? ⟨g, 1, none⟩ = some (.int .i64 a.y) ∧ w.cell? ⟨g, 2, none⟩ = some (.int .i64 b.x) ∧ w.cell? ⟨g, 3, none⟩ = some (.int .i64 b.y) :=
  ⟨h.1.2.1, h.1.2.2, h.2.1, h.2.2⟩
theorem has2_facts2 {w : World} {g h : Nat} {a b c d : Pt} (h1 : Has2 w g a b) (h2 : Has2 w h c d) :
    w.cell? ⟨g, 0, none⟩ = some (.int .i64 a.x) ∧ w.cell? ⟨g, 1, none⟩ = some (.int .i64 a.y) ∧ w.cell? ⟨g, 2, none⟩ = some (.int .i64 b.x) ∧ w.cell? ⟨g, 3, none⟩ = some (.int .i64 b.y) ∧
    w.cell? ⟨h, 0, none⟩ = some (.int .i64 c.x) ∧ w.cell? ⟨h, 1, none⟩ = some (.int .i64 c.y) ∧ w.cell? ⟨h, 2, none⟩ = some (.int .i64 d.x) ∧ w.cell? ⟨h, 3, none⟩ = some (.int .i64 d.y) :=
  ⟨h1.1.2.1, h1.1.2.2, h1.2.1, h1.2.2, h2.1.2.1, h2.1.2.2, h2.2.1, h2.2.2⟩
theorem row_has2 {w : World} {g : Nat} {t : TypeId} {a b : Pt} (h : IsRow w g t (flat [a, b]).toArray) : Has2 w g a b := by
  have h0 := h.get 0
  have h1 := h.get 1
  have h2 := h.get 2
  have h3 := h.get 3
  exact ⟨⟨h.inside, h0, h1⟩, h2, h3⟩
set_option maxRecDepth 100000 in
set_option maxHeartbeats 1000000 in
theorem meetAcross_any (a b c d : Pt) (na : nearB a = true) (nb : nearB b = true) (nc : nearB c = true) (nd : nearB d = true) :
    Answers Try.prog 46 #[.agg #[.int .i64 a.x, .int .i64 a.y, .int .i64 b.x, .int .i64 b.y], .agg #[.int .i64 c.x, .int .i64 c.y, .int .i64 d.x, .int .i64 d.y]] (.int .i64 (crossN a b c d)) := by
  intro w
  obtain ⟨W, hW, hsz, hB, hA, hC⟩ := segseg w 56 56 a b c d
  have HW := Lib.hid hW
  have HB := Lib.hid hB
  have HA := Lib.hid hA
  have HC := Lib.hid hC
  have HS := Lib.hid hsz
  clear hW hB hsz
  obtain ⟨a0, a1, b0, b1⟩ := has2_facts hA
  obtain ⟨c0, c1, d0, d1⟩ := has2_facts hC
  clear hA hC
  obtain ⟨R, hR⟩ : ∃ R, crossN a b c d = R := ⟨_, rfl⟩
  have HR := Lib.hid hR
  rw [hR]
  clear hR
  go_enter Try.func46, Try.ntmps46
  go_wp2_with fail
  rw [HW.out]
  go_cut [5] from 7 to 11 (fun s5 wx => s5 = .int .i64 (firstOf (holdsN a b c) (holdsN a b d)) ∧ Hid (Below W.heap.size W wx))
  case first =>
    go_region_held3 (fun w' => w'.cell? ⟨w.heap.size, 0, none⟩ = some (.int .i64 a.x) ∧ w'.cell? ⟨w.heap.size, 1, none⟩ = some (.int .i64 a.y) ∧ w'.cell? ⟨w.heap.size, 2, none⟩ = some (.int .i64 b.x) ∧ w'.cell? ⟨w.heap.size, 3, none⟩ = some (.int .i64 b.y) ∧
        w'.cell? ⟨w.heap.size + 1, 0, none⟩ = some (.int .i64 c.x) ∧ w'.cell? ⟨w.heap.size + 1, 1, none⟩ = some (.int .i64 c.y) ∧ w'.cell? ⟨w.heap.size + 1, 2, none⟩ = some (.int .i64 d.x) ∧ w'.cell? ⟨w.heap.size + 1, 3, none⟩ = some (.int .i64 d.y)) (first | go_keep | exact KS)
      (first
        | (go_at_call 67; refine (ends_any c d _).mono ?_; rintro e w1 ⟨g1, rfl, hb1, hg1, hr1⟩; have hbw := Below.trans (drew_below W) hb1; have KS := has2_facts2 (HA.out.below hbw) (HC.out.below hbw))
        | (go_at_call 59; refine (indexFunc_any a b c d na nb nc nd g1 _ (row_has2 hr1)).mono ?_; rintro e w2 ⟨rfl, hb2⟩; have hbw2 := Below.trans hbw (hb2.mono hbw.size); have KS := has2_facts2 (HA.out.below hbw2) (HC.out.below hbw2)))
    all_goals (go_wp2_with fail; go_meet; exact ⟨rfl, Lib.hid hbw2⟩)
  case rest =>
    obtain ⟨rfl, hB1⟩ := hcut
    have A1 := Lib.hid (HA.out.below hB1.out)
    have C1 := Lib.hid (HC.out.below hB1.out)
    have HB1 := Lib.hid (HB.out.trans (hB1.out.mono HB.out.size))
    clear a0 a1 b0 b1 c0 c1 d0 d1
    obtain ⟨a0, a1, b0, b1⟩ := has2_facts A1.out
    obtain ⟨c0, c1, d0, d1⟩ := has2_facts C1.out
    cases x1 : holdsN a b c with
    | true =>
      rw [show firstOf true (holdsN a b d) = 0 from rfl]
      have HE := Lib.hid (show atN a b c d c = R by rw [← HR.out]; unfold crossN; rw [if_pos x1])
      go_wp2_with fail
      refine wp_region_held_drew (S := (fun w' : World => w'.cell? ⟨w.heap.size, 0, none⟩ = some (.int .i64 a.x) ∧ w'.cell? ⟨w.heap.size, 1, none⟩ = some (.int .i64 a.y) ∧ w'.cell? ⟨w.heap.size, 2, none⟩ = some (.int .i64 b.x) ∧ w'.cell? ⟨w.heap.size, 3, none⟩ = some (.int .i64 b.y) ∧
              w'.cell? ⟨w.heap.size + 1, 0, none⟩ = some (.int .i64 c.x) ∧ w'.cell? ⟨w.heap.size + 1, 1, none⟩ = some (.int .i64 c.y) ∧ w'.cell? ⟨w.heap.size + 1, 2, none⟩ = some (.int .i64 d.x) ∧ w'.cell? ⟨w.heap.size + 1, 3, none⟩ = some (.int .i64 d.y))) (by kernel_rfl) (has2_facts2 (A1.out.below (drew_below wc)) (C1.out.below (drew_below wc))) (fun hHeld => ?_)
      refine wpAnyH_take (i := 0) (oi := _) (v := .agg #[.int .i64 a.x, .int .i64 a.y, .int .i64 b.x, .int .i64 b.y]) rfl (by kernel_rfl) (by kernel_rfl) (by kernel_rfl) (fun _ _ _ h => h) (Or.inl ⟨by rfl, ?_⟩) hHeld ?_
      · intro w hSw
        go_simp
      refine wpAnyH_take (i := 1) (oi := _) (v := .agg #[.int .i64 c.x, .int .i64 c.y, .int .i64 d.x, .int .i64 d.y]) rfl (by kernel_rfl) (by kernel_rfl) (by kernel_rfl) (fun _ _ _ h => h) (Or.inl ⟨by rfl, ?_⟩) hHeld ?_
      · intro w hSw
        go_simp
      refine wpAnyH_take (i := 2) (oi := _) (v := .agg #[.int .i64 c.x, .int .i64 c.y, .int .i64 d.x, .int .i64 d.y]) rfl (by kernel_rfl) (by kernel_rfl) (by kernel_rfl) (fun _ _ _ h => h) (Or.inl ⟨by rfl, ?_⟩) hHeld ?_
      · intro w hSw
        go_simp
      refine wpAnyH_take (i := 4) (oi := _) (v := .int .i64 0) rfl (by kernel_rfl) (by kernel_rfl) (by kernel_rfl) (fun _ _ _ h => h) (Or.inl ⟨by rfl, ?_⟩) hHeld ?_
      · intro w hSw
        go_simp
      simp only [Act.put, List.setIfInBounds_toArray]
      refine wpAnyH_ready (rs := [3]) (by kernel_rfl) (by simp) ?_
      refine AllReadyH.cons (o := _) rfl (fun K hK => ?_) AllReadyH.nil
      go_simp
      go_at_call 67
      refine (ends_any c d _).mono ?_
      rintro e w5 ⟨g5, rfl, hb5, hg5, hr5⟩
      have hbw := Below.trans (drew_below wc) hb5
      refine hK.out _ _ (has2_facts2 (A1.out.below hbw) (C1.out.below hbw)) (fun _ => ?_)
      clear hK hHeld
      have hHeld : (fun w' : World => (w'.cell? ⟨w.heap.size, 0, none⟩ = some (.int .i64 a.x) ∧ w'.cell? ⟨w.heap.size, 1, none⟩ = some (.int .i64 a.y) ∧ w'.cell? ⟨w.heap.size, 2, none⟩ = some (.int .i64 b.x) ∧ w'.cell? ⟨w.heap.size, 3, none⟩ = some (.int .i64 b.y) ∧
              w'.cell? ⟨w.heap.size + 1, 0, none⟩ = some (.int .i64 c.x) ∧ w'.cell? ⟨w.heap.size + 1, 1, none⟩ = some (.int .i64 c.y) ∧ w'.cell? ⟨w.heap.size + 1, 2, none⟩ = some (.int .i64 d.x) ∧ w'.cell? ⟨w.heap.size + 1, 3, none⟩ = some (.int .i64 d.y)) ∧ w'.cell? ⟨g5, 0, none⟩ = some (.int .i64 c.x) ∧ w'.cell? ⟨g5, 1, none⟩ = some (.int .i64 c.y)) w5 := ⟨has2_facts2 (A1.out.below hbw) (C1.out.below hbw), (has2_facts (row_has2 hr5)).1, (has2_facts (row_has2 hr5)).2.1⟩
      refine wpAnyH_switch (S' := (fun w' : World => (w'.cell? ⟨w.heap.size, 0, none⟩ = some (.int .i64 a.x) ∧ w'.cell? ⟨w.heap.size, 1, none⟩ = some (.int .i64 a.y) ∧ w'.cell? ⟨w.heap.size, 2, none⟩ = some (.int .i64 b.x) ∧ w'.cell? ⟨w.heap.size, 3, none⟩ = some (.int .i64 b.y) ∧
              w'.cell? ⟨w.heap.size + 1, 0, none⟩ = some (.int .i64 c.x) ∧ w'.cell? ⟨w.heap.size + 1, 1, none⟩ = some (.int .i64 c.y) ∧ w'.cell? ⟨w.heap.size + 1, 2, none⟩ = some (.int .i64 d.x) ∧ w'.cell? ⟨w.heap.size + 1, 3, none⟩ = some (.int .i64 d.y)) ∧ w'.cell? ⟨g5, 0, none⟩ = some (.int .i64 c.x) ∧ w'.cell? ⟨g5, 1, none⟩ = some (.int .i64 c.y))) (fun _ h => h.1) ?_
      refine wpAnyH_take (i := 5) (oi := _) (v := .pointer (some ⟨g5, 0, none⟩)) rfl (by kernel_rfl) (by kernel_rfl) (by kernel_rfl) (fun _ _ _ h => h) (Or.inl ⟨by rfl, ?_⟩) hHeld ?_
      · intro w hSw
        go_simp
      refine wpAnyH_take (i := 6) (oi := _) (v := .agg #[.int .i64 c.x, .int .i64 c.y]) rfl (by kernel_rfl) (by kernel_rfl) (by kernel_rfl) (fun _ _ _ h => h) (Or.inl ⟨by rfl, ?_⟩) hHeld ?_
      · intro w hSw
        go_simp
      simp only [Act.put, List.setIfInBounds_toArray]
      refine wpAnyH_ready (rs := [7]) (by kernel_rfl) (by simp) ?_
      refine AllReadyH.cons (o := _) rfl (fun K hK => ?_) AllReadyH.nil
      go_simp
      go_at_call 66
      refine (meetAt_any a b c d c _).mono ?_
      rintro e w6 ⟨rfl, hb6⟩
      have hbw6 := Below.trans hbw (hb6.mono hbw.size)
      have KS := And.intro (has2_facts2 (A1.out.below hbw6) (C1.out.below hbw6)) (And.intro (kept hb6 hHeld.2.1) (kept hb6 hHeld.2.2))
      refine hK.out _ _ KS (fun _ => ?_)
      clear hK hHeld
      refine wpAnyH_ready (rs := [8]) (by kernel_rfl) (by simp) ?_
      refine AllReadyH.cons (o := _) rfl (fun K hK => ?_) AllReadyH.nil
      go_simp
      refine hK.out _ _ KS (fun _ => ?_)
      clear hK KS
      refine wpAnyH_done (by kernel_rfl) ?_ _
      go_wp2
      go_ret
      exact ⟨ret_int HE.out, HB1.out.trans (hbw6.mono HB1.out.size)⟩
    | false =>
      cases x2 : holdsN a b d with
      | true =>
        rw [show firstOf false true = 1 from rfl]
        have HE := Lib.hid (show atN a b c d d = R by rw [← HR.out]; unfold crossN; rw [if_neg (by rw [x1]; decide), if_pos x2])
        go_wp2_with fail
        refine wp_region_held_drew (S := (fun w' : World => w'.cell? ⟨w.heap.size, 0, none⟩ = some (.int .i64 a.x) ∧ w'.cell? ⟨w.heap.size, 1, none⟩ = some (.int .i64 a.y) ∧ w'.cell? ⟨w.heap.size, 2, none⟩ = some (.int .i64 b.x) ∧ w'.cell? ⟨w.heap.size, 3, none⟩ = some (.int .i64 b.y) ∧
                w'.cell? ⟨w.heap.size + 1, 0, none⟩ = some (.int .i64 c.x) ∧ w'.cell? ⟨w.heap.size + 1, 1, none⟩ = some (.int .i64 c.y) ∧ w'.cell? ⟨w.heap.size + 1, 2, none⟩ = some (.int .i64 d.x) ∧ w'.cell? ⟨w.heap.size + 1, 3, none⟩ = some (.int .i64 d.y))) (by kernel_rfl) (has2_facts2 (A1.out.below (drew_below wc)) (C1.out.below (drew_below wc))) (fun hHeld => ?_)
        refine wpAnyH_take (i := 0) (oi := _) (v := .agg #[.int .i64 a.x, .int .i64 a.y, .int .i64 b.x, .int .i64 b.y]) rfl (by kernel_rfl) (by kernel_rfl) (by kernel_rfl) (fun _ _ _ h => h) (Or.inl ⟨by rfl, ?_⟩) hHeld ?_
        · intro w hSw
          go_simp
        refine wpAnyH_take (i := 1) (oi := _) (v := .agg #[.int .i64 c.x, .int .i64 c.y, .int .i64 d.x, .int .i64 d.y]) rfl (by kernel_rfl) (by kernel_rfl) (by kernel_rfl) (fun _ _ _ h => h) (Or.inl ⟨by rfl, ?_⟩) hHeld ?_
        · intro w hSw
          go_simp
        refine wpAnyH_take (i := 2) (oi := _) (v := .agg #[.int .i64 c.x, .int .i64 c.y, .int .i64 d.x, .int .i64 d.y]) rfl (by kernel_rfl) (by kernel_rfl) (by kernel_rfl) (fun _ _ _ h => h) (Or.inl ⟨by rfl, ?_⟩) hHeld ?_
        · intro w hSw
          go_simp
        refine wpAnyH_take (i := 4) (oi := _) (v := .int .i64 1) rfl (by kernel_rfl) (by kernel_rfl) (by kernel_rfl) (fun _ _ _ h => h) (Or.inl ⟨by rfl, ?_⟩) hHeld ?_
        · intro w hSw
          go_simp
        simp only [Act.put, List.setIfInBounds_toArray]
        refine wpAnyH_ready (rs := [3]) (by kernel_rfl) (by simp) ?_
        refine AllReadyH.cons (o := _) rfl (fun K hK => ?_) AllReadyH.nil
        go_simp
        go_at_call 67
        refine (ends_any c d _).mono ?_
        rintro e w5 ⟨g5, rfl, hb5, hg5, hr5⟩
        have hbw := Below.trans (drew_below wc) hb5
        refine hK.out _ _ (has2_facts2 (A1.out.below hbw) (C1.out.below hbw)) (fun _ => ?_)
        clear hK hHeld
        have hHeld : (fun w' : World => (w'.cell? ⟨w.heap.size, 0, none⟩ = some (.int .i64 a.x) ∧ w'.cell? ⟨w.heap.size, 1, none⟩ = some (.int .i64 a.y) ∧ w'.cell? ⟨w.heap.size, 2, none⟩ = some (.int .i64 b.x) ∧ w'.cell? ⟨w.heap.size, 3, none⟩ = some (.int .i64 b.y) ∧
                w'.cell? ⟨w.heap.size + 1, 0, none⟩ = some (.int .i64 c.x) ∧ w'.cell? ⟨w.heap.size + 1, 1, none⟩ = some (.int .i64 c.y) ∧ w'.cell? ⟨w.heap.size + 1, 2, none⟩ = some (.int .i64 d.x) ∧ w'.cell? ⟨w.heap.size + 1, 3, none⟩ = some (.int .i64 d.y)) ∧ w'.cell? ⟨g5, 2, none⟩ = some (.int .i64 d.x) ∧ w'.cell? ⟨g5, 3, none⟩ = some (.int .i64 d.y)) w5 := ⟨has2_facts2 (A1.out.below hbw) (C1.out.below hbw), (has2_facts (row_has2 hr5)).2.2.1, (has2_facts (row_has2 hr5)).2.2.2⟩
        refine wpAnyH_switch (S' := (fun w' : World => (w'.cell? ⟨w.heap.size, 0, none⟩ = some (.int .i64 a.x) ∧ w'.cell? ⟨w.heap.size, 1, none⟩ = some (.int .i64 a.y) ∧ w'.cell? ⟨w.heap.size, 2, none⟩ = some (.int .i64 b.x) ∧ w'.cell? ⟨w.heap.size, 3, none⟩ = some (.int .i64 b.y) ∧
                w'.cell? ⟨w.heap.size + 1, 0, none⟩ = some (.int .i64 c.x) ∧ w'.cell? ⟨w.heap.size + 1, 1, none⟩ = some (.int .i64 c.y) ∧ w'.cell? ⟨w.heap.size + 1, 2, none⟩ = some (.int .i64 d.x) ∧ w'.cell? ⟨w.heap.size + 1, 3, none⟩ = some (.int .i64 d.y)) ∧ w'.cell? ⟨g5, 2, none⟩ = some (.int .i64 d.x) ∧ w'.cell? ⟨g5, 3, none⟩ = some (.int .i64 d.y))) (fun _ h => h.1) ?_
        refine wpAnyH_take (i := 5) (oi := _) (v := .pointer (some ⟨g5, 2, none⟩)) rfl (by kernel_rfl) (by kernel_rfl) (by kernel_rfl) (fun _ _ _ h => h) (Or.inl ⟨by rfl, ?_⟩) hHeld ?_
        · intro w hSw
          go_simp
        refine wpAnyH_take (i := 6) (oi := _) (v := .agg #[.int .i64 d.x, .int .i64 d.y]) rfl (by kernel_rfl) (by kernel_rfl) (by kernel_rfl) (fun _ _ _ h => h) (Or.inl ⟨by rfl, ?_⟩) hHeld ?_
        · intro w hSw
          go_simp
        simp only [Act.put, List.setIfInBounds_toArray]
        refine wpAnyH_ready (rs := [7]) (by kernel_rfl) (by simp) ?_
        refine AllReadyH.cons (o := _) rfl (fun K hK => ?_) AllReadyH.nil
        go_simp
        go_at_call 66
        refine (meetAt_any a b c d d _).mono ?_
        rintro e w6 ⟨rfl, hb6⟩
        have hbw6 := Below.trans hbw (hb6.mono hbw.size)
        have KS := And.intro (has2_facts2 (A1.out.below hbw6) (C1.out.below hbw6)) (And.intro (kept hb6 hHeld.2.1) (kept hb6 hHeld.2.2))
        refine hK.out _ _ KS (fun _ => ?_)
        clear hK hHeld
        refine wpAnyH_ready (rs := [8]) (by kernel_rfl) (by simp) ?_
        refine AllReadyH.cons (o := _) rfl (fun K hK => ?_) AllReadyH.nil
        go_simp
        refine hK.out _ _ KS (fun _ => ?_)
        clear hK KS
        refine wpAnyH_done (by kernel_rfl) ?_ _
        go_wp2
        go_ret
        exact ⟨ret_int HE.out, HB1.out.trans (hbw6.mono HB1.out.size)⟩
      | false =>
        rw [show firstOf false false = -1 from rfl]
        have HR1 := Lib.hid (show (if holdsN c d a then atN a b c d a else if holdsN c d b then atN a b c d b else if partsB a b c d && partsB c d a b then 3 else 0) = R by have h := HR.out; unfold crossN at h; rw [if_neg (by rw [x1]; decide), if_neg (by rw [x2]; decide)] at h; exact h)
        clear x1 x2
        go_wp2_with fail
        go_cut [6] from 22 to 26 (fun s6 wx => s6 = .int .i64 (firstOf (holdsN c d a) (holdsN c d b)) ∧ Hid (Below wc.heap.size wc wx))
        case first =>
          go_region_held3 (fun w' => w'.cell? ⟨w.heap.size, 0, none⟩ = some (.int .i64 a.x) ∧ w'.cell? ⟨w.heap.size, 1, none⟩ = some (.int .i64 a.y) ∧ w'.cell? ⟨w.heap.size, 2, none⟩ = some (.int .i64 b.x) ∧ w'.cell? ⟨w.heap.size, 3, none⟩ = some (.int .i64 b.y) ∧
                  w'.cell? ⟨w.heap.size + 1, 0, none⟩ = some (.int .i64 c.x) ∧ w'.cell? ⟨w.heap.size + 1, 1, none⟩ = some (.int .i64 c.y) ∧ w'.cell? ⟨w.heap.size + 1, 2, none⟩ = some (.int .i64 d.x) ∧ w'.cell? ⟨w.heap.size + 1, 3, none⟩ = some (.int .i64 d.y)) (first | go_keep | exact KS)
            (first
              | (go_at_call 67; refine (ends_any a b _).mono ?_; rintro e w1 ⟨g1, rfl, hb1, hg1, hr1⟩; have hbw := Below.trans (drew_below wc) hb1; have KS := has2_facts2 (A1.out.below hbw) (C1.out.below hbw))
              | (go_at_call 59; refine (indexFunc_any c d a b nc nd na nb g1 _ (row_has2 hr1)).mono ?_; rintro e w2 ⟨rfl, hb2⟩; have hbw2 := Below.trans hbw (hb2.mono hbw.size); have KS := has2_facts2 (A1.out.below hbw2) (C1.out.below hbw2)))
          all_goals (go_wp2_with fail; go_meet; exact ⟨rfl, Lib.hid hbw2⟩)
        case rest =>
          obtain ⟨rfl, hB2⟩ := hcut
          have A2 := Lib.hid (A1.out.below hB2.out)
          have C2 := Lib.hid (C1.out.below hB2.out)
          have HB2 := Lib.hid (HB1.out.trans (hB2.out.mono HB1.out.size))
          clear a0 a1 b0 b1 c0 c1 d0 d1
          obtain ⟨a0, a1, b0, b1⟩ := has2_facts A2.out
          obtain ⟨c0, c1, d0, d1⟩ := has2_facts C2.out
          cases x1 : holdsN c d a with
          | true =>
            rw [show firstOf true (holdsN c d b) = 0 from rfl]
            have HE := Lib.hid (show atN a b c d a = R by rw [← HR1.out, if_pos x1])
            go_wp2_with fail
            refine wp_region_held_drew (S := (fun w' : World => w'.cell? ⟨w.heap.size, 0, none⟩ = some (.int .i64 a.x) ∧ w'.cell? ⟨w.heap.size, 1, none⟩ = some (.int .i64 a.y) ∧ w'.cell? ⟨w.heap.size, 2, none⟩ = some (.int .i64 b.x) ∧ w'.cell? ⟨w.heap.size, 3, none⟩ = some (.int .i64 b.y) ∧
                    w'.cell? ⟨w.heap.size + 1, 0, none⟩ = some (.int .i64 c.x) ∧ w'.cell? ⟨w.heap.size + 1, 1, none⟩ = some (.int .i64 c.y) ∧ w'.cell? ⟨w.heap.size + 1, 2, none⟩ = some (.int .i64 d.x) ∧ w'.cell? ⟨w.heap.size + 1, 3, none⟩ = some (.int .i64 d.y))) (by kernel_rfl) (has2_facts2 (A2.out.below (drew_below wc)) (C2.out.below (drew_below wc))) (fun hHeld => ?_)
            refine wpAnyH_take (i := 0) (oi := _) (v := .agg #[.int .i64 a.x, .int .i64 a.y, .int .i64 b.x, .int .i64 b.y]) rfl (by kernel_rfl) (by kernel_rfl) (by kernel_rfl) (fun _ _ _ h => h) (Or.inl ⟨by rfl, ?_⟩) hHeld ?_
            · intro w hSw
              go_simp
            refine wpAnyH_take (i := 1) (oi := _) (v := .agg #[.int .i64 c.x, .int .i64 c.y, .int .i64 d.x, .int .i64 d.y]) rfl (by kernel_rfl) (by kernel_rfl) (by kernel_rfl) (fun _ _ _ h => h) (Or.inl ⟨by rfl, ?_⟩) hHeld ?_
            · intro w hSw
              go_simp
            refine wpAnyH_take (i := 2) (oi := _) (v := .agg #[.int .i64 a.x, .int .i64 a.y, .int .i64 b.x, .int .i64 b.y]) rfl (by kernel_rfl) (by kernel_rfl) (by kernel_rfl) (fun _ _ _ h => h) (Or.inl ⟨by rfl, ?_⟩) hHeld ?_
            · intro w hSw
              go_simp
            refine wpAnyH_take (i := 4) (oi := _) (v := .int .i64 0) rfl (by kernel_rfl) (by kernel_rfl) (by kernel_rfl) (fun _ _ _ h => h) (Or.inl ⟨by rfl, ?_⟩) hHeld ?_
            · intro w hSw
              go_simp
            simp only [Act.put, List.setIfInBounds_toArray]
            refine wpAnyH_ready (rs := [3]) (by kernel_rfl) (by simp) ?_
            refine AllReadyH.cons (o := _) rfl (fun K hK => ?_) AllReadyH.nil
            go_simp
            go_at_call 67
            refine (ends_any a b _).mono ?_
            rintro e w5 ⟨g5, rfl, hb5, hg5, hr5⟩
            have hbw := Below.trans (drew_below wc) hb5
            refine hK.out _ _ (has2_facts2 (A2.out.below hbw) (C2.out.below hbw)) (fun _ => ?_)
            clear hK hHeld
            have hHeld : (fun w' : World => (w'.cell? ⟨w.heap.size, 0, none⟩ = some (.int .i64 a.x) ∧ w'.cell? ⟨w.heap.size, 1, none⟩ = some (.int .i64 a.y) ∧ w'.cell? ⟨w.heap.size, 2, none⟩ = some (.int .i64 b.x) ∧ w'.cell? ⟨w.heap.size, 3, none⟩ = some (.int .i64 b.y) ∧
                    w'.cell? ⟨w.heap.size + 1, 0, none⟩ = some (.int .i64 c.x) ∧ w'.cell? ⟨w.heap.size + 1, 1, none⟩ = some (.int .i64 c.y) ∧ w'.cell? ⟨w.heap.size + 1, 2, none⟩ = some (.int .i64 d.x) ∧ w'.cell? ⟨w.heap.size + 1, 3, none⟩ = some (.int .i64 d.y)) ∧ w'.cell? ⟨g5, 0, none⟩ = some (.int .i64 a.x) ∧ w'.cell? ⟨g5, 1, none⟩ = some (.int .i64 a.y)) w5 := ⟨has2_facts2 (A2.out.below hbw) (C2.out.below hbw), (has2_facts (row_has2 hr5)).1, (has2_facts (row_has2 hr5)).2.1⟩
            refine wpAnyH_switch (S' := (fun w' : World => (w'.cell? ⟨w.heap.size, 0, none⟩ = some (.int .i64 a.x) ∧ w'.cell? ⟨w.heap.size, 1, none⟩ = some (.int .i64 a.y) ∧ w'.cell? ⟨w.heap.size, 2, none⟩ = some (.int .i64 b.x) ∧ w'.cell? ⟨w.heap.size, 3, none⟩ = some (.int .i64 b.y) ∧
                    w'.cell? ⟨w.heap.size + 1, 0, none⟩ = some (.int .i64 c.x) ∧ w'.cell? ⟨w.heap.size + 1, 1, none⟩ = some (.int .i64 c.y) ∧ w'.cell? ⟨w.heap.size + 1, 2, none⟩ = some (.int .i64 d.x) ∧ w'.cell? ⟨w.heap.size + 1, 3, none⟩ = some (.int .i64 d.y)) ∧ w'.cell? ⟨g5, 0, none⟩ = some (.int .i64 a.x) ∧ w'.cell? ⟨g5, 1, none⟩ = some (.int .i64 a.y))) (fun _ h => h.1) ?_
            refine wpAnyH_take (i := 5) (oi := _) (v := .pointer (some ⟨g5, 0, none⟩)) rfl (by kernel_rfl) (by kernel_rfl) (by kernel_rfl) (fun _ _ _ h => h) (Or.inl ⟨by rfl, ?_⟩) hHeld ?_
            · intro w hSw
              go_simp
            refine wpAnyH_take (i := 6) (oi := _) (v := .agg #[.int .i64 a.x, .int .i64 a.y]) rfl (by kernel_rfl) (by kernel_rfl) (by kernel_rfl) (fun _ _ _ h => h) (Or.inl ⟨by rfl, ?_⟩) hHeld ?_
            · intro w hSw
              go_simp
            simp only [Act.put, List.setIfInBounds_toArray]
            refine wpAnyH_ready (rs := [7]) (by kernel_rfl) (by simp) ?_
            refine AllReadyH.cons (o := _) rfl (fun K hK => ?_) AllReadyH.nil
            go_simp
            go_at_call 66
            refine (meetAt_any a b c d a _).mono ?_
            rintro e w6 ⟨rfl, hb6⟩
            have hbw6 := Below.trans hbw (hb6.mono hbw.size)
            have KS := And.intro (has2_facts2 (A2.out.below hbw6) (C2.out.below hbw6)) (And.intro (kept hb6 hHeld.2.1) (kept hb6 hHeld.2.2))
            refine hK.out _ _ KS (fun _ => ?_)
            clear hK hHeld
            refine wpAnyH_ready (rs := [8]) (by kernel_rfl) (by simp) ?_
            refine AllReadyH.cons (o := _) rfl (fun K hK => ?_) AllReadyH.nil
            go_simp
            refine hK.out _ _ KS (fun _ => ?_)
            clear hK KS
            refine wpAnyH_done (by kernel_rfl) ?_ _
            go_wp2
            go_ret
            exact ⟨ret_int HE.out, HB2.out.trans (hbw6.mono HB2.out.size)⟩
          | false =>
            cases x2 : holdsN c d b with
            | true =>
              rw [show firstOf false true = 1 from rfl]
              have HE := Lib.hid (show atN a b c d b = R by rw [← HR1.out, if_neg (by rw [x1]; decide), if_pos x2])
              go_wp2_with fail
              refine wp_region_held_drew (S := (fun w' : World => w'.cell? ⟨w.heap.size, 0, none⟩ = some (.int .i64 a.x) ∧ w'.cell? ⟨w.heap.size, 1, none⟩ = some (.int .i64 a.y) ∧ w'.cell? ⟨w.heap.size, 2, none⟩ = some (.int .i64 b.x) ∧ w'.cell? ⟨w.heap.size, 3, none⟩ = some (.int .i64 b.y) ∧
                      w'.cell? ⟨w.heap.size + 1, 0, none⟩ = some (.int .i64 c.x) ∧ w'.cell? ⟨w.heap.size + 1, 1, none⟩ = some (.int .i64 c.y) ∧ w'.cell? ⟨w.heap.size + 1, 2, none⟩ = some (.int .i64 d.x) ∧ w'.cell? ⟨w.heap.size + 1, 3, none⟩ = some (.int .i64 d.y))) (by kernel_rfl) (has2_facts2 (A2.out.below (drew_below wc)) (C2.out.below (drew_below wc))) (fun hHeld => ?_)
              refine wpAnyH_take (i := 0) (oi := _) (v := .agg #[.int .i64 a.x, .int .i64 a.y, .int .i64 b.x, .int .i64 b.y]) rfl (by kernel_rfl) (by kernel_rfl) (by kernel_rfl) (fun _ _ _ h => h) (Or.inl ⟨by rfl, ?_⟩) hHeld ?_
              · intro w hSw
                go_simp
              refine wpAnyH_take (i := 1) (oi := _) (v := .agg #[.int .i64 c.x, .int .i64 c.y, .int .i64 d.x, .int .i64 d.y]) rfl (by kernel_rfl) (by kernel_rfl) (by kernel_rfl) (fun _ _ _ h => h) (Or.inl ⟨by rfl, ?_⟩) hHeld ?_
              · intro w hSw
                go_simp
              refine wpAnyH_take (i := 2) (oi := _) (v := .agg #[.int .i64 a.x, .int .i64 a.y, .int .i64 b.x, .int .i64 b.y]) rfl (by kernel_rfl) (by kernel_rfl) (by kernel_rfl) (fun _ _ _ h => h) (Or.inl ⟨by rfl, ?_⟩) hHeld ?_
              · intro w hSw
                go_simp
              refine wpAnyH_take (i := 4) (oi := _) (v := .int .i64 1) rfl (by kernel_rfl) (by kernel_rfl) (by kernel_rfl) (fun _ _ _ h => h) (Or.inl ⟨by rfl, ?_⟩) hHeld ?_
              · intro w hSw
                go_simp
              simp only [Act.put, List.setIfInBounds_toArray]
              refine wpAnyH_ready (rs := [3]) (by kernel_rfl) (by simp) ?_
              refine AllReadyH.cons (o := _) rfl (fun K hK => ?_) AllReadyH.nil
              go_simp
              go_at_call 67
              refine (ends_any a b _).mono ?_
              rintro e w5 ⟨g5, rfl, hb5, hg5, hr5⟩
              have hbw := Below.trans (drew_below wc) hb5
              refine hK.out _ _ (has2_facts2 (A2.out.below hbw) (C2.out.below hbw)) (fun _ => ?_)
              clear hK hHeld
              have hHeld : (fun w' : World => (w'.cell? ⟨w.heap.size, 0, none⟩ = some (.int .i64 a.x) ∧ w'.cell? ⟨w.heap.size, 1, none⟩ = some (.int .i64 a.y) ∧ w'.cell? ⟨w.heap.size, 2, none⟩ = some (.int .i64 b.x) ∧ w'.cell? ⟨w.heap.size, 3, none⟩ = some (.int .i64 b.y) ∧
                      w'.cell? ⟨w.heap.size + 1, 0, none⟩ = some (.int .i64 c.x) ∧ w'.cell? ⟨w.heap.size + 1, 1, none⟩ = some (.int .i64 c.y) ∧ w'.cell? ⟨w.heap.size + 1, 2, none⟩ = some (.int .i64 d.x) ∧ w'.cell? ⟨w.heap.size + 1, 3, none⟩ = some (.int .i64 d.y)) ∧ w'.cell? ⟨g5, 2, none⟩ = some (.int .i64 b.x) ∧ w'.cell? ⟨g5, 3, none⟩ = some (.int .i64 b.y)) w5 := ⟨has2_facts2 (A2.out.below hbw) (C2.out.below hbw), (has2_facts (row_has2 hr5)).2.2.1, (has2_facts (row_has2 hr5)).2.2.2⟩
              refine wpAnyH_switch (S' := (fun w' : World => (w'.cell? ⟨w.heap.size, 0, none⟩ = some (.int .i64 a.x) ∧ w'.cell? ⟨w.heap.size, 1, none⟩ = some (.int .i64 a.y) ∧ w'.cell? ⟨w.heap.size, 2, none⟩ = some (.int .i64 b.x) ∧ w'.cell? ⟨w.heap.size, 3, none⟩ = some (.int .i64 b.y) ∧
                      w'.cell? ⟨w.heap.size + 1, 0, none⟩ = some (.int .i64 c.x) ∧ w'.cell? ⟨w.heap.size + 1, 1, none⟩ = some (.int .i64 c.y) ∧ w'.cell? ⟨w.heap.size + 1, 2, none⟩ = some (.int .i64 d.x) ∧ w'.cell? ⟨w.heap.size + 1, 3, none⟩ = some (.int .i64 d.y)) ∧ w'.cell? ⟨g5, 2, none⟩ = some (.int .i64 b.x) ∧ w'.cell? ⟨g5, 3, none⟩ = some (.int .i64 b.y))) (fun _ h => h.1) ?_
              refine wpAnyH_take (i := 5) (oi := _) (v := .pointer (some ⟨g5, 2, none⟩)) rfl (by kernel_rfl) (by kernel_rfl) (by kernel_rfl) (fun _ _ _ h => h) (Or.inl ⟨by rfl, ?_⟩) hHeld ?_
              · intro w hSw
                go_simp
              refine wpAnyH_take (i := 6) (oi := _) (v := .agg #[.int .i64 b.x, .int .i64 b.y]) rfl (by kernel_rfl) (by kernel_rfl) (by kernel_rfl) (fun _ _ _ h => h) (Or.inl ⟨by rfl, ?_⟩) hHeld ?_
              · intro w hSw
                go_simp
              simp only [Act.put, List.setIfInBounds_toArray]
              refine wpAnyH_ready (rs := [7]) (by kernel_rfl) (by simp) ?_
              refine AllReadyH.cons (o := _) rfl (fun K hK => ?_) AllReadyH.nil
              go_simp
              go_at_call 66
              refine (meetAt_any a b c d b _).mono ?_
              rintro e w6 ⟨rfl, hb6⟩
              have hbw6 := Below.trans hbw (hb6.mono hbw.size)
              have KS := And.intro (has2_facts2 (A2.out.below hbw6) (C2.out.below hbw6)) (And.intro (kept hb6 hHeld.2.1) (kept hb6 hHeld.2.2))
              refine hK.out _ _ KS (fun _ => ?_)
              clear hK hHeld
              refine wpAnyH_ready (rs := [8]) (by kernel_rfl) (by simp) ?_
              refine AllReadyH.cons (o := _) rfl (fun K hK => ?_) AllReadyH.nil
              go_simp
              refine hK.out _ _ KS (fun _ => ?_)
              clear hK KS
              refine wpAnyH_done (by kernel_rfl) ?_ _
              go_wp2
              go_ret
              exact ⟨ret_int HE.out, HB2.out.trans (hbw6.mono HB2.out.size)⟩
            | false =>
              rw [show firstOf false false = -1 from rfl]
              have HR2 := Lib.hid (show (if partsB a b c d && partsB c d a b then (3 : Int) else 0) = R by have h := HR1.out; rw [if_neg (by rw [x1]; decide), if_neg (by rw [x2]; decide)] at h; exact h)
              clear x1 x2
              go_wp2_with fail
              refine (parts_any a b c d na nb nc nd _).mono ?_
              rintro e w3 ⟨rfl, hb3⟩
              have HB3 := Lib.hid (HB2.out.trans (hb3.mono HB2.out.size))
              have A3 := A2.out.below hb3
              have C3 := C2.out.below hb3
              clear hb3 a0 a1 b0 b1 c0 c1 d0 d1
              obtain ⟨a0, a1, b0, b1⟩ := has2_facts A3
              obtain ⟨c0, c1, d0, d1⟩ := has2_facts C3
              cases x3 : partsB a b c d with
              | false =>
                have HE := Lib.hid (show (0 : Int) = R by rw [← HR2.out, x3]; rfl)
                go_wp2
                go_ret
                exact ⟨ret_int HE.out, HB3.out⟩
              | true =>
                have HR3 := Lib.hid (show (if partsB c d a b then (3 : Int) else 0) = R by rw [← HR2.out, x3, Bool.true_and])
                go_wp2_with fail
                refine (parts_any c d a b nc nd na nb _).mono ?_
                rintro e w4 ⟨rfl, hb4⟩
                have HB4 := Lib.hid (HB3.out.trans (hb4.mono HB3.out.size))
                clear hb4 A3 C3 a0 a1 b0 b1 c0 c1 d0 d1
                cases x4 : partsB c d a b with
                | false =>
                  have HE := Lib.hid (show (0 : Int) = R by rw [← HR3.out, x4]; rfl)
                  go_wp2
                  go_ret
                  exact ⟨ret_int HE.out, HB4.out⟩
                | true =>
                  have HE := Lib.hid (show (3 : Int) = R by rw [← HR3.out, x4]; rfl)
                  go_wp2
                  go_ret
                  exact ⟨ret_int HE.out, HB4.out⟩
end Go.Proofs.Ytlagolgmkmdhhaa.Geo
