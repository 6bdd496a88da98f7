/- geom.Meets by contract. -/
import Derived.Test.YtlagolgmkmdhhaaGmAcross
namespace Go.Proofs.Ytlagolgmkmdhhaa.Geo
open Go.RowKit Go.Sort
theorem sorted_of (a b l h : Pt) (w : World) (hl : lowN a b = l) (hh : highN a b = h) : Calls Try.prog 43 #[.agg #[.int .i64 a.x, .int .i64 a.y, .int .i64 b.x, .int .i64 b.y]] w
    fun e w' => e = .returned (.agg #[.int .i64 l.x, .int .i64 l.y, .int .i64 h.x, .int .i64 h.y]) ∧ Below w.heap.size w w' := by
  subst hl hh; exact sorted_any a b w
theorem kept8 {w w' : World} {p1 p2 p3 p4 p5 p6 p7 p8 : Addr} {v1 v2 v3 v4 v5 v6 v7 v8 : Value} (hb : Below w.heap.size w w')
    (h : w.cell? p1 = some v1 ∧ w.cell? p2 = some v2 ∧ w.cell? p3 = some v3 ∧ w.cell? p4 = some v4 ∧ w.cell? p5 = some v5 ∧ w.cell? p6 = some v6 ∧ w.cell? p7 = some v7 ∧ w.cell? p8 = some v8) :
    w'.cell? p1 = some v1 ∧ w'.cell? p2 = some v2 ∧ w'.cell? p3 = some v3 ∧ w'.cell? p4 = some v4 ∧ w'.cell? p5 = some v5 ∧ w'.cell? p6 = some v6 ∧ w'.cell? p7 = some v7 ∧ w'.cell? p8 = some v8 :=
  ⟨kept hb h.1, kept hb h.2.1, kept hb h.2.2.1, kept hb h.2.2.2.1, kept hb h.2.2.2.2.1, kept hb h.2.2.2.2.2.1, kept hb h.2.2.2.2.2.2.1, kept hb h.2.2.2.2.2.2.2⟩
theorem row_facts {w : World} {g : Nat} {t : TypeId} {v0 v1 v2 v3 : Value} (h : IsRow w g t #[v0, v1, v2, v3]) :
    w.cell? ⟨g, 0, none⟩ = some v0 ∧ w.cell? ⟨g, 1, none⟩ = some v1 ∧ w.cell? ⟨g, 2, none⟩ = some v2 ∧ w.cell? ⟨g, 3, none⟩ = some v3 ∧
    w.frozen? ⟨g, 0, none⟩ = false ∧ w.frozen? ⟨g, 1, none⟩ = false ∧ w.frozen? ⟨g, 2, none⟩ = false ∧ w.frozen? ⟨g, 3, none⟩ = false :=
  ⟨h.get 0, h.get 1, h.get 2, h.get 3, h.open_ 0, h.open_ 1, h.open_ 2, h.open_ 3⟩
theorem has2_row {w : World} {g : Nat} {t : TypeId} {a b : Pt} (h : IsRow w g t #[.int .i64 a.x, .int .i64 a.y, .int .i64 b.x, .int .i64 b.y]) : Has2 w g a b :=
  ⟨⟨h.inside, h.get 0, h.get 1⟩, h.get 2, h.get 3⟩
theorem set4_other {w : World} {g g' : Nat} {t : TypeId} {cs : Array Value} (h : IsRow w g t cs) (hn : g ≠ g') (v0 v1 v2 v3 : Value) :
    IsRow ((((w.setCell ⟨g', 0, none⟩ v0).setCell ⟨g', 1, none⟩ v1).setCell ⟨g', 2, none⟩ v2).setCell ⟨g', 3, none⟩ v3) g t cs :=
  (((h.putOther hn _).putOther hn _).putOther hn _).putOther hn _
theorem row_old {B g : Nat} {t : TypeId} {cs : Array Value} {a w : World} (_ : Below B a w) (_ : IsRow w g t cs) (h : B ≤ g) : B ≤ g := h
theorem near_low {a b : Pt} (na : nearB a = true) (nb : nearB b = true) : nearB (lowN a b) = true := by unfold lowN; split <;> assumption
theorem near_high {a b : Pt} (na : nearB a = true) (nb : nearB b = true) : nearB (highN a b) = true := by unfold highN; split <;> assumption
def meetsF (a b c d : Pt) : Int := if nearB a && nearB b && nearB c && nearB d then meetsN a b c d else 0
set_option maxRecDepth 100000 in
set_option maxHeartbeats 4000000 in
theorem meets_any (a b c d : Pt) : Answers Try.prog 24 #[.agg #[.int .i64 a.x, .int .i64 a.y, .int .i64 b.x, .int .i64 b.y], .agg #[.int .i64 c.x, .int .i64 c.y, .int .i64 d.x, .int .i64 d.y]] (.int .i64 (meetsF a b c d)) := by
  intro w
  obtain ⟨W, hW, hsz, hB, hA, hC⟩ := segseg w 33 33 a b c d
  have HW := Lib.hid hW
  have HB := Lib.hid hB
  have HA := Lib.hid hA
  have HC := Lib.hid hC
  have HS := Lib.hid hsz
  clear hW hB hsz
  obtain ⟨a0, a1, b0, b1⟩ := has2_facts hA
  obtain ⟨c0, c1, d0, d1⟩ := has2_facts hC
  clear hA hC
  obtain ⟨R, hR⟩ : ∃ R, meetsF a b c d = R := ⟨_, rfl⟩
  have HR := Lib.hid hR
  rw [hR]
  clear hR
  go_enter Try.func24, Try.ntmps24
  go_wp2_with fail
  rw [HW.out]
  refine (allNear_list [a, b, c, d] 4 _ _ W rfl rfl (by decide) HS.out).mono ?_
  rw [all4]
  rintro e w1 ⟨rfl, hb1⟩
  have HB1 := Lib.hid (HB.out.trans (hb1.mono HB.out.size))
  have A1 := Lib.hid (HA.out.below hb1)
  have C1 := Lib.hid (HC.out.below hb1)
  clear hb1 a0 a1 b0 b1 c0 c1 d0 d1
  cases h1 : (nearB a && nearB b && nearB c && nearB d) with
  | false =>
    have HE := Lib.hid (show (0 : Int) = R by rw [← HR.out]; unfold meetsF; rw [h1]; rfl)
    clear h1
    go_wp2
    go_ret
    exact ⟨ret_int HE.out, HB1.out⟩
  | true =>
    have HR1 := Lib.hid (show meetsN a b c d = R by rw [← HR.out]; unfold meetsF; rw [h1]; rfl)
    obtain ⟨⟨⟨na, nb⟩, nc⟩, nd⟩ : ((nearB a = true ∧ nearB b = true) ∧ nearB c = true) ∧ nearB d = true := by simpa using h1
    clear h1
    obtain ⟨a0, a1, b0, b1⟩ := has2_facts A1.out
    obtain ⟨c0, c1, d0, d1⟩ := has2_facts C1.out
    obtain ⟨l1, hl1⟩ : ∃ l, lowN a b = l := ⟨_, rfl⟩
    obtain ⟨h1, hh1⟩ : ∃ l, highN a b = l := ⟨_, rfl⟩
    obtain ⟨l2, hl2⟩ : ∃ l, lowN c d = l := ⟨_, rfl⟩
    obtain ⟨h2, hh2⟩ : ∃ l, highN c d = l := ⟨_, rfl⟩
    have HL1 := Lib.hid hl1
    have HH1 := Lib.hid hh1
    have HL2 := Lib.hid hl2
    have HH2 := Lib.hid hh2
    clear hl1 hh1 hl2 hh2
    go_wp2_with fail
    go_cut [5, 6] from 18 to 21 (fun s5 s6 wx => ∃ g4 g5 : Nat, s5 = .pointer (some ⟨g4, 0, none⟩) ∧ s6 = .pointer (some ⟨g5, 0, none⟩) ∧ Hid (Has2 wx g4 l1 h1) ∧ Hid (Has2 wx g5 l2 h2) ∧ Hid (Below w1.heap.size w1 wx))
    case first =>
      refine wp_region_noPanic ?_
      refine wp_region_held_drew (S := (fun w' : World => w'.cell? ⟨w.heap.size, 0, none⟩ = some (.int .i64 a.x) ∧ w'.cell? ⟨w.heap.size, 1, none⟩ = some (.int .i64 a.y) ∧ w'.cell? ⟨w.heap.size, 2, none⟩ = some (.int .i64 b.x) ∧ w'.cell? ⟨w.heap.size, 3, none⟩ = some (.int .i64 b.y) ∧
            w'.cell? ⟨w.heap.size + 1, 0, none⟩ = some (.int .i64 c.x) ∧ w'.cell? ⟨w.heap.size + 1, 1, none⟩ = some (.int .i64 c.y) ∧ w'.cell? ⟨w.heap.size + 1, 2, none⟩ = some (.int .i64 d.x) ∧ w'.cell? ⟨w.heap.size + 1, 3, none⟩ = some (.int .i64 d.y))) (by kernel_rfl) (has2_facts2 (A1.out.below (drew_below w1)) (C1.out.below (drew_below w1))) (fun hHeld => ?_)
      have B_0 := drew_below w1
      generalize w1.drew = w0 at *
      refine wpAnyH_take (i := 0) (oi := _) (v := .agg #[.int .i64 a.x, .int .i64 a.y, .int .i64 b.x, .int .i64 b.y]) rfl (by kernel_rfl) (by kernel_rfl) (by kernel_rfl) (fun _ _ _ h => h) (Or.inl ⟨by rfl, ?_⟩) hHeld ?_
      · intro w hSw
        go_simp
      refine wpAnyH_take (i := 2) (oi := _) (v := .agg #[.int .i64 c.x, .int .i64 c.y, .int .i64 d.x, .int .i64 d.y]) rfl (by kernel_rfl) (by kernel_rfl) (by kernel_rfl) (fun _ _ _ h => h) (Or.inl ⟨by rfl, ?_⟩) hHeld ?_
      · intro w hSw
        go_simp
      simp only [Act.put, List.setIfInBounds_toArray]
      clear hHeld a0 a1 b0 b1 c0 c1 d0 d1
      refine wpAnyH_ready (rs := [1, 4, 5]) (by kernel_rfl) (by simp) ?_
      refine AllReadyH.cons (o := _) rfl (fun K hK => ?_) ?_
      · go_simp
        go_at_call 43
        refine (sorted_of a b l1 h1 _ HL1.out HH1.out).mono ?_
        rintro e w_1 ⟨rfl, hb⟩
        have B_1 := B_0.trans (hb.mono B_0.size)
        clear hb
        refine hK.out _ _ (has2_facts2 (A1.out.below B_1) (C1.out.below B_1)) (fun _ => ?_)
        clear hK
        refine wpAnyH_ready (rs := [3, 4, 5]) (by kernel_rfl) (by simp) ?_
        refine AllReadyH.cons (o := _) rfl (fun K hK => ?_) ?_
        · go_simp
          go_at_call 43
          refine (sorted_of c d l2 h2 _ HL2.out HH2.out).mono ?_
          rintro e w_2 ⟨rfl, hb⟩
          have B_2 := B_1.trans (hb.mono B_1.size)
          clear hb
          refine hK.out _ _ (has2_facts2 (A1.out.below B_2) (C1.out.below B_2)) (fun _ => ?_)
          clear hK
          refine wpAnyH_ready (rs := [4, 5]) (by kernel_rfl) (by simp) ?_
          refine AllReadyH.cons (o := _) rfl (fun K hK => ?_) ?_
          · go_simp
            obtain ⟨w_3, hw⟩ : ∃ w', w_2.alloc (.cells #[.int .i64 0, .int .i64 0, .int .i64 0, .int .i64 0] 56) = w' := ⟨_, rfl⟩
            rw [hw]
            have B_3 := hw ▸ B_2.alloc B_2.size (.cells #[.int .i64 0, .int .i64 0, .int .i64 0, .int .i64 0] 56)
            have R4_3 := hw ▸ IsRow.made w_2 56 #[.int .i64 0, .int .i64 0, .int .i64 0, .int .i64 0]
            clear hw
            have N4 : w1.heap.size ≤ w_2.heap.size := B_2.size
            refine hK.out _ _ (has2_facts2 (A1.out.below B_3) (C1.out.below B_3)) (fun _ => ?_)
            clear hK
            refine wpAnyH_ready (rs := [5]) (by kernel_rfl) (by simp) ?_
            refine AllReadyH.cons (o := _) rfl (fun K hK => ?_) AllReadyH.nil
            go_simp
            obtain ⟨w_4, hw⟩ : ∃ w', w_3.alloc (.cells #[.int .i64 0, .int .i64 0, .int .i64 0, .int .i64 0] 56) = w' := ⟨_, rfl⟩
            rw [hw]
            have B_4 := hw ▸ B_3.alloc B_3.size (.cells #[.int .i64 0, .int .i64 0, .int .i64 0, .int .i64 0] 56)
            have R5_4 := hw ▸ IsRow.made w_3 56 #[.int .i64 0, .int .i64 0, .int .i64 0, .int .i64 0]
            have R4_4 := hw ▸ R4_3.later (.cells #[.int .i64 0, .int .i64 0, .int .i64 0, .int .i64 0] 56)
            clear hw
            have N5 : w1.heap.size ≤ w_3.heap.size := B_3.size
            have NE : w_2.heap.size ≠ w_3.heap.size := Nat.ne_of_lt R4_3.inside
            refine hK.out _ _ (has2_facts2 (A1.out.below B_4) (C1.out.below B_4)) (fun _ => ?_)
            clear hK
            refine wpAnyH_ready (rs := [6]) (by kernel_rfl) (by simp) ?_
            refine AllReadyH.cons (o := _) rfl (fun K hK => ?_) AllReadyH.nil
            obtain ⟨c0, c1, c2, c3, f0, f1, f2, f3⟩ := row_facts R4_4
            go_simp
            obtain ⟨w_5, hw⟩ : ∃ w', ((((w_4.setCell ⟨w_2.heap.size, 0, none⟩ (.int .i64 l1.x)).setCell ⟨w_2.heap.size, 1, none⟩ (.int .i64 l1.y)).setCell ⟨w_2.heap.size, 2, none⟩ (.int .i64 h1.x)).setCell ⟨w_2.heap.size, 3, none⟩ (.int .i64 h1.y)) = w' := ⟨_, rfl⟩
            rw [hw]
            have B_5 := hw ▸ below4 B_4 (row_old B_4 R4_4 N4) (.int .i64 l1.x) (.int .i64 l1.y) (.int .i64 h1.x) (.int .i64 h1.y)
            have R4_5 := hw ▸ set4 R4_4 (.int .i64 l1.x) (.int .i64 l1.y) (.int .i64 h1.x) (.int .i64 h1.y)
            have R5_5 := hw ▸ set4_other R5_4 (show w_3.heap.size ≠ w_2.heap.size by have := NE; omega) (.int .i64 l1.x) (.int .i64 l1.y) (.int .i64 h1.x) (.int .i64 h1.y)
            clear hw c0 c1 c2 c3 f0 f1 f2 f3
            refine hK.out _ _ (has2_facts2 (A1.out.below B_5) (C1.out.below B_5)) (fun _ => ?_)
            clear hK
            refine wpAnyH_ready (rs := [7]) (by kernel_rfl) (by simp) ?_
            refine AllReadyH.cons (o := _) rfl (fun K hK => ?_) AllReadyH.nil
            obtain ⟨c0, c1, c2, c3, f0, f1, f2, f3⟩ := row_facts R5_5
            go_simp
            obtain ⟨w_6, hw⟩ : ∃ w', ((((w_5.setCell ⟨w_3.heap.size, 0, none⟩ (.int .i64 l2.x)).setCell ⟨w_3.heap.size, 1, none⟩ (.int .i64 l2.y)).setCell ⟨w_3.heap.size, 2, none⟩ (.int .i64 h2.x)).setCell ⟨w_3.heap.size, 3, none⟩ (.int .i64 h2.y)) = w' := ⟨_, rfl⟩
            rw [hw]
            have B_6 := hw ▸ below4 B_5 (row_old B_5 R5_5 N5) (.int .i64 l2.x) (.int .i64 l2.y) (.int .i64 h2.x) (.int .i64 h2.y)
            have R5_6 := hw ▸ set4 R5_5 (.int .i64 l2.x) (.int .i64 l2.y) (.int .i64 h2.x) (.int .i64 h2.y)
            have R4_6 := hw ▸ set4_other R4_5 (show w_2.heap.size ≠ w_3.heap.size by have := NE; omega) (.int .i64 l2.x) (.int .i64 l2.y) (.int .i64 h2.x) (.int .i64 h2.y)
            clear hw c0 c1 c2 c3 f0 f1 f2 f3
            refine hK.out _ _ (has2_facts2 (A1.out.below B_6) (C1.out.below B_6)) (fun _ => ?_)
            clear hK
            refine wpAnyH_done (by kernel_rfl) ?_ _
            refine NoPanic.normal ?_
            go_wp2_with fail
            go_meet
            exact ⟨w_2.heap.size, w_3.heap.size, rfl, rfl, Lib.hid (has2_row R4_6), Lib.hid (has2_row R5_6), Lib.hid B_6⟩
          refine AllReadyH.cons (o := _) rfl (fun K hK => ?_) AllReadyH.nil
          go_simp
          obtain ⟨w_7, hw⟩ : ∃ w', w_2.alloc (.cells #[.int .i64 0, .int .i64 0, .int .i64 0, .int .i64 0] 56) = w' := ⟨_, rfl⟩
          rw [hw]
          have B_7 := hw ▸ B_2.alloc B_2.size (.cells #[.int .i64 0, .int .i64 0, .int .i64 0, .int .i64 0] 56)
          have R5_7 := hw ▸ IsRow.made w_2 56 #[.int .i64 0, .int .i64 0, .int .i64 0, .int .i64 0]
          clear hw
          have N5 : w1.heap.size ≤ w_2.heap.size := B_2.size
          refine hK.out _ _ (has2_facts2 (A1.out.below B_7) (C1.out.below B_7)) (fun _ => ?_)
          clear hK
          refine wpAnyH_ready (rs := [4]) (by kernel_rfl) (by simp) ?_
          refine AllReadyH.cons (o := _) rfl (fun K hK => ?_) AllReadyH.nil
          go_simp
          obtain ⟨w_8, hw⟩ : ∃ w', w_7.alloc (.cells #[.int .i64 0, .int .i64 0, .int .i64 0, .int .i64 0] 56) = w' := ⟨_, rfl⟩
          rw [hw]
          have B_8 := hw ▸ B_7.alloc B_7.size (.cells #[.int .i64 0, .int .i64 0, .int .i64 0, .int .i64 0] 56)
          have R4_8 := hw ▸ IsRow.made w_7 56 #[.int .i64 0, .int .i64 0, .int .i64 0, .int .i64 0]
          have R5_8 := hw ▸ R5_7.later (.cells #[.int .i64 0, .int .i64 0, .int .i64 0, .int .i64 0] 56)
          clear hw
          have N4 : w1.heap.size ≤ w_7.heap.size := B_7.size
          have NE : w_2.heap.size ≠ w_7.heap.size := Nat.ne_of_lt R5_7.inside
          refine hK.out _ _ (has2_facts2 (A1.out.below B_8) (C1.out.below B_8)) (fun _ => ?_)
          clear hK
          refine wpAnyH_ready (rs := [6]) (by kernel_rfl) (by simp) ?_
          refine AllReadyH.cons (o := _) rfl (fun K hK => ?_) AllReadyH.nil
          obtain ⟨c0, c1, c2, c3, f0, f1, f2, f3⟩ := row_facts R4_8
          go_simp
          obtain ⟨w_9, hw⟩ : ∃ w', ((((w_8.setCell ⟨w_7.heap.size, 0, none⟩ (.int .i64 l1.x)).setCell ⟨w_7.heap.size, 1, none⟩ (.int .i64 l1.y)).setCell ⟨w_7.heap.size, 2, none⟩ (.int .i64 h1.x)).setCell ⟨w_7.heap.size, 3, none⟩ (.int .i64 h1.y)) = w' := ⟨_, rfl⟩
          rw [hw]
          have B_9 := hw ▸ below4 B_8 (row_old B_8 R4_8 N4) (.int .i64 l1.x) (.int .i64 l1.y) (.int .i64 h1.x) (.int .i64 h1.y)
          have R4_9 := hw ▸ set4 R4_8 (.int .i64 l1.x) (.int .i64 l1.y) (.int .i64 h1.x) (.int .i64 h1.y)
          have R5_9 := hw ▸ set4_other R5_8 (show w_2.heap.size ≠ w_7.heap.size by have := NE; omega) (.int .i64 l1.x) (.int .i64 l1.y) (.int .i64 h1.x) (.int .i64 h1.y)
          clear hw c0 c1 c2 c3 f0 f1 f2 f3
          refine hK.out _ _ (has2_facts2 (A1.out.below B_9) (C1.out.below B_9)) (fun _ => ?_)
          clear hK
          refine wpAnyH_ready (rs := [7]) (by kernel_rfl) (by simp) ?_
          refine AllReadyH.cons (o := _) rfl (fun K hK => ?_) AllReadyH.nil
          obtain ⟨c0, c1, c2, c3, f0, f1, f2, f3⟩ := row_facts R5_9
          go_simp
          obtain ⟨w_10, hw⟩ : ∃ w', ((((w_9.setCell ⟨w_2.heap.size, 0, none⟩ (.int .i64 l2.x)).setCell ⟨w_2.heap.size, 1, none⟩ (.int .i64 l2.y)).setCell ⟨w_2.heap.size, 2, none⟩ (.int .i64 h2.x)).setCell ⟨w_2.heap.size, 3, none⟩ (.int .i64 h2.y)) = w' := ⟨_, rfl⟩
          rw [hw]
          have B_10 := hw ▸ below4 B_9 (row_old B_9 R5_9 N5) (.int .i64 l2.x) (.int .i64 l2.y) (.int .i64 h2.x) (.int .i64 h2.y)
          have R5_10 := hw ▸ set4 R5_9 (.int .i64 l2.x) (.int .i64 l2.y) (.int .i64 h2.x) (.int .i64 h2.y)
          have R4_10 := hw ▸ set4_other R4_9 (show w_7.heap.size ≠ w_2.heap.size by have := NE; omega) (.int .i64 l2.x) (.int .i64 l2.y) (.int .i64 h2.x) (.int .i64 h2.y)
          clear hw c0 c1 c2 c3 f0 f1 f2 f3
          refine hK.out _ _ (has2_facts2 (A1.out.below B_10) (C1.out.below B_10)) (fun _ => ?_)
          clear hK
          refine wpAnyH_done (by kernel_rfl) ?_ _
          refine NoPanic.normal ?_
          go_wp2_with fail
          go_meet
          exact ⟨w_7.heap.size, w_2.heap.size, rfl, rfl, Lib.hid (has2_row R4_10), Lib.hid (has2_row R5_10), Lib.hid B_10⟩
        refine AllReadyH.cons (o := _) rfl (fun K hK => ?_) ?_
        · go_simp
          obtain ⟨w_11, hw⟩ : ∃ w', w_1.alloc (.cells #[.int .i64 0, .int .i64 0, .int .i64 0, .int .i64 0] 56) = w' := ⟨_, rfl⟩
          rw [hw]
          have B_11 := hw ▸ B_1.alloc B_1.size (.cells #[.int .i64 0, .int .i64 0, .int .i64 0, .int .i64 0] 56)
          have R4_11 := hw ▸ IsRow.made w_1 56 #[.int .i64 0, .int .i64 0, .int .i64 0, .int .i64 0]
          clear hw
          have N4 : w1.heap.size ≤ w_1.heap.size := B_1.size
          refine hK.out _ _ (has2_facts2 (A1.out.below B_11) (C1.out.below B_11)) (fun _ => ?_)
          clear hK
          refine wpAnyH_ready (rs := [3, 5]) (by kernel_rfl) (by simp) ?_
          refine AllReadyH.cons (o := _) rfl (fun K hK => ?_) ?_
          · go_simp
            go_at_call 43
            refine (sorted_of c d l2 h2 _ HL2.out HH2.out).mono ?_
            rintro e w_12 ⟨rfl, hb⟩
            have B_12 := B_11.trans (hb.mono B_11.size)
            have R4_12 := R4_11.below hb R4_11.inside
            clear hb
            refine hK.out _ _ (has2_facts2 (A1.out.below B_12) (C1.out.below B_12)) (fun _ => ?_)
            clear hK
            refine wpAnyH_ready (rs := [5]) (by kernel_rfl) (by simp) ?_
            refine AllReadyH.cons (o := _) rfl (fun K hK => ?_) AllReadyH.nil
            go_simp
            obtain ⟨w_13, hw⟩ : ∃ w', w_12.alloc (.cells #[.int .i64 0, .int .i64 0, .int .i64 0, .int .i64 0] 56) = w' := ⟨_, rfl⟩
            rw [hw]
            have B_13 := hw ▸ B_12.alloc B_12.size (.cells #[.int .i64 0, .int .i64 0, .int .i64 0, .int .i64 0] 56)
            have R5_13 := hw ▸ IsRow.made w_12 56 #[.int .i64 0, .int .i64 0, .int .i64 0, .int .i64 0]
            have R4_13 := hw ▸ R4_12.later (.cells #[.int .i64 0, .int .i64 0, .int .i64 0, .int .i64 0] 56)
            clear hw
            have N5 : w1.heap.size ≤ w_12.heap.size := B_12.size
            have NE : w_1.heap.size ≠ w_12.heap.size := Nat.ne_of_lt R4_12.inside
            refine hK.out _ _ (has2_facts2 (A1.out.below B_13) (C1.out.below B_13)) (fun _ => ?_)
            clear hK
            refine wpAnyH_ready (rs := [6]) (by kernel_rfl) (by simp) ?_
            refine AllReadyH.cons (o := _) rfl (fun K hK => ?_) AllReadyH.nil
            obtain ⟨c0, c1, c2, c3, f0, f1, f2, f3⟩ := row_facts R4_13
            go_simp
            obtain ⟨w_14, hw⟩ : ∃ w', ((((w_13.setCell ⟨w_1.heap.size, 0, none⟩ (.int .i64 l1.x)).setCell ⟨w_1.heap.size, 1, none⟩ (.int .i64 l1.y)).setCell ⟨w_1.heap.size, 2, none⟩ (.int .i64 h1.x)).setCell ⟨w_1.heap.size, 3, none⟩ (.int .i64 h1.y)) = w' := ⟨_, rfl⟩
            rw [hw]
            have B_14 := hw ▸ below4 B_13 (row_old B_13 R4_13 N4) (.int .i64 l1.x) (.int .i64 l1.y) (.int .i64 h1.x) (.int .i64 h1.y)
            have R4_14 := hw ▸ set4 R4_13 (.int .i64 l1.x) (.int .i64 l1.y) (.int .i64 h1.x) (.int .i64 h1.y)
            have R5_14 := hw ▸ set4_other R5_13 (show w_12.heap.size ≠ w_1.heap.size by have := NE; omega) (.int .i64 l1.x) (.int .i64 l1.y) (.int .i64 h1.x) (.int .i64 h1.y)
            clear hw c0 c1 c2 c3 f0 f1 f2 f3
            refine hK.out _ _ (has2_facts2 (A1.out.below B_14) (C1.out.below B_14)) (fun _ => ?_)
            clear hK
            refine wpAnyH_ready (rs := [7]) (by kernel_rfl) (by simp) ?_
            refine AllReadyH.cons (o := _) rfl (fun K hK => ?_) AllReadyH.nil
            obtain ⟨c0, c1, c2, c3, f0, f1, f2, f3⟩ := row_facts R5_14
            go_simp
            obtain ⟨w_15, hw⟩ : ∃ w', ((((w_14.setCell ⟨w_12.heap.size, 0, none⟩ (.int .i64 l2.x)).setCell ⟨w_12.heap.size, 1, none⟩ (.int .i64 l2.y)).setCell ⟨w_12.heap.size, 2, none⟩ (.int .i64 h2.x)).setCell ⟨w_12.heap.size, 3, none⟩ (.int .i64 h2.y)) = w' := ⟨_, rfl⟩
            rw [hw]
            have B_15 := hw ▸ below4 B_14 (row_old B_14 R5_14 N5) (.int .i64 l2.x) (.int .i64 l2.y) (.int .i64 h2.x) (.int .i64 h2.y)
            have R5_15 := hw ▸ set4 R5_14 (.int .i64 l2.x) (.int .i64 l2.y) (.int .i64 h2.x) (.int .i64 h2.y)
            have R4_15 := hw ▸ set4_other R4_14 (show w_1.heap.size ≠ w_12.heap.size by have := NE; omega) (.int .i64 l2.x) (.int .i64 l2.y) (.int .i64 h2.x) (.int .i64 h2.y)
            clear hw c0 c1 c2 c3 f0 f1 f2 f3
            refine hK.out _ _ (has2_facts2 (A1.out.below B_15) (C1.out.below B_15)) (fun _ => ?_)
            clear hK
            refine wpAnyH_done (by kernel_rfl) ?_ _
            refine NoPanic.normal ?_
            go_wp2_with fail
            go_meet
            exact ⟨w_1.heap.size, w_12.heap.size, rfl, rfl, Lib.hid (has2_row R4_15), Lib.hid (has2_row R5_15), Lib.hid B_15⟩
          refine AllReadyH.cons (o := _) rfl (fun K hK => ?_) AllReadyH.nil
          go_simp
          obtain ⟨w_16, hw⟩ : ∃ w', w_11.alloc (.cells #[.int .i64 0, .int .i64 0, .int .i64 0, .int .i64 0] 56) = w' := ⟨_, rfl⟩
          rw [hw]
          have B_16 := hw ▸ B_11.alloc B_11.size (.cells #[.int .i64 0, .int .i64 0, .int .i64 0, .int .i64 0] 56)
          have R5_16 := hw ▸ IsRow.made w_11 56 #[.int .i64 0, .int .i64 0, .int .i64 0, .int .i64 0]
          have R4_16 := hw ▸ R4_11.later (.cells #[.int .i64 0, .int .i64 0, .int .i64 0, .int .i64 0] 56)
          clear hw
          have N5 : w1.heap.size ≤ w_11.heap.size := B_11.size
          have NE : w_1.heap.size ≠ w_11.heap.size := Nat.ne_of_lt R4_11.inside
          refine hK.out _ _ (has2_facts2 (A1.out.below B_16) (C1.out.below B_16)) (fun _ => ?_)
          clear hK
          refine wpAnyH_ready (rs := [3]) (by kernel_rfl) (by simp) ?_
          refine AllReadyH.cons (o := _) rfl (fun K hK => ?_) AllReadyH.nil
          go_simp
          go_at_call 43
          refine (sorted_of c d l2 h2 _ HL2.out HH2.out).mono ?_
          rintro e w_17 ⟨rfl, hb⟩
          have B_17 := B_16.trans (hb.mono B_16.size)
          have R5_17 := R5_16.below hb R5_16.inside
          have R4_17 := R4_16.below hb R4_16.inside
          clear hb
          refine hK.out _ _ (has2_facts2 (A1.out.below B_17) (C1.out.below B_17)) (fun _ => ?_)
          clear hK
          refine wpAnyH_ready (rs := [6]) (by kernel_rfl) (by simp) ?_
          refine AllReadyH.cons (o := _) rfl (fun K hK => ?_) AllReadyH.nil
          obtain ⟨c0, c1, c2, c3, f0, f1, f2, f3⟩ := row_facts R4_17
          go_simp
          obtain ⟨w_18, hw⟩ : ∃ w', ((((w_17.setCell ⟨w_1.heap.size, 0, none⟩ (.int .i64 l1.x)).setCell ⟨w_1.heap.size, 1, none⟩ (.int .i64 l1.y)).setCell ⟨w_1.heap.size, 2, none⟩ (.int .i64 h1.x)).setCell ⟨w_1.heap.size, 3, none⟩ (.int .i64 h1.y)) = w' := ⟨_, rfl⟩
          rw [hw]
          have B_18 := hw ▸ below4 B_17 (row_old B_17 R4_17 N4) (.int .i64 l1.x) (.int .i64 l1.y) (.int .i64 h1.x) (.int .i64 h1.y)
          have R4_18 := hw ▸ set4 R4_17 (.int .i64 l1.x) (.int .i64 l1.y) (.int .i64 h1.x) (.int .i64 h1.y)
          have R5_18 := hw ▸ set4_other R5_17 (show w_11.heap.size ≠ w_1.heap.size by have := NE; omega) (.int .i64 l1.x) (.int .i64 l1.y) (.int .i64 h1.x) (.int .i64 h1.y)
          clear hw c0 c1 c2 c3 f0 f1 f2 f3
          refine hK.out _ _ (has2_facts2 (A1.out.below B_18) (C1.out.below B_18)) (fun _ => ?_)
          clear hK
          refine wpAnyH_ready (rs := [7]) (by kernel_rfl) (by simp) ?_
          refine AllReadyH.cons (o := _) rfl (fun K hK => ?_) AllReadyH.nil
          obtain ⟨c0, c1, c2, c3, f0, f1, f2, f3⟩ := row_facts R5_18
          go_simp
          obtain ⟨w_19, hw⟩ : ∃ w', ((((w_18.setCell ⟨w_11.heap.size, 0, none⟩ (.int .i64 l2.x)).setCell ⟨w_11.heap.size, 1, none⟩ (.int .i64 l2.y)).setCell ⟨w_11.heap.size, 2, none⟩ (.int .i64 h2.x)).setCell ⟨w_11.heap.size, 3, none⟩ (.int .i64 h2.y)) = w' := ⟨_, rfl⟩
          rw [hw]
          have B_19 := hw ▸ below4 B_18 (row_old B_18 R5_18 N5) (.int .i64 l2.x) (.int .i64 l2.y) (.int .i64 h2.x) (.int .i64 h2.y)
          have R5_19 := hw ▸ set4 R5_18 (.int .i64 l2.x) (.int .i64 l2.y) (.int .i64 h2.x) (.int .i64 h2.y)
          have R4_19 := hw ▸ set4_other R4_18 (show w_1.heap.size ≠ w_11.heap.size by have := NE; omega) (.int .i64 l2.x) (.int .i64 l2.y) (.int .i64 h2.x) (.int .i64 h2.y)
          clear hw c0 c1 c2 c3 f0 f1 f2 f3
          refine hK.out _ _ (has2_facts2 (A1.out.below B_19) (C1.out.below B_19)) (fun _ => ?_)
          clear hK
          refine wpAnyH_done (by kernel_rfl) ?_ _
          refine NoPanic.normal ?_
          go_wp2_with fail
          go_meet
          exact ⟨w_1.heap.size, w_11.heap.size, rfl, rfl, Lib.hid (has2_row R4_19), Lib.hid (has2_row R5_19), Lib.hid B_19⟩
        refine AllReadyH.cons (o := _) rfl (fun K hK => ?_) AllReadyH.nil
        go_simp
        obtain ⟨w_20, hw⟩ : ∃ w', w_1.alloc (.cells #[.int .i64 0, .int .i64 0, .int .i64 0, .int .i64 0] 56) = w' := ⟨_, rfl⟩
        rw [hw]
        have B_20 := hw ▸ B_1.alloc B_1.size (.cells #[.int .i64 0, .int .i64 0, .int .i64 0, .int .i64 0] 56)
        have R5_20 := hw ▸ IsRow.made w_1 56 #[.int .i64 0, .int .i64 0, .int .i64 0, .int .i64 0]
        clear hw
        have N5 : w1.heap.size ≤ w_1.heap.size := B_1.size
        refine hK.out _ _ (has2_facts2 (A1.out.below B_20) (C1.out.below B_20)) (fun _ => ?_)
        clear hK
        refine wpAnyH_ready (rs := [3, 4]) (by kernel_rfl) (by simp) ?_
        refine AllReadyH.cons (o := _) rfl (fun K hK => ?_) ?_
        · go_simp
          go_at_call 43
          refine (sorted_of c d l2 h2 _ HL2.out HH2.out).mono ?_
          rintro e w_21 ⟨rfl, hb⟩
          have B_21 := B_20.trans (hb.mono B_20.size)
          have R5_21 := R5_20.below hb R5_20.inside
          clear hb
          refine hK.out _ _ (has2_facts2 (A1.out.below B_21) (C1.out.below B_21)) (fun _ => ?_)
          clear hK
          refine wpAnyH_ready (rs := [4]) (by kernel_rfl) (by simp) ?_
          refine AllReadyH.cons (o := _) rfl (fun K hK => ?_) AllReadyH.nil
          go_simp
          obtain ⟨w_22, hw⟩ : ∃ w', w_21.alloc (.cells #[.int .i64 0, .int .i64 0, .int .i64 0, .int .i64 0] 56) = w' := ⟨_, rfl⟩
          rw [hw]
          have B_22 := hw ▸ B_21.alloc B_21.size (.cells #[.int .i64 0, .int .i64 0, .int .i64 0, .int .i64 0] 56)
          have R4_22 := hw ▸ IsRow.made w_21 56 #[.int .i64 0, .int .i64 0, .int .i64 0, .int .i64 0]
          have R5_22 := hw ▸ R5_21.later (.cells #[.int .i64 0, .int .i64 0, .int .i64 0, .int .i64 0] 56)
          clear hw
          have N4 : w1.heap.size ≤ w_21.heap.size := B_21.size
          have NE : w_1.heap.size ≠ w_21.heap.size := Nat.ne_of_lt R5_21.inside
          refine hK.out _ _ (has2_facts2 (A1.out.below B_22) (C1.out.below B_22)) (fun _ => ?_)
          clear hK
          refine wpAnyH_ready (rs := [6]) (by kernel_rfl) (by simp) ?_
          refine AllReadyH.cons (o := _) rfl (fun K hK => ?_) AllReadyH.nil
          obtain ⟨c0, c1, c2, c3, f0, f1, f2, f3⟩ := row_facts R4_22
          go_simp
          obtain ⟨w_23, hw⟩ : ∃ w', ((((w_22.setCell ⟨w_21.heap.size, 0, none⟩ (.int .i64 l1.x)).setCell ⟨w_21.heap.size, 1, none⟩ (.int .i64 l1.y)).setCell ⟨w_21.heap.size, 2, none⟩ (.int .i64 h1.x)).setCell ⟨w_21.heap.size, 3, none⟩ (.int .i64 h1.y)) = w' := ⟨_, rfl⟩
          rw [hw]
          have B_23 := hw ▸ below4 B_22 (row_old B_22 R4_22 N4) (.int .i64 l1.x) (.int .i64 l1.y) (.int .i64 h1.x) (.int .i64 h1.y)
          have R4_23 := hw ▸ set4 R4_22 (.int .i64 l1.x) (.int .i64 l1.y) (.int .i64 h1.x) (.int .i64 h1.y)
          have R5_23 := hw ▸ set4_other R5_22 (show w_1.heap.size ≠ w_21.heap.size by have := NE; omega) (.int .i64 l1.x) (.int .i64 l1.y) (.int .i64 h1.x) (.int .i64 h1.y)
          clear hw c0 c1 c2 c3 f0 f1 f2 f3
          refine hK.out _ _ (has2_facts2 (A1.out.below B_23) (C1.out.below B_23)) (fun _ => ?_)
          clear hK
          refine wpAnyH_ready (rs := [7]) (by kernel_rfl) (by simp) ?_
          refine AllReadyH.cons (o := _) rfl (fun K hK => ?_) AllReadyH.nil
          obtain ⟨c0, c1, c2, c3, f0, f1, f2, f3⟩ := row_facts R5_23
          go_simp
          obtain ⟨w_24, hw⟩ : ∃ w', ((((w_23.setCell ⟨w_1.heap.size, 0, none⟩ (.int .i64 l2.x)).setCell ⟨w_1.heap.size, 1, none⟩ (.int .i64 l2.y)).setCell ⟨w_1.heap.size, 2, none⟩ (.int .i64 h2.x)).setCell ⟨w_1.heap.size, 3, none⟩ (.int .i64 h2.y)) = w' := ⟨_, rfl⟩
          rw [hw]
          have B_24 := hw ▸ below4 B_23 (row_old B_23 R5_23 N5) (.int .i64 l2.x) (.int .i64 l2.y) (.int .i64 h2.x) (.int .i64 h2.y)
          have R5_24 := hw ▸ set4 R5_23 (.int .i64 l2.x) (.int .i64 l2.y) (.int .i64 h2.x) (.int .i64 h2.y)
          have R4_24 := hw ▸ set4_other R4_23 (show w_21.heap.size ≠ w_1.heap.size by have := NE; omega) (.int .i64 l2.x) (.int .i64 l2.y) (.int .i64 h2.x) (.int .i64 h2.y)
          clear hw c0 c1 c2 c3 f0 f1 f2 f3
          refine hK.out _ _ (has2_facts2 (A1.out.below B_24) (C1.out.below B_24)) (fun _ => ?_)
          clear hK
          refine wpAnyH_done (by kernel_rfl) ?_ _
          refine NoPanic.normal ?_
          go_wp2_with fail
          go_meet
          exact ⟨w_21.heap.size, w_1.heap.size, rfl, rfl, Lib.hid (has2_row R4_24), Lib.hid (has2_row R5_24), Lib.hid B_24⟩
        refine AllReadyH.cons (o := _) rfl (fun K hK => ?_) AllReadyH.nil
        go_simp
        obtain ⟨w_25, hw⟩ : ∃ w', w_20.alloc (.cells #[.int .i64 0, .int .i64 0, .int .i64 0, .int .i64 0] 56) = w' := ⟨_, rfl⟩
        rw [hw]
        have B_25 := hw ▸ B_20.alloc B_20.size (.cells #[.int .i64 0, .int .i64 0, .int .i64 0, .int .i64 0] 56)
        have R4_25 := hw ▸ IsRow.made w_20 56 #[.int .i64 0, .int .i64 0, .int .i64 0, .int .i64 0]
        have R5_25 := hw ▸ R5_20.later (.cells #[.int .i64 0, .int .i64 0, .int .i64 0, .int .i64 0] 56)
        clear hw
        have N4 : w1.heap.size ≤ w_20.heap.size := B_20.size
        have NE : w_1.heap.size ≠ w_20.heap.size := Nat.ne_of_lt R5_20.inside
        refine hK.out _ _ (has2_facts2 (A1.out.below B_25) (C1.out.below B_25)) (fun _ => ?_)
        clear hK
        refine wpAnyH_ready (rs := [3]) (by kernel_rfl) (by simp) ?_
        refine AllReadyH.cons (o := _) rfl (fun K hK => ?_) AllReadyH.nil
        go_simp
        go_at_call 43
        refine (sorted_of c d l2 h2 _ HL2.out HH2.out).mono ?_
        rintro e w_26 ⟨rfl, hb⟩
        have B_26 := B_25.trans (hb.mono B_25.size)
        have R4_26 := R4_25.below hb R4_25.inside
        have R5_26 := R5_25.below hb R5_25.inside
        clear hb
        refine hK.out _ _ (has2_facts2 (A1.out.below B_26) (C1.out.below B_26)) (fun _ => ?_)
        clear hK
        refine wpAnyH_ready (rs := [6]) (by kernel_rfl) (by simp) ?_
        refine AllReadyH.cons (o := _) rfl (fun K hK => ?_) AllReadyH.nil
        obtain ⟨c0, c1, c2, c3, f0, f1, f2, f3⟩ := row_facts R4_26
        go_simp
        obtain ⟨w_27, hw⟩ : ∃ w', ((((w_26.setCell ⟨w_20.heap.size, 0, none⟩ (.int .i64 l1.x)).setCell ⟨w_20.heap.size, 1, none⟩ (.int .i64 l1.y)).setCell ⟨w_20.heap.size, 2, none⟩ (.int .i64 h1.x)).setCell ⟨w_20.heap.size, 3, none⟩ (.int .i64 h1.y)) = w' := ⟨_, rfl⟩
        rw [hw]
        have B_27 := hw ▸ below4 B_26 (row_old B_26 R4_26 N4) (.int .i64 l1.x) (.int .i64 l1.y) (.int .i64 h1.x) (.int .i64 h1.y)
        have R4_27 := hw ▸ set4 R4_26 (.int .i64 l1.x) (.int .i64 l1.y) (.int .i64 h1.x) (.int .i64 h1.y)
        have R5_27 := hw ▸ set4_other R5_26 (show w_1.heap.size ≠ w_20.heap.size by have := NE; omega) (.int .i64 l1.x) (.int .i64 l1.y) (.int .i64 h1.x) (.int .i64 h1.y)
        clear hw c0 c1 c2 c3 f0 f1 f2 f3
        refine hK.out _ _ (has2_facts2 (A1.out.below B_27) (C1.out.below B_27)) (fun _ => ?_)
        clear hK
        refine wpAnyH_ready (rs := [7]) (by kernel_rfl) (by simp) ?_
        refine AllReadyH.cons (o := _) rfl (fun K hK => ?_) AllReadyH.nil
        obtain ⟨c0, c1, c2, c3, f0, f1, f2, f3⟩ := row_facts R5_27
        go_simp
        obtain ⟨w_28, hw⟩ : ∃ w', ((((w_27.setCell ⟨w_1.heap.size, 0, none⟩ (.int .i64 l2.x)).setCell ⟨w_1.heap.size, 1, none⟩ (.int .i64 l2.y)).setCell ⟨w_1.heap.size, 2, none⟩ (.int .i64 h2.x)).setCell ⟨w_1.heap.size, 3, none⟩ (.int .i64 h2.y)) = w' := ⟨_, rfl⟩
        rw [hw]
        have B_28 := hw ▸ below4 B_27 (row_old B_27 R5_27 N5) (.int .i64 l2.x) (.int .i64 l2.y) (.int .i64 h2.x) (.int .i64 h2.y)
        have R5_28 := hw ▸ set4 R5_27 (.int .i64 l2.x) (.int .i64 l2.y) (.int .i64 h2.x) (.int .i64 h2.y)
        have R4_28 := hw ▸ set4_other R4_27 (show w_20.heap.size ≠ w_1.heap.size by have := NE; omega) (.int .i64 l2.x) (.int .i64 l2.y) (.int .i64 h2.x) (.int .i64 h2.y)
        clear hw c0 c1 c2 c3 f0 f1 f2 f3
        refine hK.out _ _ (has2_facts2 (A1.out.below B_28) (C1.out.below B_28)) (fun _ => ?_)
        clear hK
        refine wpAnyH_done (by kernel_rfl) ?_ _
        refine NoPanic.normal ?_
        go_wp2_with fail
        go_meet
        exact ⟨w_20.heap.size, w_1.heap.size, rfl, rfl, Lib.hid (has2_row R4_28), Lib.hid (has2_row R5_28), Lib.hid B_28⟩
      refine AllReadyH.cons (o := _) rfl (fun K hK => ?_) ?_
      · go_simp
        obtain ⟨w_29, hw⟩ : ∃ w', w0.alloc (.cells #[.int .i64 0, .int .i64 0, .int .i64 0, .int .i64 0] 56) = w' := ⟨_, rfl⟩
        rw [hw]
        have B_29 := hw ▸ B_0.alloc B_0.size (.cells #[.int .i64 0, .int .i64 0, .int .i64 0, .int .i64 0] 56)
        have R4_29 := hw ▸ IsRow.made w0 56 #[.int .i64 0, .int .i64 0, .int .i64 0, .int .i64 0]
        clear hw
        have N4 : w1.heap.size ≤ w0.heap.size := B_0.size
        refine hK.out _ _ (has2_facts2 (A1.out.below B_29) (C1.out.below B_29)) (fun _ => ?_)
        clear hK
        refine wpAnyH_ready (rs := [1, 5]) (by kernel_rfl) (by simp) ?_
        refine AllReadyH.cons (o := _) rfl (fun K hK => ?_) ?_
        · go_simp
          go_at_call 43
          refine (sorted_of a b l1 h1 _ HL1.out HH1.out).mono ?_
          rintro e w_30 ⟨rfl, hb⟩
          have B_30 := B_29.trans (hb.mono B_29.size)
          have R4_30 := R4_29.below hb R4_29.inside
          clear hb
          refine hK.out _ _ (has2_facts2 (A1.out.below B_30) (C1.out.below B_30)) (fun _ => ?_)
          clear hK
          refine wpAnyH_ready (rs := [3, 5]) (by kernel_rfl) (by simp) ?_
          refine AllReadyH.cons (o := _) rfl (fun K hK => ?_) ?_
          · go_simp
            go_at_call 43
            refine (sorted_of c d l2 h2 _ HL2.out HH2.out).mono ?_
            rintro e w_31 ⟨rfl, hb⟩
            have B_31 := B_30.trans (hb.mono B_30.size)
            have R4_31 := R4_30.below hb R4_30.inside
            clear hb
            refine hK.out _ _ (has2_facts2 (A1.out.below B_31) (C1.out.below B_31)) (fun _ => ?_)
            clear hK
            refine wpAnyH_ready (rs := [5]) (by kernel_rfl) (by simp) ?_
            refine AllReadyH.cons (o := _) rfl (fun K hK => ?_) AllReadyH.nil
            go_simp
            obtain ⟨w_32, hw⟩ : ∃ w', w_31.alloc (.cells #[.int .i64 0, .int .i64 0, .int .i64 0, .int .i64 0] 56) = w' := ⟨_, rfl⟩
            rw [hw]
            have B_32 := hw ▸ B_31.alloc B_31.size (.cells #[.int .i64 0, .int .i64 0, .int .i64 0, .int .i64 0] 56)
            have R5_32 := hw ▸ IsRow.made w_31 56 #[.int .i64 0, .int .i64 0, .int .i64 0, .int .i64 0]
            have R4_32 := hw ▸ R4_31.later (.cells #[.int .i64 0, .int .i64 0, .int .i64 0, .int .i64 0] 56)
            clear hw
            have N5 : w1.heap.size ≤ w_31.heap.size := B_31.size
            have NE : w0.heap.size ≠ w_31.heap.size := Nat.ne_of_lt R4_31.inside
            refine hK.out _ _ (has2_facts2 (A1.out.below B_32) (C1.out.below B_32)) (fun _ => ?_)
            clear hK
            refine wpAnyH_ready (rs := [6]) (by kernel_rfl) (by simp) ?_
            refine AllReadyH.cons (o := _) rfl (fun K hK => ?_) AllReadyH.nil
            obtain ⟨c0, c1, c2, c3, f0, f1, f2, f3⟩ := row_facts R4_32
            go_simp
            obtain ⟨w_33, hw⟩ : ∃ w', ((((w_32.setCell ⟨w0.heap.size, 0, none⟩ (.int .i64 l1.x)).setCell ⟨w0.heap.size, 1, none⟩ (.int .i64 l1.y)).setCell ⟨w0.heap.size, 2, none⟩ (.int .i64 h1.x)).setCell ⟨w0.heap.size, 3, none⟩ (.int .i64 h1.y)) = w' := ⟨_, rfl⟩
            rw [hw]
            have B_33 := hw ▸ below4 B_32 (row_old B_32 R4_32 N4) (.int .i64 l1.x) (.int .i64 l1.y) (.int .i64 h1.x) (.int .i64 h1.y)
            have R4_33 := hw ▸ set4 R4_32 (.int .i64 l1.x) (.int .i64 l1.y) (.int .i64 h1.x) (.int .i64 h1.y)
            have R5_33 := hw ▸ set4_other R5_32 (show w_31.heap.size ≠ w0.heap.size by have := NE; omega) (.int .i64 l1.x) (.int .i64 l1.y) (.int .i64 h1.x) (.int .i64 h1.y)
            clear hw c0 c1 c2 c3 f0 f1 f2 f3
            refine hK.out _ _ (has2_facts2 (A1.out.below B_33) (C1.out.below B_33)) (fun _ => ?_)
            clear hK
            refine wpAnyH_ready (rs := [7]) (by kernel_rfl) (by simp) ?_
            refine AllReadyH.cons (o := _) rfl (fun K hK => ?_) AllReadyH.nil
            obtain ⟨c0, c1, c2, c3, f0, f1, f2, f3⟩ := row_facts R5_33
            go_simp
            obtain ⟨w_34, hw⟩ : ∃ w', ((((w_33.setCell ⟨w_31.heap.size, 0, none⟩ (.int .i64 l2.x)).setCell ⟨w_31.heap.size, 1, none⟩ (.int .i64 l2.y)).setCell ⟨w_31.heap.size, 2, none⟩ (.int .i64 h2.x)).setCell ⟨w_31.heap.size, 3, none⟩ (.int .i64 h2.y)) = w' := ⟨_, rfl⟩
            rw [hw]
            have B_34 := hw ▸ below4 B_33 (row_old B_33 R5_33 N5) (.int .i64 l2.x) (.int .i64 l2.y) (.int .i64 h2.x) (.int .i64 h2.y)
            have R5_34 := hw ▸ set4 R5_33 (.int .i64 l2.x) (.int .i64 l2.y) (.int .i64 h2.x) (.int .i64 h2.y)
            have R4_34 := hw ▸ set4_other R4_33 (show w0.heap.size ≠ w_31.heap.size by have := NE; omega) (.int .i64 l2.x) (.int .i64 l2.y) (.int .i64 h2.x) (.int .i64 h2.y)
            clear hw c0 c1 c2 c3 f0 f1 f2 f3
            refine hK.out _ _ (has2_facts2 (A1.out.below B_34) (C1.out.below B_34)) (fun _ => ?_)
            clear hK
            refine wpAnyH_done (by kernel_rfl) ?_ _
            refine NoPanic.normal ?_
            go_wp2_with fail
            go_meet
            exact ⟨w0.heap.size, w_31.heap.size, rfl, rfl, Lib.hid (has2_row R4_34), Lib.hid (has2_row R5_34), Lib.hid B_34⟩
          refine AllReadyH.cons (o := _) rfl (fun K hK => ?_) AllReadyH.nil
          go_simp
          obtain ⟨w_35, hw⟩ : ∃ w', w_30.alloc (.cells #[.int .i64 0, .int .i64 0, .int .i64 0, .int .i64 0] 56) = w' := ⟨_, rfl⟩
          rw [hw]
          have B_35 := hw ▸ B_30.alloc B_30.size (.cells #[.int .i64 0, .int .i64 0, .int .i64 0, .int .i64 0] 56)
          have R5_35 := hw ▸ IsRow.made w_30 56 #[.int .i64 0, .int .i64 0, .int .i64 0, .int .i64 0]
          have R4_35 := hw ▸ R4_30.later (.cells #[.int .i64 0, .int .i64 0, .int .i64 0, .int .i64 0] 56)
          clear hw
          have N5 : w1.heap.size ≤ w_30.heap.size := B_30.size
          have NE : w0.heap.size ≠ w_30.heap.size := Nat.ne_of_lt R4_30.inside
          refine hK.out _ _ (has2_facts2 (A1.out.below B_35) (C1.out.below B_35)) (fun _ => ?_)
          clear hK
          refine wpAnyH_ready (rs := [3]) (by kernel_rfl) (by simp) ?_
          refine AllReadyH.cons (o := _) rfl (fun K hK => ?_) AllReadyH.nil
          go_simp
          go_at_call 43
          refine (sorted_of c d l2 h2 _ HL2.out HH2.out).mono ?_
          rintro e w_36 ⟨rfl, hb⟩
          have B_36 := B_35.trans (hb.mono B_35.size)
          have R5_36 := R5_35.below hb R5_35.inside
          have R4_36 := R4_35.below hb R4_35.inside
          clear hb
          refine hK.out _ _ (has2_facts2 (A1.out.below B_36) (C1.out.below B_36)) (fun _ => ?_)
          clear hK
          refine wpAnyH_ready (rs := [6]) (by kernel_rfl) (by simp) ?_
          refine AllReadyH.cons (o := _) rfl (fun K hK => ?_) AllReadyH.nil
          obtain ⟨c0, c1, c2, c3, f0, f1, f2, f3⟩ := row_facts R4_36
          go_simp
          obtain ⟨w_37, hw⟩ : ∃ w', ((((w_36.setCell ⟨w0.heap.size, 0, none⟩ (.int .i64 l1.x)).setCell ⟨w0.heap.size, 1, none⟩ (.int .i64 l1.y)).setCell ⟨w0.heap.size, 2, none⟩ (.int .i64 h1.x)).setCell ⟨w0.heap.size, 3, none⟩ (.int .i64 h1.y)) = w' := ⟨_, rfl⟩
          rw [hw]
          have B_37 := hw ▸ below4 B_36 (row_old B_36 R4_36 N4) (.int .i64 l1.x) (.int .i64 l1.y) (.int .i64 h1.x) (.int .i64 h1.y)
          have R4_37 := hw ▸ set4 R4_36 (.int .i64 l1.x) (.int .i64 l1.y) (.int .i64 h1.x) (.int .i64 h1.y)
          have R5_37 := hw ▸ set4_other R5_36 (show w_30.heap.size ≠ w0.heap.size by have := NE; omega) (.int .i64 l1.x) (.int .i64 l1.y) (.int .i64 h1.x) (.int .i64 h1.y)
          clear hw c0 c1 c2 c3 f0 f1 f2 f3
          refine hK.out _ _ (has2_facts2 (A1.out.below B_37) (C1.out.below B_37)) (fun _ => ?_)
          clear hK
          refine wpAnyH_ready (rs := [7]) (by kernel_rfl) (by simp) ?_
          refine AllReadyH.cons (o := _) rfl (fun K hK => ?_) AllReadyH.nil
          obtain ⟨c0, c1, c2, c3, f0, f1, f2, f3⟩ := row_facts R5_37
          go_simp
          obtain ⟨w_38, hw⟩ : ∃ w', ((((w_37.setCell ⟨w_30.heap.size, 0, none⟩ (.int .i64 l2.x)).setCell ⟨w_30.heap.size, 1, none⟩ (.int .i64 l2.y)).setCell ⟨w_30.heap.size, 2, none⟩ (.int .i64 h2.x)).setCell ⟨w_30.heap.size, 3, none⟩ (.int .i64 h2.y)) = w' := ⟨_, rfl⟩
          rw [hw]
          have B_38 := hw ▸ below4 B_37 (row_old B_37 R5_37 N5) (.int .i64 l2.x) (.int .i64 l2.y) (.int .i64 h2.x) (.int .i64 h2.y)
          have R5_38 := hw ▸ set4 R5_37 (.int .i64 l2.x) (.int .i64 l2.y) (.int .i64 h2.x) (.int .i64 h2.y)
          have R4_38 := hw ▸ set4_other R4_37 (show w0.heap.size ≠ w_30.heap.size by have := NE; omega) (.int .i64 l2.x) (.int .i64 l2.y) (.int .i64 h2.x) (.int .i64 h2.y)
          clear hw c0 c1 c2 c3 f0 f1 f2 f3
          refine hK.out _ _ (has2_facts2 (A1.out.below B_38) (C1.out.below B_38)) (fun _ => ?_)
          clear hK
          refine wpAnyH_done (by kernel_rfl) ?_ _
          refine NoPanic.normal ?_
          go_wp2_with fail
          go_meet
          exact ⟨w0.heap.size, w_30.heap.size, rfl, rfl, Lib.hid (has2_row R4_38), Lib.hid (has2_row R5_38), Lib.hid B_38⟩
        refine AllReadyH.cons (o := _) rfl (fun K hK => ?_) AllReadyH.nil
        go_simp
        obtain ⟨w_39, hw⟩ : ∃ w', w_29.alloc (.cells #[.int .i64 0, .int .i64 0, .int .i64 0, .int .i64 0] 56) = w' := ⟨_, rfl⟩
        rw [hw]
        have B_39 := hw ▸ B_29.alloc B_29.size (.cells #[.int .i64 0, .int .i64 0, .int .i64 0, .int .i64 0] 56)
        have R5_39 := hw ▸ IsRow.made w_29 56 #[.int .i64 0, .int .i64 0, .int .i64 0, .int .i64 0]
        have R4_39 := hw ▸ R4_29.later (.cells #[.int .i64 0, .int .i64 0, .int .i64 0, .int .i64 0] 56)
        clear hw
        have N5 : w1.heap.size ≤ w_29.heap.size := B_29.size
        have NE : w0.heap.size ≠ w_29.heap.size := Nat.ne_of_lt R4_29.inside
        refine hK.out _ _ (has2_facts2 (A1.out.below B_39) (C1.out.below B_39)) (fun _ => ?_)
        clear hK
        refine wpAnyH_ready (rs := [1]) (by kernel_rfl) (by simp) ?_
        refine AllReadyH.cons (o := _) rfl (fun K hK => ?_) AllReadyH.nil
        go_simp
        go_at_call 43
        refine (sorted_of a b l1 h1 _ HL1.out HH1.out).mono ?_
        rintro e w_40 ⟨rfl, hb⟩
        have B_40 := B_39.trans (hb.mono B_39.size)
        have R5_40 := R5_39.below hb R5_39.inside
        have R4_40 := R4_39.below hb R4_39.inside
        clear hb
        refine hK.out _ _ (has2_facts2 (A1.out.below B_40) (C1.out.below B_40)) (fun _ => ?_)
        clear hK
        refine wpAnyH_ready (rs := [3]) (by kernel_rfl) (by simp) ?_
        refine AllReadyH.cons (o := _) rfl (fun K hK => ?_) AllReadyH.nil
        go_simp
        go_at_call 43
        refine (sorted_of c d l2 h2 _ HL2.out HH2.out).mono ?_
        rintro e w_41 ⟨rfl, hb⟩
        have B_41 := B_40.trans (hb.mono B_40.size)
        have R5_41 := R5_40.below hb R5_40.inside
        have R4_41 := R4_40.below hb R4_40.inside
        clear hb
        refine hK.out _ _ (has2_facts2 (A1.out.below B_41) (C1.out.below B_41)) (fun _ => ?_)
        clear hK
        refine wpAnyH_ready (rs := [6]) (by kernel_rfl) (by simp) ?_
        refine AllReadyH.cons (o := _) rfl (fun K hK => ?_) AllReadyH.nil
        obtain ⟨c0, c1, c2, c3, f0, f1, f2, f3⟩ := row_facts R4_41
        go_simp
        obtain ⟨w_42, hw⟩ : ∃ w', ((((w_41.setCell ⟨w0.heap.size, 0, none⟩ (.int .i64 l1.x)).setCell ⟨w0.heap.size, 1, none⟩ (.int .i64 l1.y)).setCell ⟨w0.heap.size, 2, none⟩ (.int .i64 h1.x)).setCell ⟨w0.heap.size, 3, none⟩ (.int .i64 h1.y)) = w' := ⟨_, rfl⟩
        rw [hw]
        have B_42 := hw ▸ below4 B_41 (row_old B_41 R4_41 N4) (.int .i64 l1.x) (.int .i64 l1.y) (.int .i64 h1.x) (.int .i64 h1.y)
        have R4_42 := hw ▸ set4 R4_41 (.int .i64 l1.x) (.int .i64 l1.y) (.int .i64 h1.x) (.int .i64 h1.y)
        have R5_42 := hw ▸ set4_other R5_41 (show w_29.heap.size ≠ w0.heap.size by have := NE; omega) (.int .i64 l1.x) (.int .i64 l1.y) (.int .i64 h1.x) (.int .i64 h1.y)
        clear hw c0 c1 c2 c3 f0 f1 f2 f3
        refine hK.out _ _ (has2_facts2 (A1.out.below B_42) (C1.out.below B_42)) (fun _ => ?_)
        clear hK
        refine wpAnyH_ready (rs := [7]) (by kernel_rfl) (by simp) ?_
        refine AllReadyH.cons (o := _) rfl (fun K hK => ?_) AllReadyH.nil
        obtain ⟨c0, c1, c2, c3, f0, f1, f2, f3⟩ := row_facts R5_42
        go_simp
        obtain ⟨w_43, hw⟩ : ∃ w', ((((w_42.setCell ⟨w_29.heap.size, 0, none⟩ (.int .i64 l2.x)).setCell ⟨w_29.heap.size, 1, none⟩ (.int .i64 l2.y)).setCell ⟨w_29.heap.size, 2, none⟩ (.int .i64 h2.x)).setCell ⟨w_29.heap.size, 3, none⟩ (.int .i64 h2.y)) = w' := ⟨_, rfl⟩
        rw [hw]
        have B_43 := hw ▸ below4 B_42 (row_old B_42 R5_42 N5) (.int .i64 l2.x) (.int .i64 l2.y) (.int .i64 h2.x) (.int .i64 h2.y)
        have R5_43 := hw ▸ set4 R5_42 (.int .i64 l2.x) (.int .i64 l2.y) (.int .i64 h2.x) (.int .i64 h2.y)
        have R4_43 := hw ▸ set4_other R4_42 (show w0.heap.size ≠ w_29.heap.size by have := NE; omega) (.int .i64 l2.x) (.int .i64 l2.y) (.int .i64 h2.x) (.int .i64 h2.y)
        clear hw c0 c1 c2 c3 f0 f1 f2 f3
        refine hK.out _ _ (has2_facts2 (A1.out.below B_43) (C1.out.below B_43)) (fun _ => ?_)
        clear hK
        refine wpAnyH_done (by kernel_rfl) ?_ _
        refine NoPanic.normal ?_
        go_wp2_with fail
        go_meet
        exact ⟨w0.heap.size, w_29.heap.size, rfl, rfl, Lib.hid (has2_row R4_43), Lib.hid (has2_row R5_43), Lib.hid B_43⟩
      refine AllReadyH.cons (o := _) rfl (fun K hK => ?_) AllReadyH.nil
      go_simp
      obtain ⟨w_44, hw⟩ : ∃ w', w0.alloc (.cells #[.int .i64 0, .int .i64 0, .int .i64 0, .int .i64 0] 56) = w' := ⟨_, rfl⟩
      rw [hw]
      have B_44 := hw ▸ B_0.alloc B_0.size (.cells #[.int .i64 0, .int .i64 0, .int .i64 0, .int .i64 0] 56)
      have R5_44 := hw ▸ IsRow.made w0 56 #[.int .i64 0, .int .i64 0, .int .i64 0, .int .i64 0]
      clear hw
      have N5 : w1.heap.size ≤ w0.heap.size := B_0.size
      refine hK.out _ _ (has2_facts2 (A1.out.below B_44) (C1.out.below B_44)) (fun _ => ?_)
      clear hK
      refine wpAnyH_ready (rs := [1, 4]) (by kernel_rfl) (by simp) ?_
      refine AllReadyH.cons (o := _) rfl (fun K hK => ?_) ?_
      · go_simp
        go_at_call 43
        refine (sorted_of a b l1 h1 _ HL1.out HH1.out).mono ?_
        rintro e w_45 ⟨rfl, hb⟩
        have B_45 := B_44.trans (hb.mono B_44.size)
        have R5_45 := R5_44.below hb R5_44.inside
        clear hb
        refine hK.out _ _ (has2_facts2 (A1.out.below B_45) (C1.out.below B_45)) (fun _ => ?_)
        clear hK
        refine wpAnyH_ready (rs := [3, 4]) (by kernel_rfl) (by simp) ?_
        refine AllReadyH.cons (o := _) rfl (fun K hK => ?_) ?_
        · go_simp
          go_at_call 43
          refine (sorted_of c d l2 h2 _ HL2.out HH2.out).mono ?_
          rintro e w_46 ⟨rfl, hb⟩
          have B_46 := B_45.trans (hb.mono B_45.size)
          have R5_46 := R5_45.below hb R5_45.inside
          clear hb
          refine hK.out _ _ (has2_facts2 (A1.out.below B_46) (C1.out.below B_46)) (fun _ => ?_)
          clear hK
          refine wpAnyH_ready (rs := [4]) (by kernel_rfl) (by simp) ?_
          refine AllReadyH.cons (o := _) rfl (fun K hK => ?_) AllReadyH.nil
          go_simp
          obtain ⟨w_47, hw⟩ : ∃ w', w_46.alloc (.cells #[.int .i64 0, .int .i64 0, .int .i64 0, .int .i64 0] 56) = w' := ⟨_, rfl⟩
          rw [hw]
          have B_47 := hw ▸ B_46.alloc B_46.size (.cells #[.int .i64 0, .int .i64 0, .int .i64 0, .int .i64 0] 56)
          have R4_47 := hw ▸ IsRow.made w_46 56 #[.int .i64 0, .int .i64 0, .int .i64 0, .int .i64 0]
          have R5_47 := hw ▸ R5_46.later (.cells #[.int .i64 0, .int .i64 0, .int .i64 0, .int .i64 0] 56)
          clear hw
          have N4 : w1.heap.size ≤ w_46.heap.size := B_46.size
          have NE : w0.heap.size ≠ w_46.heap.size := Nat.ne_of_lt R5_46.inside
          refine hK.out _ _ (has2_facts2 (A1.out.below B_47) (C1.out.below B_47)) (fun _ => ?_)
          clear hK
          refine wpAnyH_ready (rs := [6]) (by kernel_rfl) (by simp) ?_
          refine AllReadyH.cons (o := _) rfl (fun K hK => ?_) AllReadyH.nil
          obtain ⟨c0, c1, c2, c3, f0, f1, f2, f3⟩ := row_facts R4_47
          go_simp
          obtain ⟨w_48, hw⟩ : ∃ w', ((((w_47.setCell ⟨w_46.heap.size, 0, none⟩ (.int .i64 l1.x)).setCell ⟨w_46.heap.size, 1, none⟩ (.int .i64 l1.y)).setCell ⟨w_46.heap.size, 2, none⟩ (.int .i64 h1.x)).setCell ⟨w_46.heap.size, 3, none⟩ (.int .i64 h1.y)) = w' := ⟨_, rfl⟩
          rw [hw]
          have B_48 := hw ▸ below4 B_47 (row_old B_47 R4_47 N4) (.int .i64 l1.x) (.int .i64 l1.y) (.int .i64 h1.x) (.int .i64 h1.y)
          have R4_48 := hw ▸ set4 R4_47 (.int .i64 l1.x) (.int .i64 l1.y) (.int .i64 h1.x) (.int .i64 h1.y)
          have R5_48 := hw ▸ set4_other R5_47 (show w0.heap.size ≠ w_46.heap.size by have := NE; omega) (.int .i64 l1.x) (.int .i64 l1.y) (.int .i64 h1.x) (.int .i64 h1.y)
          clear hw c0 c1 c2 c3 f0 f1 f2 f3
          refine hK.out _ _ (has2_facts2 (A1.out.below B_48) (C1.out.below B_48)) (fun _ => ?_)
          clear hK
          refine wpAnyH_ready (rs := [7]) (by kernel_rfl) (by simp) ?_
          refine AllReadyH.cons (o := _) rfl (fun K hK => ?_) AllReadyH.nil
          obtain ⟨c0, c1, c2, c3, f0, f1, f2, f3⟩ := row_facts R5_48
          go_simp
          obtain ⟨w_49, hw⟩ : ∃ w', ((((w_48.setCell ⟨w0.heap.size, 0, none⟩ (.int .i64 l2.x)).setCell ⟨w0.heap.size, 1, none⟩ (.int .i64 l2.y)).setCell ⟨w0.heap.size, 2, none⟩ (.int .i64 h2.x)).setCell ⟨w0.heap.size, 3, none⟩ (.int .i64 h2.y)) = w' := ⟨_, rfl⟩
          rw [hw]
          have B_49 := hw ▸ below4 B_48 (row_old B_48 R5_48 N5) (.int .i64 l2.x) (.int .i64 l2.y) (.int .i64 h2.x) (.int .i64 h2.y)
          have R5_49 := hw ▸ set4 R5_48 (.int .i64 l2.x) (.int .i64 l2.y) (.int .i64 h2.x) (.int .i64 h2.y)
          have R4_49 := hw ▸ set4_other R4_48 (show w_46.heap.size ≠ w0.heap.size by have := NE; omega) (.int .i64 l2.x) (.int .i64 l2.y) (.int .i64 h2.x) (.int .i64 h2.y)
          clear hw c0 c1 c2 c3 f0 f1 f2 f3
          refine hK.out _ _ (has2_facts2 (A1.out.below B_49) (C1.out.below B_49)) (fun _ => ?_)
          clear hK
          refine wpAnyH_done (by kernel_rfl) ?_ _
          refine NoPanic.normal ?_
          go_wp2_with fail
          go_meet
          exact ⟨w_46.heap.size, w0.heap.size, rfl, rfl, Lib.hid (has2_row R4_49), Lib.hid (has2_row R5_49), Lib.hid B_49⟩
        refine AllReadyH.cons (o := _) rfl (fun K hK => ?_) AllReadyH.nil
        go_simp
        obtain ⟨w_50, hw⟩ : ∃ w', w_45.alloc (.cells #[.int .i64 0, .int .i64 0, .int .i64 0, .int .i64 0] 56) = w' := ⟨_, rfl⟩
        rw [hw]
        have B_50 := hw ▸ B_45.alloc B_45.size (.cells #[.int .i64 0, .int .i64 0, .int .i64 0, .int .i64 0] 56)
        have R4_50 := hw ▸ IsRow.made w_45 56 #[.int .i64 0, .int .i64 0, .int .i64 0, .int .i64 0]
        have R5_50 := hw ▸ R5_45.later (.cells #[.int .i64 0, .int .i64 0, .int .i64 0, .int .i64 0] 56)
        clear hw
        have N4 : w1.heap.size ≤ w_45.heap.size := B_45.size
        have NE : w0.heap.size ≠ w_45.heap.size := Nat.ne_of_lt R5_45.inside
        refine hK.out _ _ (has2_facts2 (A1.out.below B_50) (C1.out.below B_50)) (fun _ => ?_)
        clear hK
        refine wpAnyH_ready (rs := [3]) (by kernel_rfl) (by simp) ?_
        refine AllReadyH.cons (o := _) rfl (fun K hK => ?_) AllReadyH.nil
        go_simp
        go_at_call 43
        refine (sorted_of c d l2 h2 _ HL2.out HH2.out).mono ?_
        rintro e w_51 ⟨rfl, hb⟩
        have B_51 := B_50.trans (hb.mono B_50.size)
        have R4_51 := R4_50.below hb R4_50.inside
        have R5_51 := R5_50.below hb R5_50.inside
        clear hb
        refine hK.out _ _ (has2_facts2 (A1.out.below B_51) (C1.out.below B_51)) (fun _ => ?_)
        clear hK
        refine wpAnyH_ready (rs := [6]) (by kernel_rfl) (by simp) ?_
        refine AllReadyH.cons (o := _) rfl (fun K hK => ?_) AllReadyH.nil
        obtain ⟨c0, c1, c2, c3, f0, f1, f2, f3⟩ := row_facts R4_51
        go_simp
        obtain ⟨w_52, hw⟩ : ∃ w', ((((w_51.setCell ⟨w_45.heap.size, 0, none⟩ (.int .i64 l1.x)).setCell ⟨w_45.heap.size, 1, none⟩ (.int .i64 l1.y)).setCell ⟨w_45.heap.size, 2, none⟩ (.int .i64 h1.x)).setCell ⟨w_45.heap.size, 3, none⟩ (.int .i64 h1.y)) = w' := ⟨_, rfl⟩
        rw [hw]
        have B_52 := hw ▸ below4 B_51 (row_old B_51 R4_51 N4) (.int .i64 l1.x) (.int .i64 l1.y) (.int .i64 h1.x) (.int .i64 h1.y)
        have R4_52 := hw ▸ set4 R4_51 (.int .i64 l1.x) (.int .i64 l1.y) (.int .i64 h1.x) (.int .i64 h1.y)
        have R5_52 := hw ▸ set4_other R5_51 (show w0.heap.size ≠ w_45.heap.size by have := NE; omega) (.int .i64 l1.x) (.int .i64 l1.y) (.int .i64 h1.x) (.int .i64 h1.y)
        clear hw c0 c1 c2 c3 f0 f1 f2 f3
        refine hK.out _ _ (has2_facts2 (A1.out.below B_52) (C1.out.below B_52)) (fun _ => ?_)
        clear hK
        refine wpAnyH_ready (rs := [7]) (by kernel_rfl) (by simp) ?_
        refine AllReadyH.cons (o := _) rfl (fun K hK => ?_) AllReadyH.nil
        obtain ⟨c0, c1, c2, c3, f0, f1, f2, f3⟩ := row_facts R5_52
        go_simp
        obtain ⟨w_53, hw⟩ : ∃ w', ((((w_52.setCell ⟨w0.heap.size, 0, none⟩ (.int .i64 l2.x)).setCell ⟨w0.heap.size, 1, none⟩ (.int .i64 l2.y)).setCell ⟨w0.heap.size, 2, none⟩ (.int .i64 h2.x)).setCell ⟨w0.heap.size, 3, none⟩ (.int .i64 h2.y)) = w' := ⟨_, rfl⟩
        rw [hw]
        have B_53 := hw ▸ below4 B_52 (row_old B_52 R5_52 N5) (.int .i64 l2.x) (.int .i64 l2.y) (.int .i64 h2.x) (.int .i64 h2.y)
        have R5_53 := hw ▸ set4 R5_52 (.int .i64 l2.x) (.int .i64 l2.y) (.int .i64 h2.x) (.int .i64 h2.y)
        have R4_53 := hw ▸ set4_other R4_52 (show w_45.heap.size ≠ w0.heap.size by have := NE; omega) (.int .i64 l2.x) (.int .i64 l2.y) (.int .i64 h2.x) (.int .i64 h2.y)
        clear hw c0 c1 c2 c3 f0 f1 f2 f3
        refine hK.out _ _ (has2_facts2 (A1.out.below B_53) (C1.out.below B_53)) (fun _ => ?_)
        clear hK
        refine wpAnyH_done (by kernel_rfl) ?_ _
        refine NoPanic.normal ?_
        go_wp2_with fail
        go_meet
        exact ⟨w_45.heap.size, w0.heap.size, rfl, rfl, Lib.hid (has2_row R4_53), Lib.hid (has2_row R5_53), Lib.hid B_53⟩
      refine AllReadyH.cons (o := _) rfl (fun K hK => ?_) AllReadyH.nil
      go_simp
      obtain ⟨w_54, hw⟩ : ∃ w', w_44.alloc (.cells #[.int .i64 0, .int .i64 0, .int .i64 0, .int .i64 0] 56) = w' := ⟨_, rfl⟩
      rw [hw]
      have B_54 := hw ▸ B_44.alloc B_44.size (.cells #[.int .i64 0, .int .i64 0, .int .i64 0, .int .i64 0] 56)
      have R4_54 := hw ▸ IsRow.made w_44 56 #[.int .i64 0, .int .i64 0, .int .i64 0, .int .i64 0]
      have R5_54 := hw ▸ R5_44.later (.cells #[.int .i64 0, .int .i64 0, .int .i64 0, .int .i64 0] 56)
      clear hw
      have N4 : w1.heap.size ≤ w_44.heap.size := B_44.size
      have NE : w0.heap.size ≠ w_44.heap.size := Nat.ne_of_lt R5_44.inside
      refine hK.out _ _ (has2_facts2 (A1.out.below B_54) (C1.out.below B_54)) (fun _ => ?_)
      clear hK
      refine wpAnyH_ready (rs := [1]) (by kernel_rfl) (by simp) ?_
      refine AllReadyH.cons (o := _) rfl (fun K hK => ?_) AllReadyH.nil
      go_simp
      go_at_call 43
      refine (sorted_of a b l1 h1 _ HL1.out HH1.out).mono ?_
      rintro e w_55 ⟨rfl, hb⟩
      have B_55 := B_54.trans (hb.mono B_54.size)
      have R4_55 := R4_54.below hb R4_54.inside
      have R5_55 := R5_54.below hb R5_54.inside
      clear hb
      refine hK.out _ _ (has2_facts2 (A1.out.below B_55) (C1.out.below B_55)) (fun _ => ?_)
      clear hK
      refine wpAnyH_ready (rs := [3]) (by kernel_rfl) (by simp) ?_
      refine AllReadyH.cons (o := _) rfl (fun K hK => ?_) AllReadyH.nil
      go_simp
      go_at_call 43
      refine (sorted_of c d l2 h2 _ HL2.out HH2.out).mono ?_
      rintro e w_56 ⟨rfl, hb⟩
      have B_56 := B_55.trans (hb.mono B_55.size)
      have R4_56 := R4_55.below hb R4_55.inside
      have R5_56 := R5_55.below hb R5_55.inside
      clear hb
      refine hK.out _ _ (has2_facts2 (A1.out.below B_56) (C1.out.below B_56)) (fun _ => ?_)
      clear hK
      refine wpAnyH_ready (rs := [6]) (by kernel_rfl) (by simp) ?_
      refine AllReadyH.cons (o := _) rfl (fun K hK => ?_) AllReadyH.nil
      obtain ⟨c0, c1, c2, c3, f0, f1, f2, f3⟩ := row_facts R4_56
      go_simp
      obtain ⟨w_57, hw⟩ : ∃ w', ((((w_56.setCell ⟨w_44.heap.size, 0, none⟩ (.int .i64 l1.x)).setCell ⟨w_44.heap.size, 1, none⟩ (.int .i64 l1.y)).setCell ⟨w_44.heap.size, 2, none⟩ (.int .i64 h1.x)).setCell ⟨w_44.heap.size, 3, none⟩ (.int .i64 h1.y)) = w' := ⟨_, rfl⟩
      rw [hw]
      have B_57 := hw ▸ below4 B_56 (row_old B_56 R4_56 N4) (.int .i64 l1.x) (.int .i64 l1.y) (.int .i64 h1.x) (.int .i64 h1.y)
      have R4_57 := hw ▸ set4 R4_56 (.int .i64 l1.x) (.int .i64 l1.y) (.int .i64 h1.x) (.int .i64 h1.y)
      have R5_57 := hw ▸ set4_other R5_56 (show w0.heap.size ≠ w_44.heap.size by have := NE; omega) (.int .i64 l1.x) (.int .i64 l1.y) (.int .i64 h1.x) (.int .i64 h1.y)
      clear hw c0 c1 c2 c3 f0 f1 f2 f3
      refine hK.out _ _ (has2_facts2 (A1.out.below B_57) (C1.out.below B_57)) (fun _ => ?_)
      clear hK
      refine wpAnyH_ready (rs := [7]) (by kernel_rfl) (by simp) ?_
      refine AllReadyH.cons (o := _) rfl (fun K hK => ?_) AllReadyH.nil
      obtain ⟨c0, c1, c2, c3, f0, f1, f2, f3⟩ := row_facts R5_57
      go_simp
      obtain ⟨w_58, hw⟩ : ∃ w', ((((w_57.setCell ⟨w0.heap.size, 0, none⟩ (.int .i64 l2.x)).setCell ⟨w0.heap.size, 1, none⟩ (.int .i64 l2.y)).setCell ⟨w0.heap.size, 2, none⟩ (.int .i64 h2.x)).setCell ⟨w0.heap.size, 3, none⟩ (.int .i64 h2.y)) = w' := ⟨_, rfl⟩
      rw [hw]
      have B_58 := hw ▸ below4 B_57 (row_old B_57 R5_57 N5) (.int .i64 l2.x) (.int .i64 l2.y) (.int .i64 h2.x) (.int .i64 h2.y)
      have R5_58 := hw ▸ set4 R5_57 (.int .i64 l2.x) (.int .i64 l2.y) (.int .i64 h2.x) (.int .i64 h2.y)
      have R4_58 := hw ▸ set4_other R4_57 (show w_44.heap.size ≠ w0.heap.size by have := NE; omega) (.int .i64 l2.x) (.int .i64 l2.y) (.int .i64 h2.x) (.int .i64 h2.y)
      clear hw c0 c1 c2 c3 f0 f1 f2 f3
      refine hK.out _ _ (has2_facts2 (A1.out.below B_58) (C1.out.below B_58)) (fun _ => ?_)
      clear hK
      refine wpAnyH_done (by kernel_rfl) ?_ _
      refine NoPanic.normal ?_
      go_wp2_with fail
      go_meet
      exact ⟨w_44.heap.size, w0.heap.size, rfl, rfl, Lib.hid (has2_row R4_58), Lib.hid (has2_row R5_58), Lib.hid B_58⟩
    case rest =>
      obtain ⟨g4, g5, rfl, rfl, hL, hH, hB⟩ := hcut
      have HB2 := Lib.hid (HB1.out.trans (hB.out.mono HB1.out.size))
      have nl1 : nearB l1 = true := by rw [← HL1.out]; exact near_low na nb
      have nh1 : nearB h1 = true := by rw [← HH1.out]; exact near_high na nb
      have nl2 : nearB l2 = true := by rw [← HL2.out]; exact near_low nc nd
      have nh2 : nearB h2 = true := by rw [← HH2.out]; exact near_high nc nd
      have HR2 := Lib.hid (show sortedN l1 h1 l2 h2 = R by rw [← HR1.out, ← HL1.out, ← HH1.out, ← HL2.out, ← HH2.out]; rfl)
      clear na nb nc nd HR HR1 HL1 HL2 HH1 HH2 A1 C1 HW HS HA HC HB HB1 a0 a1 b0 b1 c0 c1 d0 d1
      obtain ⟨a0, a1, b0, b1⟩ := has2_facts hL.out
      obtain ⟨c0, c1, d0, d1⟩ := has2_facts hH.out
      go_upto_region 4 with fail
      go_cut [22] from 23 to 25 (fun s22 wx => s22 = .bool (eqP l1 l2 && eqP h1 h2) ∧ wx = wc)
      case first =>
        rcases cases3 l1 l2 with rfl | ⟨e1, k1⟩ | ⟨e1, k1, k2⟩
        · rcases cases3 h1 h2 with rfl | ⟨e2, k3⟩ | ⟨e2, k3, k4⟩
          · go_wp2_with fail
            go_meet
            exact ⟨by rw [eqP_self, eqP_self]; rfl, rfl⟩
          · go_wp2_with fail
            go_meet
            exact ⟨by rw [e2, Bool.and_false], rfl⟩
          · go_wp2_with fail
            go_meet
            exact ⟨by rw [e2, Bool.and_false], rfl⟩
        · go_wp2_with fail
          go_meet
          exact ⟨by rw [e1, Bool.false_and], rfl⟩
        · go_wp2_with fail
          go_meet
          exact ⟨by rw [e1, Bool.false_and], rfl⟩
      case rest =>
        obtain ⟨rfl, rfl⟩ := hcut
        cases x1 : (eqP l1 l2 && eqP h1 h2) with
        | true =>
          have HE := Lib.hid (show (4 : Int) = R by rw [← HR2.out]; unfold sortedN; rw [if_pos x1])
          go_wp2
          go_ret
          exact ⟨ret_int HE.out, HB2.out⟩
        | false =>
          have HR3 := Lib.hid (show (if inLineB l1 h1 l2 h2 then lineN l1 h1 l2 h2 else crossN l1 h1 l2 h2) = R by have h := HR2.out; unfold sortedN at h; rw [if_neg (by rw [x1]; decide)] at h; exact h)
          clear x1 HR2
          go_wp2_with fail
          refine (inLine_any l1 h1 l2 h2 nl1 nh1 nl2 nh2 _).mono ?_
          rintro e w5 ⟨rfl, hb5⟩
          have HB5 := Lib.hid (HB2.out.trans (hb5.mono HB2.out.size))
          have L5 := hL.out.below hb5
          have H5 := hH.out.below hb5
          clear hb5 a0 a1 b0 b1 c0 c1 d0 d1
          obtain ⟨a0, a1, b0, b1⟩ := has2_facts L5
          obtain ⟨c0, c1, d0, d1⟩ := has2_facts H5
          clear L5 H5
          cases x2 : inLineB l1 h1 l2 h2 with
          | true =>
            have HE := Lib.hid (show lineN l1 h1 l2 h2 = R by have h := HR3.out; rw [if_pos x2] at h; exact h)
            go_wp2_with fail
            refine (meetInLine_any l1 h1 l2 h2 _).mono ?_
            rintro e w6 ⟨rfl, hb6⟩
            have HB6 := Lib.hid (HB5.out.trans (hb6.mono HB5.out.size))
            clear hb6 a0 a1 b0 b1 c0 c1 d0 d1
            go_wp2
            go_ret
            exact ⟨ret_int HE.out, HB6.out⟩
          | false =>
            have HE := Lib.hid (show crossN l1 h1 l2 h2 = R by have h := HR3.out; rw [if_neg (by rw [x2]; decide)] at h; exact h)
            go_wp2_with fail
            refine (meetAcross_any l1 h1 l2 h2 nl1 nh1 nl2 nh2 _).mono ?_
            rintro e w6 ⟨rfl, hb6⟩
            have HB6 := Lib.hid (HB5.out.trans (hb6.mono HB5.out.size))
            clear hb6 a0 a1 b0 b1 c0 c1 d0 d1
            go_wp2
            go_ret
            exact ⟨ret_int HE.out, HB6.out⟩
end Go.Proofs.Ytlagolgmkmdhhaa.Geo
