/- P7.2: GridOf walks. -/
import Derived.Test.YtenacgeahaoglaaDoorGdHead
namespace Go.Proofs.YtenacgeahaoglaaDoor.Gd
open Go.RowKit Go.Sort
theorem of_to (p : Pn) (z : Int) {q : Tl} {e : Int} (h : ofR p z = (q, e)) : AnsG Tryd.prog 10 #[.agg #[.int .i64 p.x, .int .i64 p.y], .int .i64 z] (.tuple #[.agg #[.int .i64 q.z, .int .i64 q.x, .int .i64 q.y], .int .i64 e]) := by
  have k := (of_any p z).g
  rw [h] at k
  exact k
theorem box_to (t : Tl) {q : Bb} {e : Int} (h : boxR t = (q, e)) : AnsG Tryd.prog 12 #[.agg #[.int .i64 t.z, .int .i64 t.x, .int .i64 t.y]] (.tuple #[.agg #[.int .i64 q.a.x, .int .i64 q.a.y, .int .i64 q.b.x, .int .i64 q.b.y], .int .i64 e]) := by
  have k := (box_any t).g
  rw [h] at k
  exact k
theorem up_to (t : Tl) {q : Tl} {e : Int} (h : upR t = (q, e)) : AnsG Tryd.prog 14 #[.agg #[.int .i64 t.z, .int .i64 t.x, .int .i64 t.y]] (.tuple #[.agg #[.int .i64 q.z, .int .i64 q.x, .int .i64 q.y], .int .i64 e]) := by
  have k := (up_any t).g
  rw [h] at k
  exact k
theorem has_to (b : Bb) (p : Pn) {v : Bool} (h : decide (hasN b p) = v) : AnsG Tryd.prog 27 #[.agg #[.int .i64 b.a.x, .int .i64 b.a.y, .int .i64 b.b.x, .int .i64 b.b.y], .agg #[.int .i64 p.x, .int .i64 p.y]] (.bool v) := by
  have k := (has_any b p).g
  rw [h] at k
  exact k
set_option maxRecDepth 100000 in
set_option maxHeartbeats 4000000 in
theorem gridOf_any (p : Pn) (z : Int) (t : Tl) (w : World) (hG : Gw w) :
    Calls Tryd.prog 4 #[.agg #[.int .i64 p.x, .int .i64 p.y], .int .i64 z, .agg #[.int .i64 t.z, .int .i64 t.x, .int .i64 t.y]] w fun e w' => e = .returned (.bool true) ∧ Below w.heap.size w w' := by
  have HG := Lib.hid hG
  obtain ⟨W, hW, hB, hP, hQ⟩ := two_made w 23 25 #[.int .i64 p.x, .int .i64 p.y] #[.int .i64 t.z, .int .i64 t.x, .int .i64 t.y]
  have HW := Lib.hid hW
  have B0 := Lib.hid hB
  have RP := Lib.hid hP
  have RT := Lib.hid hQ
  clear hG hW hB hP hQ
  go_enter Tryd.func4, Tryd.ntmps4
  go_wp2_with fail
  rw [HW.out]
  clear HW
  refine (head_any _ (HG.out.below B0.out)).mono ?_
  rintro e w1 ⟨rfl, b1⟩
  have B1 := Lib.hid (B0.out.trans (b1.mono B0.out.size))
  replace RP := Lib.hid (RP.out.below b1 RP.out.inside)
  replace RT := Lib.hid (RT.out.below b1 RT.out.inside)
  clear b1 B0
  obtain ⟨RP0, RP1, _, _⟩ := facts2 RP.out
  have RPi := RP.out.inside
  obtain ⟨⟨A, e0⟩, hR⟩ : ∃ R, ofR p z = R := ⟨_, rfl⟩
  go_wp2_with fail
  refine (of_to p z hR _ (HG.out.below B1.out)).mono ?_
  rintro e w2 ⟨rfl, b2⟩
  have B2 := Lib.hid (B1.out.trans (b2.mono B1.out.size))
  clear RP0 RP1 RPi
  replace RP := Lib.hid (RP.out.below b2 RP.out.inside)
  replace RT := Lib.hid (RT.out.below b2 RT.out.inside)
  clear b2 B1
  by_cases hok : isZ z ∧ okP p
  case neg =>
    obtain ⟨e, rfl, he⟩ : ∃ e, A = zT ∧ e0 = e ∧ e ≠ 0 := by
      by_cases hz : isZ z
      · have : ofR p z = (zT, 10) := by unfold ofR; rw [if_pos hz, if_neg fun h => hok ⟨hz, h⟩]
        rw [this] at hR; injection hR with h1 h2; exact ⟨10, h1.symm, h2.symm, by decide⟩
      · have : ofR p z = (zT, 1) := by unfold ofR; rw [if_neg hz]
        rw [this] at hR; injection hR with h1 h2; exact ⟨1, h1.symm, h2.symm, by decide⟩
    obtain ⟨rfl, he⟩ := he
    have he' : (e0 == 0) = false := by rw [beq_eq_false_iff_ne]; exact he
    have he2 : ¬ e0 = 0 := he
    clear hR hok
    unfold zT
    dsimp only
    go_wp2
    go_ret
    exact ⟨rfl, B2.out.alloc B2.out.size _⟩
  case pos =>
    obtain ⟨rfl, rfl⟩ : A = ofN p z ∧ e0 = 0 := by
      have : ofR p z = (ofN p z, 0) := by unfold ofR; rw [if_pos hok.1, if_pos hok.2]
      rw [this] at hR
      injection hR with h1 h2
      exact ⟨h1.symm, h2.symm⟩
    have hA := of_ok hok.2 hok.1
    have hb : boxR (ofN p z) = (boxN (ofN p z), 0) := by unfold boxR; rw [if_pos hA.1]
    have hh : decide (hasN (boxN (ofN p z)) p) = true := decide_eq_true hA.2
    have hAz : (ofN p z).z = z := rfl
    have HI : ∀ t' : Tl, t'.z = z → (hasN (boxN t') p ↔ ofN p z = t') := fun t' h => by have := has_iff (p := p) (t := t'); rw [h] at this; exact this
    have HU : z ≠ 0 → upN (ofN p z) = ofN p (z - 1) := fun h0 => of_up (p := p) hok.1 h0
    have hP := hok.2
    have hz1 := hok.1.1
    have hz2 := hok.1.2
    clear hR hok
    obtain ⟨A, hAA⟩ : ∃ A, ofN p z = A := ⟨_, rfl⟩
    rw [hAA] at hA hb hh hAz HU HI ⊢
    have hO := hA.1
    clear hA hAA
    obtain ⟨Az, Ax, Ay⟩ := A
    dsimp only at *
    subst hAz
    go_wp2_with fail
    have gtRA := RT.out.inside
    obtain ⟨v2, hv, V, L, R⟩ := made w 25 #[.int .i64 Az, .int .i64 Ax, .int .i64 Ay] B2.out B2.out.size
    rw [hv]
    replace RP := Lib.hid (RP.out.below L.out RP.out.inside)
    replace RT := Lib.hid (RT.out.below L.out RT.out.inside)
    obtain ⟨gRA, hg⟩ : ∃ g, w2.heap.size = g := ⟨_, rfl⟩
    rw [hg] at R gtRA ⊢
    have RA := R
    clear hv L hg B2 R
    have B2 := V
    clear V
    refine (box_to ⟨Az, Ax, Ay⟩ hb _ (HG.out.below B2.out)).mono ?_
    rintro e w3 ⟨rfl, b3⟩
    have B3 := Lib.hid (B2.out.trans (b3.mono B2.out.size))
    replace RP := Lib.hid (RP.out.below b3 RP.out.inside)
    replace RT := Lib.hid (RT.out.below b3 RT.out.inside)
    replace RA := Lib.hid (RA.out.below b3 RA.out.inside)
    clear b3 B2
    generalize boxN ⟨Az, Ax, Ay⟩ = X at *
    obtain ⟨RP0, RP1, _, _⟩ := facts2 RP.out
    have RPi := RP.out.inside
    go_wp2_with fail
    have gtRX := RT.out.inside
    obtain ⟨v3, hv, V, L, R⟩ := made w 27 #[.int .i64 X.a.x, .int .i64 X.a.y, .int .i64 X.b.x, .int .i64 X.b.y] B3.out B3.out.size
    rw [hv]
    clear RP0 RP1 RPi
    replace RP := Lib.hid (RP.out.below L.out RP.out.inside)
    replace RT := Lib.hid (RT.out.below L.out RT.out.inside)
    replace RA := Lib.hid (RA.out.below L.out RA.out.inside)
    obtain ⟨gRX, hg⟩ : ∃ g, w3.heap.size = g := ⟨_, rfl⟩
    rw [hg] at R gtRX ⊢
    have RX := R
    clear hv L hg B3 R
    have B3 := V
    clear V
    refine (has_to X p hh _ (HG.out.below B3.out)).mono ?_
    rintro e w4 ⟨rfl, b4⟩
    have B4 := Lib.hid (B3.out.trans (b4.mono B3.out.size))
    replace RP := Lib.hid (RP.out.below b4 RP.out.inside)
    replace RT := Lib.hid (RT.out.below b4 RT.out.inside)
    replace RA := Lib.hid (RA.out.below b4 RA.out.inside)
    replace RX := Lib.hid (RX.out.below b4 RX.out.inside)
    clear b4 B3
    clear hb hh
    obtain ⟨RA0, RA1, RA2, _, _, _⟩ := facts3 RA.out
    have RAi := RA.out.inside
    obtain ⟨RT0, RT1, RT2, _, _, _⟩ := facts3 RT.out
    have RTi := RT.out.inside
    have f0 := RT.out.open_ 0
    go_wp2_with fail
    obtain ⟨w5, hv⟩ : ∃ v, w4.setCell ⟨w.heap.size + 1, 0, none⟩ (.int .i64 Az) = v := ⟨_, rfl⟩
    rw [hv]
    have B5 := Lib.hid (show Below w.heap.size w w5 from hv ▸ B4.out.setCell (p := ⟨w.heap.size + 1, 0, none⟩) (by show w.heap.size ≤ w.heap.size + 1; omega) _)
    replace RP := Lib.hid (show IsRow w5 w.heap.size 23 #[.int .i64 p.x, .int .i64 p.y] from hv ▸ RP.out.putOther (by show w.heap.size ≠ w.heap.size + 1; omega) _)
    replace RA := Lib.hid (show IsRow w5 gRA 25 #[.int .i64 Az, .int .i64 Ax, .int .i64 Ay] from hv ▸ RA.out.putOther (by show gRA ≠ w.heap.size + 1; omega) _)
    replace RT := Lib.hid (show IsRow w5 (w.heap.size + 1) 25 #[.int .i64 Az, .int .i64 t.x, .int .i64 t.y] by rw [← hv]; have := RT.out.put 0 (.int .i64 Az); simpa using this)
    clear hv B4 RX gtRA gtRX
    clear RA0 RA1 RA2 RAi RT0 RT1 RT2 RTi f0
    obtain ⟨RT0, RT1, RT2, _, _, _⟩ := facts3 RT.out
    have RTi := RT.out.inside
    obtain ⟨⟨C, e1⟩, hc⟩ : ∃ R, boxR ⟨Az, t.x, t.y⟩ = R := ⟨_, rfl⟩
    refine (box_to ⟨Az, t.x, t.y⟩ hc _ (HG.out.below B5.out)).mono ?_
    rintro e w6 ⟨rfl, b6⟩
    have B6 := Lib.hid (B5.out.trans (b6.mono B5.out.size))
    clear RT0 RT1 RT2 RTi
    replace RP := Lib.hid (RP.out.below b6 RP.out.inside)
    replace RT := Lib.hid (RT.out.below b6 RT.out.inside)
    replace RA := Lib.hid (RA.out.below b6 RA.out.inside)
    clear b6 B5
    go_wp2_with fail
    obtain ⟨v6, hv, V, L, R⟩ := made w 27 #[.int .i64 C.a.x, .int .i64 C.a.y, .int .i64 C.b.x, .int .i64 C.b.y] B6.out B6.out.size
    rw [hv]
    replace RP := Lib.hid (RP.out.below L.out RP.out.inside)
    replace RT := Lib.hid (RT.out.below L.out RT.out.inside)
    replace RA := Lib.hid (RA.out.below L.out RA.out.inside)
    obtain ⟨gRC, hg⟩ : ∃ g, w6.heap.size = g := ⟨_, rfl⟩
    rw [hg] at R ⊢
    have RC := R
    clear hv L hg B6 R
    have B6 := V
    clear V
    go_cut [69] from 10 to 11 (fun s wx => s = .bool false ∧ Hid (Below v6.heap.size v6 wx))
    case first =>
      by_cases hc1 : okT ⟨Az, t.x, t.y⟩
      case neg =>
        obtain ⟨rfl, rfl⟩ : C = zB ∧ e1 = 1 := by
          have : boxR ⟨Az, t.x, t.y⟩ = (zB, 1) := by unfold boxR; rw [if_neg hc1]
          rw [this] at hc; injection hc with h1 h2; exact ⟨h1.symm, h2.symm⟩
        clear hc hc1 RC RT
        go_quiet (fail)
        go_wp2_with fail
        go_meet
        exact ⟨rfl, Lib.hid (drewN_below v6 _)⟩
      case pos =>
        obtain ⟨rfl, rfl⟩ : C = boxN ⟨Az, t.x, t.y⟩ ∧ e1 = 0 := by
          have : boxR ⟨Az, t.x, t.y⟩ = (boxN ⟨Az, t.x, t.y⟩, 0) := by unfold boxR; rw [if_pos hc1]
          rw [this] at hc; injection hc with h1 h2; exact ⟨h1.symm, h2.symm⟩
        have HJ := HI ⟨Az, t.x, t.y⟩ rfl
        clear hc hc1 HI HU
        generalize boxN ⟨Az, t.x, t.y⟩ = C at *
        generalize t.x = tx at *
        generalize t.y = ty at *
        by_cases hx : Ax = tx
        case neg =>
          have hx' : (Ax == tx) = false := by rw [beq_eq_false_iff_ne]; exact hx
          obtain ⟨RC0, RC1, RC2, RC3, _, _, _, _⟩ := facts4 RC.out
          have RCi := RC.out.inside
          obtain ⟨RP0, RP1, _, _⟩ := facts2 RP.out
          have RPi := RP.out.inside
          obtain ⟨RA0, RA1, RA2, _, _, _⟩ := facts3 RA.out
          have RAi := RA.out.inside
          obtain ⟨RT0, RT1, RT2, _, _, _⟩ := facts3 RT.out
          have RTi := RT.out.inside
          have KG : ∀ w', Below v6.heap.size v6 w' → (w'.cell? ⟨gRC, 0, none⟩ = some (.int .i64 C.a.x) ∧ w'.cell? ⟨gRC, 1, none⟩ = some (.int .i64 C.a.y) ∧ w'.cell? ⟨gRC, 2, none⟩ = some (.int .i64 C.b.x) ∧ w'.cell? ⟨gRC, 3, none⟩ = some (.int .i64 C.b.y) ∧ w'.cell? ⟨w.heap.size, 0, none⟩ = some (.int .i64 p.x) ∧ w'.cell? ⟨w.heap.size, 1, none⟩ = some (.int .i64 p.y) ∧ w'.cell? ⟨gRA, 0, none⟩ = some (.int .i64 Az) ∧ w'.cell? ⟨gRA, 1, none⟩ = some (.int .i64 Ax) ∧ w'.cell? ⟨gRA, 2, none⟩ = some (.int .i64 Ay) ∧ w'.cell? ⟨(w.heap.size + 1), 0, none⟩ = some (.int .i64 Az) ∧ w'.cell? ⟨(w.heap.size + 1), 1, none⟩ = some (.int .i64 tx) ∧ w'.cell? ⟨(w.heap.size + 1), 2, none⟩ = some (.int .i64 ty)) := fun w' hb => by
            have a := RC.out.below hb RC.out.inside
            have b := RP.out.below hb RP.out.inside
            have c := RA.out.below hb RA.out.inside
            have d := RT.out.below hb RT.out.inside
            exact ⟨a.get 0, a.get 1, a.get 2, a.get 3, b.get 0, b.get 1, c.get 0, c.get 1, c.get 2, d.get 0, d.get 1, d.get 2⟩
          have K9 := has_to C p (v := false) (decide_eq_false fun h => hx (congrArg Tl.x (HJ.1 h))) v6.drew (HG.out.below (B6.out.trans ((drew_below _).mono B6.out.size)))
          go_region_held3 (fun w' => w'.cell? ⟨gRC, 0, none⟩ = some (.int .i64 C.a.x) ∧ w'.cell? ⟨gRC, 1, none⟩ = some (.int .i64 C.a.y) ∧ w'.cell? ⟨gRC, 2, none⟩ = some (.int .i64 C.b.x) ∧ w'.cell? ⟨gRC, 3, none⟩ = some (.int .i64 C.b.y) ∧ w'.cell? ⟨w.heap.size, 0, none⟩ = some (.int .i64 p.x) ∧ w'.cell? ⟨w.heap.size, 1, none⟩ = some (.int .i64 p.y) ∧ w'.cell? ⟨gRA, 0, none⟩ = some (.int .i64 Az) ∧ w'.cell? ⟨gRA, 1, none⟩ = some (.int .i64 Ax) ∧ w'.cell? ⟨gRA, 2, none⟩ = some (.int .i64 Ay) ∧ w'.cell? ⟨(w.heap.size + 1), 0, none⟩ = some (.int .i64 Az) ∧ w'.cell? ⟨(w.heap.size + 1), 1, none⟩ = some (.int .i64 tx) ∧ w'.cell? ⟨(w.heap.size + 1), 2, none⟩ = some (.int .i64 ty)) (first | exact KS | go_keep)
            (first | (go_at_call 27; (with_reducible refine K9.mono ?_); rintro e w7 ⟨rfl, hb9⟩; have G9 := Lib.hid ((drew_below v6).trans hb9); have KS := KG w7 G9.out; clear K9))
          clear KG KS
          go_wp2_with fail
          go_meet
          exact ⟨rfl, Lib.hid G9.out⟩
        case pos =>
          have hx' : (Ax == tx) = true := beq_iff_eq.2 hx
          have HX := Lib.hid hx
          clear hx
          by_cases hy : Ay = ty
          case neg =>
            have hy' : (Ay == ty) = false := by rw [beq_eq_false_iff_ne]; exact hy
            obtain ⟨RC0, RC1, RC2, RC3, _, _, _, _⟩ := facts4 RC.out
            have RCi := RC.out.inside
            obtain ⟨RP0, RP1, _, _⟩ := facts2 RP.out
            have RPi := RP.out.inside
            obtain ⟨RA0, RA1, RA2, _, _, _⟩ := facts3 RA.out
            have RAi := RA.out.inside
            obtain ⟨RT0, RT1, RT2, _, _, _⟩ := facts3 RT.out
            have RTi := RT.out.inside
            have KG : ∀ w', Below v6.heap.size v6 w' → (w'.cell? ⟨gRC, 0, none⟩ = some (.int .i64 C.a.x) ∧ w'.cell? ⟨gRC, 1, none⟩ = some (.int .i64 C.a.y) ∧ w'.cell? ⟨gRC, 2, none⟩ = some (.int .i64 C.b.x) ∧ w'.cell? ⟨gRC, 3, none⟩ = some (.int .i64 C.b.y) ∧ w'.cell? ⟨w.heap.size, 0, none⟩ = some (.int .i64 p.x) ∧ w'.cell? ⟨w.heap.size, 1, none⟩ = some (.int .i64 p.y) ∧ w'.cell? ⟨gRA, 0, none⟩ = some (.int .i64 Az) ∧ w'.cell? ⟨gRA, 1, none⟩ = some (.int .i64 Ax) ∧ w'.cell? ⟨gRA, 2, none⟩ = some (.int .i64 Ay) ∧ w'.cell? ⟨(w.heap.size + 1), 0, none⟩ = some (.int .i64 Az) ∧ w'.cell? ⟨(w.heap.size + 1), 1, none⟩ = some (.int .i64 tx) ∧ w'.cell? ⟨(w.heap.size + 1), 2, none⟩ = some (.int .i64 ty)) := fun w' hb => by
              have a := RC.out.below hb RC.out.inside
              have b := RP.out.below hb RP.out.inside
              have c := RA.out.below hb RA.out.inside
              have d := RT.out.below hb RT.out.inside
              exact ⟨a.get 0, a.get 1, a.get 2, a.get 3, b.get 0, b.get 1, c.get 0, c.get 1, c.get 2, d.get 0, d.get 1, d.get 2⟩
            have K9 := has_to C p (v := false) (decide_eq_false fun h => hy (congrArg Tl.y (HJ.1 h))) v6.drew (HG.out.below (B6.out.trans ((drew_below _).mono B6.out.size)))
            go_region_held3 (fun w' => w'.cell? ⟨gRC, 0, none⟩ = some (.int .i64 C.a.x) ∧ w'.cell? ⟨gRC, 1, none⟩ = some (.int .i64 C.a.y) ∧ w'.cell? ⟨gRC, 2, none⟩ = some (.int .i64 C.b.x) ∧ w'.cell? ⟨gRC, 3, none⟩ = some (.int .i64 C.b.y) ∧ w'.cell? ⟨w.heap.size, 0, none⟩ = some (.int .i64 p.x) ∧ w'.cell? ⟨w.heap.size, 1, none⟩ = some (.int .i64 p.y) ∧ w'.cell? ⟨gRA, 0, none⟩ = some (.int .i64 Az) ∧ w'.cell? ⟨gRA, 1, none⟩ = some (.int .i64 Ax) ∧ w'.cell? ⟨gRA, 2, none⟩ = some (.int .i64 Ay) ∧ w'.cell? ⟨(w.heap.size + 1), 0, none⟩ = some (.int .i64 Az) ∧ w'.cell? ⟨(w.heap.size + 1), 1, none⟩ = some (.int .i64 tx) ∧ w'.cell? ⟨(w.heap.size + 1), 2, none⟩ = some (.int .i64 ty)) (first | exact KS | go_keep)
              (first | (go_at_call 27; (with_reducible refine K9.mono ?_); rintro e w7 ⟨rfl, hb9⟩; have G9 := Lib.hid ((drew_below v6).trans hb9); have KS := KG w7 G9.out; clear K9))
            clear KG KS
            go_wp2_with fail
            go_meet
            exact ⟨rfl, Lib.hid G9.out⟩
          case pos =>
            have hy' : (Ay == ty) = true := beq_iff_eq.2 hy
            have HY := Lib.hid hy
            clear hy
            obtain ⟨RC0, RC1, RC2, RC3, _, _, _, _⟩ := facts4 RC.out
            have RCi := RC.out.inside
            obtain ⟨RP0, RP1, _, _⟩ := facts2 RP.out
            have RPi := RP.out.inside
            obtain ⟨RA0, RA1, RA2, _, _, _⟩ := facts3 RA.out
            have RAi := RA.out.inside
            obtain ⟨RT0, RT1, RT2, _, _, _⟩ := facts3 RT.out
            have RTi := RT.out.inside
            have KG : ∀ w', Below v6.heap.size v6 w' → (w'.cell? ⟨gRC, 0, none⟩ = some (.int .i64 C.a.x) ∧ w'.cell? ⟨gRC, 1, none⟩ = some (.int .i64 C.a.y) ∧ w'.cell? ⟨gRC, 2, none⟩ = some (.int .i64 C.b.x) ∧ w'.cell? ⟨gRC, 3, none⟩ = some (.int .i64 C.b.y) ∧ w'.cell? ⟨w.heap.size, 0, none⟩ = some (.int .i64 p.x) ∧ w'.cell? ⟨w.heap.size, 1, none⟩ = some (.int .i64 p.y) ∧ w'.cell? ⟨gRA, 0, none⟩ = some (.int .i64 Az) ∧ w'.cell? ⟨gRA, 1, none⟩ = some (.int .i64 Ax) ∧ w'.cell? ⟨gRA, 2, none⟩ = some (.int .i64 Ay) ∧ w'.cell? ⟨(w.heap.size + 1), 0, none⟩ = some (.int .i64 Az) ∧ w'.cell? ⟨(w.heap.size + 1), 1, none⟩ = some (.int .i64 tx) ∧ w'.cell? ⟨(w.heap.size + 1), 2, none⟩ = some (.int .i64 ty)) := fun w' hb => by
              have a := RC.out.below hb RC.out.inside
              have b := RP.out.below hb RP.out.inside
              have c := RA.out.below hb RA.out.inside
              have d := RT.out.below hb RT.out.inside
              exact ⟨a.get 0, a.get 1, a.get 2, a.get 3, b.get 0, b.get 1, c.get 0, c.get 1, c.get 2, d.get 0, d.get 1, d.get 2⟩
            have K9 := has_to C p (v := true) (decide_eq_true (HJ.2 (by rw [HX.out, HY.out]))) v6.drew (HG.out.below (B6.out.trans ((drew_below _).mono B6.out.size)))
            go_region_held3 (fun w' => w'.cell? ⟨gRC, 0, none⟩ = some (.int .i64 C.a.x) ∧ w'.cell? ⟨gRC, 1, none⟩ = some (.int .i64 C.a.y) ∧ w'.cell? ⟨gRC, 2, none⟩ = some (.int .i64 C.b.x) ∧ w'.cell? ⟨gRC, 3, none⟩ = some (.int .i64 C.b.y) ∧ w'.cell? ⟨w.heap.size, 0, none⟩ = some (.int .i64 p.x) ∧ w'.cell? ⟨w.heap.size, 1, none⟩ = some (.int .i64 p.y) ∧ w'.cell? ⟨gRA, 0, none⟩ = some (.int .i64 Az) ∧ w'.cell? ⟨gRA, 1, none⟩ = some (.int .i64 Ax) ∧ w'.cell? ⟨gRA, 2, none⟩ = some (.int .i64 Ay) ∧ w'.cell? ⟨(w.heap.size + 1), 0, none⟩ = some (.int .i64 Az) ∧ w'.cell? ⟨(w.heap.size + 1), 1, none⟩ = some (.int .i64 tx) ∧ w'.cell? ⟨(w.heap.size + 1), 2, none⟩ = some (.int .i64 ty)) (first | exact KS | go_keep)
              (first | (go_at_call 27; (with_reducible refine K9.mono ?_); rintro e w7 ⟨rfl, hb9⟩; have G9 := Lib.hid ((drew_below v6).trans hb9); have KS := KG w7 G9.out; clear K9))
            clear KG KS
            go_wp2_with fail
            go_meet
            exact ⟨rfl, Lib.hid G9.out⟩
    case rest =>
      obtain ⟨rfl, hb⟩ := hcut
      have B7 := Lib.hid (B6.out.trans (hb.out.mono B6.out.size))
      replace RP := Lib.hid (RP.out.below hb.out RP.out.inside)
      replace RA := Lib.hid (RA.out.below hb.out RA.out.inside)
      clear hb B6 RC RT HI hc
      by_cases h0 : Az = 0
      case pos =>
        subst h0
        have hu : upR ⟨0, Ax, Ay⟩ = (zT, 11) := by unfold upR; rw [if_pos hO]; rfl
        have hv : ofR p (-1) = (zT, 1) := by unfold ofR; rw [if_neg]; exact fun h => absurd h.1 (by decide)
        obtain ⟨RA0, RA1, RA2, _, _, _⟩ := facts3 RA.out
        have RAi := RA.out.inside
        obtain ⟨RP0, RP1, _, _⟩ := facts2 RP.out
        have RPi := RP.out.inside
        go_wp2_with fail
        refine (up_to ⟨0, Ax, Ay⟩ hu _ (HG.out.below B7.out)).mono ?_
        rintro e w8 ⟨rfl, b8⟩
        have B8 := Lib.hid (B7.out.trans (b8.mono B7.out.size))
        clear RA0 RA1 RA2 RAi RP0 RP1 RPi
        replace RP := Lib.hid (RP.out.below b8 RP.out.inside)
        replace RA := Lib.hid (RA.out.below b8 RA.out.inside)
        clear b8 B7
        obtain ⟨RP0, RP1, _, _⟩ := facts2 RP.out
        have RPi := RP.out.inside
        go_wp2_with fail
        obtain ⟨v8, hv, V, L, R⟩ := made w 25 #[.int .i64 zT.z, .int .i64 zT.x, .int .i64 zT.y] B8.out B8.out.size
        rw [hv]
        clear RP0 RP1 RPi
        replace RP := Lib.hid (RP.out.below L.out RP.out.inside)
        replace RA := Lib.hid (RA.out.below L.out RA.out.inside)
        obtain ⟨gRU, hg⟩ : ∃ g, w8.heap.size = g := ⟨_, rfl⟩
        rw [hg] at R ⊢
        have RU := R
        clear hv L hg B8 R
        have B8 := V
        clear V
        refine (of_to p (-1) hv _ (HG.out.below B8.out)).mono ?_
        rintro e w9 ⟨rfl, b9⟩
        have B9 := Lib.hid (B8.out.trans (b9.mono B8.out.size))
        replace RP := Lib.hid (RP.out.below b9 RP.out.inside)
        replace RA := Lib.hid (RA.out.below b9 RA.out.inside)
        replace RU := Lib.hid (RU.out.below b9 RU.out.inside)
        clear b9 B8
        go_wp2
        go_ret
        exact ⟨rfl, B9.out.alloc B9.out.size _⟩
      case neg =>
        have hu : upR ⟨Az, Ax, Ay⟩ = (upN ⟨Az, Ax, Ay⟩, 0) := by unfold upR; rw [if_pos hO, if_neg h0]
        have hv : ofR p (Az - 1) = (ofN p (Az - 1), 0) := by unfold ofR; rw [if_pos ⟨by omega, by omega⟩, if_pos hP]
        rw [HU h0] at hu
        have hw1 : IntKind.i64.wrap (Az - 1) = Az - 1 := IntWalk.i64_in _ (by omega)
        clear HU
        generalize ofN p (Az - 1) = U at *
        obtain ⟨RA0, RA1, RA2, _, _, _⟩ := facts3 RA.out
        have RAi := RA.out.inside
        obtain ⟨RP0, RP1, _, _⟩ := facts2 RP.out
        have RPi := RP.out.inside
        go_wp2_with fail
        refine (up_to ⟨Az, Ax, Ay⟩ hu _ (HG.out.below B7.out)).mono ?_
        rintro e w8 ⟨rfl, b8⟩
        have B8 := Lib.hid (B7.out.trans (b8.mono B7.out.size))
        clear RA0 RA1 RA2 RAi RP0 RP1 RPi
        replace RP := Lib.hid (RP.out.below b8 RP.out.inside)
        replace RA := Lib.hid (RA.out.below b8 RA.out.inside)
        clear b8 B7
        obtain ⟨RP0, RP1, _, _⟩ := facts2 RP.out
        have RPi := RP.out.inside
        go_wp2_with fail
        obtain ⟨v8, hv, V, L, R⟩ := made w 25 #[.int .i64 U.z, .int .i64 U.x, .int .i64 U.y] B8.out B8.out.size
        rw [hv]
        clear RP0 RP1 RPi
        replace RP := Lib.hid (RP.out.below L.out RP.out.inside)
        replace RA := Lib.hid (RA.out.below L.out RA.out.inside)
        obtain ⟨gRU, hg⟩ : ∃ g, w8.heap.size = g := ⟨_, rfl⟩
        rw [hg] at R ⊢
        have RU := R
        clear hv L hg B8 R
        have B8 := V
        clear V
        refine (of_to p (Az - 1) hv _ (HG.out.below B8.out)).mono ?_
        rintro e w9 ⟨rfl, b9⟩
        have B9 := Lib.hid (B8.out.trans (b9.mono B8.out.size))
        replace RP := Lib.hid (RP.out.below b9 RP.out.inside)
        replace RA := Lib.hid (RA.out.below b9 RA.out.inside)
        replace RU := Lib.hid (RU.out.below b9 RU.out.inside)
        clear b9 B8
        have iu := RU.out.inside
        obtain ⟨RU0, RU1, RU2, _, _, _⟩ := facts3 RU.out
        have RUi := RU.out.inside
        go_wp2
        go_ret
        exact ⟨rfl, B9.out.alloc B9.out.size _⟩
end Go.Proofs.YtenacgeahaoglaaDoor.Gd
