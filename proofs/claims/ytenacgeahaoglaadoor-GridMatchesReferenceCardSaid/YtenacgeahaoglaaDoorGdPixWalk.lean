/- P7.5: GridPixels walks. -/
import Derived.Test.YtenacgeahaoglaaDoorGdOfWalk
namespace Go.Proofs.YtenacgeahaoglaaDoor.Gd
open Go.RowKit Go.Sort
theorem pixel_to (t : Tl) (p : Pn) {q : Pn} {e : Int} (h : pixR t p = (q, e)) : AnsG Tryd.prog 21 #[.agg #[.int .i64 t.z, .int .i64 t.x, .int .i64 t.y], .agg #[.int .i64 p.x, .int .i64 p.y]] (.tuple #[.agg #[.int .i64 q.x, .int .i64 q.y], .int .i64 e]) := by
  have k := (pixel_any t p).g
  rw [h] at k
  exact k
theorem half_any (n : Int) (w : World) : Calls Tryd.prog 28 #[.int .i64 n] w fun e w' => e = .returned (.int .i64 (n / 2)) ∧ w' = w := by
  go_enter Tryd.func28, Tryd.ntmps28
  go_wp2
  go_ret
  exact ⟨rfl, rfl⟩
theorem px_bound {d s : Int} (hs : 8 ≤ s) (h1 : -8388608 ≤ d) (h2 : d ≤ 8388608) : -268435456 ≤ px d s ∧ px d s ≤ 268435456 := by
  unfold px
  constructor
  · rw [Int.le_ediv_iff_mul_le (by omega)]; omega
  · have : d * 256 / s < 268435457 := by rw [Int.ediv_lt_iff_lt_mul (by omega)]; omega
    omega
/-- what is said of the pixels of two points. -/
theorem pix_facts (t : Tl) (p q : Pn) :
    decide (hasN (boxN t) p) = decide (0 ≤ (pixN t p).x ∧ (pixN t p).x < 256 ∧ 0 ≤ (pixN t p).y ∧ (pixN t p).y < 256) ∧
    (p.x ≤ q.x → (pixN t p).x ≤ (pixN t q).x) ∧ (p.y ≤ q.y → (pixN t p).y ≤ (pixN t q).y) := by
  have s0 := sd_pos (z := t.z)
  have e1 := px_in (d := p.x - t.x * sd t.z) s0
  have e2 := px_in (d := p.y - t.y * sd t.z) s0
  refine ⟨dec_eq ?_, fun h => px_mono s0 (by omega), fun h => px_mono s0 (by omega)⟩
  simp only [hasN, boxN, pixN]
  generalize sd t.z = s at *
  generalize t.x * s = u at *
  generalize t.y * s = v at *
  generalize px (p.x - u) s = X at *
  generalize px (p.y - v) s = Y at *
  omega
theorem pix_above {t : Tl} (ht : okT t) (h0 : t.z ≠ 0) (p : Pn) : pixN (upN t) p = ⟨((pixN t p).x + 256 * (t.x % 2)) / 2, ((pixN t p).y + 256 * (t.y % 2)) / 2⟩ := by
  have s0 := sd_pos (z := t.z)
  have e := (sd_up ht.1 h0).1
  have e1 := px_up (v := p.x) (a := t.x) s0
  have e2 := px_up (v := p.y) (a := t.y) s0
  unfold pixN upN
  dsimp only
  rw [e, e1, e2]
theorem pix_bounds {t : Tl} (ht : okT t) {p : Pn} (hx : near p.x) (hy : near p.y) : -268435456 ≤ (pixN t p).x ∧ (pixN t p).x ≤ 268435456 ∧ -268435456 ≤ (pixN t p).y ∧ (pixN t p).y ≤ 268435456 := by
  obtain ⟨hz, h1, h2, h3, h4⟩ := ht
  have p1 := prod_bounds hz h1 h2
  have p2 := prod_bounds hz h3 h4
  have hs := sd_bounds hz
  have b1 := px_bound (d := p.x - t.x * sd t.z) hs.1 (by have := hx.1; omega) (by have := hx.2; omega)
  have b2 := px_bound (d := p.y - t.y * sd t.z) hs.1 (by have := hy.1; omega) (by have := hy.2; omega)
  exact ⟨b1.1, b1.2, b2.1, b2.2⟩
theorem bool_ne (V : Bool) : (V != V) = false := by cases V <;> rfl
set_option maxRecDepth 100000 in
set_option maxHeartbeats 4000000 in
theorem gridPixels_any (t : Tl) (p q : Pn) (w : World) (hG : Gw w) :
    Calls Tryd.prog 7 #[.agg #[.int .i64 t.z, .int .i64 t.x, .int .i64 t.y], .agg #[.int .i64 p.x, .int .i64 p.y], .agg #[.int .i64 q.x, .int .i64 q.y]] w fun e w' => e = .returned (.bool true) ∧ Below w.heap.size w w' := by
  have HG := Lib.hid hG
  obtain ⟨W, hW, hB, hT, hP, hQ⟩ := three_made w 25 23 23 #[.int .i64 t.z, .int .i64 t.x, .int .i64 t.y] #[.int .i64 p.x, .int .i64 p.y] #[.int .i64 q.x, .int .i64 q.y]
  have HW := Lib.hid hW
  have B0 := Lib.hid hB
  have RT := Lib.hid hT
  have RP := Lib.hid hP
  have RQ := Lib.hid hQ
  obtain ⟨⟨D, e0⟩, hb⟩ : ∃ R, boxR t = R := ⟨_, rfl⟩
  obtain ⟨⟨X, e1⟩, hx⟩ : ∃ R, pixR t p = R := ⟨_, rfl⟩
  obtain ⟨⟨Y, e2⟩, hy⟩ : ∃ R, pixR t q = R := ⟨_, rfl⟩
  clear hG hW hB hP hQ hT
  go_enter Tryd.func7, Tryd.ntmps7
  go_wp2_with fail
  rw [HW.out]
  clear HW
  refine (head_any _ (HG.out.below B0.out)).mono ?_
  rintro e w1 ⟨rfl, b1⟩
  have B1 := Lib.hid (B0.out.trans (b1.mono B0.out.size))
  replace RT := Lib.hid (RT.out.below b1 RT.out.inside)
  replace RP := Lib.hid (RP.out.below b1 RP.out.inside)
  replace RQ := Lib.hid (RQ.out.below b1 RQ.out.inside)
  clear b1 B0
  obtain ⟨RT0, RT1, RT2, _, _, _⟩ := facts3 RT.out
  have RTi := RT.out.inside
  go_wp2_with fail
  refine (box_to t hb _ (HG.out.below B1.out)).mono ?_
  rintro e w2 ⟨rfl, b2⟩
  have B2 := Lib.hid (B1.out.trans (b2.mono B1.out.size))
  clear RT0 RT1 RT2 RTi
  replace RT := Lib.hid (RT.out.below b2 RT.out.inside)
  replace RP := Lib.hid (RP.out.below b2 RP.out.inside)
  replace RQ := Lib.hid (RQ.out.below b2 RQ.out.inside)
  clear b2 B1
  obtain ⟨RT0, RT1, RT2, _, _, _⟩ := facts3 RT.out
  have RTi := RT.out.inside
  obtain ⟨RP0, RP1, _, _⟩ := facts2 RP.out
  have RPi := RP.out.inside
  go_wp2_with fail
  obtain ⟨v2, hv, V, L, R⟩ := made w 27 #[.int .i64 D.a.x, .int .i64 D.a.y, .int .i64 D.b.x, .int .i64 D.b.y] B2.out B2.out.size
  rw [hv]
  clear RT0 RT1 RT2 RTi RP0 RP1 RPi
  replace RT := Lib.hid (RT.out.below L.out RT.out.inside)
  replace RP := Lib.hid (RP.out.below L.out RP.out.inside)
  replace RQ := Lib.hid (RQ.out.below L.out RQ.out.inside)
  obtain ⟨gRD, hg⟩ : ∃ g, w2.heap.size = g := ⟨_, rfl⟩
  rw [hg] at R ⊢
  have RD := R
  clear hv L hg B2 R
  have B2 := V
  clear V
  refine (pixel_to t p hx _ (HG.out.below B2.out)).mono ?_
  rintro e w3 ⟨rfl, b3⟩
  have B3 := Lib.hid (B2.out.trans (b3.mono B2.out.size))
  replace RT := Lib.hid (RT.out.below b3 RT.out.inside)
  replace RP := Lib.hid (RP.out.below b3 RP.out.inside)
  replace RQ := Lib.hid (RQ.out.below b3 RQ.out.inside)
  replace RD := Lib.hid (RD.out.below b3 RD.out.inside)
  clear b3 B2
  obtain ⟨RT0, RT1, RT2, _, _, _⟩ := facts3 RT.out
  have RTi := RT.out.inside
  obtain ⟨RQ0, RQ1, _, _⟩ := facts2 RQ.out
  have RQi := RQ.out.inside
  go_wp2_with fail
  obtain ⟨v3, hv, V, L, R⟩ := made w 23 #[.int .i64 X.x, .int .i64 X.y] B3.out B3.out.size
  rw [hv]
  clear RT0 RT1 RT2 RTi RQ0 RQ1 RQi
  replace RT := Lib.hid (RT.out.below L.out RT.out.inside)
  replace RP := Lib.hid (RP.out.below L.out RP.out.inside)
  replace RQ := Lib.hid (RQ.out.below L.out RQ.out.inside)
  replace RD := Lib.hid (RD.out.below L.out RD.out.inside)
  obtain ⟨gRX, hg⟩ : ∃ g, w3.heap.size = g := ⟨_, rfl⟩
  rw [hg] at R ⊢
  have RX := R
  clear hv L hg B3 R
  have B3 := V
  clear V
  refine (pixel_to t q hy _ (HG.out.below B3.out)).mono ?_
  rintro e w4 ⟨rfl, b4⟩
  have B4 := Lib.hid (B3.out.trans (b4.mono B3.out.size))
  replace RT := Lib.hid (RT.out.below b4 RT.out.inside)
  replace RP := Lib.hid (RP.out.below b4 RP.out.inside)
  replace RQ := Lib.hid (RQ.out.below b4 RQ.out.inside)
  replace RD := Lib.hid (RD.out.below b4 RD.out.inside)
  replace RX := Lib.hid (RX.out.below b4 RX.out.inside)
  clear b4 B3
  by_cases ht : okT t
  case neg =>
    obtain ⟨rfl, rfl⟩ : D = zB ∧ e0 = 1 := by
      unfold boxR at hb; rw [if_neg ht] at hb; injection hb with h1 h2; exact ⟨h1.symm, h2.symm⟩
    obtain ⟨rfl, rfl⟩ : X = zP ∧ e1 = 1 := by
      unfold pixR at hx; rw [if_neg ht] at hx; injection hx with h1 h2; exact ⟨h1.symm, h2.symm⟩
    obtain ⟨rfl, rfl⟩ : Y = zP ∧ e2 = 1 := by
      unfold pixR at hy; rw [if_neg ht] at hy; injection hy with h1 h2; exact ⟨h1.symm, h2.symm⟩
    go_wp2
    go_ret
    exact ⟨rfl, B4.out.alloc B4.out.size _⟩
  case pos =>
    obtain ⟨rfl, rfl⟩ : D = boxN t ∧ e0 = 0 := by
      unfold boxR at hb; rw [if_pos ht] at hb; injection hb with h1 h2; exact ⟨h1.symm, h2.symm⟩
    clear hb
    by_cases hnp : near p.x ∧ near p.y
    case neg =>
      obtain ⟨rfl, rfl⟩ : X = zP ∧ e1 = 10 := by
        unfold pixR at hx; rw [if_pos ht, if_neg hnp] at hx; injection hx with h1 h2; exact ⟨h1.symm, h2.symm⟩
      go_wp2
      go_ret
      exact ⟨rfl, B4.out.alloc B4.out.size _⟩
    case pos =>
      obtain ⟨rfl, rfl⟩ : X = pixN t p ∧ e1 = 0 := by
        unfold pixR at hx; rw [if_pos ht, if_pos hnp] at hx; injection hx with h1 h2; exact ⟨h1.symm, h2.symm⟩
      clear hx
      by_cases hnq : near q.x ∧ near q.y
      case neg =>
        obtain ⟨rfl, rfl⟩ : Y = zP ∧ e2 = 10 := by
          unfold pixR at hy; rw [if_pos ht, if_neg hnq] at hy; injection hy with h1 h2; exact ⟨h1.symm, h2.symm⟩
        go_wp2
        go_ret
        exact ⟨rfl, B4.out.alloc B4.out.size _⟩
      case pos =>
        obtain ⟨rfl, rfl⟩ : Y = pixN t q ∧ e2 = 0 := by
          unfold pixR at hy; rw [if_pos ht, if_pos hnq] at hy; injection hy with h1 h2; exact ⟨h1.symm, h2.symm⟩
        clear hy
        obtain ⟨hin, hmx, hmy⟩ := pix_facts t p q
        have hbd := pix_bounds ht hnp.1 hnp.2
        have hab := fun h0 => pix_above ht h0 p
        obtain ⟨V, hV⟩ : ∃ V, decide (hasN (boxN t) p) = V := ⟨_, rfl⟩
        rw [hV] at hin
        have HH := has_to (boxN t) p hV
        generalize boxN t = D at *
        generalize pixN t p = X at *
        generalize pixN t q = Y at *
        clear hV
        go_upto_region 7 with fail
        obtain ⟨v4, hv, V, L, R⟩ := made w 23 #[.int .i64 Y.x, .int .i64 Y.y] B4.out B4.out.size
        rw [hv]
        replace RT := Lib.hid (RT.out.below L.out RT.out.inside)
        replace RP := Lib.hid (RP.out.below L.out RP.out.inside)
        replace RQ := Lib.hid (RQ.out.below L.out RQ.out.inside)
        replace RD := Lib.hid (RD.out.below L.out RD.out.inside)
        replace RX := Lib.hid (RX.out.below L.out RX.out.inside)
        obtain ⟨gRY, hg⟩ : ∃ g, w4.heap.size = g := ⟨_, rfl⟩
        rw [hg] at R ⊢
        have RY := R
        clear hv L hg B4 R
        have B4 := V
        clear V
        go_cut [14] from 60 to 77 (fun s wx => s = .bool V ∧ wx = v4)
        case first =>
          obtain ⟨RX0, RX1, _, _⟩ := facts2 RX.out
          have RXi := RX.out.inside
          clear HH hmx hmy hbd hab
          go_wp2_with fail
          all_goals
            go_meet
            refine ⟨?_, rfl⟩
            rw [hin]
            first
              | exact congrArg Value.bool (decide_eq_false (by omega)).symm
              | exact congrArg Value.bool (dec_eq (by omega))
        case rest =>
          obtain ⟨rfl, rfl⟩ := hcut
          clear hin
          go_upto_region 8 with fail
          go_cut [110] from 78 to 109 (fun s wx => s = .bool false ∧ Hid (Below wc.heap.size wc wx))
          case first =>
            obtain ⟨RD0, RD1, RD2, RD3, _, _, _, _⟩ := facts4 RD.out
            have RDi := RD.out.inside
            obtain ⟨RP0, RP1, _, _⟩ := facts2 RP.out
            have RPi := RP.out.inside
            go_wp2_with fail
            refine (HH _ (HG.out.below B4.out)).mono ?_
            rintro e w5 ⟨rfl, b9⟩
            have G9 := Lib.hid b9
            clear RD0 RD1 RD2 RD3 RDi RP0 RP1 RPi
            replace RT := Lib.hid (RT.out.below b9 RT.out.inside)
            replace RP := Lib.hid (RP.out.below b9 RP.out.inside)
            replace RQ := Lib.hid (RQ.out.below b9 RQ.out.inside)
            replace RD := Lib.hid (RD.out.below b9 RD.out.inside)
            replace RX := Lib.hid (RX.out.below b9 RX.out.inside)
            replace RY := Lib.hid (RY.out.below b9 RY.out.inside)
            clear b9 hbd hab HH
            obtain ⟨RP0, RP1, _, _⟩ := facts2 RP.out
            have RPi := RP.out.inside
            obtain ⟨RQ0, RQ1, _, _⟩ := facts2 RQ.out
            have RQi := RQ.out.inside
            obtain ⟨RX0, RX1, _, _⟩ := facts2 RX.out
            have RXi := RX.out.inside
            obtain ⟨RY0, RY1, _, _⟩ := facts2 RY.out
            have RYi := RY.out.inside
            have bn := bool_ne V
            go_wp2_with fail
            all_goals
              go_meet
              refine ⟨?_, Lib.hid G9.out⟩
              first
                | rfl
                | exact congrArg Value.bool (decide_eq_false (by omega))
                | exact congrArg Value.bool (by simp only [Bool.or_eq_false_iff, decide_eq_false_iff_not]; omega)
          case rest =>
            obtain ⟨rfl, hb⟩ := hcut
            have B5 := Lib.hid (B4.out.trans (hb.out.mono B4.out.size))
            replace RT := Lib.hid (RT.out.below hb.out RT.out.inside)
            replace RP := Lib.hid (RP.out.below hb.out RP.out.inside)
            replace RQ := Lib.hid (RQ.out.below hb.out RQ.out.inside)
            replace RD := Lib.hid (RD.out.below hb.out RD.out.inside)
            replace RX := Lib.hid (RX.out.below hb.out RX.out.inside)
            replace RY := Lib.hid (RY.out.below hb.out RY.out.inside)
            clear hb B4 RD RY RQ HH hmx hmy
            by_cases h0 : t.z = 0
            case pos =>
              have hu : upR t = (zT, 11) := by unfold upR; rw [if_pos ht, if_pos h0]
              have H0 := Lib.hid h0
              clear h0 hab
              obtain ⟨RT0, RT1, RT2, _, _, _⟩ := facts3 RT.out
              have RTi := RT.out.inside
              go_wp2_with fail
              refine (up_to t hu _ (HG.out.below B5.out)).mono ?_
              rintro e w6 ⟨rfl, b6⟩
              have B6 := Lib.hid (B5.out.trans (b6.mono B5.out.size))
              clear RT0 RT1 RT2 RTi
              replace RT := Lib.hid (RT.out.below b6 RT.out.inside)
              replace RP := Lib.hid (RP.out.below b6 RP.out.inside)
              replace RX := Lib.hid (RX.out.below b6 RX.out.inside)
              clear b6 B5
              obtain ⟨RT0, RT1, RT2, _, _, _⟩ := facts3 RT.out
              have RTi := RT.out.inside
              rw [H0.out] at RT0
              go_wp2
              go_ret
              exact ⟨rfl, B6.out.alloc B6.out.size _⟩
            case neg =>
              have hu : upR t = (upN t, 0) := by unfold upR; rw [if_pos ht, if_neg h0]
              have hz : pixR (upN t) p = (pixN (upN t) p, 0) := by unfold pixR; rw [if_pos (up_ok ht h0), if_pos hnp]
              have hab := hab h0
              rw [hab] at hz
              generalize upN t = U at *
              obtain ⟨RT0, RT1, RT2, _, _, _⟩ := facts3 RT.out
              have RTi := RT.out.inside
              go_wp2_with fail
              refine (up_to t hu _ (HG.out.below B5.out)).mono ?_
              rintro e w6 ⟨rfl, b6⟩
              have B6 := Lib.hid (B5.out.trans (b6.mono B5.out.size))
              clear RT0 RT1 RT2 RTi
              replace RT := Lib.hid (RT.out.below b6 RT.out.inside)
              replace RP := Lib.hid (RP.out.below b6 RP.out.inside)
              replace RX := Lib.hid (RX.out.below b6 RX.out.inside)
              clear b6 B5
              obtain ⟨RP0, RP1, _, _⟩ := facts2 RP.out
              have RPi := RP.out.inside
              go_wp2_with fail
              obtain ⟨v6, hv, V, L, R⟩ := made w 25 #[.int .i64 U.z, .int .i64 U.x, .int .i64 U.y] B6.out B6.out.size
              rw [hv]
              clear RP0 RP1 RPi
              replace RT := Lib.hid (RT.out.below L.out RT.out.inside)
              replace RP := Lib.hid (RP.out.below L.out RP.out.inside)
              replace RX := Lib.hid (RX.out.below L.out RX.out.inside)
              obtain ⟨gRU, hg⟩ : ∃ g, w6.heap.size = g := ⟨_, rfl⟩
              rw [hg] at R ⊢
              have RU := R
              clear hv L hg B6 R
              have B6 := V
              clear V
              refine (pixel_to U p hz _ (HG.out.below B6.out)).mono ?_
              rintro e w7 ⟨rfl, b7⟩
              have B7 := Lib.hid (B6.out.trans (b7.mono B6.out.size))
              replace RT := Lib.hid (RT.out.below b7 RT.out.inside)
              replace RP := Lib.hid (RP.out.below b7 RP.out.inside)
              replace RX := Lib.hid (RX.out.below b7 RX.out.inside)
              replace RU := Lib.hid (RU.out.below b7 RU.out.inside)
              clear b7 B6
              have x0 := ht.2.1
              have y0 := ht.2.2.2.1
              have m1 : t.x.tmod 2 = t.x % 2 := Int.tmod_eq_emod_of_nonneg x0
              have m2 : t.y.tmod 2 = t.y % 2 := Int.tmod_eq_emod_of_nonneg y0
              have a1 : 0 ≤ t.x % 2 ∧ t.x % 2 ≤ 1 := by omega
              have a2 : 0 ≤ t.y % 2 ∧ t.y % 2 ≤ 1 := by omega
              clear hz hu ht hnp hnq hab h0
              generalize t.x % 2 = k1 at *
              generalize t.y % 2 = k2 at *
              have w1 : IntKind.i64.wrap (256 * k1) = 256 * k1 := IntWalk.i64_in _ (by omega)
              have w2 : IntKind.i64.wrap (256 * k2) = 256 * k2 := IntWalk.i64_in _ (by omega)
              have w3 : IntKind.i64.wrap (X.x + 256 * k1) = X.x + 256 * k1 := IntWalk.i64_in _ (by omega)
              have w4 : IntKind.i64.wrap (X.y + 256 * k2) = X.y + 256 * k2 := IntWalk.i64_in _ (by omega)
              have C1 := fun W => half_any (X.x + 256 * k1) W
              have C2 := fun W => half_any (X.y + 256 * k2) W
              obtain ⟨Zx, hzx⟩ : ∃ Z, (X.x + 256 * k1) / 2 = Z := ⟨_, rfl⟩
              obtain ⟨Zy, hzy⟩ : ∃ Z, (X.y + 256 * k2) / 2 = Z := ⟨_, rfl⟩
              rw [hzx] at C1
              rw [hzy] at C2
              rw [hzx, hzy]
              clear hzx hzy
              go_upto_region 14 with fail
              obtain ⟨v7, hv, V, L, R⟩ := made w 23 #[.int .i64 Zx, .int .i64 Zy] B7.out B7.out.size
              rw [hv]
              replace RT := Lib.hid (RT.out.below L.out RT.out.inside)
              replace RP := Lib.hid (RP.out.below L.out RP.out.inside)
              replace RX := Lib.hid (RX.out.below L.out RX.out.inside)
              replace RU := Lib.hid (RU.out.below L.out RU.out.inside)
              obtain ⟨gRZ, hg⟩ : ∃ g, w7.heap.size = g := ⟨_, rfl⟩
              rw [hg] at R ⊢
              have RZ := R
              clear hv L hg B7 R
              have B7 := V
              clear V
              obtain ⟨RZ0, RZ1, _, _⟩ := facts2 RZ.out
              have RZi := RZ.out.inside
              obtain ⟨RX0, RX1, _, _⟩ := facts2 RX.out
              have RXi := RX.out.inside
              obtain ⟨RT0, RT1, RT2, _, _, _⟩ := facts3 RT.out
              have RTi := RT.out.inside
              refine wp_region_still_lit (by kernel_rfl) (by kernel_rfl) ?_
              repeat still_step
              still_call (C1 _)
              repeat still_step
              still_call (C2 _)
              repeat still_step
              refine wpStill_nil ?_
              go_wp2
              go_ret
              exact ⟨rfl, B7.out.drew⟩
end Go.Proofs.YtenacgeahaoglaaDoor.Gd
