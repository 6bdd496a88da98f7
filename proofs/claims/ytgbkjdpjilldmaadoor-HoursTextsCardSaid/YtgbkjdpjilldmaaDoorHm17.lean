/- Merged: HrClock, HrDay, HrDays. -/
import Derived.Test.YtgbkjdpjilldmaaDoorHm15
/- hours: reader.clock. -/
namespace Go.Proofs.YtgbkjdpjilldmaaDoor.Hr
open Go.RowKit Go.Sort Go.Shelf
open Lx (IsRow alloc1 drew_below Tk B Toks vTok set3 below3 facts3 infoTok str_size str_eq results_rowU)
open St (Sp encS encS_len encS_one)
/-- number, with the token spelt out. -/
theorem num_any' (g b e : Nat) (ts : List Tk) (L : List Sp) (w : World) (h : Rh w g b e ts L) :
    Calls Tryd.prog 86 #[.pointer (some ⟨g, 0, none⟩)] w (RdP b w (numR e ts) (fun r x w' => x = .returned (.tuple #[.agg #[.int .i64 r.1.k, .string ⟨r.1.t.toArray⟩, .int .i64 (r.1.a : Int)], .int .i64 (valN r.1.t : Int)]) ∧ Rh w' g b e r.2 L ∧ Dg r.1.t)) := num_any g b e ts L w h
set_option maxRecDepth 100000 in
set_option maxHeartbeats 2000000 in
theorem clock_any (g b e most : Nat) (ts : List Tk) (L : List Sp) (w : World) (h : Rh w g b e ts L) (hmost : most ≤ 24) :
    Calls Tryd.prog 75 #[.pointer (some ⟨g, 0, none⟩), .int .i64 most] w (RdP b w (clockR most e ts) (fun r x w' => x = .returned (.tuple #[.int .i64 (r.1.1 : Int), .int .i64 (r.1.2 : Int)]) ∧ Rh w' g b e r.2 L)) := by
  have KN := Lib.hid (num_any' g b e ts L w h)
  have hb0 := Lib.hid h.inside
  obtain ⟨R, hR⟩ : ∃ R, clockR most e ts = R := ⟨_, rfl⟩
  rw [hR]
  unfold clockR at hR
  cases hN : numR e ts with
  | error f =>
    rw [hN] at KN hR
    have HR := Lib.hid (show R = .error f from hR.symm)
    clear hR hN h
    go_enter Tryd.func75, Tryd.ntmps75
    go_wp2_with fail
    refine KN.out.mono ?_
    rintro x w2 ⟨rfl, k2⟩
    exact ⟨rfl, RdP.no HR.out rfl k2⟩
  | ok r1 =>
  obtain ⟨⟨hk, ht, ha⟩, ts1⟩ := r1
  rw [hN] at KN hR
  dsimp only at hR
  clear hN h
  go_enter Tryd.func75, Tryd.ntmps75
  go_wp2_with fail
  refine KN.out.mono ?_
  rintro x w2 ⟨⟨rfl, h2, dg2⟩, k2⟩
  dsimp only at h2 dg2
  have HD := Lib.hid dg2
  obtain ⟨v, hv⟩ : ∃ v, valN ht = v := ⟨_, rfl⟩
  have hv1 : v ≤ 9999999 := by rw [← hv]; exact dg2.2.2
  rw [hv] at hR
  simp only [hv]
  have b3 := alloc1 w2 (.cells #[.int .i64 hk, .string ⟨ht.toArray⟩, .int .i64 (ha : Int)] 47)
  have r3 := IsRow.made w2 47 #[.int .i64 hk, .string ⟨ht.toArray⟩, .int .i64 (ha : Int)]
  have H3 := Lib.hid (h2.later b3)
  have K3 := Lib.hid (k2.trans (Kf.of_below b3 h2.inside))
  clear KN h2 k2 dg2 hv
  go_upto_region 2 with fail
  obtain ⟨w3, hw3⟩ : ∃ w3, w2.alloc (.cells #[.int .i64 hk, .string ⟨ht.toArray⟩, .int .i64 (ha : Int)] 47) = w3 := ⟨_, rfl⟩
  rw [hw3] at H3 K3 r3 ⊢
  obtain ⟨y0, y1, y2, _, _, _⟩ := facts3 r3
  obtain ⟨g3, hg3⟩ : ∃ g3, w2.heap.size = g3 := ⟨_, rfl⟩
  rw [hg3] at r3 y0 y1 y2 ⊢
  have R3 := Lib.hid r3
  clear b3 hw3 r3 hg3
  by_cases c1 : most < v
  · rw [if_pos c1] at hR
    have HR := Lib.hid hR.symm
    have c2 : (most : Int) < (v : Int) := by omega
    clear hR
    go_wp2
    exact ⟨rfl, RdP.no HR.out rfl K3.out⟩
  rw [if_neg c1] at hR
  have c2 : ¬ (most : Int) < (v : Int) := by omega
  have hv24 : v ≤ 24 := by omega
  have KS := Lib.hid (sym_any g b e [58] ts1 L w3 H3.out)
  cases hS : symR [58] e ts1 with
  | error f =>
    rw [hS] at KS hR
    have HR := Lib.hid (show R = .error f from hR.symm)
    clear hR hS
    go_wp2_with fail
    refine KS.out.mono ?_
    rintro x w4 ⟨rfl, k4⟩
    exact ⟨rfl, RdP.no HR.out rfl (K3.out.trans k4)⟩
  | ok ts2 =>
  rw [hS] at KS hR
  dsimp only at hR
  clear hS
  go_wp2_with fail
  refine KS.out.mono ?_
  rintro x w4 ⟨⟨rfl, h4⟩, k4⟩
  have R4 := Lib.hid (k4.2 _ _ _ (by decide) (by decide) R3.out)
  have K4 := Lib.hid (K3.out.trans k4)
  have KN := Lib.hid (num_any' g b e ts2 L w4 h4)
  clear KS K3 H3 h4 k4 y0 y1 y2 R3 c1 c2
  cases hN : numR e ts2 with
  | error f =>
    rw [hN] at KN hR
    have HR := Lib.hid (show R = .error f from hR.symm)
    clear hR hN
    go_wp2_with fail
    refine KN.out.mono ?_
    rintro x w5 ⟨rfl, k5⟩
    exact ⟨rfl, RdP.no HR.out rfl (K4.out.trans k5)⟩
  | ok r1 =>
  obtain ⟨⟨mk, mt, ma⟩, ts3⟩ := r1
  rw [hN] at KN hR
  dsimp only at hR
  clear hN
  go_wp2_with fail
  refine KN.out.mono ?_
  rintro x w5 ⟨⟨rfl, h5, dg5⟩, k5⟩
  dsimp only at h5 dg5
  obtain ⟨u, hu⟩ : ∃ u, valN mt = u := ⟨_, rfl⟩
  have hu1 : u ≤ 9999999 := by rw [← hu]; exact dg5.2.2
  rw [hu] at hR
  simp only [hu]
  have b6 := alloc1 w5 (.cells #[.int .i64 mk, .string ⟨mt.toArray⟩, .int .i64 (ma : Int)] 47)
  have r6 := IsRow.made w5 47 #[.int .i64 mk, .string ⟨mt.toArray⟩, .int .i64 (ma : Int)]
  have H6 := Lib.hid (h5.later b6)
  have R5 := k5.2 _ _ _ (by decide) (by decide) R4.out
  have R6 := Lib.hid (R5.below b6 R5.inside)
  have K6 := Lib.hid ((K4.out.trans k5).trans (Kf.of_below b6 h5.inside))
  clear KN h5 k5 dg5 hu R5 R4 K4
  go_upto_region 6 with fail
  obtain ⟨w6, hw6⟩ : ∃ w6, w5.alloc (.cells #[.int .i64 mk, .string ⟨mt.toArray⟩, .int .i64 (ma : Int)] 47) = w6 := ⟨_, rfl⟩
  rw [hw6] at H6 K6 R6 r6 ⊢
  obtain ⟨g6, hg6⟩ : ∃ g6, w5.heap.size = g6 := ⟨_, rfl⟩
  rw [hg6] at r6 ⊢
  obtain ⟨y0, y1, y2, _, _, _⟩ := facts3 r6
  obtain ⟨x0, x1, x2, _, _, _⟩ := facts3 R6.out
  clear b6 hw6 r6 hg6
  have HSZ := Lib.hid (str_size mt)
  generalize hbm : ByteArray.mk mt.toArray = bm at *
  have e2 : bm.size = mt.length := HSZ.out
  by_cases d1 : mt.length = 2
  rotate_left
  · rw [if_pos (Or.inl d1)] at hR
    have HR := Lib.hid hR.symm
    have d2 : ((bm.size : Int) == 2) = false := by rw [beq_eq_false_iff_ne]; omega
    have d3 : (bm.size == 2) = false := by rw [beq_eq_false_iff_ne]; omega
    clear hR
    go_wp2
    exact ⟨rfl, RdP.no HR.out rfl K6.out⟩
  have d2 : ((bm.size : Int) == 2) = true := by rw [beq_iff_eq]; omega
  have d3 : bm.size = 2 := by omega
  by_cases d4 : 60 ≤ u
  · rw [if_pos (Or.inr (Or.inl d4))] at hR
    have HR := Lib.hid hR.symm
    have d5 : (60 : Int) ≤ (u : Int) := by omega
    clear hR
    go_wp2
    exact ⟨rfl, RdP.no HR.out rfl K6.out⟩
  have d5 : ¬ (60 : Int) ≤ (u : Int) := by omega
  by_cases d6 : v = 24 ∧ 0 < u
  · rw [if_pos (Or.inr (Or.inr d6))] at hR
    have HR := Lib.hid hR.symm
    obtain ⟨rfl, d7⟩ := d6
    have d8 : (0 : Int) < (u : Int) := by omega
    clear hR
    go_wp2
    exact ⟨rfl, RdP.no HR.out rfl K6.out⟩
  rw [if_neg (by rintro (q | q | q); exact q d1; exact d4 q; exact d6 q)] at hR
  have HR := Lib.hid hR.symm
  have e1 : ((v * 60 + u : Nat) : Int) = (v : Int) * 60 + (u : Int) := by omega
  have E1 := Lib.hid e1
  have FINW := Lib.hid (fun j => (show Rh (w6.drewN j) g b e ts3 L ∧ Kf b w (w6.drewN j) from by
    have bb : Below w6.heap.size w6 (w6.drewN j) := ⟨rfl, rfl, rfl, Nat.le_refl _, fun _ _ => rfl⟩
    exact ⟨H6.out.later bb, K6.out.trans (Kf.of_below bb H6.out.inside)⟩))
  clear hR e1
  by_cases d7 : v = 24
  · have d8 : ¬ 0 < u := fun q => d6 ⟨d7, q⟩
    obtain rfl : u = 0 := by omega
    subst d7
    clear d6 d8
    go_upto_region 8 with fail
    go_quiet (fail)
    go_wp2
    go_ret2
    exact RdP.yes HR.out ⟨rfl, (FINW.out _).1⟩ (FINW.out _).2
  · have d8 : ((v : Int) == 24) = false := by rw [beq_eq_false_iff_ne]; omega
    have d9 : (v == 24) = false := by rw [beq_eq_false_iff_ne]; omega
    clear d6
    go_upto_region 8 with fail
    go_quiet (fail)
    go_wp2
    go_ret2
    exact RdP.yes HR.out ⟨(congrArg (fun z => Ending.returned (.tuple #[.int .i64 z, .int .i64 (ha : Int)])) E1.out).symm, (FINW.out _).1⟩ (FINW.out _).2
end Go.Proofs.YtgbkjdpjilldmaaDoor.Hr
/- hours: reader.day. -/
namespace Go.Proofs.YtgbkjdpjilldmaaDoor.Hr
open Go.RowKit Go.Sort Go.Shelf
open Lx (IsRow alloc1 drew_below Tk B Toks vTok set3 below3 facts3 infoTok str_size str_eq results_rowU)
open St (Sp encS encS_len encS_one)
/-- the names of the days lie as they were laid, ahead of b. -/
def Dn (b : Nat) (w : World) : Prop := 0 < b ∧ ∀ i, i < 7 → w.cell? ⟨0, i, none⟩ = some (.string ⟨(dayB i).toArray⟩)
theorem Dn.below {b : Nat} {w w' : World} (h : Dn b w) (hb : Below b w w') : Dn b w' := ⟨h.1, fun i hi => (hb.cell (p := ⟨_, i, none⟩) h.1).trans (h.2 i hi)⟩
theorem dayAt_step (k : Nat) (hk : k < 7) (ts : List Tk) : dayAt k (7 - k) ts = match acc 1 (dayB k) ts with | some r => some (k, r) | none => dayAt (k + 1) (7 - (k + 1)) ts := by
  obtain ⟨f, hf⟩ : ∃ f, 7 - k = f + 1 := ⟨6 - k, by omega⟩
  rw [hf, dayAt, show 7 - (k + 1) = f by omega]
  cases acc 1 (dayB k) ts <;> rfl
theorem day_ix0 (w : World) : (Instr.index 53 (.agg #[.string ⟨#[109, 111]⟩, .string ⟨#[116, 117]⟩, .string ⟨#[119, 101]⟩, .string ⟨#[116, 104]⟩, .string ⟨#[102, 114]⟩, .string ⟨#[115, 97]⟩, .string ⟨#[115, 117]⟩]) (.int .i64 (0 : Int))).run Tryd.prog w = .ok (.string ⟨(dayB 0).toArray⟩) w := by kernel_rfl
theorem day_ix1 (w : World) : (Instr.index 53 (.agg #[.string ⟨#[109, 111]⟩, .string ⟨#[116, 117]⟩, .string ⟨#[119, 101]⟩, .string ⟨#[116, 104]⟩, .string ⟨#[102, 114]⟩, .string ⟨#[115, 97]⟩, .string ⟨#[115, 117]⟩]) (.int .i64 (1 : Int))).run Tryd.prog w = .ok (.string ⟨(dayB 1).toArray⟩) w := by kernel_rfl
theorem day_ix2 (w : World) : (Instr.index 53 (.agg #[.string ⟨#[109, 111]⟩, .string ⟨#[116, 117]⟩, .string ⟨#[119, 101]⟩, .string ⟨#[116, 104]⟩, .string ⟨#[102, 114]⟩, .string ⟨#[115, 97]⟩, .string ⟨#[115, 117]⟩]) (.int .i64 (2 : Int))).run Tryd.prog w = .ok (.string ⟨(dayB 2).toArray⟩) w := by kernel_rfl
theorem day_ix3 (w : World) : (Instr.index 53 (.agg #[.string ⟨#[109, 111]⟩, .string ⟨#[116, 117]⟩, .string ⟨#[119, 101]⟩, .string ⟨#[116, 104]⟩, .string ⟨#[102, 114]⟩, .string ⟨#[115, 97]⟩, .string ⟨#[115, 117]⟩]) (.int .i64 (3 : Int))).run Tryd.prog w = .ok (.string ⟨(dayB 3).toArray⟩) w := by kernel_rfl
theorem day_ix4 (w : World) : (Instr.index 53 (.agg #[.string ⟨#[109, 111]⟩, .string ⟨#[116, 117]⟩, .string ⟨#[119, 101]⟩, .string ⟨#[116, 104]⟩, .string ⟨#[102, 114]⟩, .string ⟨#[115, 97]⟩, .string ⟨#[115, 117]⟩]) (.int .i64 (4 : Int))).run Tryd.prog w = .ok (.string ⟨(dayB 4).toArray⟩) w := by kernel_rfl
theorem day_ix5 (w : World) : (Instr.index 53 (.agg #[.string ⟨#[109, 111]⟩, .string ⟨#[116, 117]⟩, .string ⟨#[119, 101]⟩, .string ⟨#[116, 104]⟩, .string ⟨#[102, 114]⟩, .string ⟨#[115, 97]⟩, .string ⟨#[115, 117]⟩]) (.int .i64 (5 : Int))).run Tryd.prog w = .ok (.string ⟨(dayB 5).toArray⟩) w := by kernel_rfl
theorem day_ix6 (w : World) : (Instr.index 53 (.agg #[.string ⟨#[109, 111]⟩, .string ⟨#[116, 117]⟩, .string ⟨#[119, 101]⟩, .string ⟨#[116, 104]⟩, .string ⟨#[102, 114]⟩, .string ⟨#[115, 97]⟩, .string ⟨#[115, 117]⟩]) (.int .i64 (6 : Int))).run Tryd.prog w = .ok (.string ⟨(dayB 6).toArray⟩) w := by kernel_rfl
theorem day_ix (k : Nat) (hk : k < 7) (w : World) : (Instr.index 53 (.agg #[.string ⟨#[109, 111]⟩, .string ⟨#[116, 117]⟩, .string ⟨#[119, 101]⟩, .string ⟨#[116, 104]⟩, .string ⟨#[102, 114]⟩, .string ⟨#[115, 97]⟩, .string ⟨#[115, 117]⟩]) (.int .i64 (k : Int))).run Tryd.prog w = .ok (.string ⟨(dayB k).toArray⟩) w := by
  match k, hk with
  | 0, _ => exact day_ix0 w
  | 1, _ => exact day_ix1 w
  | 2, _ => exact day_ix2 w
  | 3, _ => exact day_ix3 w
  | 4, _ => exact day_ix4 w
  | 5, _ => exact day_ix5 w
  | 6, _ => exact day_ix6 w
set_option maxRecDepth 100000 in
set_option maxHeartbeats 4000000 in
theorem day_any (g b e : Nat) (ts : List Tk) (L : List Sp) (w : World) (h : Rh w g b e ts L) (hd : Dn b w) :
    Calls Tryd.prog 74 #[.pointer (some ⟨g, 0, none⟩)] w (RdP b w (dayR e ts) (fun r x w' => x = .returned (.int .i64 (r.1 : Int)) ∧ Rh w' g b e r.2 L)) := by
  obtain ⟨R, hR⟩ : ∃ R, dayR e ts = R := ⟨_, rfl⟩
  rw [hR]
  unfold dayR at hR
  have HR := Lib.hid hR
  have H := Lib.hid h
  have HD := Lib.hid hd
  have n0 := hd.2 0 (by omega)
  have n1 := hd.2 1 (by omega)
  have n2 := hd.2 2 (by omega)
  have n3 := hd.2 3 (by omega)
  have n4 := hd.2 4 (by omega)
  have n5 := hd.2 5 (by omega)
  have n6 := hd.2 6 (by omega)
  simp only [dayB] at n0 n1 n2 n3 n4 n5 n6
  clear h hd hR
  go_enter Tryd.func74, Tryd.ntmps74
  go_wp2
  go_loopw [6] (fun i wr => ∃ k : Nat, k ≤ 7 ∧ i = .int .i64 k ∧ Hid (dayAt k (7 - k) ts = dayAt 0 7 ts) ∧ Hid (Rh wr g b e ts L) ∧ Hid (Kf b w wr)) (fun i _ => 7 - (Lx.intOf i).toNat)
  case atStart => exact ⟨0, by omega, rfl, Lib.hid rfl, H, Lib.hid (Kf.refl _ _)⟩
  case round =>
    obtain ⟨k, hk, rfl, HC, HH, HK⟩ := hrel
    by_cases hlt : k < 7
    · have AC := Lib.hid (acc_any g b e 1 (dayB k) ts L wr HH.out (by decide))
      have ST := Lib.hid (dayAt_step k hlt ts)
      have hlt2 : (k : Int) < 7 := by omega
      cases ho : acc 1 (dayB k) ts with
      | some r =>
        rw [ho] at AC ST
        have HE := Lib.hid (show R = .ok (k, r) from by rw [← HR.out, ← HC.out, ST.out])
        clear ho ST HC n0 n1 n2 n3 n4 n5 n6
        have hix := fun w => day_ix k hlt w
        all_goals
          go_wp2_with fail
          refine AC.out.mono ?_
          rintro x w2 ⟨rfl, h2, k2⟩
          have H2 := Lib.hid h2
          have K2 := Lib.hid (HK.out.trans k2)
          clear h2 k2
          go_wp2
          go_ret
          exact RdP.yes HE.out ⟨rfl, H2.out⟩ K2.out
      | none =>
        rw [ho] at AC ST
        have HE := Lib.hid (show dayAt (k + 1) (7 - (k + 1)) ts = dayAt 0 7 ts from by rw [← HC.out, ST.out])
        clear ho ST HC n0 n1 n2 n3 n4 n5 n6
        have hix := fun w => day_ix k hlt w
        all_goals
          go_wp2_with fail
          refine AC.out.mono ?_
          rintro x w2 ⟨rfl, h2, k2⟩
          have H2 := Lib.hid h2
          have K2 := Lib.hid (HK.out.trans k2)
          clear h2 k2
          go_wp2
          go_roundw
          case rel => exact ⟨_, by omega, by go_num, HE, H2, K2⟩
          case measure => simp [Lx.intOf]; omega
    · obtain rfl : k = 7 := by omega
      have HE := Lib.hid (show R = .error (unexp e ts) from by rw [← HR.out, ← HC.out]; rfl)
      have UN := Lib.hid (unexp_rh HH.out)
      have hz := Lib.hid HH.out.inside
      clear HC
      go_wp2_with fail
      refine UN.out.mono ?_
      rintro x w3 ⟨rfl, b3⟩
      have K3 := Lib.hid (HK.out.trans (Kf.of_below b3 hz.out))
      clear b3 UN
      go_wp2
      exact ⟨rfl, RdP.no HE.out rfl K3.out⟩
end Go.Proofs.YtgbkjdpjilldmaaDoor.Hr
/- hours: slices of days; reader.days. -/
namespace Go.Proofs.YtgbkjdpjilldmaaDoor.Hr
open Go.RowKit Go.Sort Go.Shelf
open Lx (IsRow alloc1 drew_below Tk B Toks vTok set3 below3 facts3 infoTok str_size str_eq results_rowU)
open St (Sp encS encS_len encS_one)
def flatD (l : List Nat) : List Value := l.map fun (d : Nat) => Value.int .i64 (d : Int)
theorem flatD_len (l : List Nat) : (flatD l).length = l.length := by simp [flatD]
/-- a slice of days of one's own. -/
def OwnD (w : World) (base : Nat) (v : Value) (l : List Nat) : Prop := w.ownsRow base 3 1 v l.length (flatD l)
theorem int_info : (Tryd.prog.info? 3).map (fun i => (i.size, i.bytes, i.zero)) = some (1, 8, some (.int .i64 0)) := by kernel_rfl
theorem OwnD.keep {w w' : World} {b : Nat} {v : Value} {l : List Nat} (h : OwnD w b v l) (k : Kf b w w') : OwnD w' b v l := by
  obtain ⟨h1, ⟨hv, h2⟩ | ⟨g', cap', cur, hv, hbase, hb, hc1, hc2, hc3, ht⟩⟩ := h
  · exact ⟨h1, .inl ⟨hv, h2⟩⟩
  · exact ⟨h1, .inr ⟨g', cap', cur, hv, hbase, k.2 g' 3 cur (by decide) (by decide) hb, hc1, hc2, hc3, ht⟩⟩
theorem OwnD.base_le {w : World} {b b' : Nat} {v : Value} {l : List Nat} (h : OwnD w b v l) (hb : b' ≤ b) : OwnD w b' v l := by
  obtain ⟨h1, ⟨hv, h2⟩ | ⟨g', cap', cur, hv, hbase, h3⟩⟩ := h
  · exact ⟨h1, .inl ⟨hv, h2⟩⟩
  · exact ⟨h1, .inr ⟨g', cap', cur, hv, Nat.le_trans hb hbase, h3⟩⟩
theorem OwnD.made (w : World) (base : Nat) (hb : base ≤ w.heap.size) (d : Nat) : OwnD (w.alloc (.cells #[.int .i64 (d : Int)] 3)) base (.slice (some ⟨w.heap.size, 0, none⟩) 1 1) [d] :=
  ⟨rfl, .inr ⟨w.heap.size, 1, #[.int .i64 (d : Int)], rfl, hb, by unfold World.alloc; simp, Nat.le_refl _, by unfold maxLen; omega, rfl, rfl⟩⟩
theorem OwnD.below {w w' : World} {b : Nat} {v : Value} {l : List Nat} (h : OwnD w b v l) (hb : Below w.heap.size w w') : OwnD w' b v l := by
  refine World.ownsRow.kept h (row := none) ⟨hb.os, hb.tape, hb.output, hb.size, fun k hk _ => hb.block k hk⟩ ?_
  cases e : v.ownBlock with
  | none => exact .inl rfl
  | some k => exact .inr (by simp)
theorem OwnD.cell {w : World} {b : Nat} {v : Value} {l : List Nat} (h : OwnD w b v l) : ∃ ao c, v = .slice ao l.length c ∧ l.length ≤ c ∧ ∀ k (hk : k < l.length), ∃ g, ao = some ⟨g, 0, none⟩ ∧ w.cell? ⟨g, k, none⟩ = some (.int .i64 (l[k] : Int)) := by
  obtain ⟨h1, ⟨hv, h2⟩ | ⟨g', cap', cur, hv, hbase, hb, hc1, hc2, hc3, ht⟩⟩ := h
  · exact ⟨none, 0, by rw [hv, h2], by omega, fun k hk => by omega⟩
  · refine ⟨_, cap', hv, hc1, fun k hk => ⟨g', rfl, ?_⟩⟩
    have r : IsRow w g' 3 cur := hb
    rw [r.get k]
    have e : (List.take (l.length * 1) cur.toList)[k]? = (flatD l)[k]? := by rw [ht]
    rw [List.getElem?_take_of_lt (by omega), Array.getElem?_toList] at e
    rw [e]
    simp [flatD, hk]
section
variable {ops : Array Oper} {rest : List Oper} {o : Oper} {a : Act} {Q : Exit → Act → World → Prop} {w : World}
theorem wpList_appD (hgd : o.guard = none) (s x : Operand) (ho : o.op = .call { callee := .builtin .append, args := #[s, x], argTypes := #[108, 108] }) (base : Nat) (v : Value) (l : List Nat) (d : Nat) (b c : Nat)
    (hs : a.eval s = v) (hown : OwnD w base v l) (hx : a.eval x = .slice (some ⟨b, 0, none⟩) 1 c) (hp : w.cell? ⟨b, 0, none⟩ = some (.int .i64 (d : Int))) (hlen : l.length ≤ 1000) (hbase : base ≤ w.heap.size)
    (h : ∀ v' w', OwnD w' base v' (l ++ [d]) → w.grownBy w' v.ownBlock → (∀ k, v.ownBlock = some k → base ≤ k ∧ k < w.heap.size) → wpList Tryd.prog ops Q rest (a.put o.dst v') w') : wpList Tryd.prog ops Q (o :: rest) a w := by
  obtain ⟨i0, hi, hz0, hz1, hz2⟩ := info_of int_info
  refine wpList_append_lies w hgd s x _ ho base 3 i0 _ 1 8 Tryd.underlying108 hi hz2 hz0 hz1 (by decide) (by decide) v l.length (flatD l) hs hown ⟨b, 0, none⟩ 1 c [.int .i64 (d : Int)] hx (by simp) (fun j u hj => by
    match j, hj with
    | 0, hj =>
      simp at hj
      subst hj
      have e : (⟨b, 0, none⟩ : Addr).add 0 = ⟨b, 0, none⟩ := by unfold Addr.add; split <;> simp_all
      rw [e]
      exact hp) (fun u hu => by simp at hu; subst hu; rfl) (by decide) (by unfold maxLen; omega) (by omega) hbase _ rfl ?_
  intro g cap w' h1 h2 _ _
  refine h _ w' ?_ h2 (World.ownsRow.lt hown)
  show World.ownsRow _ _ _ _ _ (l ++ [d]).length (flatD (l ++ [d]))
  rw [List.length_append, show flatD (l ++ [d]) = flatD l ++ [.int .i64 (d : Int)] by simp [flatD]]
  exact h1
end
theorem dayAt_lt : ∀ (f d : Nat) (ts r : List Tk) (k : Nat), dayAt d f ts = some (k, r) → k < d + f
  | 0, d, ts, r, k, h => by rw [dayAt] at h; cases h
  | f + 1, d, ts, r, k, h => by
    rw [dayAt] at h
    split at h
    · injection h with h
      injection h with h _
      omega
    · have := dayAt_lt f (d + 1) ts r k h
      omega
theorem dayR_lt {e d : Nat} {ts r : List Tk} (h : dayR e ts = .ok (d, r)) : d < 7 := by
  unfold dayR at h
  split at h
  · rename_i r2 h2
    injection h with h
    subst h
    have := dayAt_lt 7 0 ts r d h2
    omega
  · cases h
theorem daysTo_end (f d : Nat) : daysTo f d d = [d] := by
  cases f with
  | zero => rfl
  | succ f => rw [daysTo, if_pos rfl]
set_option maxRecDepth 100000 in
set_option maxHeartbeats 2000000 in
theorem days_any (g b e : Nat) (ts : List Tk) (L : List Sp) (w : World) (h : Rh w g b e ts L) (hd : Dn b w) :
    Calls Tryd.prog 63 #[.pointer (some ⟨g, 0, none⟩)] w (RdP b w (daysR e ts) (fun r x w' => (∃ v, x = .returned v ∧ OwnD w' b v r.1) ∧ Rh w' g b e r.2 L)) := by
  have KD := Lib.hid (day_any g b e ts L w h hd)
  obtain ⟨R, hR⟩ : ∃ R, daysR e ts = R := ⟨_, rfl⟩
  rw [hR]
  unfold daysR at hR
  have HDN := Lib.hid hd
  clear hd
  cases hN : dayR e ts with
  | error f =>
    rw [hN] at KD hR
    have HR := Lib.hid (show R = .error f from hR.symm)
    clear hR hN h
    go_enter Tryd.func63, Tryd.ntmps63
    go_wp2_with fail
    refine KD.out.mono ?_
    rintro x w2 ⟨rfl, k2⟩
    exact ⟨rfl, RdP.no HR.out rfl k2⟩
  | ok r1 =>
  obtain ⟨d, ts1⟩ := r1
  have hd7 := dayR_lt hN
  rw [hN] at KD hR
  dsimp only at hR
  clear hN h
  go_enter Tryd.func63, Tryd.ntmps63
  go_wp2_with fail
  refine KD.out.mono ?_
  rintro x w2 ⟨⟨rfl, h2⟩, k2⟩
  dsimp only at h2
  have K2 := Lib.hid k2
  have AC := Lib.hid (acc_any g b e 4 [45] ts1 L w2 h2 (by decide))
  clear h2 k2 KD
  cases hA : acc 4 [45] ts1 with
  | none =>
    rw [hA] at AC hR
    have HR := Lib.hid (show R = .ok ([d], ts1) from hR.symm)
    clear hR hA
    go_wp2_with fail
    refine AC.out.mono ?_
    rintro x w3 ⟨rfl, h3, k3⟩
    have H3 := Lib.hid h3
    have K3 := Lib.hid (K2.out.trans k3)
    clear h3 k3 AC
    have HR := Lib.hid (show R = .ok (daysTo 6 d d, ts1) from by rw [HR.out, daysTo_end])
    go_upto_region 6 with fail
    have hz3 := Lib.hid H3.out.inside
    have O4 := Lib.hid (OwnD.made w3 w3.heap.size (Nat.le_refl _) d)
    have B4 := Lib.hid (alloc1 w3 (.cells #[.int .i64 (d : Int)] 3))
    obtain ⟨w4, hw4⟩ : ∃ w4, w3.alloc (.cells #[.int .i64 (d : Int)] 3) = w4 := ⟨_, rfl⟩
    rw [hw4] at O4 B4 ⊢
    clear hw4
    go_loopw [3, 5] (fun i v wr => ∃ (f k : Nat) (P : List Nat), k < 7 ∧ i = .int .i64 k ∧ P.length + f = 6 ∧ (d + 7 - k) % 7 ≤ f ∧ Hid (P ++ daysTo f k d = daysTo 6 d d) ∧ Hid (OwnD wr w3.heap.size v (P ++ [k])) ∧ Hid (Below w3.heap.size w3 wr)) (fun i _ _ => (d + 7 - (Lx.intOf i).toNat) % 7)
    case atStart => exact ⟨6, d, [], hd7, rfl, rfl, by omega, Lib.hid rfl, O4, B4⟩
    case round =>
      obtain ⟨f, k, P, hk, rfl, hf, hm, HC, HO, HB⟩ := hrel
      by_cases he : k = d
      · have he2 : ((k : Int) == (d : Int)) = true := by rw [beq_iff_eq]; omega
        have he3 : (k == d) = true := by rw [beq_iff_eq]; exact he
        have HE := Lib.hid (show P ++ [k] = daysTo 6 d d from by rw [← HC.out, he, daysTo_end])
        rw [HE.out] at HO
        have FIN := Lib.hid (OwnD.base_le HO.out hz3.out)
        clear HC HO
        go_wp2
        go_ret
        exact RdP.yes HR.out ⟨⟨_, rfl, FIN.out⟩, H3.out.later HB.out⟩ (K3.out.trans (Kf.of_below HB.out hz3.out))
      · have he2 : ((k : Int) == (d : Int)) = false := by rw [beq_eq_false_iff_ne]; omega
        have he3 : (k == d) = false := by rw [beq_eq_false_iff_ne]; exact he
        obtain ⟨k', hk'⟩ : ∃ k', (k + 1) % 7 = k' := ⟨_, rfl⟩
        have hki : ((k : Int) + 1) % 7 = (k' : Int) := by omega
        obtain ⟨f', rfl⟩ : ∃ f', f = f' + 1 := ⟨f - 1, by omega⟩
        have HC2 := Lib.hid (show (P ++ [k]) ++ daysTo f' k' d = daysTo 6 d d from by
          have := HC.out
          rw [daysTo, if_neg he, hk'] at this
          rw [← this]
          simp)
        have b5 := alloc1 wr (.cells #[.int .i64 (k' : Int)] 3)
        have ow := OwnD.below HO.out b5
        have hz5 := Nat.le_trans HB.out.size b5.size
        have hcell := (IsRow.made wr 3 #[.int .i64 (k' : Int)]).get 0
        have hlen : (P ++ [k]).length ≤ 1000 := by simp; omega
        clear HC
        go_upto_region 8 with fail
        rw [hki]
        go_wp2_with (at_builtin; refine wpList_appD rfl _ _ (by rfl) w3.heap.size _ (P ++ [k]) k' wr.heap.size 1 (by rfl) ow (by rfl) hcell hlen hz5 ?_; intro v7 w7 ho7 hg7 hlt7)
        have O7 := Lib.hid ho7
        have B7 := Lib.hid ((HB.out.trans (b5.mono HB.out.size)).grown hg7 hz5 (fun k hk => (hlt7 k hk).1))
        clear ow hz5 hcell hlen ho7 hg7 hlt7 b5
        go_wp2
        go_roundw
        case rel => exact ⟨f', k', P ++ [k], by omega, by go_num, by simp; omega, by omega, HC2, O7, B7⟩
        case measure => simp [Lx.intOf]; omega
  | some ts2 =>
    rw [hA] at AC hR
    dsimp only at hR
    clear hA
    go_wp2_with fail
    refine AC.out.mono ?_
    rintro x w3 ⟨rfl, h3, k3⟩
    have K3 := Lib.hid (K2.out.trans k3)
    have KD := Lib.hid (day_any g b e ts2 L w3 h3 (HDN.out.below K3.out.1))
    clear h3 k3 AC K2
    cases hN : dayR e ts2 with
    | error f =>
      rw [hN] at KD hR
      have HR := Lib.hid (show R = .error f from hR.symm)
      clear hR hN
      go_wp2_with fail
      refine KD.out.mono ?_
      rintro x w4 ⟨rfl, k4⟩
      exact ⟨rfl, RdP.no HR.out rfl (K3.out.trans k4)⟩
    | ok r1 =>
    obtain ⟨l, ts3⟩ := r1
    have hl7 := dayR_lt hN
    rw [hN] at KD hR
    have HR := Lib.hid (show R = .ok (daysTo 6 d l, ts3) from hR.symm)
    clear hN hR
    have K2 := K3
    clear K3
    go_wp2_with fail
    refine KD.out.mono ?_
    rintro x w3 ⟨⟨rfl, h3⟩, k3⟩
    dsimp only at h3
    have H3 := Lib.hid h3
    have K3 := Lib.hid (K2.out.trans k3)
    clear h3 k3 KD K2
    go_upto_region 6 with fail
    have hz3 := Lib.hid H3.out.inside
    have O4 := Lib.hid (OwnD.made w3 w3.heap.size (Nat.le_refl _) d)
    have B4 := Lib.hid (alloc1 w3 (.cells #[.int .i64 (d : Int)] 3))
    obtain ⟨w4, hw4⟩ : ∃ w4, w3.alloc (.cells #[.int .i64 (d : Int)] 3) = w4 := ⟨_, rfl⟩
    rw [hw4] at O4 B4 ⊢
    clear hw4
    go_loopw [3, 5] (fun i v wr => ∃ (f k : Nat) (P : List Nat), k < 7 ∧ i = .int .i64 k ∧ P.length + f = 6 ∧ (l + 7 - k) % 7 ≤ f ∧ Hid (P ++ daysTo f k l = daysTo 6 d l) ∧ Hid (OwnD wr w3.heap.size v (P ++ [k])) ∧ Hid (Below w3.heap.size w3 wr)) (fun i _ _ => (l + 7 - (Lx.intOf i).toNat) % 7)
    case atStart => exact ⟨6, d, [], hd7, rfl, rfl, by omega, Lib.hid rfl, O4, B4⟩
    case round =>
      obtain ⟨f, k, P, hk, rfl, hf, hm, HC, HO, HB⟩ := hrel
      by_cases he : k = l
      · have he2 : ((k : Int) == (l : Int)) = true := by rw [beq_iff_eq]; omega
        have he3 : (k == l) = true := by rw [beq_iff_eq]; exact he
        have HE := Lib.hid (show P ++ [k] = daysTo 6 d l from by rw [← HC.out, he, daysTo_end])
        rw [HE.out] at HO
        have FIN := Lib.hid (OwnD.base_le HO.out hz3.out)
        clear HC HO
        go_wp2
        go_ret
        exact RdP.yes HR.out ⟨⟨_, rfl, FIN.out⟩, H3.out.later HB.out⟩ (K3.out.trans (Kf.of_below HB.out hz3.out))
      · have he2 : ((k : Int) == (l : Int)) = false := by rw [beq_eq_false_iff_ne]; omega
        have he3 : (k == l) = false := by rw [beq_eq_false_iff_ne]; exact he
        obtain ⟨k', hk'⟩ : ∃ k', (k + 1) % 7 = k' := ⟨_, rfl⟩
        have hki : ((k : Int) + 1) % 7 = (k' : Int) := by omega
        obtain ⟨f', rfl⟩ : ∃ f', f = f' + 1 := ⟨f - 1, by omega⟩
        have HC2 := Lib.hid (show (P ++ [k]) ++ daysTo f' k' l = daysTo 6 d l from by
          have := HC.out
          rw [daysTo, if_neg he, hk'] at this
          rw [← this]
          simp)
        have b5 := alloc1 wr (.cells #[.int .i64 (k' : Int)] 3)
        have ow := OwnD.below HO.out b5
        have hz5 := Nat.le_trans HB.out.size b5.size
        have hcell := (IsRow.made wr 3 #[.int .i64 (k' : Int)]).get 0
        have hlen : (P ++ [k]).length ≤ 1000 := by simp; omega
        clear HC
        go_upto_region 8 with fail
        rw [hki]
        go_wp2_with (at_builtin; refine wpList_appD rfl _ _ (by rfl) w3.heap.size _ (P ++ [k]) k' wr.heap.size 1 (by rfl) ow (by rfl) hcell hlen hz5 ?_; intro v7 w7 ho7 hg7 hlt7)
        have O7 := Lib.hid ho7
        have B7 := Lib.hid ((HB.out.trans (b5.mono HB.out.size)).grown hg7 hz5 (fun k hk => (hlt7 k hk).1))
        clear ow hz5 hcell hlen ho7 hg7 hlt7 b5
        go_wp2
        go_roundw
        case rel => exact ⟨f', k', P ++ [k], by omega, by go_num, by simp; omega, by omega, HC2, O7, B7⟩
        case measure => simp [Lx.intOf]; omega
end Go.Proofs.YtgbkjdpjilldmaaDoor.Hr
