/- Merged: HrParts, HrTextR, HrCatch, HrReadW. -/
import Derived.Test.YtgbkjdpjilldmaaGreatDoorHz17
import Derived.Tactics
import Derived.Tactics2
import Derived.Defers
import Derived.Recover
import Derived.Laws.Pointers
/- hours: reader.parts. -/
namespace Go.Proofs.YtgbkjdpjilldmaaGreatDoor.Hr
open Go.RowKit Go.Sort Go.Shelf
open Lx (IsRow alloc1 drew_below Tk B Toks vTok set3 below3 facts3 infoTok str_size str_eq results_rowU)
open St (Sp encS encS_len encS_one)
def lenAt (w : World) (g : Nat) : Nat := match w.cell? ⟨g, 0, none⟩ with | some (.slice _ n _) => n | _ => 0
theorem Rh.len {w : World} {g b e : Nat} {ts : List Tk} {L : List Sp} (h : Rh w g b e ts L) : lenAt w g = ts.length := by
  obtain ⟨h1, ao, n, c, sv, r, hn, _⟩ := h
  unfold lenAt
  rw [r.get 0]
  exact hn.symm
theorem next_rh {g b e : Nat} {ts : List Tk} {L : List Sp} {w : World} (h : Rh w g b e ts L) :
    Calls Tryz.prog 126 #[.pointer (some ⟨g, 0, none⟩)] w fun x w' => x = .returned (.agg #[.int .i64 (nx1 e ts).k, .string ⟨(nx1 e ts).t.toArray⟩, .int .i64 ((nx1 e ts).a : Int)]) ∧ Below w.heap.size w w' := by
  have hz := h.inside
  obtain ⟨h1, ao, n, c, sv, r, hn, hc, ht, ho, _⟩ := h
  obtain ⟨c0, c1, _, f0, _, _⟩ := facts3 r
  exact tnext_any g e n c ts ao w c0 c1 hn (ht.more hz) hc r.inside
theorem partsL_none {e : Nat} {days : List Nat} {L : List Sq} {ts : List Tk} (h : acc 4 [44] ts = none) : ∀ f, partsL e f days L ts = .ok (L, ts)
  | 0 => rfl
  | f + 1 => by rw [partsL, h]
set_option maxRecDepth 100000 in
set_option maxHeartbeats 2000000 in
theorem parts_any (g b e : Nat) (ts : List Tk) (L : List Sp) (w : World) (h : Rh w g b e ts L) (hd : Dn b w) (hL : L.length + 14 * ts.length ≤ 79000) :
    Calls Tryz.prog 94 #[.pointer (some ⟨g, 0, none⟩)] w (RdP b w (partsR e L ts) (fun r x w' => x = .returned (.tuple #[]) ∧ Rh w' g b e r.2 r.1)) := by
  have KD := Lib.hid (days_any g b e ts L w h hd)
  obtain ⟨R, hR⟩ : ∃ R, partsR e L ts = R := ⟨_, rfl⟩
  rw [hR]
  unfold partsR at hR
  have HDN := Lib.hid hd
  clear hd
  cases hN : daysR e ts with
  | error f =>
    rw [hN] at KD hR
    have HR := Lib.hid (show R = .error f from hR.symm)
    clear hR hN h
    go_enter Tryz.func94, Tryz.ntmps94
    go_wp2_with fail
    refine KD.out.mono ?_
    rintro x w2 ⟨rfl, k2⟩
    exact ⟨rfl, RdP.no HR.out rfl k2⟩
  | ok r1 =>
  obtain ⟨d0, ts1⟩ := r1
  obtain ⟨n1, n2, n3⟩ := daysR_ok hN
  rw [hN] at KD hR
  dsimp only at hR
  clear hN h
  go_enter Tryz.func94, Tryz.ntmps94
  go_wp2_with fail
  refine KD.out.mono ?_
  rintro x w2 ⟨⟨⟨dv, rfl, hdv⟩, h2⟩, k2⟩
  dsimp only at h2 hdv
  have K2 := Lib.hid k2
  have HD2 := Lib.hid hdv
  have KT := Lib.hid (time_any g b e ts1 L dv d0 w2 h2 hdv n3 n2 (by omega))
  have D7 := Lib.hid (And.intro n3 n2)
  clear h2 k2 KD hdv
  cases hN : timeR e d0 ts1 with
  | error f =>
    rw [hN] at KT hR
    have HR := Lib.hid (show R = .error f from hR.symm)
    clear hR hN
    go_wp2_with fail
    refine KT.out.mono ?_
    rintro x w3 ⟨rfl, k3⟩
    exact ⟨rfl, RdP.no HR.out rfl (K2.out.trans k3)⟩
  | ok r1 =>
  obtain ⟨m0, ts2⟩ := r1
  obtain ⟨p1, p2⟩ := timeR_ok hN
  rw [hN] at KT hR
  have HR := Lib.hid (show partsL e ts2.length d0 (L ++ m0) ts2 = R from hR)
  clear hN hR
  go_wp2_with fail
  refine KT.out.mono ?_
  rintro x w3 ⟨⟨rfl, h3⟩, k3⟩
  dsimp only at h3
  have H3 := Lib.hid h3
  have K3 := Lib.hid (K2.out.trans k3)
  have HD3 := Lib.hid (HD2.out.keep k3)
  have hL2 : (L ++ m0).length + 14 * ts2.length ≤ 79000 := by rw [List.length_append]; omega
  have HL2 := Lib.hid hL2
  clear h3 k3 KT K2 HD2 hL hL2 n1 n2 n3 p1 p2
  go_wp2
  go_loopw [2] (fun v wr => ∃ (f : Nat) (days : List Nat) (L' : List Sp) (ts' : List Tk), Hid (OwnD wr b v days) ∧ Hid ((∀ d ∈ days, d < 7) ∧ days.length ≤ 7) ∧ Hid (Rh wr g b e ts' L') ∧ Hid (partsL e f days L' ts' = R) ∧ Hid (ts'.length ≤ f) ∧ Hid (L'.length + 14 * ts'.length ≤ 79000) ∧ Hid (Kf b w wr)) (fun _ wr => lenAt wr g)
  case atStart => exact ⟨ts2.length, d0, L ++ m0, ts2, HD3, D7, H3, HR, Lib.hid (Nat.le_refl _), HL2, K3⟩
  case round =>
    obtain ⟨f, days, L', ts', HD, H7, HH, HC, HF, HL, HK⟩ := hrel
    have AC := Lib.hid (acc_any g b e 4 [44] ts' L' wr HH.out (by decide))
    cases hA : acc 4 [44] ts' with
    | none =>
      rw [hA] at AC
      have HR := Lib.hid (show R = .ok (L', ts') from by rw [← HC.out, partsL_none hA])
      clear hA HC
      go_wp2_with fail
      refine AC.out.mono ?_
      rintro x w4 ⟨rfl, h4, k4⟩
      have H4 := Lib.hid h4
      have K4 := Lib.hid (HK.out.trans k4)
      clear h4 k4 AC
      go_wp2
      exact bodyPost_end (results_none rfl _ _ _) rfl (RdP.yes HR.out ⟨rfl, H4.out⟩ K4.out)
    | some ts1' =>
      have la := acc_len hA
      obtain ⟨f', rfl⟩ : ∃ f', f = f' + 1 := ⟨f - 1, by have := HF.out; omega⟩
      have HC2 := HC.out
      rw [partsL, hA] at HC2
      dsimp only at HC2
      rw [hA] at AC
      have LN := Lib.hid HH.out.len
      clear hA HC
      go_wp2_with fail
      refine AC.out.mono ?_
      rintro x w4 ⟨rfl, h4, k4⟩
      have H4 := Lib.hid h4
      have K4 := Lib.hid (HK.out.trans k4)
      have NX := Lib.hid (next_rh h4)
      have HD4 := Lib.hid (HD.out.keep k4)
      clear h4 k4 AC HK HH HD
      go_wp2_with fail
      refine NX.out.mono ?_
      rintro x w5 ⟨rfl, b5⟩
      have H5 := Lib.hid (H4.out.later b5)
      have K5 := Lib.hid (K4.out.trans (Kf.of_below b5 H4.out.inside))
      have HD5 := Lib.hid (HD4.out.keep (Kf.of_below b5 H4.out.inside))
      have hfd := tok_field0 (nx1 e ts1').k ⟨(nx1 e ts1').t.toArray⟩ ((nx1 e ts1').a : Int)
      clear b5 NX H4 K4 HD4
      by_cases hk : (nx1 e ts1').k = 1
      · rw [if_pos hk] at HC2
        have KD := Lib.hid (days_any g b e ts1' L' w5 H5.out (HDN.out.below K5.out.1))
        generalize nx1 e ts1' = nn at *
        obtain ⟨nk, nt, na⟩ := nn
        dsimp only at hk hfd ⊢
        subst hk
        cases hN : daysR e ts1' with
        | error x =>
          rw [hN] at KD HC2
          have HR := Lib.hid (show R = .error x from HC2.symm)
          clear HC2 hN
          go_wp2_with fail
          refine KD.out.mono ?_
          rintro x w6 ⟨rfl, k6⟩
          exact ⟨rfl, RdP.no HR.out rfl (K5.out.trans k6)⟩
        | ok r1 =>
        obtain ⟨days, ts2'⟩ := r1
        obtain ⟨n1, n2, n3⟩ := daysR_ok hN
        rw [hN] at KD HC2
        dsimp only at HC2
        clear hN
        go_wp2_with fail
        refine KD.out.mono ?_
        rintro x w6 ⟨⟨⟨dv, rfl, hdv⟩, h6⟩, k6⟩
        dsimp only at h6 hdv
        have K6 := Lib.hid (K5.out.trans k6)
        have HD6 := Lib.hid hdv
        have KT := Lib.hid (time_any g b e ts2' L' dv days w6 h6 hdv n3 n2 (by have := HL.out; omega))
        have D7 := Lib.hid (And.intro n3 n2)
        clear h6 k6 KD hdv
        cases hN : timeR e days ts2' with
        | error x =>
          rw [hN] at KT HC2
          have HR := Lib.hid (show R = .error x from HC2.symm)
          clear HC2 hN
          go_wp2_with fail
          refine KT.out.mono ?_
          rintro x w7 ⟨rfl, k7⟩
          exact ⟨rfl, RdP.no HR.out rfl (K6.out.trans k7)⟩
        | ok r1 =>
        obtain ⟨m, ts3⟩ := r1
        obtain ⟨p1, p2⟩ := timeR_ok hN
        rw [hN] at KT HC2
        have HC3 := Lib.hid (show partsL e f' days (L' ++ m) ts3 = R from HC2)
        clear hN HC2
        go_wp2_with fail
        refine KT.out.mono ?_
        rintro x w7 ⟨⟨rfl, h7⟩, k7⟩
        dsimp only at h7
        have H7' := Lib.hid h7
        have K7 := Lib.hid (K6.out.trans k7)
        have HD7 := Lib.hid (HD6.out.keep k7)
        have HF7 := Lib.hid (show ts3.length ≤ f' from by have := HF.out; omega)
        have HL7 := Lib.hid (show (L' ++ m).length + 14 * ts3.length ≤ 79000 from by rw [List.length_append]; have := HL.out; omega)
        have LT := Lib.hid (show lenAt w7 g < lenAt wr g from by rw [LN.out, h7.len]; omega)
        clear h7 k7 KT K6 HD6 p1 p2 n1 n2 la
        go_wp2
        go_roundw
        case rel => exact ⟨f', days, L' ++ m, ts3, HD7, D7, H7', HC3, HF7, HL7, K7⟩
        case measure => exact LT.out
      · rw [if_neg hk] at HC2
        generalize nx1 e ts1' = nn at *
        obtain ⟨nk, nt, na⟩ := nn
        dsimp only at hk hfd ⊢
        have hk2 : (nk == 1) = false := by rw [beq_eq_false_iff_ne]; exact hk
        have D7 := H7
        have K6 := K5
        have HD6 := HD5
        have n1 : ts1'.length ≤ ts1'.length := Nat.le_refl _
        have n2 := H7.out.2
        have KT := Lib.hid (time_any g b e ts1' L' _ days w5 H5.out HD5.out H7.out.1 H7.out.2 (by have := HL.out; omega))
        clear H7 K5 HD5
        cases hN : timeR e days ts1' with
        | error x =>
          rw [hN] at KT HC2
          have HR := Lib.hid (show R = .error x from HC2.symm)
          clear HC2 hN
          go_wp2_with fail
          refine KT.out.mono ?_
          rintro x w7 ⟨rfl, k7⟩
          exact ⟨rfl, RdP.no HR.out rfl (K6.out.trans k7)⟩
        | ok r1 =>
        obtain ⟨m, ts3⟩ := r1
        obtain ⟨p1, p2⟩ := timeR_ok hN
        rw [hN] at KT HC2
        have HC3 := Lib.hid (show partsL e f' days (L' ++ m) ts3 = R from HC2)
        clear hN HC2
        go_wp2_with fail
        refine KT.out.mono ?_
        rintro x w7 ⟨⟨rfl, h7⟩, k7⟩
        dsimp only at h7
        have H7' := Lib.hid h7
        have K7 := Lib.hid (K6.out.trans k7)
        have HD7 := Lib.hid (HD6.out.keep k7)
        have HF7 := Lib.hid (show ts3.length ≤ f' from by have := HF.out; omega)
        have HL7 := Lib.hid (show (L' ++ m).length + 14 * ts3.length ≤ 79000 from by rw [List.length_append]; have := HL.out; omega)
        have LT := Lib.hid (show lenAt w7 g < lenAt wr g from by rw [LN.out, h7.len]; omega)
        clear h7 k7 KT K6 HD6 p1 p2 n1 n2 la
        go_wp2
        go_roundw
        case rel => exact ⟨f', days, L' ++ m, ts3, HD7, D7, H7', HC3, HF7, HL7, K7⟩
        case measure => exact LT.out
end Go.Proofs.YtgbkjdpjilldmaaGreatDoor.Hr
/- hours: reader.text. -/
namespace Go.Proofs.YtgbkjdpjilldmaaGreatDoor.Hr
open Go.RowKit Go.Sort Go.Shelf
open Lx (IsRow alloc1 drew_below Tk B Toks vTok set3 below3 facts3 infoTok str_size str_eq results_rowU)
open St (Sp encS encS_len encS_one)
theorem left_rh {g b e : Nat} {ts : List Tk} {L : List Sp} {w : World} (h : Rh w g b e ts L) : ∃ ao n c, w.cell? ⟨g, 0, none⟩ = some (.slice ao n c) ∧ ts.length = n := by
  obtain ⟨h1, ao, n, c, sv, r, hn, _⟩ := h
  exact ⟨ao, n, c, r.get 0, hn⟩
set_option maxRecDepth 100000 in
set_option maxHeartbeats 2000000 in
theorem text_any (g b e : Nat) (ts : List Tk) (w : World) (h : Rh w g b e ts []) (hd : Dn b w) (hL : 14 * ts.length ≤ 79000) :
    Calls Tryz.prog 64 #[.pointer (some ⟨g, 0, none⟩)] w (RdP b w (textR e ts) (fun r x w' => x = .returned (.tuple #[]) ∧ Rh w' g b e [] r)) := by
  have AC := Lib.hid (acc_any g b e 1 [97, 108, 119, 97, 121, 115] ts [] w h (by decide))
  obtain ⟨R, hR⟩ : ∃ R, textR e ts = R := ⟨_, rfl⟩
  rw [hR]
  unfold textR at hR
  have HDN := Lib.hid hd
  clear hd h
  go_enter Tryz.func64, Tryz.ntmps64
  cases hA : acc 1 [97, 108, 119, 97, 121, 115] ts with
  | some r =>
    rw [hA] at AC hR
    have HR := Lib.hid (show (if r = [] then .ok [(0, 10080)] else .error (unexp e r)) = R from hR)
    clear hA hR
    go_wp2_with fail
    refine AC.out.mono ?_
    rintro x w2 ⟨rfl, h2, k2⟩
    have KA := Lib.hid (add_any g b e 0 10080 r [] w2 h2 (by simp) (by omega) (by omega))
    have K2 := Lib.hid k2
    clear h2 k2 AC
    go_wp2_with fail
    refine KA.out.mono ?_
    rintro x w3 ⟨rfl, h3, k3⟩
    have H3 := Lib.hid (show Rh w3 g b e r [(0, 10080)] from h3)
    have K3 := Lib.hid (K2.out.trans k3)
    clear h3 k3 KA K2
    obtain ⟨ao, n, c, c0, hn⟩ := left_rh H3.out
    cases r with
    | nil =>
      have HR2 := Lib.hid (HR.out.symm.trans (if_pos rfl))
      simp at hn
      subst hn
      go_wp2
      exact bodyPost_end (results_none rfl _ _ _) rfl (RdP.yes HR2.out ⟨rfl, H3.out⟩ K3.out)
    | cons t q =>
      have HR2 := Lib.hid (HR.out.symm.trans (if_neg (List.cons_ne_nil t q)))
      have hn0 : (0 : Int) < (n : Int) := by rw [← hn]; simp
      have hn1 : 0 < n := by omega
      have UN := Lib.hid (unexp_rh H3.out)
      clear hn
      go_wp2_with fail
      refine UN.out.mono ?_
      rintro x w5 ⟨rfl, b5⟩
      have K5 := Lib.hid (K3.out.trans (Kf.of_below b5 H3.out.inside))
      clear b5 UN
      go_wp2
      exact ⟨rfl, RdP.no HR2.out rfl K5.out⟩
  | none =>
    rw [hA] at AC hR
    dsimp only at hR
    clear hA
    go_wp2_with fail
    refine AC.out.mono ?_
    rintro x w2 ⟨rfl, h2, k2⟩
    have K2 := Lib.hid k2
    have AC2 := Lib.hid (acc_any g b e 1 [110, 101, 118, 101, 114] ts [] w2 h2 (by decide))
    clear h2 k2 AC
    cases hA : acc 1 [110, 101, 118, 101, 114] ts with
    | some r =>
      rw [hA] at AC2 hR
      have HR := Lib.hid (show (if r = [] then .ok [] else .error (unexp e r)) = R from hR)
      clear hA hR
      go_wp2_with fail
      refine AC2.out.mono ?_
      rintro x w3 ⟨rfl, h3, k3⟩
      have H3 := Lib.hid h3
      have K3 := Lib.hid (K2.out.trans k3)
      clear h3 k3 AC2 K2
      obtain ⟨ao, n, c, c0, hn⟩ := left_rh H3.out
      cases r with
      | nil =>
        have HR2 := Lib.hid (HR.out.symm.trans (if_pos rfl))
        simp at hn
        subst hn
        go_wp2
        exact bodyPost_end (results_none rfl _ _ _) rfl (RdP.yes HR2.out ⟨rfl, H3.out⟩ K3.out)
      | cons t q =>
        have HR2 := Lib.hid (HR.out.symm.trans (if_neg (List.cons_ne_nil t q)))
        have hn0 : (0 : Int) < (n : Int) := by rw [← hn]; simp
        have hn1 : 0 < n := by omega
        have UN := Lib.hid (unexp_rh H3.out)
        clear hn
        go_wp2_with fail
        refine UN.out.mono ?_
        rintro x w5 ⟨rfl, b5⟩
        have K5 := Lib.hid (K3.out.trans (Kf.of_below b5 H3.out.inside))
        clear b5 UN
        go_wp2
        exact ⟨rfl, RdP.no HR2.out rfl K5.out⟩
    | none =>
      rw [hA] at AC2 hR
      dsimp only at hR
      clear hA
      go_wp2_with fail
      refine AC2.out.mono ?_
      rintro x w3 ⟨rfl, h3, k3⟩
      have K2' := Lib.hid (K2.out.trans k3)
      have KP := Lib.hid (parts_any g b e ts [] w3 h3 (HDN.out.below K2'.out.1) (by simpa using hL))
      clear h3 k3 AC2 K2
      cases hN : partsR e [] ts with
      | error f =>
        rw [hN] at KP hR
        have HR := Lib.hid (show R = .error f from hR.symm)
        clear hR hN
        go_wp2_with fail
        refine KP.out.mono ?_
        rintro x w4 ⟨rfl, k4⟩
        exact ⟨rfl, RdP.no HR.out rfl (K2'.out.trans k4)⟩
      | ok r1 =>
      obtain ⟨M, r⟩ := r1
      rw [hN] at KP hR
      have HR := Lib.hid (show (if r = [] then .ok M else .error (unexp e r)) = R from hR)
      clear hN hR
      go_wp2_with fail
      refine KP.out.mono ?_
      rintro x w3 ⟨⟨rfl, h3⟩, k3⟩
      dsimp only at h3
      have H3 := Lib.hid h3
      have K3 := Lib.hid (K2'.out.trans k3)
      clear h3 k3 KP K2'
      obtain ⟨ao, n, c, c0, hn⟩ := left_rh H3.out
      cases r with
      | nil =>
        have HR2 := Lib.hid (HR.out.symm.trans (if_pos rfl))
        simp at hn
        subst hn
        go_wp2
        exact bodyPost_end (results_none rfl _ _ _) rfl (RdP.yes HR2.out ⟨rfl, H3.out⟩ K3.out)
      | cons t q =>
        have HR2 := Lib.hid (HR.out.symm.trans (if_neg (List.cons_ne_nil t q)))
        have hn0 : (0 : Int) < (n : Int) := by rw [← hn]; simp
        have hn1 : 0 < n := by omega
        have UN := Lib.hid (unexp_rh H3.out)
        clear hn
        go_wp2_with fail
        refine UN.out.mono ?_
        rintro x w5 ⟨rfl, b5⟩
        have K5 := Lib.hid (K3.out.trans (Kf.of_below b5 H3.out.inside))
        clear b5 UN
        go_wp2
        exact ⟨rfl, RdP.no HR2.out rfl K5.out⟩
end Go.Proofs.YtgbkjdpjilldmaaGreatDoor.Hr
/- hours: read's deferred closure. -/
namespace Go.Proofs.YtgbkjdpjilldmaaGreatDoor.Hr
open Go.RowKit
open Lx (IsRow alloc1)
theorem ta_yes (a b : Int) : ∀ w : World, (Instr.typeAssert (.iface 110 (.agg #[.int .i64 a, .int .i64 b])) 20 110 true).run Tryz.prog w = .ok (.tuple #[.agg #[.int .i64 a, .int .i64 b], .bool true]) w := fun _ => by kernel_rfl
theorem ta_no : ∀ w : World, (Instr.typeAssert .nilIface 20 110 true).run Tryz.prog w = .ok (.tuple #[.agg #[.int .i64 0, .int .i64 0], .bool false]) w := fun _ => by kernel_rfl
theorem fail_made (w : World) (a b : Value) : IsRow (w.alloc (.cells #[a, b] 110)) w.heap.size 110 #[a, b] := IsRow.made w _ _
set_option maxRecDepth 100000 in
set_option maxHeartbeats 400000 in
theorem catch_panicking (g : Nat) (f1 f2 : Int) (w : World) (v0 v1 v2 : Value) (r0 : IsRow w g 22 #[v0]) (r1 : IsRow w (g + 1) 25 #[v1]) (r2 : IsRow w (g + 2) 3 #[v2]) :
    CallsD Tryz.prog 63 #[.pointer (some ⟨g, 0, none⟩), .pointer (some ⟨g + 1, 0, none⟩), .pointer (some ⟨g + 2, 0, none⟩)] (.panicking [{ v := .iface 110 (.agg #[.int .i64 f1, .int .i64 f2]), recovered := false }]) w fun e u' w' =>
      e = .returned (.tuple #[]) ∧ u' = .panicking [{ v := .iface 110 (.agg #[.int .i64 f1, .int .i64 f2]), recovered := true }] ∧ IsRow w' g 22 #[.slice none 0 0] ∧ IsRow w' (g + 1) 25 #[.int .i64 f1] ∧ IsRow w' (g + 2) 3 #[.int .i64 f2] ∧ Below g w w' := by
  have hta := ta_yes f1 f2
  refine callsD_of_wpS Tryz.func63 rfl fun c₀ cs hu => ?_
  have c0 := r0.get 0
  have c1 := r1.get 0
  have c2 := r2.get 0
  simp only [Tryz.ntmps63]
  rw [show (#[.pointer (some ⟨g, 0, none⟩), .pointer (some ⟨g + 1, 0, none⟩), .pointer (some ⟨g + 2, 0, none⟩)] : Array Value) ++ Array.replicate (15 - (#[.pointer (some ⟨g, 0, none⟩), .pointer (some ⟨g + 1, 0, none⟩), .pointer (some ⟨g + 2, 0, none⟩)] : Array Value).size) undef = #[.pointer (some ⟨g, 0, none⟩), .pointer (some ⟨g + 1, 0, none⟩), .pointer (some ⟨g + 2, 0, none⟩), undef, undef, undef, undef, undef, undef, undef, undef, undef, undef, undef, undef] from rfl]
  apply wpS_seq
  apply wpS_region
  simp [wpOpsS, go_sem, recoverD, hu, hta, Exit.thenS]
  obtain ⟨w1, hw1⟩ : ∃ w1, w.alloc (.cells #[.int .i64 f1, .int .i64 f2] 110) = w1 := ⟨_, rfl⟩
  have b1 : Below w.heap.size w w1 := hw1 ▸ alloc1 w _
  have r3 : IsRow w1 w.heap.size 110 #[.int .i64 f1, .int .i64 f2] := hw1 ▸ IsRow.made w _ _
  have q0 := r0.below b1 r0.inside
  have q1 := r1.below b1 r1.inside
  have q2 := r2.below b1 r2.inside
  have hg3 := r2.inside
  refine wpS_of_wp ?_
  simp only [hw1]
  have d0 := q0.get 0
  have d1 := q1.get 0
  have d2 := q2.get 0
  have z0 := q0.open_ 0
  have z1 := q1.open_ 0
  have z2 := q2.open_ 0
  obtain ⟨y0, y1, _, _⟩ := facts2 r3
  simp only [List.getElem?_toArray, List.getElem?_cons_zero] at d0 d1 d2
  obtain ⟨n3, hn3⟩ : ∃ n, w.heap.size = n := ⟨_, rfl⟩
  simp only [hn3] at y0 y1 hg3 ⊢
  have ne0 : g ≠ n3 := by omega
  have B1 := Lib.hid b1
  have Q0 := Lib.hid q0
  have Q1 := Lib.hid q1
  have Q2 := Lib.hid q2
  clear b1 q0 q1 q2 r0 r1 r2 r3 c0 c1 c2 hw1 hta
  generalize hPost : (fun e a' w' => bodyPostS Tryz.prog Tryz.f63 c₀ cs _ e a' _ w') = Post
  go_upto_region 2 with fail
  go_region
  have R0 : IsRow (((w1.setCell ⟨g, 0, none⟩ (.slice none 0 0)).setCell ⟨g + 1, 0, none⟩ (.int .i64 f1)).setCell ⟨g + 2, 0, none⟩ (.int .i64 f2)).drew g 22 #[.slice none 0 0] := by
    have h : IsRow (w1.setCell ⟨g, 0, none⟩ (.slice none 0 0)) g 22 #[.slice none 0 0] := by simpa using Q0.out.put 0 (.slice none 0 0)
    exact ((h.putOther (p := ⟨g + 1, 0, none⟩) (by simp) _).putOther (p := ⟨g + 2, 0, none⟩) (by simp) _).drew
  have R1 : IsRow (((w1.setCell ⟨g, 0, none⟩ (.slice none 0 0)).setCell ⟨g + 1, 0, none⟩ (.int .i64 f1)).setCell ⟨g + 2, 0, none⟩ (.int .i64 f2)).drew (g + 1) 25 #[.int .i64 f1] := by
    have h : IsRow ((w1.setCell ⟨g, 0, none⟩ (.slice none 0 0)).setCell ⟨g + 1, 0, none⟩ (.int .i64 f1)) (g + 1) 25 #[.int .i64 f1] := by simpa using (Q1.out.putOther (p := ⟨g, 0, none⟩) (by simp) (.slice none 0 0)).put 0 (.int .i64 f1)
    exact (h.putOther (p := ⟨g + 2, 0, none⟩) (by simp) _).drew
  have R2 : IsRow (((w1.setCell ⟨g, 0, none⟩ (.slice none 0 0)).setCell ⟨g + 1, 0, none⟩ (.int .i64 f1)).setCell ⟨g + 2, 0, none⟩ (.int .i64 f2)).drew (g + 2) 3 #[.int .i64 f2] := by
    have h : IsRow (((w1.setCell ⟨g, 0, none⟩ (.slice none 0 0)).setCell ⟨g + 1, 0, none⟩ (.int .i64 f1)).setCell ⟨g + 2, 0, none⟩ (.int .i64 f2)) (g + 2) 3 #[.int .i64 f2] := by simpa using ((Q2.out.putOther (p := ⟨g, 0, none⟩) (by simp) (.slice none 0 0)).putOther (p := ⟨g + 1, 0, none⟩) (by simp) (.int .i64 f1)).put 0 (.int .i64 f2)
    exact h.drew
  have bb : Below g w w1 := by
    have h := B1.out
    rw [hn3] at h
    exact h.mono (by omega)
  have R3 : Below g w (((w1.setCell ⟨g, 0, none⟩ (.slice none 0 0)).setCell ⟨g + 1, 0, none⟩ (.int .i64 f1)).setCell ⟨g + 2, 0, none⟩ (.int .i64 f2)).drew :=
    ((((bb).setCell (p := ⟨g, 0, none⟩) (Nat.le_refl _) _).setCell (p := ⟨g + 1, 0, none⟩) (by simp) _).setCell (p := ⟨g + 2, 0, none⟩) (by simp) _).drew
  rw [← hPost]
  generalize (((w1.setCell ⟨g, 0, none⟩ (.slice none 0 0)).setCell ⟨g + 1, 0, none⟩ (.int .i64 f1)).setCell ⟨g + 2, 0, none⟩ (.int .i64 f2)).drew = w9 at *
  simp [bodyPostS, results, Tryz.results63, go_sem]
  exact ⟨R0, R1, R2, R3⟩
set_option maxRecDepth 100000 in
set_option maxHeartbeats 400000 in
theorem catch_idle (g : Nat) (w : World) :
    CallsD Tryz.prog 63 #[.pointer (some ⟨g, 0, none⟩), .pointer (some ⟨g + 1, 0, none⟩), .pointer (some ⟨g + 2, 0, none⟩)] .returning w fun e u' w' =>
      e = .returned (.tuple #[]) ∧ u' = .returning ∧ Below w.heap.size w w' := by
  have hta := ta_no
  refine callsD_of_wpS Tryz.func63 rfl fun c₀ cs hu => ?_
  simp only [Tryz.ntmps63]
  rw [show (#[.pointer (some ⟨g, 0, none⟩), .pointer (some ⟨g + 1, 0, none⟩), .pointer (some ⟨g + 2, 0, none⟩)] : Array Value) ++ Array.replicate (15 - (#[.pointer (some ⟨g, 0, none⟩), .pointer (some ⟨g + 1, 0, none⟩), .pointer (some ⟨g + 2, 0, none⟩)] : Array Value).size) undef = #[.pointer (some ⟨g, 0, none⟩), .pointer (some ⟨g + 1, 0, none⟩), .pointer (some ⟨g + 2, 0, none⟩), undef, undef, undef, undef, undef, undef, undef, undef, undef, undef, undef, undef] from rfl]
  apply wpS_seq
  apply wpS_region
  simp [wpOpsS, go_sem, recoverD, hu, hta, Exit.thenS]
  have b1 := alloc1 w (.cells #[.int .i64 0, .int .i64 0] 110)
  generalize w.alloc (.cells #[.int .i64 0, .int .i64 0] 110) = w1 at *
  refine wpS_of_wp ?_
  generalize hPost : (fun e a' w' => bodyPostS Tryz.prog Tryz.f63 c₀ cs _ e a' _ w') = Post
  clear hta
  go_wp2
  rw [← hPost]
  cases c₀
  simp_all [bodyPostS, results, Tryz.results63, go_sem]
end Go.Proofs.YtgbkjdpjilldmaaGreatDoor.Hr
/- hours: read. -/
namespace Go.Proofs.YtgbkjdpjilldmaaGreatDoor.Hr
open Go.RowKit Go.Sort Go.Shelf
open Lx (IsRow alloc1 drew_below Tk B Toks)
open St (Sp encS encS_len encS_one)
/-- what read answers and leaves. -/
def ReadP (w : World) (R : Except Fl (List Sp)) (x : Ending) (w' : World) : Prop :=
  match R with
  | .ok L => (∃ v, x = .returned (.tuple #[v, .int .i64 0, .int .i64 0]) ∧ OwnS w' w.heap.size v L) ∧ Below w.heap.size w w'
  | .error f => x = .returned (.tuple #[.slice none 0 0, .int .i64 f.1, .int .i64 f.2]) ∧ Below w.heap.size w w'
set_option maxRecDepth 100000 in
set_option maxHeartbeats 1000000 in
theorem read_any (ao : Option Addr) (n c e : Nat) (ts : List Tk) (w : World) (hn : ts.length = n) (hc : n ≤ c) (ht : Toks w w.heap.size ao ts) (hdg : DgA ts) (hd : Dn w.heap.size w) (h14 : 14 * n ≤ 79000) :
    Calls Tryz.prog 31 #[.slice ao n c, .int .i64 (e : Int)] w (ReadP w (textR e ts)) := by
  have hmf : ∀ (fn : Fn) (first cap : Array Value) (w : World), (Instr.makeFunc fn first cap).run Tryz.prog w = .ok (.func fn first cap) w := fun _ _ _ _ => rfl
  obtain ⟨W, hW, bW, q0, q1, q2, q3, hs⟩ := Lx.four_made w 22 25 3 115 #[.slice none 0 0] #[.int .i64 0] #[.int .i64 0] #[.slice ao n c, .int .i64 (e : Int), .slice none 0 0]
  have hr : Rh W (w.heap.size + 3) w.heap.size e ts [] := ⟨by omega, ao, n, c, _, q3, hn, hc, ht.below bW (Nat.le_refl _), OwnS.nil _ _, hdg⟩
  have KT := Lib.hid (text_any (w.heap.size + 3) w.heap.size e ts W hr (hd.below bW) (by rw [hn]; exact h14))
  have HW := Lib.hid hW
  have BW := Lib.hid bW
  have Q0 := Lib.hid q0
  have Q1 := Lib.hid q1
  have Q2 := Lib.hid q2
  obtain ⟨R, hR⟩ : ∃ R, textR e ts = R := ⟨_, rfl⟩
  rw [hR] at KT ⊢
  clear hr q0 q1 q2 q3 hW bW hR
  go_enter_defers Tryz.func31, Tryz.ntmps31
  go_upto_region 3 with fail
  rw [HW.out]
  go_wp2_with fail
  refine KT.out.mono ?_
  intro x w5 hx
  cases R with
  | error f =>
    obtain ⟨rfl, k5⟩ := hx
    have r0 := k5.2 _ _ _ (by decide) (by decide) Q0.out
    have r1 := k5.2 _ _ _ (by decide) (by decide) Q1.out
    have r2 := k5.2 _ _ _ (by decide) (by decide) Q2.out
    refine leaves_cons (f := 63) (args := #[.pointer (some ⟨w.heap.size, 0, none⟩), .pointer (some ⟨w.heap.size + 1, 0, none⟩), .pointer (some ⟨w.heap.size + 2, 0, none⟩)]) (by simp) (by simp [go_sem]) ?_
    refine (catch_panicking w.heap.size f.1 f.2 w5 _ _ _ r0 r1 r2).mono ?_
    rintro x u' w6 ⟨rfl, rfl, R0, R1, R2, B6⟩
    have c0 := R0.get 0
    have c1 := R1.get 0
    have c2 := R2.get 0
    have FIN := Lib.hid (show Below w.heap.size w w6 from (BW.out.trans k5.1).trans B6)
    simp [Leaves, settle, results, Tryz.results31, go_sem, c0, c1, c2]
    exact ⟨rfl, FIN.out⟩
  | ok L =>
    obtain ⟨⟨rfl, h5⟩, k5⟩ := hx
    have r0 := k5.2 _ _ _ (by decide) (by decide) Q0.out
    have r1 := k5.2 _ _ _ (by decide) (by decide) Q1.out
    have r2 := k5.2 _ _ _ (by decide) (by decide) Q2.out
    obtain ⟨h1, ao', n', c', sv, rr, _, _, _, ho, _⟩ := h5
    obtain ⟨sa, sk, sc, rfl⟩ := Own.slc ho
    have c0 := r0.get 0
    have c1 := r1.get 0
    have c2 := r2.get 0
    have c3 := rr.get 2
    have z0 := r0.open_ 0
    have z1 := r1.open_ 0
    have z2 := r2.open_ 0
    simp only [List.getElem?_toArray, List.getElem?_cons_zero, List.getElem?_cons_succ] at c0 c1 c2 c3
    have FIN := Lib.hid (fun w9 (h9 : w9 = ((w5.setCell ⟨w.heap.size, 0, none⟩ (.slice sa sk sc)).setCell ⟨w.heap.size + 1, 0, none⟩ (.int .i64 0)).setCell ⟨w.heap.size + 2, 0, none⟩ (.int .i64 0)) => (show IsRow w9 w.heap.size 22 #[.slice sa sk sc] ∧ IsRow w9 (w.heap.size + 1) 25 #[.int .i64 0] ∧ IsRow w9 (w.heap.size + 2) 3 #[.int .i64 0] ∧ OwnS w9 w.heap.size (.slice sa sk sc) L ∧ Below w.heap.size w w9 from by
      subst h9
      have g0 : IsRow (w5.setCell ⟨w.heap.size, 0, none⟩ (.slice sa sk sc)) w.heap.size 22 #[.slice sa sk sc] := by simpa using r0.put 0 (.slice sa sk sc)
      have o0 : OwnS (w5.setCell ⟨w.heap.size, 0, none⟩ (.slice sa sk sc)) w.heap.size (.slice sa sk sc) L := Own.kept ho (Lx.grown_put w5 _ 0 _) (.inr (OwnS.off ho r0 (by decide)))
      have g1 := r1.putOther (p := ⟨w.heap.size, 0, none⟩) (by simp) (.slice sa sk sc)
      have g2 := r2.putOther (p := ⟨w.heap.size, 0, none⟩) (by simp) (.slice sa sk sc)
      have h0 := g0.putOther (p := ⟨w.heap.size + 1, 0, none⟩) (by simp) (.int .i64 0)
      have h1 : IsRow ((w5.setCell ⟨w.heap.size, 0, none⟩ (.slice sa sk sc)).setCell ⟨w.heap.size + 1, 0, none⟩ (.int .i64 0)) (w.heap.size + 1) 25 #[.int .i64 0] := by simpa using g1.put 0 (.int .i64 0)
      have h2 := g2.putOther (p := ⟨w.heap.size + 1, 0, none⟩) (by simp) (.int .i64 0)
      have o1 : OwnS ((w5.setCell ⟨w.heap.size, 0, none⟩ (.slice sa sk sc)).setCell ⟨w.heap.size + 1, 0, none⟩ (.int .i64 0)) w.heap.size (.slice sa sk sc) L := Own.kept o0 (Lx.grown_put _ _ 0 _) (.inr (OwnS.off o0 g1 (by decide)))
      refine ⟨h0.putOther (p := ⟨w.heap.size + 2, 0, none⟩) (by simp) _, h1.putOther (p := ⟨w.heap.size + 2, 0, none⟩) (by simp) _, by simpa using h2.put 0 (.int .i64 0), Own.kept o1 (Lx.grown_put _ _ 0 _) (.inr (OwnS.off o1 h2 (by decide))), ?_⟩
      exact ((((BW.out.trans k5.1)).setCell (p := ⟨w.heap.size, 0, none⟩) (Nat.le_refl _) _).setCell (p := ⟨w.heap.size + 1, 0, none⟩) (by simp) _).setCell (p := ⟨w.heap.size + 2, 0, none⟩) (by simp) _))
    go_wp2
    obtain ⟨R0, R1, R2, O9, B9⟩ := FIN.out _ rfl
    refine leaves_cons (f := 63) (args := #[.pointer (some ⟨w.heap.size, 0, none⟩), .pointer (some ⟨w.heap.size + 1, 0, none⟩), .pointer (some ⟨w.heap.size + 2, 0, none⟩)]) (by simp) (by simp [go_sem]) ?_
    refine (catch_idle w.heap.size _).mono ?_
    rintro x u' w6 ⟨rfl, rfl, b6⟩
    have c0 := (R0.below b6 R0.inside).get 0
    have c1 := (R1.below b6 R1.inside).get 0
    have c2 := (R2.below b6 R2.inside).get 0
    have GG := Lib.hid (show OwnS w6 w.heap.size (.slice sa sk sc) L ∧ Below w.heap.size w w6 from ⟨Own.below O9 b6, B9.trans (b6.mono B9.size)⟩)
    clear R0 R1 R2 O9 B9 b6 FIN
    simp [Leaves, settle, results, Tryz.results31, go_sem, c0, c1, c2]
    exact ⟨⟨_, rfl, GG.out.1⟩, GG.out.2⟩
end Go.Proofs.YtgbkjdpjilldmaaGreatDoor.Hr
