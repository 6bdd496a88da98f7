/- Merged: HrTime, HrReadM, HrParts, HrTextR. -/
import Derived.Test.YtgbkjdpjilldmaaDoorHm17
/- hours: reader.time. -/
namespace Go.Proofs.YtgbkjdpjilldmaaDoor.Hr
open Go.RowKit Go.Sort Go.Shelf
open Lx (IsRow alloc1 drew_below Tk B Toks vTok set3 below3 facts3 infoTok str_size str_eq results_rowU)
open St (Sp encS encS_len encS_one)
theorem clockR_le {most e a at_ : Nat} {ts r : List Tk} (h : clockR most e ts = .ok ((a, at_), r)) (hm : most ≤ 24) : a ≤ 1499 := by
  unfold clockR at h
  split at h
  · cases h
  · rename_i q1 q2
    split at h
    · cases h
    · rename_i c1
      split at h
      · cases h
      · split at h
        · cases h
        · split at h
          · cases h
          · rename_i c2
            injection h with h
            injection h with h _
            injection h with h _
            have : ¬ 60 ≤ _ := fun q => c2 (.inr (.inl q))
            omega
/-- the spans of a time on the days. -/
abbrev addsD (a b : Nat) (days : List Nat) : List Sq := days.flatMap (fun (d : Nat) => addS ((d : Int) * 1440 + a) ((d : Int) * 1440 + (if b < a then (b : Int) + 1440 else b)))
theorem addS_len (f t : Int) : (addS f t).length ≤ 2 := by
  unfold addS
  by_cases h : 10080 < t
  · rw [if_pos h]; simp
  · rw [if_neg h]; simp
theorem adds_len (a b : Nat) : ∀ days : List Nat, (addsD a b days).length ≤ 2 * days.length
  | [] => Nat.le_of_eq rfl
  | d :: l => by
    have := adds_len a b l
    rw [addsD, List.flatMap_cons, List.length_append, List.length_cons]
    have h := addS_len ((d : Int) * 1440 + a) ((d : Int) * 1440 + (if b < a then (b : Int) + 1440 else b))
    unfold addsD at this
    omega
set_option maxRecDepth 100000 in
set_option maxHeartbeats 2000000 in
theorem time_any (g b e : Nat) (ts : List Tk) (L : List Sp) (dv : Value) (days : List Nat) (w : World) (h : Rh w g b e ts L) (hd : OwnD w b dv days) (h7 : ∀ d ∈ days, d < 7) (hn7 : days.length ≤ 7) (hL : L.length ≤ 79000) :
    Calls Tryd.prog 64 #[.pointer (some ⟨g, 0, none⟩), dv] w (RdP b w (timeR e days ts) (fun r x w' => x = .returned (.tuple #[]) ∧ Rh w' g b e r.2 (L ++ r.1))) := by
  have KC := Lib.hid (clock_any g b e 23 ts L w h (by omega))
  obtain ⟨R, hR⟩ : ∃ R, timeR e days ts = R := ⟨_, rfl⟩
  rw [hR]
  unfold timeR at hR
  obtain ⟨ao, c, rfl, hc, _⟩ := hd.cell
  have HD := Lib.hid hd
  have H7 := Lib.hid h7
  obtain ⟨n, hn⟩ : ∃ n, days.length = n := ⟨_, rfl⟩
  rw [hn] at HD hc hn7 ⊢
  have HN := Lib.hid hn
  clear hd h7 hn
  cases hN : clockR 23 e ts with
  | error f =>
    rw [hN] at KC hR
    have HR := Lib.hid (show R = .error f from hR.symm)
    clear hR hN h
    go_enter Tryd.func64, Tryd.ntmps64
    go_wp2_with fail
    refine KC.out.mono ?_
    rintro x w2 ⟨rfl, k2⟩
    exact ⟨rfl, RdP.no HR.out rfl k2⟩
  | ok r1 =>
  obtain ⟨⟨a, a2⟩, ts1⟩ := r1
  have ha := clockR_le hN (by omega)
  rw [hN] at KC hR
  dsimp only at hR
  clear hN h
  go_enter Tryd.func64, Tryd.ntmps64
  go_wp2_with fail
  refine KC.out.mono ?_
  rintro x w2 ⟨⟨rfl, h2⟩, k2⟩
  dsimp only at h2
  have K2 := Lib.hid k2
  have KS := Lib.hid (sym_any g b e [45] ts1 L w2 h2)
  clear h2 k2 KC
  cases hS : symR [45] e ts1 with
  | error f =>
    rw [hS] at KS hR
    have HR := Lib.hid (show R = .error f from hR.symm)
    clear hR hS
    go_wp2_with fail
    refine KS.out.mono ?_
    rintro x w4 ⟨rfl, k4⟩
    exact ⟨rfl, RdP.no HR.out rfl (K2.out.trans k4)⟩
  | ok ts2 =>
  rw [hS] at KS hR
  dsimp only at hR
  clear hS
  go_wp2_with fail
  refine KS.out.mono ?_
  rintro x w3 ⟨⟨rfl, h3⟩, k3⟩
  have K3 := Lib.hid (K2.out.trans k3)
  have KC := Lib.hid (clock_any g b e 24 ts2 L w3 h3 (by omega))
  clear h3 k3 KS K2
  cases hN : clockR 24 e ts2 with
  | error f =>
    rw [hN] at KC hR
    have HR := Lib.hid (show R = .error f from hR.symm)
    clear hR hN
    go_wp2_with fail
    refine KC.out.mono ?_
    rintro x w4 ⟨rfl, k4⟩
    exact ⟨rfl, RdP.no HR.out rfl (K3.out.trans k4)⟩
  | ok r1 =>
  obtain ⟨⟨z, at_⟩, ts3⟩ := r1
  have hz := clockR_le hN (by omega)
  rw [hN] at KC hR
  dsimp only at hR
  clear hN
  go_wp2_with fail
  refine KC.out.mono ?_
  rintro x w4 ⟨⟨rfl, h4⟩, k4⟩
  dsimp only at h4
  have H4 := Lib.hid h4
  have K4 := Lib.hid (K3.out.trans k4)
  clear h4 k4 KC K3
  by_cases e1 : a = z
  · rw [if_pos e1] at hR
    have HR := Lib.hid hR.symm
    subst e1
    clear hR
    go_wp2
    exact ⟨rfl, RdP.no HR.out rfl K4.out⟩
  rw [if_neg e1] at hR
  have HR := Lib.hid (show R = .ok (addsD a z days, ts3) from hR.symm)
  have e2 : ((a : Int) == (z : Int)) = false := by rw [beq_eq_false_iff_ne]; omega
  have e3 : (a == z) = false := by rw [beq_eq_false_iff_ne]; exact e1
  obtain ⟨t, ht⟩ : ∃ t : Nat, (if z < a then (z : Int) + 1440 else z) = t := by
    split
    · exact ⟨z + 1440, by omega⟩
    · exact ⟨z, rfl⟩
  have HDS := Lib.hid (show ∀ days : List Nat, addsD a z days = days.flatMap (fun (d : Nat) => addS ((d : Int) * 1440 + a) ((d : Int) * 1440 + t)) from fun days => by unfold addsD; rw [ht])
  have ht2 : t ≤ 2939 := by split at ht <;> omega
  have hcn : (n : Int) ≤ (c : Int) := by omega
  have ha' : (a : Int) ≤ 1499 := by omega
  have ht' : (t : Int) ≤ 2939 := by omega
  clear hR e1
  by_cases hlt : z < a
  · have hlt2 : (z : Int) < (a : Int) := by omega
    have hti : (z : Int) + 1440 = (t : Int) := by rw [← ht, if_pos hlt]
    clear ht hlt
    go_upto_region 7 with fail
    clear hlt2 hti
    go_wp2
    go_loopw [37] (fun i wr => ∃ k : Nat, k ≤ n ∧ i = .int .i64 k ∧ Hid (Rh wr g b e ts3 (L ++ addsD a z (days.take k))) ∧ Hid (Kf b w wr)) (fun i _ => n - (Lx.intOf i).toNat)
    case atStart => exact ⟨0, by omega, rfl, Lib.hid (by rw [List.take_zero, addsD, List.flatMap_nil, List.append_nil]; exact H4.out), K4⟩
    case round =>
      obtain ⟨k, hk, rfl, HH, HK⟩ := hrel
      by_cases hlt : k < n
      · have hkl : k < days.length := by rw [HN.out]; exact hlt
        have hlt2 : (k : Int) < (n : Int) := by omega
        obtain ⟨ao2, c2, hv, _, hcl⟩ := (show OwnD wr b (.slice ao n c) days from OwnD.keep HD.out HK.out).cell
        injection hv with hv1 hv2 hv3
        subst hv1 hv3
        obtain ⟨gd, rfl, x0⟩ := hcl k hkl
        have hd7 := H7.out _ (List.getElem_mem hkl)
        have HS := Lib.hid (show addsD a z (days.take (k + 1)) = addsD a z (days.take k) ++ addS ((days[k] : Int) * 1440 + a) ((days[k] : Int) * 1440 + t) from by rw [HDS.out, HDS.out, List.take_succ_eq_append_getElem hkl, List.flatMap_append]; simp)
        have hlen := adds_len a z (days.take k)
        rw [List.length_take] at hlen
        generalize days[k] = d at *
        have hd7' : (d : Int) < 7 := by omega
        have KA := Lib.hid (add_any g b e ((d : Int) * 1440 + a) ((d : Int) * 1440 + t) ts3 _ wr HH.out (by rw [List.length_append]; omega) (by omega) (by omega))
        clear hcl hkl hv2 hlen
        go_wp2_with fail
        refine KA.out.mono ?_
        rintro x w5 ⟨rfl, h5, k5⟩
        have H5 := Lib.hid (show Rh w5 g b e ts3 (L ++ addsD a z (days.take (k + 1))) from by rw [HS.out, ← List.append_assoc]; exact h5)
        have K5 := Lib.hid (HK.out.trans k5)
        clear h5 k5 KA x0
        go_wp2
        go_roundw
        case rel => exact ⟨k + 1, by omega, by go_num, H5, K5⟩
        case measure => simp [Lx.intOf]; omega
      · obtain rfl : n = k := by omega
        have H5 := Lib.hid (show Rh wr g b e ts3 (L ++ addsD a z days) from by
          have := HH.out
          rwa [← HN.out, List.take_length] at this)
        go_wp2
        exact bodyPost_end (results_none rfl _ _ _) rfl (RdP.yes HR.out ⟨rfl, H5.out⟩ HK.out)
  · have hlt2 : ¬ (z : Int) < (a : Int) := by omega
    have hti : (z : Int) = (t : Int) := by rw [← ht, if_neg hlt]
    clear ht hlt
    go_upto_region 7 with fail
    have hn1 : ¬ (a : Int) = (t : Int) := by
      have := beq_eq_false_iff_ne.1 e2
      omega
    have hn2 : a ≤ t := by omega
    have hn3 : ¬ (t : Int) < (a : Int) := by omega
    have hn4 : ((a : Int) == (t : Int)) = false := by rw [beq_eq_false_iff_ne]; exact hn1
    clear hlt2 hti
    go_wp2
    go_loopw [37] (fun i wr => ∃ k : Nat, k ≤ n ∧ i = .int .i64 k ∧ Hid (Rh wr g b e ts3 (L ++ addsD a z (days.take k))) ∧ Hid (Kf b w wr)) (fun i _ => n - (Lx.intOf i).toNat)
    case atStart => exact ⟨0, by omega, rfl, Lib.hid (by rw [List.take_zero, addsD, List.flatMap_nil, List.append_nil]; exact H4.out), K4⟩
    case round =>
      obtain ⟨k, hk, rfl, HH, HK⟩ := hrel
      by_cases hlt : k < n
      · have hkl : k < days.length := by rw [HN.out]; exact hlt
        have hlt2 : (k : Int) < (n : Int) := by omega
        obtain ⟨ao2, c2, hv, _, hcl⟩ := (show OwnD wr b (.slice ao n c) days from OwnD.keep HD.out HK.out).cell
        injection hv with hv1 hv2 hv3
        subst hv1 hv3
        obtain ⟨gd, rfl, x0⟩ := hcl k hkl
        have hd7 := H7.out _ (List.getElem_mem hkl)
        have HS := Lib.hid (show addsD a z (days.take (k + 1)) = addsD a z (days.take k) ++ addS ((days[k] : Int) * 1440 + a) ((days[k] : Int) * 1440 + t) from by rw [HDS.out, HDS.out, List.take_succ_eq_append_getElem hkl, List.flatMap_append]; simp)
        have hlen := adds_len a z (days.take k)
        rw [List.length_take] at hlen
        generalize days[k] = d at *
        have hd7' : (d : Int) < 7 := by omega
        have KA := Lib.hid (add_any g b e ((d : Int) * 1440 + a) ((d : Int) * 1440 + t) ts3 _ wr HH.out (by rw [List.length_append]; omega) (by omega) (by omega))
        clear hcl hkl hv2 hlen
        go_wp2_with fail
        refine KA.out.mono ?_
        rintro x w5 ⟨rfl, h5, k5⟩
        have H5 := Lib.hid (show Rh w5 g b e ts3 (L ++ addsD a z (days.take (k + 1))) from by rw [HS.out, ← List.append_assoc]; exact h5)
        have K5 := Lib.hid (HK.out.trans k5)
        clear h5 k5 KA x0
        go_wp2
        go_roundw
        case rel => exact ⟨k + 1, by omega, by go_num, H5, K5⟩
        case measure => simp [Lx.intOf]; omega
      · obtain rfl : n = k := by omega
        have H5 := Lib.hid (show Rh wr g b e ts3 (L ++ addsD a z days) from by
          have := HH.out
          rwa [← HN.out, List.take_length] at this)
        go_wp2
        exact bodyPost_end (results_none rfl _ _ _) rfl (RdP.yes HR.out ⟨rfl, H5.out⟩ HK.out)
end Go.Proofs.YtgbkjdpjilldmaaDoor.Hr
/- Plain: what reading takes from the tokens. -/
namespace Go.Proofs.YtgbkjdpjilldmaaDoor.Hr
open Lx (Tk B)
theorem acc_len {k : Int} {s : B} {ts r : List Tk} (h : acc k s ts = some r) : r.length + 1 = ts.length := by
  cases ts with
  | nil => cases h
  | cons t q =>
    rw [acc] at h
    split at h
    · injection h with h
      subst h
      rfl
    · cases h
theorem symR_len {s : B} {e : Nat} {ts r : List Tk} (h : symR s e ts = .ok r) : r.length + 1 = ts.length := by
  unfold symR at h
  split at h
  · rename_i q hq
    injection h with h
    subst h
    exact acc_len hq
  · cases h
theorem numR_len {e : Nat} {ts r : List Tk} {t : Tk} (h : numR e ts = .ok (t, r)) : r.length + 1 = ts.length := by
  cases ts with
  | nil => cases h
  | cons t q =>
    rw [numR] at h
    split at h
    · injection h with h
      injection h with _ h
      subst h
      rfl
    · cases h
theorem clockR_len {most e : Nat} {x : Nat × Nat} {ts r : List Tk} (h : clockR most e ts = .ok (x, r)) : r.length + 3 = ts.length := by
  unfold clockR at h
  split at h
  · cases h
  · rename_i q1 q2 hq
    have l1 := numR_len hq
    split at h
    · cases h
    · split at h
      · cases h
      · rename_i q3 hq3
        have l2 := symR_len hq3
        split at h
        · cases h
        · rename_i q4 q5 hq4
          have l3 := numR_len hq4
          split at h
          · cases h
          · injection h with h
            injection h with _ h
            subst h
            omega
theorem dayAt_len : ∀ (f d : Nat) (ts r : List Tk) (k : Nat), dayAt d f ts = some (k, r) → r.length + 1 = ts.length
  | 0, d, ts, r, k, h => by rw [dayAt] at h; cases h
  | f + 1, d, ts, r, k, h => by
    rw [dayAt] at h
    split at h
    · rename_i q hq
      injection h with h
      injection h with _ h
      subst h
      exact acc_len hq
    · exact dayAt_len f (d + 1) ts r k h
theorem dayR_len {e d : Nat} {ts r : List Tk} (h : dayR e ts = .ok (d, r)) : r.length + 1 = ts.length := by
  unfold dayR at h
  split at h
  · rename_i r2 h2
    injection h with h
    subst h
    exact dayAt_len 7 0 ts r d h2
  · cases h
theorem daysTo_ok : ∀ (f d l : Nat), d < 7 → (daysTo f d l).length ≤ f + 1 ∧ ∀ x ∈ daysTo f d l, x < 7
  | 0, d, l, h => ⟨by simp [daysTo], fun x hx => by simp [daysTo] at hx; omega⟩
  | f + 1, d, l, h => by
    obtain ⟨h1, h2⟩ := daysTo_ok f ((d + 1) % 7) l (by omega)
    rw [daysTo]
    split
    · exact ⟨by simp, fun x hx => by simp at hx; omega⟩
    · refine ⟨by rw [List.length_cons]; omega, fun x hx => ?_⟩
      rcases List.mem_cons.1 hx with rfl | hx
      · exact h
      · exact h2 x hx
theorem daysR_ok {e : Nat} {l : List Nat} {ts r : List Tk} (h : daysR e ts = .ok (l, r)) : r.length + 1 ≤ ts.length ∧ l.length ≤ 7 ∧ ∀ x ∈ l, x < 7 := by
  unfold daysR at h
  split at h
  · cases h
  · rename_i d ts1 hd
    have d7 := dayR_lt hd
    have l1 := dayR_len hd
    split at h
    · injection h with h
      injection h with h1 h2
      subst h1 h2
      exact ⟨by omega, by simp, fun x hx => by simp at hx; omega⟩
    · rename_i ts2 ha
      have l2 := acc_len ha
      split at h
      · cases h
      · rename_i l' ts3 hl
        have l3 := dayR_len hl
        injection h with h
        injection h with h1 h2
        subst h1 h2
        obtain ⟨g1, g2⟩ := daysTo_ok 6 d l' d7
        exact ⟨by omega, g1, g2⟩
theorem timeR_ok {e : Nat} {days : List Nat} {m : List Sq} {ts r : List Tk} (h : timeR e days ts = .ok (m, r)) : r.length + 7 = ts.length ∧ m.length ≤ 2 * days.length := by
  unfold timeR at h
  split at h
  · cases h
  · rename_i a a2 ts1 h1
    have l1 := clockR_len h1
    split at h
    · cases h
    · rename_i ts2 h2
      have l2 := symR_len h2
      split at h
      · cases h
      · rename_i z z2 ts3 h3
        have l3 := clockR_len h3
        split at h
        · cases h
        · injection h with h
          injection h with h4 h5
          subst h4 h5
          exact ⟨by omega, adds_len a z days⟩
end Go.Proofs.YtgbkjdpjilldmaaDoor.Hr
/- hours: reader.parts. -/
namespace Go.Proofs.YtgbkjdpjilldmaaDoor.Hr
open Go.RowKit Go.Sort Go.Shelf
open Lx (IsRow alloc1 drew_below Tk B Toks vTok set3 below3 facts3 infoTok str_size str_eq results_rowU)
open St (Sp encS encS_len encS_one)
def lenAt (w : World) (g : Nat) : Nat := match w.cell? ⟨g, 0, none⟩ with | some (.slice _ n _) => n | _ => 0
theorem Rh.len {w : World} {g b e : Nat} {ts : List Tk} {L : List Sp} (h : Rh w g b e ts L) : lenAt w g = ts.length := by
  obtain ⟨h1, ao, n, c, sv, r, hn, _⟩ := h
  unfold lenAt
  rw [r.get 0]
  exact hn.symm
theorem next_rh {g b e : Nat} {ts : List Tk} {L : List Sp} {w : World} (h : Rh w g b e ts L) :
    Calls Tryd.prog 62 #[.pointer (some ⟨g, 0, none⟩)] w fun x w' => x = .returned (.agg #[.int .i64 (nx1 e ts).k, .string ⟨(nx1 e ts).t.toArray⟩, .int .i64 ((nx1 e ts).a : Int)]) ∧ Below w.heap.size w w' := by
  have hz := h.inside
  obtain ⟨h1, ao, n, c, sv, r, hn, hc, ht, ho, _⟩ := h
  obtain ⟨c0, c1, _, f0, _, _⟩ := facts3 r
  exact tnext_any g e n c ts ao w c0 c1 hn (ht.more hz) hc r.inside
theorem partsL_none {e : Nat} {days : List Nat} {L : List Sq} {ts : List Tk} (h : acc 4 [44] ts = none) : ∀ f, partsL e f days L ts = .ok (L, ts)
  | 0 => rfl
  | f + 1 => by rw [partsL, h]
set_option maxRecDepth 100000 in
set_option maxHeartbeats 2000000 in
theorem parts_any (g b e : Nat) (ts : List Tk) (L : List Sp) (w : World) (h : Rh w g b e ts L) (hd : Dn b w) (hL : L.length + 14 * ts.length ≤ 79000) :
    Calls Tryd.prog 47 #[.pointer (some ⟨g, 0, none⟩)] w (RdP b w (partsR e L ts) (fun r x w' => x = .returned (.tuple #[]) ∧ Rh w' g b e r.2 r.1)) := by
  have KD := Lib.hid (days_any g b e ts L w h hd)
  obtain ⟨R, hR⟩ : ∃ R, partsR e L ts = R := ⟨_, rfl⟩
  rw [hR]
  unfold partsR at hR
  have HDN := Lib.hid hd
  clear hd
  cases hN : daysR e ts with
  | error f =>
    rw [hN] at KD hR
    have HR := Lib.hid (show R = .error f from hR.symm)
    clear hR hN h
    go_enter Tryd.func47, Tryd.ntmps47
    go_wp2_with fail
    refine KD.out.mono ?_
    rintro x w2 ⟨rfl, k2⟩
    exact ⟨rfl, RdP.no HR.out rfl k2⟩
  | ok r1 =>
  obtain ⟨d0, ts1⟩ := r1
  obtain ⟨n1, n2, n3⟩ := daysR_ok hN
  rw [hN] at KD hR
  dsimp only at hR
  clear hN h
  go_enter Tryd.func47, Tryd.ntmps47
  go_wp2_with fail
  refine KD.out.mono ?_
  rintro x w2 ⟨⟨⟨dv, rfl, hdv⟩, h2⟩, k2⟩
  dsimp only at h2 hdv
  have K2 := Lib.hid k2
  have HD2 := Lib.hid hdv
  have KT := Lib.hid (time_any g b e ts1 L dv d0 w2 h2 hdv n3 n2 (by omega))
  have D7 := Lib.hid (And.intro n3 n2)
  clear h2 k2 KD hdv
  cases hN : timeR e d0 ts1 with
  | error f =>
    rw [hN] at KT hR
    have HR := Lib.hid (show R = .error f from hR.symm)
    clear hR hN
    go_wp2_with fail
    refine KT.out.mono ?_
    rintro x w3 ⟨rfl, k3⟩
    exact ⟨rfl, RdP.no HR.out rfl (K2.out.trans k3)⟩
  | ok r1 =>
  obtain ⟨m0, ts2⟩ := r1
  obtain ⟨p1, p2⟩ := timeR_ok hN
  rw [hN] at KT hR
  have HR := Lib.hid (show partsL e ts2.length d0 (L ++ m0) ts2 = R from hR)
  clear hN hR
  go_wp2_with fail
  refine KT.out.mono ?_
  rintro x w3 ⟨⟨rfl, h3⟩, k3⟩
  dsimp only at h3
  have H3 := Lib.hid h3
  have K3 := Lib.hid (K2.out.trans k3)
  have HD3 := Lib.hid (HD2.out.keep k3)
  have hL2 : (L ++ m0).length + 14 * ts2.length ≤ 79000 := by rw [List.length_append]; omega
  have HL2 := Lib.hid hL2
  clear h3 k3 KT K2 HD2 hL hL2 n1 n2 n3 p1 p2
  go_wp2
  go_loopw [2] (fun v wr => ∃ (f : Nat) (days : List Nat) (L' : List Sp) (ts' : List Tk), Hid (OwnD wr b v days) ∧ Hid ((∀ d ∈ days, d < 7) ∧ days.length ≤ 7) ∧ Hid (Rh wr g b e ts' L') ∧ Hid (partsL e f days L' ts' = R) ∧ Hid (ts'.length ≤ f) ∧ Hid (L'.length + 14 * ts'.length ≤ 79000) ∧ Hid (Kf b w wr)) (fun _ wr => lenAt wr g)
  case atStart => exact ⟨ts2.length, d0, L ++ m0, ts2, HD3, D7, H3, HR, Lib.hid (Nat.le_refl _), HL2, K3⟩
  case round =>
    obtain ⟨f, days, L', ts', HD, H7, HH, HC, HF, HL, HK⟩ := hrel
    have AC := Lib.hid (acc_any g b e 4 [44] ts' L' wr HH.out (by decide))
    cases hA : acc 4 [44] ts' with
    | none =>
      rw [hA] at AC
      have HR := Lib.hid (show R = .ok (L', ts') from by rw [← HC.out, partsL_none hA])
      clear hA HC
      go_wp2_with fail
      refine AC.out.mono ?_
      rintro x w4 ⟨rfl, h4, k4⟩
      have H4 := Lib.hid h4
      have K4 := Lib.hid (HK.out.trans k4)
      clear h4 k4 AC
      go_wp2
      exact bodyPost_end (results_none rfl _ _ _) rfl (RdP.yes HR.out ⟨rfl, H4.out⟩ K4.out)
    | some ts1' =>
      have la := acc_len hA
      obtain ⟨f', rfl⟩ : ∃ f', f = f' + 1 := ⟨f - 1, by have := HF.out; omega⟩
      have HC2 := HC.out
      rw [partsL, hA] at HC2
      dsimp only at HC2
      rw [hA] at AC
      have LN := Lib.hid HH.out.len
      clear hA HC
      go_wp2_with fail
      refine AC.out.mono ?_
      rintro x w4 ⟨rfl, h4, k4⟩
      have H4 := Lib.hid h4
      have K4 := Lib.hid (HK.out.trans k4)
      have NX := Lib.hid (next_rh h4)
      have HD4 := Lib.hid (HD.out.keep k4)
      clear h4 k4 AC HK HH HD
      go_wp2_with fail
      refine NX.out.mono ?_
      rintro x w5 ⟨rfl, b5⟩
      have H5 := Lib.hid (H4.out.later b5)
      have K5 := Lib.hid (K4.out.trans (Kf.of_below b5 H4.out.inside))
      have HD5 := Lib.hid (HD4.out.keep (Kf.of_below b5 H4.out.inside))
      have hfd := tok_field0 (nx1 e ts1').k ⟨(nx1 e ts1').t.toArray⟩ ((nx1 e ts1').a : Int)
      clear b5 NX H4 K4 HD4
      by_cases hk : (nx1 e ts1').k = 1
      · rw [if_pos hk] at HC2
        have KD := Lib.hid (days_any g b e ts1' L' w5 H5.out (HDN.out.below K5.out.1))
        generalize nx1 e ts1' = nn at *
        obtain ⟨nk, nt, na⟩ := nn
        dsimp only at hk hfd ⊢
        subst hk
        cases hN : daysR e ts1' with
        | error x =>
          rw [hN] at KD HC2
          have HR := Lib.hid (show R = .error x from HC2.symm)
          clear HC2 hN
          go_wp2_with fail
          refine KD.out.mono ?_
          rintro x w6 ⟨rfl, k6⟩
          exact ⟨rfl, RdP.no HR.out rfl (K5.out.trans k6)⟩
        | ok r1 =>
        obtain ⟨days, ts2'⟩ := r1
        obtain ⟨n1, n2, n3⟩ := daysR_ok hN
        rw [hN] at KD HC2
        dsimp only at HC2
        clear hN
        go_wp2_with fail
        refine KD.out.mono ?_
        rintro x w6 ⟨⟨⟨dv, rfl, hdv⟩, h6⟩, k6⟩
        dsimp only at h6 hdv
        have K6 := Lib.hid (K5.out.trans k6)
        have HD6 := Lib.hid hdv
        have KT := Lib.hid (time_any g b e ts2' L' dv days w6 h6 hdv n3 n2 (by have := HL.out; omega))
        have D7 := Lib.hid (And.intro n3 n2)
        clear h6 k6 KD hdv
        cases hN : timeR e days ts2' with
        | error x =>
          rw [hN] at KT HC2
          have HR := Lib.hid (show R = .error x from HC2.symm)
          clear HC2 hN
          go_wp2_with fail
          refine KT.out.mono ?_
          rintro x w7 ⟨rfl, k7⟩
          exact ⟨rfl, RdP.no HR.out rfl (K6.out.trans k7)⟩
        | ok r1 =>
        obtain ⟨m, ts3⟩ := r1
        obtain ⟨p1, p2⟩ := timeR_ok hN
        rw [hN] at KT HC2
        have HC3 := Lib.hid (show partsL e f' days (L' ++ m) ts3 = R from HC2)
        clear hN HC2
        go_wp2_with fail
        refine KT.out.mono ?_
        rintro x w7 ⟨⟨rfl, h7⟩, k7⟩
        dsimp only at h7
        have H7' := Lib.hid h7
        have K7 := Lib.hid (K6.out.trans k7)
        have HD7 := Lib.hid (HD6.out.keep k7)
        have HF7 := Lib.hid (show ts3.length ≤ f' from by have := HF.out; omega)
        have HL7 := Lib.hid (show (L' ++ m).length + 14 * ts3.length ≤ 79000 from by rw [List.length_append]; have := HL.out; omega)
        have LT := Lib.hid (show lenAt w7 g < lenAt wr g from by rw [LN.out, h7.len]; omega)
        clear h7 k7 KT K6 HD6 p1 p2 n1 n2 la
        go_wp2
        go_roundw
        case rel => exact ⟨f', days, L' ++ m, ts3, HD7, D7, H7', HC3, HF7, HL7, K7⟩
        case measure => exact LT.out
      · rw [if_neg hk] at HC2
        generalize nx1 e ts1' = nn at *
        obtain ⟨nk, nt, na⟩ := nn
        dsimp only at hk hfd ⊢
        have hk2 : (nk == 1) = false := by rw [beq_eq_false_iff_ne]; exact hk
        have D7 := H7
        have K6 := K5
        have HD6 := HD5
        have n1 : ts1'.length ≤ ts1'.length := Nat.le_refl _
        have n2 := H7.out.2
        have KT := Lib.hid (time_any g b e ts1' L' _ days w5 H5.out HD5.out H7.out.1 H7.out.2 (by have := HL.out; omega))
        clear H7 K5 HD5
        cases hN : timeR e days ts1' with
        | error x =>
          rw [hN] at KT HC2
          have HR := Lib.hid (show R = .error x from HC2.symm)
          clear HC2 hN
          go_wp2_with fail
          refine KT.out.mono ?_
          rintro x w7 ⟨rfl, k7⟩
          exact ⟨rfl, RdP.no HR.out rfl (K6.out.trans k7)⟩
        | ok r1 =>
        obtain ⟨m, ts3⟩ := r1
        obtain ⟨p1, p2⟩ := timeR_ok hN
        rw [hN] at KT HC2
        have HC3 := Lib.hid (show partsL e f' days (L' ++ m) ts3 = R from HC2)
        clear hN HC2
        go_wp2_with fail
        refine KT.out.mono ?_
        rintro x w7 ⟨⟨rfl, h7⟩, k7⟩
        dsimp only at h7
        have H7' := Lib.hid h7
        have K7 := Lib.hid (K6.out.trans k7)
        have HD7 := Lib.hid (HD6.out.keep k7)
        have HF7 := Lib.hid (show ts3.length ≤ f' from by have := HF.out; omega)
        have HL7 := Lib.hid (show (L' ++ m).length + 14 * ts3.length ≤ 79000 from by rw [List.length_append]; have := HL.out; omega)
        have LT := Lib.hid (show lenAt w7 g < lenAt wr g from by rw [LN.out, h7.len]; omega)
        clear h7 k7 KT K6 HD6 p1 p2 n1 n2 la
        go_wp2
        go_roundw
        case rel => exact ⟨f', days, L' ++ m, ts3, HD7, D7, H7', HC3, HF7, HL7, K7⟩
        case measure => exact LT.out
end Go.Proofs.YtgbkjdpjilldmaaDoor.Hr
/- hours: reader.text. -/
namespace Go.Proofs.YtgbkjdpjilldmaaDoor.Hr
open Go.RowKit Go.Sort Go.Shelf
open Lx (IsRow alloc1 drew_below Tk B Toks vTok set3 below3 facts3 infoTok str_size str_eq results_rowU)
open St (Sp encS encS_len encS_one)
theorem left_rh {g b e : Nat} {ts : List Tk} {L : List Sp} {w : World} (h : Rh w g b e ts L) : ∃ ao n c, w.cell? ⟨g, 0, none⟩ = some (.slice ao n c) ∧ ts.length = n := by
  obtain ⟨h1, ao, n, c, sv, r, hn, _⟩ := h
  exact ⟨ao, n, c, r.get 0, hn⟩
set_option maxRecDepth 100000 in
set_option maxHeartbeats 2000000 in
theorem text_any (g b e : Nat) (ts : List Tk) (w : World) (h : Rh w g b e ts []) (hd : Dn b w) (hL : 14 * ts.length ≤ 79000) :
    Calls Tryd.prog 34 #[.pointer (some ⟨g, 0, none⟩)] w (RdP b w (textR e ts) (fun r x w' => x = .returned (.tuple #[]) ∧ Rh w' g b e [] r)) := by
  have AC := Lib.hid (acc_any g b e 1 [97, 108, 119, 97, 121, 115] ts [] w h (by decide))
  obtain ⟨R, hR⟩ : ∃ R, textR e ts = R := ⟨_, rfl⟩
  rw [hR]
  unfold textR at hR
  have HDN := Lib.hid hd
  clear hd h
  go_enter Tryd.func34, Tryd.ntmps34
  cases hA : acc 1 [97, 108, 119, 97, 121, 115] ts with
  | some r =>
    rw [hA] at AC hR
    have HR := Lib.hid (show (if r = [] then .ok [(0, 10080)] else .error (unexp e r)) = R from hR)
    clear hA hR
    go_wp2_with fail
    refine AC.out.mono ?_
    rintro x w2 ⟨rfl, h2, k2⟩
    have KA := Lib.hid (add_any g b e 0 10080 r [] w2 h2 (by simp) (by omega) (by omega))
    have K2 := Lib.hid k2
    clear h2 k2 AC
    go_wp2_with fail
    refine KA.out.mono ?_
    rintro x w3 ⟨rfl, h3, k3⟩
    have H3 := Lib.hid (show Rh w3 g b e r [(0, 10080)] from h3)
    have K3 := Lib.hid (K2.out.trans k3)
    clear h3 k3 KA K2
    obtain ⟨ao, n, c, c0, hn⟩ := left_rh H3.out
    cases r with
    | nil =>
      have HR2 := Lib.hid (HR.out.symm.trans (if_pos rfl))
      simp at hn
      subst hn
      go_wp2
      exact bodyPost_end (results_none rfl _ _ _) rfl (RdP.yes HR2.out ⟨rfl, H3.out⟩ K3.out)
    | cons t q =>
      have HR2 := Lib.hid (HR.out.symm.trans (if_neg (List.cons_ne_nil t q)))
      have hn0 : (0 : Int) < (n : Int) := by rw [← hn]; simp
      have hn1 : 0 < n := by omega
      have UN := Lib.hid (unexp_rh H3.out)
      clear hn
      go_wp2_with fail
      refine UN.out.mono ?_
      rintro x w5 ⟨rfl, b5⟩
      have K5 := Lib.hid (K3.out.trans (Kf.of_below b5 H3.out.inside))
      clear b5 UN
      go_wp2
      exact ⟨rfl, RdP.no HR2.out rfl K5.out⟩
  | none =>
    rw [hA] at AC hR
    dsimp only at hR
    clear hA
    go_wp2_with fail
    refine AC.out.mono ?_
    rintro x w2 ⟨rfl, h2, k2⟩
    have K2 := Lib.hid k2
    have AC2 := Lib.hid (acc_any g b e 1 [110, 101, 118, 101, 114] ts [] w2 h2 (by decide))
    clear h2 k2 AC
    cases hA : acc 1 [110, 101, 118, 101, 114] ts with
    | some r =>
      rw [hA] at AC2 hR
      have HR := Lib.hid (show (if r = [] then .ok [] else .error (unexp e r)) = R from hR)
      clear hA hR
      go_wp2_with fail
      refine AC2.out.mono ?_
      rintro x w3 ⟨rfl, h3, k3⟩
      have H3 := Lib.hid h3
      have K3 := Lib.hid (K2.out.trans k3)
      clear h3 k3 AC2 K2
      obtain ⟨ao, n, c, c0, hn⟩ := left_rh H3.out
      cases r with
      | nil =>
        have HR2 := Lib.hid (HR.out.symm.trans (if_pos rfl))
        simp at hn
        subst hn
        go_wp2
        exact bodyPost_end (results_none rfl _ _ _) rfl (RdP.yes HR2.out ⟨rfl, H3.out⟩ K3.out)
      | cons t q =>
        have HR2 := Lib.hid (HR.out.symm.trans (if_neg (List.cons_ne_nil t q)))
        have hn0 : (0 : Int) < (n : Int) := by rw [← hn]; simp
        have hn1 : 0 < n := by omega
        have UN := Lib.hid (unexp_rh H3.out)
        clear hn
        go_wp2_with fail
        refine UN.out.mono ?_
        rintro x w5 ⟨rfl, b5⟩
        have K5 := Lib.hid (K3.out.trans (Kf.of_below b5 H3.out.inside))
        clear b5 UN
        go_wp2
        exact ⟨rfl, RdP.no HR2.out rfl K5.out⟩
    | none =>
      rw [hA] at AC2 hR
      dsimp only at hR
      clear hA
      go_wp2_with fail
      refine AC2.out.mono ?_
      rintro x w3 ⟨rfl, h3, k3⟩
      have K2' := Lib.hid (K2.out.trans k3)
      have KP := Lib.hid (parts_any g b e ts [] w3 h3 (HDN.out.below K2'.out.1) (by simpa using hL))
      clear h3 k3 AC2 K2
      cases hN : partsR e [] ts with
      | error f =>
        rw [hN] at KP hR
        have HR := Lib.hid (show R = .error f from hR.symm)
        clear hR hN
        go_wp2_with fail
        refine KP.out.mono ?_
        rintro x w4 ⟨rfl, k4⟩
        exact ⟨rfl, RdP.no HR.out rfl (K2'.out.trans k4)⟩
      | ok r1 =>
      obtain ⟨M, r⟩ := r1
      rw [hN] at KP hR
      have HR := Lib.hid (show (if r = [] then .ok M else .error (unexp e r)) = R from hR)
      clear hN hR
      go_wp2_with fail
      refine KP.out.mono ?_
      rintro x w3 ⟨⟨rfl, h3⟩, k3⟩
      dsimp only at h3
      have H3 := Lib.hid h3
      have K3 := Lib.hid (K2'.out.trans k3)
      clear h3 k3 KP K2'
      obtain ⟨ao, n, c, c0, hn⟩ := left_rh H3.out
      cases r with
      | nil =>
        have HR2 := Lib.hid (HR.out.symm.trans (if_pos rfl))
        simp at hn
        subst hn
        go_wp2
        exact bodyPost_end (results_none rfl _ _ _) rfl (RdP.yes HR2.out ⟨rfl, H3.out⟩ K3.out)
      | cons t q =>
        have HR2 := Lib.hid (HR.out.symm.trans (if_neg (List.cons_ne_nil t q)))
        have hn0 : (0 : Int) < (n : Int) := by rw [← hn]; simp
        have hn1 : 0 < n := by omega
        have UN := Lib.hid (unexp_rh H3.out)
        clear hn
        go_wp2_with fail
        refine UN.out.mono ?_
        rintro x w5 ⟨rfl, b5⟩
        have K5 := Lib.hid (K3.out.trans (Kf.of_below b5 H3.out.inside))
        clear b5 UN
        go_wp2
        exact ⟨rfl, RdP.no HR2.out rfl K5.out⟩
end Go.Proofs.YtgbkjdpjilldmaaDoor.Hr
