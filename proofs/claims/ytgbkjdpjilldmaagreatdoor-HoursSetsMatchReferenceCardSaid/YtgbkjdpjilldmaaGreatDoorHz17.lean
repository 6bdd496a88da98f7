/- Merged: HrDays, HrTime, HrReadM. -/
import Derived.Test.YtgbkjdpjilldmaaGreatDoorHz16
/- hours: slices of days; reader.days. -/
namespace Go.Proofs.YtgbkjdpjilldmaaGreatDoor.Hr
open Go.RowKit Go.Sort Go.Shelf
open Lx (IsRow alloc1 drew_below Tk B Toks vTok set3 below3 facts3 infoTok str_size str_eq results_rowU)
open St (Sp encS encS_len encS_one)
def flatD (l : List Nat) : List Value := l.map fun (d : Nat) => Value.int .i64 (d : Int)
theorem flatD_len (l : List Nat) : (flatD l).length = l.length := by simp [flatD]
/-- a slice of days of one's own. -/
def OwnD (w : World) (base : Nat) (v : Value) (l : List Nat) : Prop := w.ownsRow base 3 1 v l.length (flatD l)
theorem int_info : (Tryz.prog.info? 3).map (fun i => (i.size, i.bytes, i.zero)) = some (1, 8, some (.int .i64 0)) := by kernel_rfl
theorem OwnD.keep {w w' : World} {b : Nat} {v : Value} {l : List Nat} (h : OwnD w b v l) (k : Kf b w w') : OwnD w' b v l := by
  obtain ⟨h1, ⟨hv, h2⟩ | ⟨g', cap', cur, hv, hbase, hb, hc1, hc2, hc3, ht⟩⟩ := h
  · exact ⟨h1, .inl ⟨hv, h2⟩⟩
  · exact ⟨h1, .inr ⟨g', cap', cur, hv, hbase, k.2 g' 3 cur (by decide) (by decide) hb, hc1, hc2, hc3, ht⟩⟩
theorem OwnD.base_le {w : World} {b b' : Nat} {v : Value} {l : List Nat} (h : OwnD w b v l) (hb : b' ≤ b) : OwnD w b' v l := by
  obtain ⟨h1, ⟨hv, h2⟩ | ⟨g', cap', cur, hv, hbase, h3⟩⟩ := h
  · exact ⟨h1, .inl ⟨hv, h2⟩⟩
  · exact ⟨h1, .inr ⟨g', cap', cur, hv, Nat.le_trans hb hbase, h3⟩⟩
theorem OwnD.made (w : World) (base : Nat) (hb : base ≤ w.heap.size) (d : Nat) : OwnD (w.alloc (.cells #[.int .i64 (d : Int)] 3)) base (.slice (some ⟨w.heap.size, 0, none⟩) 1 1) [d] :=
  ⟨rfl, .inr ⟨w.heap.size, 1, #[.int .i64 (d : Int)], rfl, hb, by unfold World.alloc; simp, Nat.le_refl _, by unfold maxLen; omega, rfl, rfl⟩⟩
theorem OwnD.below {w w' : World} {b : Nat} {v : Value} {l : List Nat} (h : OwnD w b v l) (hb : Below w.heap.size w w') : OwnD w' b v l := by
  refine World.ownsRow.kept h (row := none) ⟨hb.os, hb.tape, hb.output, hb.size, fun k hk _ => hb.block k hk⟩ ?_
  cases e : v.ownBlock with
  | none => exact .inl rfl
  | some k => exact .inr (by simp)
theorem OwnD.cell {w : World} {b : Nat} {v : Value} {l : List Nat} (h : OwnD w b v l) : ∃ ao c, v = .slice ao l.length c ∧ l.length ≤ c ∧ ∀ k (hk : k < l.length), ∃ g, ao = some ⟨g, 0, none⟩ ∧ w.cell? ⟨g, k, none⟩ = some (.int .i64 (l[k] : Int)) := by
  obtain ⟨h1, ⟨hv, h2⟩ | ⟨g', cap', cur, hv, hbase, hb, hc1, hc2, hc3, ht⟩⟩ := h
  · exact ⟨none, 0, by rw [hv, h2], by omega, fun k hk => by omega⟩
  · refine ⟨_, cap', hv, hc1, fun k hk => ⟨g', rfl, ?_⟩⟩
    have r : IsRow w g' 3 cur := hb
    rw [r.get k]
    have e : (List.take (l.length * 1) cur.toList)[k]? = (flatD l)[k]? := by rw [ht]
    rw [List.getElem?_take_of_lt (by omega), Array.getElem?_toList] at e
    rw [e]
    simp [flatD, hk]
section
variable {ops : Array Oper} {rest : List Oper} {o : Oper} {a : Act} {Q : Exit → Act → World → Prop} {w : World}
theorem wpList_appD (hgd : o.guard = none) (s x : Operand) (ho : o.op = .call { callee := .builtin .append, args := #[s, x], argTypes := #[49, 49] }) (base : Nat) (v : Value) (l : List Nat) (d : Nat) (b c : Nat)
    (hs : a.eval s = v) (hown : OwnD w base v l) (hx : a.eval x = .slice (some ⟨b, 0, none⟩) 1 c) (hp : w.cell? ⟨b, 0, none⟩ = some (.int .i64 (d : Int))) (hlen : l.length ≤ 1000) (hbase : base ≤ w.heap.size)
    (h : ∀ v' w', OwnD w' base v' (l ++ [d]) → w.grownBy w' v.ownBlock → (∀ k, v.ownBlock = some k → base ≤ k ∧ k < w.heap.size) → wpList Tryz.prog ops Q rest (a.put o.dst v') w') : wpList Tryz.prog ops Q (o :: rest) a w := by
  obtain ⟨i0, hi, hz0, hz1, hz2⟩ := info_of int_info
  refine wpList_append_lies w hgd s x _ ho base 3 i0 _ 1 8 Tryz.underlying49 hi hz2 hz0 hz1 (by decide) (by decide) v l.length (flatD l) hs hown ⟨b, 0, none⟩ 1 c [.int .i64 (d : Int)] hx (by simp) (fun j u hj => by
    match j, hj with
    | 0, hj =>
      simp at hj
      subst hj
      have e : (⟨b, 0, none⟩ : Addr).add 0 = ⟨b, 0, none⟩ := by unfold Addr.add; split <;> simp_all
      rw [e]
      exact hp) (fun u hu => by simp at hu; subst hu; rfl) (by decide) (by unfold maxLen; omega) (by omega) hbase _ rfl ?_
  intro g cap w' h1 h2 _ _
  refine h _ w' ?_ h2 (World.ownsRow.lt hown)
  show World.ownsRow _ _ _ _ _ (l ++ [d]).length (flatD (l ++ [d]))
  rw [List.length_append, show flatD (l ++ [d]) = flatD l ++ [.int .i64 (d : Int)] by simp [flatD]]
  exact h1
end
theorem dayAt_lt : ∀ (f d : Nat) (ts r : List Tk) (k : Nat), dayAt d f ts = some (k, r) → k < d + f
  | 0, d, ts, r, k, h => by rw [dayAt] at h; cases h
  | f + 1, d, ts, r, k, h => by
    rw [dayAt] at h
    split at h
    · injection h with h
      injection h with h _
      omega
    · have := dayAt_lt f (d + 1) ts r k h
      omega
theorem dayR_lt {e d : Nat} {ts r : List Tk} (h : dayR e ts = .ok (d, r)) : d < 7 := by
  unfold dayR at h
  split at h
  · rename_i r2 h2
    injection h with h
    subst h
    have := dayAt_lt 7 0 ts r d h2
    omega
  · cases h
theorem daysTo_end (f d : Nat) : daysTo f d d = [d] := by
  cases f with
  | zero => rfl
  | succ f => rw [daysTo, if_pos rfl]
set_option maxRecDepth 100000 in
set_option maxHeartbeats 2000000 in
theorem days_any (g b e : Nat) (ts : List Tk) (L : List Sp) (w : World) (h : Rh w g b e ts L) (hd : Dn b w) :
    Calls Tryz.prog 127 #[.pointer (some ⟨g, 0, none⟩)] w (RdP b w (daysR e ts) (fun r x w' => (∃ v, x = .returned v ∧ OwnD w' b v r.1) ∧ Rh w' g b e r.2 L)) := by
  have KD := Lib.hid (day_any g b e ts L w h hd)
  obtain ⟨R, hR⟩ : ∃ R, daysR e ts = R := ⟨_, rfl⟩
  rw [hR]
  unfold daysR at hR
  have HDN := Lib.hid hd
  clear hd
  cases hN : dayR e ts with
  | error f =>
    rw [hN] at KD hR
    have HR := Lib.hid (show R = .error f from hR.symm)
    clear hR hN h
    go_enter Tryz.func127, Tryz.ntmps127
    go_wp2_with fail
    refine KD.out.mono ?_
    rintro x w2 ⟨rfl, k2⟩
    exact ⟨rfl, RdP.no HR.out rfl k2⟩
  | ok r1 =>
  obtain ⟨d, ts1⟩ := r1
  have hd7 := dayR_lt hN
  rw [hN] at KD hR
  dsimp only at hR
  clear hN h
  go_enter Tryz.func127, Tryz.ntmps127
  go_wp2_with fail
  refine KD.out.mono ?_
  rintro x w2 ⟨⟨rfl, h2⟩, k2⟩
  dsimp only at h2
  have K2 := Lib.hid k2
  have AC := Lib.hid (acc_any g b e 4 [45] ts1 L w2 h2 (by decide))
  clear h2 k2 KD
  cases hA : acc 4 [45] ts1 with
  | none =>
    rw [hA] at AC hR
    have HR := Lib.hid (show R = .ok ([d], ts1) from hR.symm)
    clear hR hA
    go_wp2_with fail
    refine AC.out.mono ?_
    rintro x w3 ⟨rfl, h3, k3⟩
    have H3 := Lib.hid h3
    have K3 := Lib.hid (K2.out.trans k3)
    clear h3 k3 AC
    have HR := Lib.hid (show R = .ok (daysTo 6 d d, ts1) from by rw [HR.out, daysTo_end])
    go_upto_region 6 with fail
    have hz3 := Lib.hid H3.out.inside
    have O4 := Lib.hid (OwnD.made w3 w3.heap.size (Nat.le_refl _) d)
    have B4 := Lib.hid (alloc1 w3 (.cells #[.int .i64 (d : Int)] 3))
    obtain ⟨w4, hw4⟩ : ∃ w4, w3.alloc (.cells #[.int .i64 (d : Int)] 3) = w4 := ⟨_, rfl⟩
    rw [hw4] at O4 B4 ⊢
    clear hw4
    go_loopw [3, 5] (fun i v wr => ∃ (f k : Nat) (P : List Nat), k < 7 ∧ i = .int .i64 k ∧ P.length + f = 6 ∧ (d + 7 - k) % 7 ≤ f ∧ Hid (P ++ daysTo f k d = daysTo 6 d d) ∧ Hid (OwnD wr w3.heap.size v (P ++ [k])) ∧ Hid (Below w3.heap.size w3 wr)) (fun i _ _ => (d + 7 - (Lx.intOf i).toNat) % 7)
    case atStart => exact ⟨6, d, [], hd7, rfl, rfl, by omega, Lib.hid rfl, O4, B4⟩
    case round =>
      obtain ⟨f, k, P, hk, rfl, hf, hm, HC, HO, HB⟩ := hrel
      by_cases he : k = d
      · have he2 : ((k : Int) == (d : Int)) = true := by rw [beq_iff_eq]; omega
        have he3 : (k == d) = true := by rw [beq_iff_eq]; exact he
        have HE := Lib.hid (show P ++ [k] = daysTo 6 d d from by rw [← HC.out, he, daysTo_end])
        rw [HE.out] at HO
        have FIN := Lib.hid (OwnD.base_le HO.out hz3.out)
        clear HC HO
        go_wp2
        go_ret
        exact RdP.yes HR.out ⟨⟨_, rfl, FIN.out⟩, H3.out.later HB.out⟩ (K3.out.trans (Kf.of_below HB.out hz3.out))
      · have he2 : ((k : Int) == (d : Int)) = false := by rw [beq_eq_false_iff_ne]; omega
        have he3 : (k == d) = false := by rw [beq_eq_false_iff_ne]; exact he
        obtain ⟨k', hk'⟩ : ∃ k', (k + 1) % 7 = k' := ⟨_, rfl⟩
        have hki : ((k : Int) + 1) % 7 = (k' : Int) := by omega
        obtain ⟨f', rfl⟩ : ∃ f', f = f' + 1 := ⟨f - 1, by omega⟩
        have HC2 := Lib.hid (show (P ++ [k]) ++ daysTo f' k' d = daysTo 6 d d from by
          have := HC.out
          rw [daysTo, if_neg he, hk'] at this
          rw [← this]
          simp)
        have b5 := alloc1 wr (.cells #[.int .i64 (k' : Int)] 3)
        have ow := OwnD.below HO.out b5
        have hz5 := Nat.le_trans HB.out.size b5.size
        have hcell := (IsRow.made wr 3 #[.int .i64 (k' : Int)]).get 0
        have hlen : (P ++ [k]).length ≤ 1000 := by simp; omega
        clear HC
        go_upto_region 8 with fail
        rw [hki]
        go_wp2_with (at_builtin; refine wpList_appD rfl _ _ (by rfl) w3.heap.size _ (P ++ [k]) k' wr.heap.size 1 (by rfl) ow (by rfl) hcell hlen hz5 ?_; intro v7 w7 ho7 hg7 hlt7)
        have O7 := Lib.hid ho7
        have B7 := Lib.hid ((HB.out.trans (b5.mono HB.out.size)).grown hg7 hz5 (fun k hk => (hlt7 k hk).1))
        clear ow hz5 hcell hlen ho7 hg7 hlt7 b5
        go_wp2
        go_roundw
        case rel => exact ⟨f', k', P ++ [k], by omega, by go_num, by simp; omega, by omega, HC2, O7, B7⟩
        case measure => simp [Lx.intOf]; omega
  | some ts2 =>
    rw [hA] at AC hR
    dsimp only at hR
    clear hA
    go_wp2_with fail
    refine AC.out.mono ?_
    rintro x w3 ⟨rfl, h3, k3⟩
    have K3 := Lib.hid (K2.out.trans k3)
    have KD := Lib.hid (day_any g b e ts2 L w3 h3 (HDN.out.below K3.out.1))
    clear h3 k3 AC K2
    cases hN : dayR e ts2 with
    | error f =>
      rw [hN] at KD hR
      have HR := Lib.hid (show R = .error f from hR.symm)
      clear hR hN
      go_wp2_with fail
      refine KD.out.mono ?_
      rintro x w4 ⟨rfl, k4⟩
      exact ⟨rfl, RdP.no HR.out rfl (K3.out.trans k4)⟩
    | ok r1 =>
    obtain ⟨l, ts3⟩ := r1
    have hl7 := dayR_lt hN
    rw [hN] at KD hR
    have HR := Lib.hid (show R = .ok (daysTo 6 d l, ts3) from hR.symm)
    clear hN hR
    have K2 := K3
    clear K3
    go_wp2_with fail
    refine KD.out.mono ?_
    rintro x w3 ⟨⟨rfl, h3⟩, k3⟩
    dsimp only at h3
    have H3 := Lib.hid h3
    have K3 := Lib.hid (K2.out.trans k3)
    clear h3 k3 KD K2
    go_upto_region 6 with fail
    have hz3 := Lib.hid H3.out.inside
    have O4 := Lib.hid (OwnD.made w3 w3.heap.size (Nat.le_refl _) d)
    have B4 := Lib.hid (alloc1 w3 (.cells #[.int .i64 (d : Int)] 3))
    obtain ⟨w4, hw4⟩ : ∃ w4, w3.alloc (.cells #[.int .i64 (d : Int)] 3) = w4 := ⟨_, rfl⟩
    rw [hw4] at O4 B4 ⊢
    clear hw4
    go_loopw [3, 5] (fun i v wr => ∃ (f k : Nat) (P : List Nat), k < 7 ∧ i = .int .i64 k ∧ P.length + f = 6 ∧ (l + 7 - k) % 7 ≤ f ∧ Hid (P ++ daysTo f k l = daysTo 6 d l) ∧ Hid (OwnD wr w3.heap.size v (P ++ [k])) ∧ Hid (Below w3.heap.size w3 wr)) (fun i _ _ => (l + 7 - (Lx.intOf i).toNat) % 7)
    case atStart => exact ⟨6, d, [], hd7, rfl, rfl, by omega, Lib.hid rfl, O4, B4⟩
    case round =>
      obtain ⟨f, k, P, hk, rfl, hf, hm, HC, HO, HB⟩ := hrel
      by_cases he : k = l
      · have he2 : ((k : Int) == (l : Int)) = true := by rw [beq_iff_eq]; omega
        have he3 : (k == l) = true := by rw [beq_iff_eq]; exact he
        have HE := Lib.hid (show P ++ [k] = daysTo 6 d l from by rw [← HC.out, he, daysTo_end])
        rw [HE.out] at HO
        have FIN := Lib.hid (OwnD.base_le HO.out hz3.out)
        clear HC HO
        go_wp2
        go_ret
        exact RdP.yes HR.out ⟨⟨_, rfl, FIN.out⟩, H3.out.later HB.out⟩ (K3.out.trans (Kf.of_below HB.out hz3.out))
      · have he2 : ((k : Int) == (l : Int)) = false := by rw [beq_eq_false_iff_ne]; omega
        have he3 : (k == l) = false := by rw [beq_eq_false_iff_ne]; exact he
        obtain ⟨k', hk'⟩ : ∃ k', (k + 1) % 7 = k' := ⟨_, rfl⟩
        have hki : ((k : Int) + 1) % 7 = (k' : Int) := by omega
        obtain ⟨f', rfl⟩ : ∃ f', f = f' + 1 := ⟨f - 1, by omega⟩
        have HC2 := Lib.hid (show (P ++ [k]) ++ daysTo f' k' l = daysTo 6 d l from by
          have := HC.out
          rw [daysTo, if_neg he, hk'] at this
          rw [← this]
          simp)
        have b5 := alloc1 wr (.cells #[.int .i64 (k' : Int)] 3)
        have ow := OwnD.below HO.out b5
        have hz5 := Nat.le_trans HB.out.size b5.size
        have hcell := (IsRow.made wr 3 #[.int .i64 (k' : Int)]).get 0
        have hlen : (P ++ [k]).length ≤ 1000 := by simp; omega
        clear HC
        go_upto_region 8 with fail
        rw [hki]
        go_wp2_with (at_builtin; refine wpList_appD rfl _ _ (by rfl) w3.heap.size _ (P ++ [k]) k' wr.heap.size 1 (by rfl) ow (by rfl) hcell hlen hz5 ?_; intro v7 w7 ho7 hg7 hlt7)
        have O7 := Lib.hid ho7
        have B7 := Lib.hid ((HB.out.trans (b5.mono HB.out.size)).grown hg7 hz5 (fun k hk => (hlt7 k hk).1))
        clear ow hz5 hcell hlen ho7 hg7 hlt7 b5
        go_wp2
        go_roundw
        case rel => exact ⟨f', k', P ++ [k], by omega, by go_num, by simp; omega, by omega, HC2, O7, B7⟩
        case measure => simp [Lx.intOf]; omega
end Go.Proofs.YtgbkjdpjilldmaaGreatDoor.Hr
/- hours: reader.time. -/
namespace Go.Proofs.YtgbkjdpjilldmaaGreatDoor.Hr
open Go.RowKit Go.Sort Go.Shelf
open Lx (IsRow alloc1 drew_below Tk B Toks vTok set3 below3 facts3 infoTok str_size str_eq results_rowU)
open St (Sp encS encS_len encS_one)
theorem clockR_le {most e a at_ : Nat} {ts r : List Tk} (h : clockR most e ts = .ok ((a, at_), r)) (hm : most ≤ 24) : a ≤ 1499 := by
  unfold clockR at h
  split at h
  · cases h
  · rename_i q1 q2
    split at h
    · cases h
    · rename_i c1
      split at h
      · cases h
      · split at h
        · cases h
        · split at h
          · cases h
          · rename_i c2
            injection h with h
            injection h with h _
            injection h with h _
            have : ¬ 60 ≤ _ := fun q => c2 (.inr (.inl q))
            omega
/-- the spans of a time on the days. -/
abbrev addsD (a b : Nat) (days : List Nat) : List Sq := days.flatMap (fun (d : Nat) => addS ((d : Int) * 1440 + a) ((d : Int) * 1440 + (if b < a then (b : Int) + 1440 else b)))
theorem addS_len (f t : Int) : (addS f t).length ≤ 2 := by
  unfold addS
  by_cases h : 10080 < t
  · rw [if_pos h]; simp
  · rw [if_neg h]; simp
theorem adds_len (a b : Nat) : ∀ days : List Nat, (addsD a b days).length ≤ 2 * days.length
  | [] => Nat.le_of_eq rfl
  | d :: l => by
    have := adds_len a b l
    rw [addsD, List.flatMap_cons, List.length_append, List.length_cons]
    have h := addS_len ((d : Int) * 1440 + a) ((d : Int) * 1440 + (if b < a then (b : Int) + 1440 else b))
    unfold addsD at this
    omega
set_option maxRecDepth 100000 in
set_option maxHeartbeats 2000000 in
theorem time_any (g b e : Nat) (ts : List Tk) (L : List Sp) (dv : Value) (days : List Nat) (w : World) (h : Rh w g b e ts L) (hd : OwnD w b dv days) (h7 : ∀ d ∈ days, d < 7) (hn7 : days.length ≤ 7) (hL : L.length ≤ 79000) :
    Calls Tryz.prog 128 #[.pointer (some ⟨g, 0, none⟩), dv] w (RdP b w (timeR e days ts) (fun r x w' => x = .returned (.tuple #[]) ∧ Rh w' g b e r.2 (L ++ r.1))) := by
  have KC := Lib.hid (clock_any g b e 23 ts L w h (by omega))
  obtain ⟨R, hR⟩ : ∃ R, timeR e days ts = R := ⟨_, rfl⟩
  rw [hR]
  unfold timeR at hR
  obtain ⟨ao, c, rfl, hc, _⟩ := hd.cell
  have HD := Lib.hid hd
  have H7 := Lib.hid h7
  obtain ⟨n, hn⟩ : ∃ n, days.length = n := ⟨_, rfl⟩
  rw [hn] at HD hc hn7 ⊢
  have HN := Lib.hid hn
  clear hd h7 hn
  cases hN : clockR 23 e ts with
  | error f =>
    rw [hN] at KC hR
    have HR := Lib.hid (show R = .error f from hR.symm)
    clear hR hN h
    go_enter Tryz.func128, Tryz.ntmps128
    go_wp2_with fail
    refine KC.out.mono ?_
    rintro x w2 ⟨rfl, k2⟩
    exact ⟨rfl, RdP.no HR.out rfl k2⟩
  | ok r1 =>
  obtain ⟨⟨a, a2⟩, ts1⟩ := r1
  have ha := clockR_le hN (by omega)
  rw [hN] at KC hR
  dsimp only at hR
  clear hN h
  go_enter Tryz.func128, Tryz.ntmps128
  go_wp2_with fail
  refine KC.out.mono ?_
  rintro x w2 ⟨⟨rfl, h2⟩, k2⟩
  dsimp only at h2
  have K2 := Lib.hid k2
  have KS := Lib.hid (sym_any g b e [45] ts1 L w2 h2)
  clear h2 k2 KC
  cases hS : symR [45] e ts1 with
  | error f =>
    rw [hS] at KS hR
    have HR := Lib.hid (show R = .error f from hR.symm)
    clear hR hS
    go_wp2_with fail
    refine KS.out.mono ?_
    rintro x w4 ⟨rfl, k4⟩
    exact ⟨rfl, RdP.no HR.out rfl (K2.out.trans k4)⟩
  | ok ts2 =>
  rw [hS] at KS hR
  dsimp only at hR
  clear hS
  go_wp2_with fail
  refine KS.out.mono ?_
  rintro x w3 ⟨⟨rfl, h3⟩, k3⟩
  have K3 := Lib.hid (K2.out.trans k3)
  have KC := Lib.hid (clock_any g b e 24 ts2 L w3 h3 (by omega))
  clear h3 k3 KS K2
  cases hN : clockR 24 e ts2 with
  | error f =>
    rw [hN] at KC hR
    have HR := Lib.hid (show R = .error f from hR.symm)
    clear hR hN
    go_wp2_with fail
    refine KC.out.mono ?_
    rintro x w4 ⟨rfl, k4⟩
    exact ⟨rfl, RdP.no HR.out rfl (K3.out.trans k4)⟩
  | ok r1 =>
  obtain ⟨⟨z, at_⟩, ts3⟩ := r1
  have hz := clockR_le hN (by omega)
  rw [hN] at KC hR
  dsimp only at hR
  clear hN
  go_wp2_with fail
  refine KC.out.mono ?_
  rintro x w4 ⟨⟨rfl, h4⟩, k4⟩
  dsimp only at h4
  have H4 := Lib.hid h4
  have K4 := Lib.hid (K3.out.trans k4)
  clear h4 k4 KC K3
  by_cases e1 : a = z
  · rw [if_pos e1] at hR
    have HR := Lib.hid hR.symm
    subst e1
    clear hR
    go_wp2
    exact ⟨rfl, RdP.no HR.out rfl K4.out⟩
  rw [if_neg e1] at hR
  have HR := Lib.hid (show R = .ok (addsD a z days, ts3) from hR.symm)
  have e2 : ((a : Int) == (z : Int)) = false := by rw [beq_eq_false_iff_ne]; omega
  have e3 : (a == z) = false := by rw [beq_eq_false_iff_ne]; exact e1
  obtain ⟨t, ht⟩ : ∃ t : Nat, (if z < a then (z : Int) + 1440 else z) = t := by
    split
    · exact ⟨z + 1440, by omega⟩
    · exact ⟨z, rfl⟩
  have HDS := Lib.hid (show ∀ days : List Nat, addsD a z days = days.flatMap (fun (d : Nat) => addS ((d : Int) * 1440 + a) ((d : Int) * 1440 + t)) from fun days => by unfold addsD; rw [ht])
  have ht2 : t ≤ 2939 := by split at ht <;> omega
  have hcn : (n : Int) ≤ (c : Int) := by omega
  have ha' : (a : Int) ≤ 1499 := by omega
  have ht' : (t : Int) ≤ 2939 := by omega
  clear hR e1
  by_cases hlt : z < a
  · have hlt2 : (z : Int) < (a : Int) := by omega
    have hti : (z : Int) + 1440 = (t : Int) := by rw [← ht, if_pos hlt]
    clear ht hlt
    go_upto_region 7 with fail
    clear hlt2 hti
    go_wp2
    go_loopw [37] (fun i wr => ∃ k : Nat, k ≤ n ∧ i = .int .i64 k ∧ Hid (Rh wr g b e ts3 (L ++ addsD a z (days.take k))) ∧ Hid (Kf b w wr)) (fun i _ => n - (Lx.intOf i).toNat)
    case atStart => exact ⟨0, by omega, rfl, Lib.hid (by rw [List.take_zero, addsD, List.flatMap_nil, List.append_nil]; exact H4.out), K4⟩
    case round =>
      obtain ⟨k, hk, rfl, HH, HK⟩ := hrel
      by_cases hlt : k < n
      · have hkl : k < days.length := by rw [HN.out]; exact hlt
        have hlt2 : (k : Int) < (n : Int) := by omega
        obtain ⟨ao2, c2, hv, _, hcl⟩ := (show OwnD wr b (.slice ao n c) days from OwnD.keep HD.out HK.out).cell
        injection hv with hv1 hv2 hv3
        subst hv1 hv3
        obtain ⟨gd, rfl, x0⟩ := hcl k hkl
        have hd7 := H7.out _ (List.getElem_mem hkl)
        have HS := Lib.hid (show addsD a z (days.take (k + 1)) = addsD a z (days.take k) ++ addS ((days[k] : Int) * 1440 + a) ((days[k] : Int) * 1440 + t) from by rw [HDS.out, HDS.out, List.take_succ_eq_append_getElem hkl, List.flatMap_append]; simp)
        have hlen := adds_len a z (days.take k)
        rw [List.length_take] at hlen
        generalize days[k] = d at *
        have hd7' : (d : Int) < 7 := by omega
        have KA := Lib.hid (add_any g b e ((d : Int) * 1440 + a) ((d : Int) * 1440 + t) ts3 _ wr HH.out (by rw [List.length_append]; omega) (by omega) (by omega))
        clear hcl hkl hv2 hlen
        go_wp2_with fail
        refine KA.out.mono ?_
        rintro x w5 ⟨rfl, h5, k5⟩
        have H5 := Lib.hid (show Rh w5 g b e ts3 (L ++ addsD a z (days.take (k + 1))) from by rw [HS.out, ← List.append_assoc]; exact h5)
        have K5 := Lib.hid (HK.out.trans k5)
        clear h5 k5 KA x0
        go_wp2
        go_roundw
        case rel => exact ⟨k + 1, by omega, by go_num, H5, K5⟩
        case measure => simp [Lx.intOf]; omega
      · obtain rfl : n = k := by omega
        have H5 := Lib.hid (show Rh wr g b e ts3 (L ++ addsD a z days) from by
          have := HH.out
          rwa [← HN.out, List.take_length] at this)
        go_wp2
        exact bodyPost_end (results_none rfl _ _ _) rfl (RdP.yes HR.out ⟨rfl, H5.out⟩ HK.out)
  · have hlt2 : ¬ (z : Int) < (a : Int) := by omega
    have hti : (z : Int) = (t : Int) := by rw [← ht, if_neg hlt]
    clear ht hlt
    go_upto_region 7 with fail
    have hn1 : ¬ (a : Int) = (t : Int) := by
      have := beq_eq_false_iff_ne.1 e2
      omega
    have hn2 : a ≤ t := by omega
    have hn3 : ¬ (t : Int) < (a : Int) := by omega
    have hn4 : ((a : Int) == (t : Int)) = false := by rw [beq_eq_false_iff_ne]; exact hn1
    clear hlt2 hti
    go_wp2
    go_loopw [37] (fun i wr => ∃ k : Nat, k ≤ n ∧ i = .int .i64 k ∧ Hid (Rh wr g b e ts3 (L ++ addsD a z (days.take k))) ∧ Hid (Kf b w wr)) (fun i _ => n - (Lx.intOf i).toNat)
    case atStart => exact ⟨0, by omega, rfl, Lib.hid (by rw [List.take_zero, addsD, List.flatMap_nil, List.append_nil]; exact H4.out), K4⟩
    case round =>
      obtain ⟨k, hk, rfl, HH, HK⟩ := hrel
      by_cases hlt : k < n
      · have hkl : k < days.length := by rw [HN.out]; exact hlt
        have hlt2 : (k : Int) < (n : Int) := by omega
        obtain ⟨ao2, c2, hv, _, hcl⟩ := (show OwnD wr b (.slice ao n c) days from OwnD.keep HD.out HK.out).cell
        injection hv with hv1 hv2 hv3
        subst hv1 hv3
        obtain ⟨gd, rfl, x0⟩ := hcl k hkl
        have hd7 := H7.out _ (List.getElem_mem hkl)
        have HS := Lib.hid (show addsD a z (days.take (k + 1)) = addsD a z (days.take k) ++ addS ((days[k] : Int) * 1440 + a) ((days[k] : Int) * 1440 + t) from by rw [HDS.out, HDS.out, List.take_succ_eq_append_getElem hkl, List.flatMap_append]; simp)
        have hlen := adds_len a z (days.take k)
        rw [List.length_take] at hlen
        generalize days[k] = d at *
        have hd7' : (d : Int) < 7 := by omega
        have KA := Lib.hid (add_any g b e ((d : Int) * 1440 + a) ((d : Int) * 1440 + t) ts3 _ wr HH.out (by rw [List.length_append]; omega) (by omega) (by omega))
        clear hcl hkl hv2 hlen
        go_wp2_with fail
        refine KA.out.mono ?_
        rintro x w5 ⟨rfl, h5, k5⟩
        have H5 := Lib.hid (show Rh w5 g b e ts3 (L ++ addsD a z (days.take (k + 1))) from by rw [HS.out, ← List.append_assoc]; exact h5)
        have K5 := Lib.hid (HK.out.trans k5)
        clear h5 k5 KA x0
        go_wp2
        go_roundw
        case rel => exact ⟨k + 1, by omega, by go_num, H5, K5⟩
        case measure => simp [Lx.intOf]; omega
      · obtain rfl : n = k := by omega
        have H5 := Lib.hid (show Rh wr g b e ts3 (L ++ addsD a z days) from by
          have := HH.out
          rwa [← HN.out, List.take_length] at this)
        go_wp2
        exact bodyPost_end (results_none rfl _ _ _) rfl (RdP.yes HR.out ⟨rfl, H5.out⟩ HK.out)
end Go.Proofs.YtgbkjdpjilldmaaGreatDoor.Hr
/- Plain: what reading takes from the tokens. -/
namespace Go.Proofs.YtgbkjdpjilldmaaGreatDoor.Hr
open Lx (Tk B)
theorem acc_len {k : Int} {s : B} {ts r : List Tk} (h : acc k s ts = some r) : r.length + 1 = ts.length := by
  cases ts with
  | nil => cases h
  | cons t q =>
    rw [acc] at h
    split at h
    · injection h with h
      subst h
      rfl
    · cases h
theorem symR_len {s : B} {e : Nat} {ts r : List Tk} (h : symR s e ts = .ok r) : r.length + 1 = ts.length := by
  unfold symR at h
  split at h
  · rename_i q hq
    injection h with h
    subst h
    exact acc_len hq
  · cases h
theorem numR_len {e : Nat} {ts r : List Tk} {t : Tk} (h : numR e ts = .ok (t, r)) : r.length + 1 = ts.length := by
  cases ts with
  | nil => cases h
  | cons t q =>
    rw [numR] at h
    split at h
    · injection h with h
      injection h with _ h
      subst h
      rfl
    · cases h
theorem clockR_len {most e : Nat} {x : Nat × Nat} {ts r : List Tk} (h : clockR most e ts = .ok (x, r)) : r.length + 3 = ts.length := by
  unfold clockR at h
  split at h
  · cases h
  · rename_i q1 q2 hq
    have l1 := numR_len hq
    split at h
    · cases h
    · split at h
      · cases h
      · rename_i q3 hq3
        have l2 := symR_len hq3
        split at h
        · cases h
        · rename_i q4 q5 hq4
          have l3 := numR_len hq4
          split at h
          · cases h
          · injection h with h
            injection h with _ h
            subst h
            omega
theorem dayAt_len : ∀ (f d : Nat) (ts r : List Tk) (k : Nat), dayAt d f ts = some (k, r) → r.length + 1 = ts.length
  | 0, d, ts, r, k, h => by rw [dayAt] at h; cases h
  | f + 1, d, ts, r, k, h => by
    rw [dayAt] at h
    split at h
    · rename_i q hq
      injection h with h
      injection h with _ h
      subst h
      exact acc_len hq
    · exact dayAt_len f (d + 1) ts r k h
theorem dayR_len {e d : Nat} {ts r : List Tk} (h : dayR e ts = .ok (d, r)) : r.length + 1 = ts.length := by
  unfold dayR at h
  split at h
  · rename_i r2 h2
    injection h with h
    subst h
    exact dayAt_len 7 0 ts r d h2
  · cases h
theorem daysTo_ok : ∀ (f d l : Nat), d < 7 → (daysTo f d l).length ≤ f + 1 ∧ ∀ x ∈ daysTo f d l, x < 7
  | 0, d, l, h => ⟨by simp [daysTo], fun x hx => by simp [daysTo] at hx; omega⟩
  | f + 1, d, l, h => by
    obtain ⟨h1, h2⟩ := daysTo_ok f ((d + 1) % 7) l (by omega)
    rw [daysTo]
    split
    · exact ⟨by simp, fun x hx => by simp at hx; omega⟩
    · refine ⟨by rw [List.length_cons]; omega, fun x hx => ?_⟩
      rcases List.mem_cons.1 hx with rfl | hx
      · exact h
      · exact h2 x hx
theorem daysR_ok {e : Nat} {l : List Nat} {ts r : List Tk} (h : daysR e ts = .ok (l, r)) : r.length + 1 ≤ ts.length ∧ l.length ≤ 7 ∧ ∀ x ∈ l, x < 7 := by
  unfold daysR at h
  split at h
  · cases h
  · rename_i d ts1 hd
    have d7 := dayR_lt hd
    have l1 := dayR_len hd
    split at h
    · injection h with h
      injection h with h1 h2
      subst h1 h2
      exact ⟨by omega, by simp, fun x hx => by simp at hx; omega⟩
    · rename_i ts2 ha
      have l2 := acc_len ha
      split at h
      · cases h
      · rename_i l' ts3 hl
        have l3 := dayR_len hl
        injection h with h
        injection h with h1 h2
        subst h1 h2
        obtain ⟨g1, g2⟩ := daysTo_ok 6 d l' d7
        exact ⟨by omega, g1, g2⟩
theorem timeR_ok {e : Nat} {days : List Nat} {m : List Sq} {ts r : List Tk} (h : timeR e days ts = .ok (m, r)) : r.length + 7 = ts.length ∧ m.length ≤ 2 * days.length := by
  unfold timeR at h
  split at h
  · cases h
  · rename_i a a2 ts1 h1
    have l1 := clockR_len h1
    split at h
    · cases h
    · rename_i ts2 h2
      have l2 := symR_len h2
      split at h
      · cases h
      · rename_i z z2 ts3 h3
        have l3 := clockR_len h3
        split at h
        · cases h
        · injection h with h
          injection h with h4 h5
          subst h4 h5
          exact ⟨by omega, adds_len a z days⟩
end Go.Proofs.YtgbkjdpjilldmaaGreatDoor.Hr
