/- Merged: HrReadS, HrParseM, HrParse, LxLaws, HrDg. -/
import Derived.Test.YtgbkjdpjilldmaaGreatDoorHz17
import Derived.Test.YtgbkjdpjilldmaaGreatDoorHz7
import Derived.Test.YtgbkjdpjilldmaaGreatDoorHz18
/- Plain: the spans that are read are of the week, and few. -/
namespace Go.Proofs.YtgbkjdpjilldmaaGreatDoor.Hr
open Lx (Tk B)
theorem clockR_is {most e a at_ : Nat} {ts r : List Tk} (h : clockR most e ts = .ok ((a, at_), r)) : ∃ x y, a = x * 60 + y ∧ x ≤ most ∧ y < 60 ∧ ¬ (x = 24 ∧ 0 < y) := by
  unfold clockR at h
  split at h
  · cases h
  · split at h
    · cases h
    · rename_i c1
      split at h
      · cases h
      · split at h
        · cases h
        · split at h
          · cases h
          · rename_i c2
            injection h with h
            injection h with h _
            injection h with h _
            refine ⟨_, _, h.symm, by omega, Nat.lt_of_not_le (fun q => c2 (.inr (.inl q))), fun q => c2 (.inr (.inr q))⟩
theorem add_ok {f t : Int} (h0 : 0 ≤ f) (h1 : f < t) (h2 : f < 10080) (h3 : t ≤ 20160) : ∀ s ∈ addS f t, okS s := by
  intro s hs
  unfold addS at hs
  by_cases h : 10080 < t
  · rw [if_pos h] at hs
    simp at hs
    rcases hs with rfl | rfl
    · exact (show (0 : Int) ≤ 0 ∧ 0 < t - 10080 ∧ t - 10080 ≤ 10080 from ⟨by omega, by omega, by omega⟩)
    · exact (show 0 ≤ f ∧ f < 10080 ∧ (10080 : Int) ≤ 10080 from ⟨h0, h2, by omega⟩)
  · rw [if_neg h] at hs
    simp at hs
    subst hs
    exact (show 0 ≤ f ∧ f < t ∧ t ≤ 10080 from ⟨h0, h1, by omega⟩)
theorem timeR_okS {e : Nat} {days : List Nat} {m : List Sq} {ts r : List Tk} (h : timeR e days ts = .ok (m, r)) (h7 : ∀ d ∈ days, d < 7) : ∀ s ∈ m, okS s := by
  unfold timeR at h
  split at h
  · cases h
  · rename_i a a2 ts1 h1
    obtain ⟨x, y, ha, hx, hy, _⟩ := clockR_is h1
    split at h
    · cases h
    · split at h
      · cases h
      · rename_i z z2 ts3 h3
        obtain ⟨u, v, hz, hu, hv, huv⟩ := clockR_is h3
        split at h
        · cases h
        · rename_i hne
          injection h with h
          injection h with h4 _
          subst h4
          intro s hs
          obtain ⟨d, hd, hs⟩ := List.mem_flatMap.1 hs
          have d7 := h7 d hd
          have hz2 : z ≤ 1440 := by
            by_cases q : u = 24
            · have : ¬ 0 < v := fun w => huv ⟨q, w⟩
              omega
            · omega
          refine add_ok (by omega) ?_ (by omega) ?_ s hs
          · split <;> omega
          · split <;> omega
theorem partsL_ok (e : Nat) : ∀ (f : Nat) (days : List Nat) (L : List Sq) (ts : List Tk) (M : List Sq) (r : List Tk), partsL e f days L ts = .ok (M, r) → (∀ d ∈ days, d < 7) → days.length ≤ 7 → (∀ s ∈ L, okS s) → (∀ s ∈ M, okS s) ∧ M.length + 14 * r.length ≤ L.length + 14 * ts.length
  | 0, days, L, ts, M, r, h, _, _, hL => by
    rw [partsL] at h
    injection h with h
    injection h with h1 h2
    subst h1 h2
    exact ⟨hL, Nat.le_refl _⟩
  | f + 1, days, L, ts, M, r, h, h7, hl, hL => by
    rw [partsL] at h
    split at h
    · injection h with h
      injection h with h1 h2
      subst h1 h2
      exact ⟨hL, Nat.le_refl _⟩
    · rename_i ts1 ha
      have la := acc_len ha
      split at h
      · split at h
        · cases h
        · rename_i d2 ts2 hd
          obtain ⟨n1, n2, n3⟩ := daysR_ok hd
          split at h
          · cases h
          · rename_i m ts3 ht
            obtain ⟨p1, p2⟩ := timeR_ok ht
            obtain ⟨q1, q2⟩ := partsL_ok e f d2 (L ++ m) ts3 M r h n3 n2 (fun s hs => (List.mem_append.1 hs).elim (hL s) (timeR_okS ht n3 s))
            rw [List.length_append] at q2
            exact ⟨q1, by omega⟩
      · split at h
        · cases h
        · rename_i m ts3 ht
          obtain ⟨p1, p2⟩ := timeR_ok ht
          obtain ⟨q1, q2⟩ := partsL_ok e f days (L ++ m) ts3 M r h h7 hl (fun s hs => (List.mem_append.1 hs).elim (hL s) (timeR_okS ht h7 s))
          rw [List.length_append] at q2
          exact ⟨q1, by omega⟩
theorem textR_ok {e : Nat} {ts : List Tk} {L : List Sq} (h : textR e ts = .ok L) : (∀ s ∈ L, okS s) ∧ L.length ≤ 14 * ts.length := by
  unfold textR at h
  split at h
  · rename_i r ha
    have la := acc_len ha
    split at h
    · injection h with h
      subst h
      exact ⟨fun s hs => by simp at hs; subst hs; exact (show (0 : Int) ≤ 0 ∧ (0 : Int) < 10080 ∧ (10080 : Int) ≤ 10080 from ⟨by omega, by omega, by omega⟩), by simp; omega⟩
    · cases h
  · split at h
    · split at h
      · injection h with h
        subst h
        exact ⟨fun s hs => (by cases hs), by simp⟩
      · cases h
    · split at h
      · cases h
      · rename_i M r hp
        split at h
        · injection h with h
          subst h
          unfold partsR at hp
          split at hp
          · cases hp
          · rename_i d ts1 hd
            obtain ⟨n1, n2, n3⟩ := daysR_ok hd
            split at hp
            · cases hp
            · rename_i m ts2 ht
              obtain ⟨p1, p2⟩ := timeR_ok ht
              obtain ⟨q1, q2⟩ := partsL_ok e _ d ([] ++ m) ts2 M r hp n3 n2 (fun s hs => timeR_okS ht n3 s (by simpa using hs))
              simp at q2
              exact ⟨q1, by omega⟩
        · cases h
end Go.Proofs.YtgbkjdpjilldmaaGreatDoor.Hr
/- Plain: Parse's answer; the errors of reading. -/
namespace Go.Proofs.YtgbkjdpjilldmaaGreatDoor.Hr
open Lx (Tk B lexR)
def Ec (f : Fl) : Prop := f.1 = 5 ∨ f.1 = 6 ∨ f.1 = 10
theorem unexp_ec (e : Nat) : ∀ ts, Ec (unexp e ts)
  | [] => .inr (.inl rfl)
  | _ :: _ => .inl rfl
theorem symR_ec {s : B} {e : Nat} {ts : List Tk} {f : Fl} (h : symR s e ts = .error f) : Ec f := by
  unfold symR at h
  split at h
  · cases h
  · injection h with h; subst h; exact unexp_ec e ts
theorem numR_ec {e : Nat} {ts : List Tk} {f : Fl} (h : numR e ts = .error f) : Ec f := by
  cases ts with
  | nil => rw [numR] at h; injection h with h; subst h; exact .inr (.inl rfl)
  | cons t q =>
    rw [numR] at h
    split at h
    · cases h
    · injection h with h; subst h; exact .inl rfl
theorem clockR_ec {most e : Nat} {ts : List Tk} {f : Fl} (h : clockR most e ts = .error f) : Ec f := by
  unfold clockR at h
  split at h
  · rename_i f2 hf; injection h with h; subst h; exact numR_ec hf
  · split at h
    · injection h with h; subst h; exact .inr (.inr rfl)
    · split at h
      · rename_i f2 hf; injection h with h; subst h; exact symR_ec hf
      · split at h
        · rename_i f2 hf; injection h with h; subst h; exact numR_ec hf
        · split at h
          · injection h with h; subst h; exact .inr (.inr rfl)
          · cases h
theorem dayR_ec {e : Nat} {ts : List Tk} {f : Fl} (h : dayR e ts = .error f) : Ec f := by
  unfold dayR at h
  split at h
  · cases h
  · injection h with h; subst h; exact unexp_ec e ts
theorem daysR_ec {e : Nat} {ts : List Tk} {f : Fl} (h : daysR e ts = .error f) : Ec f := by
  unfold daysR at h
  split at h
  · rename_i f2 hf; injection h with h; subst h; exact dayR_ec hf
  · split at h
    · cases h
    · split at h
      · rename_i f2 hf; injection h with h; subst h; exact dayR_ec hf
      · cases h
theorem timeR_ec {e : Nat} {days : List Nat} {ts : List Tk} {f : Fl} (h : timeR e days ts = .error f) : Ec f := by
  unfold timeR at h
  split at h
  · rename_i f2 hf; injection h with h; subst h; exact clockR_ec hf
  · split at h
    · rename_i f2 hf; injection h with h; subst h; exact symR_ec hf
    · split at h
      · rename_i f2 hf; injection h with h; subst h; exact clockR_ec hf
      · split at h
        · injection h with h; subst h; exact .inr (.inr rfl)
        · cases h
theorem partsL_ec (e : Nat) : ∀ (n : Nat) (days : List Nat) (L : List Sq) (ts : List Tk) (f : Fl), partsL e n days L ts = .error f → Ec f
  | 0, days, L, ts, f, h => by rw [partsL] at h; cases h
  | n + 1, days, L, ts, f, h => by
    rw [partsL] at h
    split at h
    · cases h
    · split at h
      · split at h
        · rename_i f2 hf; injection h with h; subst h; exact daysR_ec hf
        · split at h
          · rename_i f2 hf; injection h with h; subst h; exact timeR_ec hf
          · exact partsL_ec e n _ _ _ f h
      · split at h
        · rename_i f2 hf; injection h with h; subst h; exact timeR_ec hf
        · exact partsL_ec e n _ _ _ f h
theorem textR_ec {e : Nat} {ts : List Tk} {f : Fl} (h : textR e ts = .error f) : Ec f := by
  unfold textR at h
  split at h
  · split at h
    · cases h
    · injection h with h; subst h; exact unexp_ec e _
  · split at h
    · split at h
      · cases h
      · injection h with h; subst h; exact unexp_ec e _
    · split at h
      · rename_i f2 hf
        injection h with h
        subst h
        unfold partsR at hf
        split at hf
        · rename_i f3 hf3; injection hf with hf; subst hf; exact daysR_ec hf3
        · split at hf
          · rename_i f3 hf3; injection hf with hf; subst hf; exact timeR_ec hf3
          · exact partsL_ec e _ _ _ _ _ hf
      · split at h
        · cases h
        · injection h with h; subst h; exact unexp_ec e _
/-- what Parse answers: the spans, the error, the offset. -/
def parseR (s : B) : List Sq × Int × Int :=
  if (lexR s).2.1 ≠ 0 then ([], (lexR s).2.1, (lexR s).2.2)
  else match textR s.length (lexR s).1 with
    | .error f => ([], f.1, f.2)
    | .ok L => if 60 < (uni L).length then ([], 2, (s.length : Int)) else (uni L, 0, 0)
end Go.Proofs.YtgbkjdpjilldmaaGreatDoor.Hr
/- hours: Parse. -/
namespace Go.Proofs.YtgbkjdpjilldmaaGreatDoor.Hr
open Go.RowKit Go.Sort Go.Shelf
open Lx (IsRow alloc1 drew_below Tk B Toks lexR lex_any LOut str_size str_eq)
open St (Sp encS encS_len encS_one)
/-- what Parse answers and leaves. -/
def ParseP (w : World) (r : List Sp × Int × Int) (x : Ending) (w' : World) : Prop :=
  (∃ v, x = .returned (.tuple #[v, .int .i64 r.2.1, .int .i64 r.2.2]) ∧ OwnS w' w.heap.size v r.1) ∧ Below w.heap.size w w'
theorem ParseP.fin {w w' : World} {r q : List Sp × Int × Int} {x : Ending} (h : r = q) (h2 : ParseP w q x w') : ParseP w r x w' := h ▸ h2
theorem uni_len (L : List Sq) : (uni L).length ≤ L.length := by
  have := join_len (srtB L) (srtB L).length
  rw [List.take_length, (srtB_perm L).length_eq] at this
  exact this
set_option maxRecDepth 100000 in
set_option maxHeartbeats 1000000 in
theorem parse_any (s : B) (w : World) (hs : s.length ≤ 5000) (hlen : (lexR s).1.length ≤ 5000) (hdg : DgA (lexR s).1) (hd : Dn w.heap.size w) :
    Calls Tryz.prog 9 #[.string ⟨s.toArray⟩] w (ParseP w (parseR s)) := by
  have KL := Lib.hid (lex_any ⟨s.toArray⟩ w)
  rw [str_eq] at KL
  rcases hl : lexR s with ⟨ts, e, at_⟩
  rw [hl] at KL hlen hdg
  obtain ⟨R, hR⟩ : ∃ R, parseR s = R := ⟨_, rfl⟩
  rw [hR]
  unfold parseR at hR
  rw [hl] at hR
  dsimp only at hR hlen hdg
  rw [← str_size s] at hR hs
  generalize ByteArray.mk s.toArray = bm at *
  have hs' : (bm.size : Int) ≤ 5000 := by omega
  have HD := Lib.hid hd
  have HDG := Lib.hid hdg
  have HLN := Lib.hid hlen
  clear hl hd hdg
  go_enter Tryz.func9, Tryz.ntmps9
  go_wp2_with fail
  refine KL.out.mono ?_
  rintro x w2 ⟨⟨v, rfl, ov⟩, b2⟩
  dsimp only at ov ⊢
  obtain ⟨ao, c, rfl, hc, ht⟩ := ov.toks
  have B2 := Lib.hid b2
  by_cases he : e = 0
  rotate_left
  · rw [if_pos he] at hR
    have HR := Lib.hid hR.symm
    have he2 : (e == 0) = false := by rw [beq_eq_false_iff_ne]; exact he
    clear hR ov ht b2 KL
    go_wp2
    go_ret3
    exact ParseP.fin HR.out ⟨⟨_, rfl, OwnS.nil _ _⟩, B2.out⟩
  subst he
  rw [if_neg (by simp)] at hR
  have DN2 := HD.out.below b2
  have KR := Lib.hid (read_any ao ts.length c bm.size ts w2 rfl hc ht HDG.out ⟨Nat.lt_of_lt_of_le DN2.1 b2.size, DN2.2⟩ (by omega))
  obtain ⟨n, hn⟩ : ∃ n, ts.length = n := ⟨_, rfl⟩
  rw [hn] at KR hc ⊢
  clear hn hlen
  clear ov ht b2 KL DN2
  go_wp2_with fail
  refine KR.out.mono ?_
  intro x w3 hx
  cases hT : textR bm.size ts with
  | error f =>
    rw [hT] at hx hR
    have ec := textR_ec hT
    obtain ⟨f1, f2⟩ := f
    obtain ⟨rfl, b3⟩ := hx
    have HR := Lib.hid (show R = ([], f1, f2) from hR.symm)
    have B3 := Lib.hid (B2.out.trans (b3.mono B2.out.size))
    dsimp only [Ec] at ec ⊢
    have hf1 : (f1 == 0) = false := by rw [beq_eq_false_iff_ne]; omega
    have hf2 : ¬ f1 = 0 := by omega
    clear hR hT b3 KR ec
    go_wp2
    go_ret3
    exact ParseP.fin HR.out ⟨⟨_, rfl, OwnS.nil _ _⟩, B3.out⟩
  | ok L =>
    rw [hT] at hx hR
    obtain ⟨ok1, ok2⟩ := textR_ok hT
    obtain ⟨⟨v3, rfl, o3⟩, b3⟩ := hx
    have B3 := Lib.hid (B2.out.trans (b3.mono B2.out.size))
    obtain ⟨a3, c3, hv3, hc3, _, _, t3⟩ := spt_of o3
    obtain ⟨k, hk⟩ : ∃ k, L.length = k := ⟨_, rfl⟩
    rw [hk] at hv3 hc3
    subst hv3
    have KJ := Lib.hid (joined_any a3 k c3 L w3 hk t3 (by have := HLN.out; omega))
    have OK1 := Lib.hid ok1
    have HR := Lib.hid (show (if 60 < (uni L).length then ([], 2, (bm.size : Int)) else (uni L, 0, 0)) = R from hR)
    clear hR hT b3 KR o3 t3 ok1
    go_wp2_with fail
    refine KJ.out.mono ?_
    rintro x w4 ⟨⟨v4, l2, rfl, j1, j2, j3⟩, b4⟩
    rw [join_uni OK1.out j1 j2] at j3
    have B4 := Lib.hid (B3.out.trans (b4.mono B3.out.size))
    have O4 := Lib.hid (show OwnS w4 w.heap.size v4 (uni L) from Own.base_le j3 B3.out.size)
    have ul := uni_len L
    obtain ⟨a4, c4, hv4, hc4, _⟩ := Own.shape O4.out
    generalize hU : uni L = U at *
    obtain ⟨m, hm⟩ : ∃ m, U.length = m := ⟨_, rfl⟩
    rw [hm] at hv4 hc4 HR ul
    subst hv4
    clear j1 j2 j3 b4 KJ hU
    by_cases h60 : 60 < m
    · have h1 : (60 : Int) < (m : Int) := by omega
      have HR2 := Lib.hid (HR.out.symm.trans (if_pos h60))
      clear HR
      go_wp2
      go_ret3
      exact ParseP.fin HR2.out ⟨⟨_, rfl, OwnS.nil _ _⟩, B4.out⟩
    · have h1 : ¬ (60 : Int) < (m : Int) := by omega
      have HR2 := Lib.hid (HR.out.symm.trans (if_neg h60))
      clear HR
      go_wp2
      go_ret3
      exact ParseP.fin HR2.out ⟨⟨_, rfl, O4.out⟩, B4.out⟩
end Go.Proofs.YtgbkjdpjilldmaaGreatDoor.Hr
/- Plain mathematics of the laws of tokens: beginnings, parts, again, gaps, quotes, names. -/
namespace Go.Proofs.YtgbkjdpjilldmaaGreatDoor.Lx
theorem gp_take : ∀ (b : Bool) (l : B) (j : Nat), gp b l ≤ j → gp b (l.take j) = gp b l
  | b, [], j, _ => by simp
  | b, c :: l, 0, h => by
    have := gp_self b (c :: l)
    rw [Nat.le_zero.1 h] at this
    rw [this, Nat.le_zero.1 h]
  | false, c :: l, j + 1, h => by
    rw [List.take_succ_cons]
    rw [gp] at h ⊢
    rw [gp]
    by_cases h1 : isBlk c
    · rw [if_pos h1] at h ⊢; rw [if_pos h1, gp_take false l j (by omega)]
    · rw [if_neg h1] at h ⊢
      rw [if_neg h1]
      by_cases h2 : c = 35
      · rw [if_pos h2] at h ⊢; rw [if_pos h2, gp_take true l j (by omega)]
      · rw [if_neg h2, if_neg h2]
  | true, c :: l, j + 1, h => by
    rw [List.take_succ_cons]
    rw [gp] at h ⊢
    rw [gp]
    by_cases h1 : c = 10
    · rw [if_pos h1] at h ⊢; rw [if_pos h1, gp_take false l j (by omega)]
    · rw [if_neg h1] at h ⊢; rw [if_neg h1, gp_take true l j (by omega)]
theorem lx_le {a : Nat} {l : B} {ts : List Tk} {r : Option (Int × Nat)} (h : Lx a l ts r) : ∀ e x, r = some (e, x) → a ≤ x := by
  induction h with
  | done _ => intro e x h; cases h
  | bad _ _ _ => intro e x h; cases h; omega
  | tok _ _ _ _ ih => intro e x h; have := ih e x h; omega
/-- the text before an error; the text from there on. -/
theorem lx_split {a : Nat} {l : B} {ts : List Tk} {r : Option (Int × Nat)} (h : Lx a l ts r) : ∀ e x, r = some (e, x) → Lx a (l.take (x - a)) ts none ∧ (l.drop (x - a) ≠ [] ∧ nx (l.drop (x - a)) = .bad e ∧ gp false (l.drop (x - a)) = 0) := by
  induction h with
  | done _ => intro e x h; cases h
  | @bad a l m e hm h0 hn =>
    intro e' x h
    cases h
    rw [Nat.add_sub_cancel_left, hm]
    exact ⟨.done (by rw [gp_self]; exact List.drop_of_length_le (by rw [List.length_take]; omega)), h0, hn, by rw [← hm]; exact gp_drop false l⟩
  | @tok a l m k t n ts r hm h0 hn hl ih =>
    intro e x hx
    have hax := lx_le hl e x hx
    have hw := nx_wr hn
    obtain ⟨i1, i2⟩ := ih e x hx
    rw [← hm] at i1 i2 hn hw h0
    rw [List.drop_drop, List.drop_drop] at i2
    have e1 : gp false l + (n + (x - (a + gp false l + n))) = x - a := by omega
    rw [e1] at i2
    refine ⟨?_, i2⟩
    have hg : gp false (l.take (x - a)) = gp false l := gp_take false l _ (by omega)
    have hd : (l.take (x - a)).drop (gp false (l.take (x - a))) = (l.drop (gp false l)).take (x - a - gp false l) := by rw [hg, List.drop_take]
    have ht : nx ((l.drop (gp false l)).take (x - a - gp false l)) = .tok k t n := nx_take hn _ (by omega)
    have hne : (l.drop (gp false l)).take (x - a - gp false l) ≠ [] := by
      intro h
      rw [h] at ht
      simp [nx] at ht
    have := Lx.tok (a := a) hd hne ht (ts := ts) (r := none) (by
      rw [hg, List.drop_take, show x - a - gp false l - n = x - (a + gp false l + n) by omega]
      exact i1)
    rw [hg] at this
    exact this
theorem lex_begins {s : B} {ts : List Tk} {e : Int} {x : Nat} (h : Lx 0 s ts (some (e, x))) (hs : s.length ≤ 5000) : lexR (s.take x) = (ts, 0, 0) ∧ lexR (s.drop x) = ([], e, 0) := by
  obtain ⟨h1, h2, h3, h4⟩ := lx_split h e x rfl
  rw [Nat.sub_zero] at h1 h2 h3 h4
  refine ⟨lex_lx h1 (by rw [List.length_take]; omega), ?_⟩
  have := Lx.bad (a := 0) (l := s.drop x) (m := s.drop x) (by rw [h4]; rfl) h2 h3
  rw [h4] at this
  exact lex_lx this (by rw [List.length_drop]; omega)
/-- what a text of at most 5000 bytes gives. -/
theorem lex_cases (s : B) (hs : s.length ≤ 5000) : (∃ ts, Lx 0 s ts none ∧ lexR s = (ts, 0, 0) ∧ ts.length ≤ s.length) ∨ (∃ ts e x, Lx 0 s ts (some (e, x)) ∧ lexR s = ([], e, (x : Int)) ∧ (e = 2 ∨ e = 3 ∨ e = 4) ∧ x < s.length) := by
  obtain ⟨ts, r, h, h2, h3⟩ := lx_any s.length 0 s (Nat.le_refl _)
  have := lex_lx h hs
  cases r with
  | none => exact .inl ⟨ts, h, this, h2⟩
  | some ex => obtain ⟨e, x⟩ := ex; have h4 := h3 e x rfl; exact .inr ⟨ts, e, x, h, this, h4.1, by omega⟩
/-- offsets further on. -/
def shT (d : Nat) (t : Tk) : Tk := ⟨t.k, t.t, t.a + d⟩
theorem lx_shift {a : Nat} {l : B} {ts : List Tk} {r : Option (Int × Nat)} (h : Lx a l ts r) (d : Nat) : Lx (a + d) l (ts.map (shT d)) (r.map fun q => (q.1, q.2 + d)) := by
  induction h with
  | done h => exact .done h
  | @bad a l m e h h0 hn =>
    have := Lx.bad (a := a + d) h h0 hn
    rw [show a + d + gp false l = a + gp false l + d by omega] at this
    exact this
  | @tok a l m k t n ts r h h0 hn _ ih =>
    rw [show a + gp false l + n + d = a + d + gp false l + n by omega] at ih
    have := Lx.tok (a := a + d) h h0 hn ih
    rw [show a + d + gp false l = a + gp false l + d by omega] at this
    exact this
/-- a text without an error, a line feed, and another text. -/
theorem lx_line {a : Nat} {l : B} {ts : List Tk} {r : Option (Int × Nat)} (h : Lx a l ts r) : r = none → ∀ (m : B) (us : List Tk) (q : Option (Int × Nat)), Lx (a + l.length + 1) m us q → Lx a (l ++ 10 :: m) (ts ++ us) q := by
  induction h with
  | @done a l h =>
    intro _ m us q hm
    have hl := gp_le false l
    have hg : gp false l = l.length := by
      have := congrArg List.length h
      rw [List.length_drop] at this
      simp at this; omega
    have hgl := gp_line m false l hg
    have hd : (l ++ 10 :: m).drop (l.length + 1 + gp false m) = m.drop (gp false m) := by
      rw [← List.drop_drop, show l ++ 10 :: m = (l ++ [10]) ++ m by simp, List.drop_left' (by simp)]
    cases hm with
    | done h2 => exact .done (by rw [hgl, hd]; exact h2)
    | bad h2 h0 hn =>
      have := Lx.bad (a := a) (l := l ++ 10 :: m) (by rw [hgl, hd]; exact h2) h0 hn
      rw [hgl, show a + (l.length + 1 + gp false m) = a + l.length + 1 + gp false m by omega] at this
      exact this
    | tok h2 h0 hn hr =>
      have := Lx.tok (a := a) (l := l ++ 10 :: m) (by rw [hgl, hd]; exact h2) h0 hn (by rw [hgl, show a + (l.length + 1 + gp false m) = a + l.length + 1 + gp false m by omega]; exact hr)
      rw [hgl, show a + (l.length + 1 + gp false m) = a + l.length + 1 + gp false m by omega] at this
      exact this
  | bad _ _ _ => intro h; cases h
  | @tok a l m' k t n ts r h h0 hn _ ih =>
    intro hr m us q hm
    have hw := nx_wr hn
    have hlt : gp false l < l.length := by
      refine Nat.lt_of_not_le fun hge => h0 (by rw [← h]; exact List.drop_of_length_le hge)
    have hg := gp_more (10 :: m) false l hlt
    have hd : (l ++ 10 :: m).drop (gp false l) = m' ++ 10 :: m := by rw [List.drop_append_of_le_length (by omega), h]
    have hlen : m'.length = l.length - gp false l := by rw [← h, List.length_drop]
    have := Lx.tok (a := a) (l := l ++ 10 :: m) (m := m' ++ 10 :: m) (by rw [hg, hd]) (by simp) (nx_app hn (10 :: m) (by show isWord 10 = false; decide)) (ts := ts ++ us) (r := q) (by
      rw [hg, List.drop_append_of_le_length hw.2.1]
      refine ih hr m us q ?_
      rw [List.length_drop, hlen, show a + gp false l + n + (l.length - gp false l - n) + 1 = a + l.length + 1 by omega]
      exact hm)
    rw [hg] at this
    exact this
/-- a text with an error, a line feed, and another text. -/
theorem lx_line_bad {a : Nat} {l : B} {ts : List Tk} {r : Option (Int × Nat)} (h : Lx a l ts r) (m : B) : ∀ e x, r = some (e, x) → Lx a (l ++ 10 :: m) ts (some (e, x)) := by
  induction h with
  | done h => intro e x h; cases h
  | @bad a l m' e h h0 hn =>
    intro e' x hx
    cases hx
    have hlt : gp false l < l.length := by
      refine Nat.lt_of_not_le fun hge => h0 (by rw [← h]; exact List.drop_of_length_le hge)
    have hg := gp_more (10 :: m) false l hlt
    have hd : (l ++ 10 :: m).drop (gp false l) = m' ++ 10 :: m := by rw [List.drop_append_of_le_length (by omega), h]
    have := Lx.bad (a := a) (l := l ++ 10 :: m) (m := m' ++ 10 :: m) (by rw [hg, hd]) (by simp) (nx_line hn h0 m)
    rw [hg] at this
    exact this
  | @tok a l m' k t n ts r h h0 hn _ ih =>
    intro e x hx
    have hw := nx_wr hn
    have hlt : gp false l < l.length := by
      refine Nat.lt_of_not_le fun hge => h0 (by rw [← h]; exact List.drop_of_length_le hge)
    have hg := gp_more (10 :: m) false l hlt
    have hd : (l ++ 10 :: m).drop (gp false l) = m' ++ 10 :: m := by rw [List.drop_append_of_le_length (by omega), h]
    have := Lx.tok (a := a) (l := l ++ 10 :: m) (m := m' ++ 10 :: m) (by rw [hg, hd]) (by simp) (nx_app hn (10 :: m) (by show isWord 10 = false; decide)) (ts := ts) (r := some (e, x)) (by
      rw [hg, List.drop_append_of_le_length hw.2.1]
      exact ih e x hx)
    rw [hg] at this
    exact this
theorem lex_parts {one two : B} (h : one.length + two.length + 1 ≤ 5000) :
    (∀ ts us, Lx 0 one ts none → Lx 0 two us none → lexR (one ++ 10 :: two) = (ts ++ us.map (shT (one.length + 1)), 0, 0)) ∧
    (∀ ts us e x, Lx 0 one ts none → Lx 0 two us (some (e, x)) → lexR (one ++ 10 :: two) = ([], e, ((x + (one.length + 1) : Nat) : Int))) ∧
    (∀ ts e x, Lx 0 one ts (some (e, x)) → lexR (one ++ 10 :: two) = ([], e, (x : Int))) := by
  have hl : (one ++ 10 :: two).length ≤ 5000 := by simp; omega
  refine ⟨fun ts us h1 h2 => ?_, fun ts us e x h1 h2 => ?_, fun ts e x h1 => ?_⟩
  · have h3 := lx_shift h2 (one.length + 1)
    have := lx_line h1 rfl two _ _ (show Lx (0 + one.length + 1) two _ _ by rw [show 0 + one.length + 1 = 0 + (one.length + 1) by omega]; exact h3)
    exact lex_lx this hl
  · have h3 := lx_shift h2 (one.length + 1)
    have := lx_line h1 rfl two _ _ (show Lx (0 + one.length + 1) two _ _ by rw [show 0 + one.length + 1 = 0 + (one.length + 1) by omega]; exact h3)
    exact lex_lx this hl
  · exact lex_lx (lx_line_bad h1 two e x rfl) hl
/-- tokens apart from their offsets. -/
def kt (t : Tk) : Int × B := (t.k, t.t)
theorem lx_at {a : Nat} {l : B} {ts : List Tk} (h : Lx a l ts none) (b : Nat) : ∃ us, Lx b l us none ∧ us.map kt = ts.map kt := by
  have key : ∀ {a : Nat} {l : B} {ts : List Tk} {r : Option (Int × Nat)}, Lx a l ts r → r = none → ∀ b, ∃ us, Lx b l us none ∧ us.map kt = ts.map kt := by
    intro a l ts r h
    induction h with
    | done h => intro _ b; exact ⟨[], .done h, rfl⟩
    | bad _ _ _ => intro h; cases h
    | @tok a l m k t n ts r h h0 hn _ ih =>
      intro hr b
      obtain ⟨us, h1, h2⟩ := ih hr (b + gp false l + n)
      exact ⟨_, .tok h h0 hn h1, by rw [List.map_cons, List.map_cons, h2]; rfl⟩
  exact key h rfl b
/-- tokens, written with one blank after each. -/
def written : List Tk → B
  | [] => []
  | t :: ts => wr t.k t.t ++ 32 :: written ts
theorem lx_blank {a : Nat} {l : B} {ts : List Tk} {r : Option (Int × Nat)} (h : Lx (a + 1) l ts r) : Lx a (32 :: l) ts r := by
  have hg : gp false (32 :: l) = gp false l + 1 := by rw [gp, if_pos (by decide)]
  have e : a + 1 + gp false l = a + gp false (32 :: l) := by rw [hg]; omega
  cases h with
  | done h => exact .done (by rw [hg, List.drop_succ_cons]; exact h)
  | bad h h0 hn => rw [e]; exact .bad (by rw [hg, List.drop_succ_cons]; exact h) h0 hn
  | tok h h0 hn hr => rw [e] at hr ⊢; exact .tok (by rw [hg, List.drop_succ_cons]; exact h) h0 hn hr
theorem lx_again {a : Nat} {l : B} {ts : List Tk} {r : Option (Int × Nat)} (h : Lx a l ts r) : ∀ b, ∃ us, Lx b (written ts) us none ∧ us.map kt = ts.map kt := by
  induction h with
  | done _ => intro b; exact ⟨[], .done rfl, rfl⟩
  | bad _ _ _ => intro b; exact ⟨[], .done rfl, rfl⟩
  | @tok a l m k t n ts r h h0 hn _ ih =>
    intro b
    have hw := nx_wr hn
    have hlen : (wr k t).length = n := by rw [← hw.2.2, List.length_take]; omega
    have ha := nx_again hn (32 :: written ts) (by show isWord 32 = false; decide)
    have hg : gp false (wr k t ++ 32 :: written ts) = 0 := by
      have := nx_gap ha
      cases hq : wr k t ++ 32 :: written ts with
      | nil => rfl
      | cons c q =>
        rw [hq] at this
        simp only [hd, Bool.or_eq_false_iff, beq_eq_false_iff_ne, ne_eq] at this
        exact gp_zero this.1 this.2
    obtain ⟨us, h1, h2⟩ := ih (b + n + 1)
    have := Lx.tok (a := b) (l := wr k t ++ 32 :: written ts) (m := wr k t ++ 32 :: written ts) (by rw [hg]; rfl) (by simp) ha (ts := us) (r := none) (by
      rw [hg, List.drop_left' hlen]
      exact lx_blank h1)
    exact ⟨_, this, by rw [List.map_cons, List.map_cons, h2]; rfl⟩
theorem written_len {a : Nat} {l : B} {ts : List Tk} {r : Option (Int × Nat)} (h : Lx a l ts r) : (written ts).length ≤ 2 * l.length := by
  induction h with
  | done _ => exact Nat.zero_le _
  | bad _ _ _ => exact Nat.zero_le _
  | @tok a l m k t n ts r h h0 hn _ ih =>
    have hw := nx_wr hn
    have hlen : (wr k t).length = n := by rw [← hw.2.2, List.length_take]; omega
    have hm : m.length ≤ l.length := by rw [← h, List.length_drop]; omega
    rw [List.length_drop] at ih
    show (wr k t ++ 32 :: written ts).length ≤ _
    rw [List.length_append, List.length_cons, hlen]
    omega
theorem lex_again {s : B} {ts : List Tk} (h : Lx 0 s ts none) (hs : s.length ≤ 2000) : ∃ us, lexR (written ts) = (us, 0, 0) ∧ us.map kt = ts.map kt := by
  obtain ⟨us, h1, h2⟩ := lx_again h 0
  have := written_len h
  exact ⟨us, lex_lx h1 (by omega), h2⟩
/-- the string that stands for a text is a single token. -/
theorem lex_quote (t : B) (h : t.length ≤ 2000) : lexR (quote t) = ([⟨3, t, 0⟩], 0, 0) := by
  have hl : ∀ l : B, (esc l).length ≤ 2 * l.length := by
    intro l
    induction l with
    | nil => exact Nat.le_refl _
    | cons c l ih => rw [esc]; (repeat' split) <;> simp <;> omega
  have hn : nx (quote t) = .tok 3 t (quote t).length := by
    unfold quote
    rw [nx_quo, st_quote [] t]
    simp
  have := Lx.tok (a := 0) (l := quote t) (m := quote t) (by rw [show gp false (quote t) = 0 from gp_zero (by decide) (by decide)]; rfl) (by simp [quote]) hn (ts := []) (r := none) (.done (by rw [List.drop_length]; rfl))
  rw [show gp false (quote t) = 0 from gp_zero (by decide) (by decide)] at this
  refine lex_lx this ?_
  unfold quote
  have := hl t
  simp; omega
end Go.Proofs.YtgbkjdpjilldmaaGreatDoor.Lx
/- Plain: the lexer's numbers have at most seven digits; hours.Parse of short texts. -/
namespace Go.Proofs.YtgbkjdpjilldmaaGreatDoor.Hr
open Lx (Tk B lexR nx isDig run)
theorem dig_is {c : UInt8} (h : isDig c = true) : 48 ≤ c.toNat ∧ c.toNat ≤ 57 := (Lx.all_u8 (P := fun c => isDig c = true → 48 ≤ c.toNat ∧ c.toNat ≤ 57) (by decide +kernel)) c h
theorem digit_val {c : UInt8} (h : isDig c = true) : Lib.digitVal c = some (c.toNat - 48) := by
  unfold Lib.digitVal
  rw [if_pos (dig_is h)]
theorem dec_dig : ∀ (l : B) (a : Nat), (∀ c ∈ l, isDig c = true) → Lib.decFrom a l = some (l.foldl (fun n c => 10 * n + (c.toNat - 48)) a)
  | [], a, _ => rfl
  | c :: l, a, h => by
    rw [Lib.decFrom, digit_val (h c (by simp))]
    show Lib.decFrom (a * 10 + (c.toNat - 48)) l = _
    rw [dec_dig l _ (fun d hd => h d (List.mem_cons_of_mem _ hd)), List.foldl_cons, Nat.mul_comm]
theorem atoi_dig {l : B} (h0 : l ≠ []) (h : ∀ c ∈ l, isDig c = true) : Lib.atoi l = some (valN l : Int) := by
  cases l with
  | nil => exact absurd rfl h0
  | cons c r =>
    have h2 : (c == 45) = false ∧ (c == 43) = false := (Lx.all_u8 (P := fun c => isDig c = true → (c == 45) = false ∧ (c == 43) = false) (by decide +kernel)) c (h c (by simp))
    rw [Lib.atoi, h2.1, h2.2]
    show (Lib.decNat (c :: r)).map _ = _
    rw [Lib.decNat, dec_dig (c :: r) 0 h]
    rfl
theorem dg_of {l : B} (h0 : l ≠ []) (h : ∀ c ∈ l, isDig c = true) (h7 : l.length ≤ 7) : Dg l := ⟨h7, atoi_dig h0 h, by
  have h1 := Lib.decFrom_lt l 0 _ (dec_dig l 0 h)
  have h2 : 10 ^ l.length ≤ 10 ^ 7 := Nat.pow_le_pow_right (by decide) h7
  unfold valN
  omega⟩
theorem nx_num {m t : B} {n : Nat} (h : nx m = .tok 2 t n) : t ≠ [] ∧ t.length ≤ 7 ∧ ∀ c ∈ t, isDig c = true := by
  cases m with
  | nil => cases h
  | cons c l =>
    rw [nx] at h
    split at h
    · split at h
      · cases h
      · injection h with h _ _
        exact absurd h (by decide)
    · split at h
      · rename_i hd
        split at h
        · cases h
        · rename_i hn
          injection h with _ h2 _
          subst h2
          have h7 : ¬ 7 < run isDig (c :: l) := fun q => hn (.inl q)
          refine ⟨fun e => ?_, by rw [List.length_take]; omega, Lx.run_all isDig (c :: l)⟩
          rw [Lx.run_step hd, List.take_succ_cons] at e
          cases e
      · split at h
        · split at h
          · cases h
          · injection h with h _ _
            exact absurd h (by decide)
        · split at h
          · injection h with h _ _
            exact absurd h (by decide)
          · cases h
theorem lx_dg {a : Nat} {l : B} {ts : List Tk} {r : Option (Int × Nat)} (h : Lx.Lx a l ts r) : DgA ts := by
  induction h with
  | done _ => intro t ht; cases ht
  | bad _ _ _ => intro t ht; cases ht
  | tok _ _ hn _ ih =>
    intro t ht hk
    rcases List.mem_cons.1 ht with rfl | ht
    · dsimp only at hk
      subst hk
      obtain ⟨h1, h2, h3⟩ := nx_num hn
      exact dg_of h1 h3 h2
    · exact ih t ht hk
theorem lexR_dg (s : B) (hs : s.length ≤ 5000) : DgA (lexR s).1 ∧ (lexR s).1.length ≤ s.length := by
  rcases Lx.lex_cases s hs with ⟨ts, h1, h2, h3⟩ | ⟨ts, e, x, h1, h2, _⟩
  · rw [h2]
    exact ⟨lx_dg h1, h3⟩
  · rw [h2]
    exact ⟨fun t ht => (by cases ht), Nat.zero_le _⟩
theorem parse_any' (s : B) (w : World) (hs : s.length ≤ 5000) (hd : Dn w.heap.size w) :
    Calls Tryz.prog 9 #[.string ⟨s.toArray⟩] w (ParseP w (parseR s)) :=
  parse_any s w hs (Nat.le_trans (lexR_dg s hs).2 hs) (lexR_dg s hs).1 hd
end Go.Proofs.YtgbkjdpjilldmaaGreatDoor.Hr
