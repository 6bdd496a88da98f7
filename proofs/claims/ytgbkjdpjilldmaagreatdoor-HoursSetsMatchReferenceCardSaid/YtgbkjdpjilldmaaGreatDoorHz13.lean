/- Merged: HrBoth, HrRead, LxLex. -/
import Derived.Test.YtgbkjdpjilldmaaGreatDoorHz12
import Derived.Test.YtgbkjdpjilldmaaGreatDoorHz11
import Derived.Test.YtgbkjdpjilldmaaGreatDoorHz1
import Derived.Test.YtgbkjdpjilldmaaGreatDoorHz8
/- hours: Either, Both. -/
namespace Go.Proofs.YtgbkjdpjilldmaaGreatDoor.Hr
open Go.RowKit Go.Sort Go.Shelf
open Lx (IsRow alloc1 drew_below)
open St (Sp encS encS_len encS_one)
def eitherR (a b : List Sp) : List Sp := if vldS a = true ∧ vldS b = true then orL a b else []
def bothR (a b : List Sp) : List Sp := if vldS a = true ∧ vldS b = true then andL a b else []
set_option maxRecDepth 100000 in
set_option maxHeartbeats 400000 in
theorem either_any (ao bo : Option Addr) (n m ca cb : Nat) (a b : List Sp) (w : World) (hn : a.length = n) (hm : b.length = m) (ha : SpT w w.heap.size ao a) (hb : SpT w w.heap.size bo b) (hca : n ≤ ca) (hcb : m ≤ cb) (h1 : n ≤ 1000) (h2 : m ≤ 1000) :
    Calls Tryz.prog 24 #[.slice ao n ca, .slice bo m cb] w fun e w' => (∃ v, e = .returned v ∧ OwnS w' w.heap.size v (eitherR a b)) ∧ Below w.heap.size w w' := by
  have VA := Lib.hid (valid_any ao n ca a w hn ha hca (by omega))
  have VB := Lib.hid (fun w2 (b2 : Below w.heap.size w w2) => valid_any bo m cb b w2 hm (hb.later b2) hcb (by omega))
  obtain ⟨R, hR⟩ : ∃ R, eitherR a b = R := ⟨_, rfl⟩
  rw [hR]
  unfold eitherR at hR
  have HA := Lib.hid ha
  have HB := Lib.hid hb
  have HN := Lib.hid hn
  have HM := Lib.hid hm
  clear ha hb hn hm
  go_enter Tryz.func24, Tryz.ntmps24
  obtain ⟨V1, hV1⟩ : ∃ V, vldS a = V := ⟨_, rfl⟩
  obtain ⟨V2, hV2⟩ : ∃ V, vldS b = V := ⟨_, rfl⟩
  rw [hV1, hV2] at hR
  rw [hV1] at VA
  rw [hV2] at VB
  have HV1 := Lib.hid hV1
  have HV2 := Lib.hid hV2
  clear hV1 hV2
  cases V1 with
  | false =>
    rw [if_neg (fun h => by cases h.1)] at hR
    subst hR
    go_wp2_with (refine VA.out.mono ?_; rintro e w2 ⟨rfl, b2⟩)
    go_ret
    exact ⟨⟨_, rfl, OwnS.nil _ _⟩, b2⟩
  | true =>
  go_wp2_with fail
  refine VA.out.mono ?_
  rintro e w2 ⟨rfl, b2⟩
  have B2 := Lib.hid b2
  have V3 := Lib.hid (VB.out w2 b2)
  clear b2 VA VB
  cases V2 with
  | false =>
    rw [if_neg (fun h => by cases h.2)] at hR
    subst hR
    go_wp2_with (refine V3.out.mono ?_; rintro e w3 ⟨rfl, b3⟩)
    go_ret
    exact ⟨⟨_, rfl, OwnS.nil _ _⟩, B2.out.trans (b3.mono B2.out.size)⟩
  | true =>
  rw [if_pos ⟨trivial, rfl⟩] at hR
  subst hR
  go_wp2_with fail
  refine V3.out.mono ?_
  rintro e w3 ⟨rfl, b3⟩
  have B3 := Lib.hid (B2.out.trans (b3.mono B2.out.size))
  clear b3 B2 V3
  go_wp2_with fail
  have b4 := alloc1 w3 (.cells #[Value.slice ao n ca, Value.slice bo m cb] 22)
  have r4 := IsRow.made w3 22 #[Value.slice ao n ca, Value.slice bo m cb]
  generalize w3.alloc (.cells #[Value.slice ao n ca, Value.slice bo m cb] 22) = w4 at *
  have B4 := Lib.hid (B3.out.trans (b4.mono B3.out.size))
  have SL : SlsT w4 w3.heap.size [(ao, n, ca, a), (bo, m, cb, b)] := ⟨r4, fun s hs => by
    rcases List.mem_cons.1 hs with rfl | hs
    · exact ⟨HN.out, HA.out.later B4.out, hca⟩
    · simp at hs
      subst hs
      exact ⟨HM.out, HB.out.later B4.out, hcb⟩⟩
  refine (concat_any w3.heap.size 2 [(ao, n, ca, a), (bo, m, cb, b)] w4 SL rfl (by omega) (fun s hs => by
    rcases List.mem_cons.1 hs with rfl | hs
    · exact h1
    · simp at hs
      subst hs
      exact h2)).mono ?_
  rintro e w5 ⟨⟨v, rfl, hv⟩, b5⟩
  rw [show jl [(ao, n, ca, a), (bo, m, cb, b)] 2 = a ++ b from by simp [jl]] at hv
  obtain ⟨aS, cS, hvv, hc, _, _, tS⟩ := spt_of hv
  obtain ⟨k, hk⟩ : ∃ k, (a ++ b).length = k := ⟨_, rfl⟩
  rw [hk] at hvv hc
  subst hvv
  have B5 := Lib.hid (B4.out.trans (b5.mono B4.out.size))
  have KJ := Lib.hid (joined_any aS k cS (a ++ b) w5 hk tS (by rw [← hk, List.length_append, HN.out, HM.out]; omega))
  clear hk hv hc tS b4 r4 b5 SL B3
  go_wp2_with fail
  refine KJ.out.mono ?_
  rintro e w6 ⟨⟨v, l2, rfl, q1, q2, q3⟩, b6⟩
  rw [join_uni (ok_app (vld_val.1 HV1.out).1 (vld_val.1 HV2.out).1) q1 q2] at q3
  have Q3 := Lib.hid (show OwnS w6 w.heap.size v (orL a b) from Own.base_le q3 B5.out.size)
  have B6 := Lib.hid (B5.out.trans (b6.mono B5.out.size))
  clear q1 q2 q3 b6 KJ
  go_wp2
  go_ret
  exact ⟨⟨_, rfl, Q3.out⟩, B6.out⟩
theorem not_len : ∀ (l : List Sp) (c : Int), (notF c l).length ≤ l.length + 1
  | [], c => by rw [notF]; split <;> simp
  | s :: l, c => by
    rw [notF, List.length_append, List.length_cons]
    have := not_len l s.2
    split <;> simp <;> omega
theorem or_len (a b : List Sp) : (orL a b).length ≤ a.length + b.length := by
  unfold orL uni
  have := join_len (srtB (a ++ b)) (srtB (a ++ b)).length
  rw [List.take_length, (srtB_perm (a ++ b)).length_eq, List.length_append] at this
  exact this
set_option maxRecDepth 100000 in
set_option maxHeartbeats 400000 in
theorem both_any (ao bo : Option Addr) (n m ca cb : Nat) (a b : List Sp) (w : World) (hn : a.length = n) (hm : b.length = m) (ha : SpT w w.heap.size ao a) (hb : SpT w w.heap.size bo b) (hca : n ≤ ca) (hcb : m ≤ cb) (h1 : n ≤ 900) (h2 : m ≤ 900) :
    Calls Tryz.prog 22 #[.slice ao n ca, .slice bo m cb] w fun e w' => (∃ v, e = .returned v ∧ OwnS w' w.heap.size v (bothR a b)) ∧ Below w.heap.size w w' := by
  have VA := Lib.hid (valid_any ao n ca a w hn ha hca (by omega))
  have VB := Lib.hid (fun w2 (b2 : Below w.heap.size w w2) => valid_any bo m cb b w2 hm (hb.later b2) hcb (by omega))
  have NA := Lib.hid (fun w2 (b2 : Below w.heap.size w w2) => not_any ao n ca a w2 hn (ha.later b2) hca (by omega))
  have NB := Lib.hid (fun w2 (b2 : Below w.heap.size w w2) => not_any bo m cb b w2 hm (hb.later b2) hcb (by omega))
  obtain ⟨R, hR⟩ : ∃ R, bothR a b = R := ⟨_, rfl⟩
  rw [hR]
  unfold bothR at hR
  have HN := Lib.hid hn
  have HM := Lib.hid hm
  clear ha hb hn hm
  go_enter Tryz.func22, Tryz.ntmps22
  obtain ⟨V1, hV1⟩ : ∃ V, vldS a = V := ⟨_, rfl⟩
  obtain ⟨V2, hV2⟩ : ∃ V, vldS b = V := ⟨_, rfl⟩
  rw [hV1, hV2] at hR
  rw [hV1] at VA
  rw [hV2] at VB
  have HV1 := Lib.hid hV1
  have HV2 := Lib.hid hV2
  clear hV1 hV2
  cases V1 with
  | false =>
    rw [if_neg (fun h => by cases h.1)] at hR
    subst hR
    go_wp2_with (refine VA.out.mono ?_; rintro e w2 ⟨rfl, b2⟩)
    go_ret
    exact ⟨⟨_, rfl, OwnS.nil _ _⟩, b2⟩
  | true =>
  go_wp2_with fail
  refine VA.out.mono ?_
  rintro e w2 ⟨rfl, b2⟩
  have B2 := Lib.hid b2
  have V3 := Lib.hid (VB.out w2 b2)
  clear b2 VA VB
  cases V2 with
  | false =>
    rw [if_neg (fun h => by cases h.2)] at hR
    subst hR
    go_wp2_with (refine V3.out.mono ?_; rintro e w3 ⟨rfl, b3⟩)
    go_ret
    exact ⟨⟨_, rfl, OwnS.nil _ _⟩, B2.out.trans (b3.mono B2.out.size)⟩
  | true =>
  rw [if_pos ⟨trivial, rfl⟩] at hR
  subst hR
  have VA2 := Lib.hid (not_val (vld_val.1 HV1.out)).1
  have VB2 := Lib.hid (not_val (vld_val.1 HV2.out)).1
  have LA := Lib.hid (show (notL a).length ≤ n + 1 from by have := not_len a 0; rw [HN.out] at this; exact this)
  have LB := Lib.hid (show (notL b).length ≤ m + 1 from by have := not_len b 0; rw [HM.out] at this; exact this)
  go_wp2_with fail
  refine V3.out.mono ?_
  rintro e w3 ⟨rfl, b3⟩
  have B3 := Lib.hid (B2.out.trans (b3.mono B2.out.size))
  have N4 := Lib.hid (NA.out w3 B3.out)
  clear b3 B2 V3 NA
  go_wp2_with fail
  refine N4.out.mono ?_
  rintro e w4 ⟨⟨v4, rfl, o4⟩, b4⟩
  rw [show notR a = notL a from by unfold notR; rw [if_pos HV1.out]] at o4
  have B4 := Lib.hid (B3.out.trans (b4.mono B3.out.size))
  have O4 := Lib.hid o4
  have N5 := Lib.hid (NB.out w4 B4.out)
  clear b4 B3 N4 NB o4
  go_wp2_with fail
  refine N5.out.mono ?_
  rintro e w5 ⟨⟨v5, rfl, o5⟩, b5⟩
  rw [show notR b = notL b from by unfold notR; rw [if_pos HV2.out]] at o5
  have B5 := Lib.hid (B4.out.trans (b5.mono B4.out.size))
  have O4 := Lib.hid (Own.below O4.out b5)
  obtain ⟨a4, c4, rfl, hc4, _, _, t4⟩ := spt_of O4.out
  obtain ⟨a5, c5, rfl, hc5, _, _, t5⟩ := spt_of o5
  have EI := Lib.hid (either_any a4 a5 (notL a).length (notL b).length c4 c5 (notL a) (notL b) w5 rfl rfl t4 t5 hc4 hc5 (by have := LA.out; omega) (by have := LB.out; omega))
  clear b5 o5 N5 hc4 hc5 t4 t5 B4
  go_wp2_with fail
  refine EI.out.mono ?_
  rintro e w6 ⟨⟨v6, rfl, o6⟩, b6⟩
  rw [show eitherR (notL a) (notL b) = orL (notL a) (notL b) from by unfold eitherR; rw [if_pos ⟨vld_val.2 VA2.out, vld_val.2 VB2.out⟩]] at o6
  have B6 := Lib.hid (B5.out.trans (b6.mono B5.out.size))
  obtain ⟨a6, c6, rfl, hc6, _, _, t6⟩ := spt_of o6
  have N7 := Lib.hid (not_any a6 _ c6 (orL (notL a) (notL b)) w6 rfl t6 hc6 (by have := or_len (notL a) (notL b); have := LA.out; have := LB.out; omega))
  clear b6 o6 EI hc6 t6 B5
  go_wp2_with fail
  refine N7.out.mono ?_
  rintro e w7 ⟨⟨v7, rfl, o7⟩, b7⟩
  rw [show notR (orL (notL a) (notL b)) = andL a b from by unfold notR andL; rw [if_pos (vld_val.2 (or_val VA2.out VB2.out).1)]] at o7
  have O7 := Lib.hid (Own.base_le o7 B6.out.size)
  have B7 := Lib.hid (B6.out.trans (b7.mono B6.out.size))
  clear o7 b7 N7
  go_wp2
  go_ret
  exact ⟨⟨_, rfl, O7.out⟩, B7.out⟩
end Go.Proofs.YtgbkjdpjilldmaaGreatDoor.Hr
/- Plain: how hours reads tokens: what its reader answers. -/
namespace Go.Proofs.YtgbkjdpjilldmaaGreatDoor.Hr
open Lx (Tk B)
/-- the failure: an error and its offset. -/
abbrev Fl := Int × Int
def nx1 (e : Nat) : List Tk → Tk
  | [] => ⟨0, [], e⟩
  | t :: _ => t
def unexp (e : Nat) : List Tk → Fl
  | [] => (6, (e : Int))
  | t :: _ => (5, (t.a : Int))
def acc (k : Int) (s : B) : List Tk → Option (List Tk)
  | [] => none
  | t :: r => if t.k = k ∧ t.t = s then some r else none
def symR (s : B) (e : Nat) (ts : List Tk) : Except Fl (List Tk) :=
  match acc 4 s ts with
  | some r => .ok r
  | none => .error (unexp e ts)
/-- the value of digits. -/
def valN : B → Nat := fun t => t.foldl (fun n c => 10 * n + (c.toNat - 48)) 0
def numR (e : Nat) : List Tk → Except Fl (Tk × List Tk)
  | [] => .error (6, (e : Int))
  | t :: r => if t.k = 2 then .ok (t, r) else .error (5, (t.a : Int))
def clockR (most : Nat) (e : Nat) (ts : List Tk) : Except Fl ((Nat × Nat) × List Tk) :=
  match numR e ts with
  | .error f => .error f
  | .ok (h, ts1) =>
    if most < valN h.t then .error (10, (h.a : Int))
    else match symR [58] e ts1 with
      | .error f => .error f
      | .ok ts2 =>
        match numR e ts2 with
        | .error f => .error f
        | .ok (m, ts3) =>
          if m.t.length ≠ 2 ∨ 60 ≤ valN m.t ∨ (valN h.t = 24 ∧ 0 < valN m.t) then .error (10, (m.a : Int))
          else .ok ((valN h.t * 60 + valN m.t, h.a), ts3)
def dayB (d : Nat) : B :=
  match d with
  | 0 => [109, 111] | 1 => [116, 117] | 2 => [119, 101] | 3 => [116, 104] | 4 => [102, 114] | 5 => [115, 97] | _ => [115, 117]
/-- which day a token names, from one on. -/
def dayAt : Nat → Nat → List Tk → Option (Nat × List Tk)
  | _, 0, _ => none
  | d, f + 1, ts => match acc 1 (dayB d) ts with
    | some r => some (d, r)
    | none => dayAt (d + 1) f ts
def dayR (e : Nat) (ts : List Tk) : Except Fl (Nat × List Tk) :=
  match dayAt 0 7 ts with
  | some r => .ok r
  | none => .error (unexp e ts)
/-- the days from one to another. -/
def daysTo : Nat → Nat → Nat → List Nat
  | 0, d, _ => [d]
  | f + 1, d, l => if d = l then [d] else d :: daysTo f ((d + 1) % 7) l
def daysR (e : Nat) (ts : List Tk) : Except Fl (List Nat × List Tk) :=
  match dayR e ts with
  | .error f => .error f
  | .ok (d, ts1) =>
    match acc 4 [45] ts1 with
    | none => .ok ([d], ts1)
    | some ts2 => match dayR e ts2 with
      | .error f => .error f
      | .ok (l, ts3) => .ok (daysTo 6 d l, ts3)
/-- what add adds. -/
def addS (f t : Int) : List Sq := if 10080 < t then [(0, t - 10080), (f, 10080)] else [(f, t)]
def timeR (e : Nat) (days : List Nat) (ts : List Tk) : Except Fl (List Sq × List Tk) :=
  match clockR 23 e ts with
  | .error f => .error f
  | .ok ((a, _), ts1) =>
    match symR [45] e ts1 with
    | .error f => .error f
    | .ok ts2 =>
      match clockR 24 e ts2 with
      | .error f => .error f
      | .ok ((b, at_), ts3) =>
        if a = b then .error (10, (at_ : Int))
        else .ok (days.flatMap (fun (d : Nat) => addS ((d : Int) * 1440 + a) ((d : Int) * 1440 + (if b < a then (b : Int) + 1440 else b))), ts3)
def partsL (e : Nat) : Nat → List Nat → List Sq → List Tk → Except Fl (List Sq × List Tk)
  | 0, _, L, ts => .ok (L, ts)
  | f + 1, days, L, ts =>
    match acc 4 [44] ts with
    | none => .ok (L, ts)
    | some ts1 =>
      if (nx1 e ts1).k = 1 then
        match daysR e ts1 with
        | .error x => .error x
        | .ok (d2, ts2) => match timeR e d2 ts2 with
          | .error x => .error x
          | .ok (m, ts3) => partsL e f d2 (L ++ m) ts3
      else match timeR e days ts1 with
        | .error x => .error x
        | .ok (m, ts3) => partsL e f days (L ++ m) ts3
def partsR (e : Nat) (L : List Sq) (ts : List Tk) : Except Fl (List Sq × List Tk) :=
  match daysR e ts with
  | .error x => .error x
  | .ok (d, ts1) => match timeR e d ts1 with
    | .error x => .error x
    | .ok (m, ts2) => partsL e ts2.length d (L ++ m) ts2
def textR (e : Nat) (ts : List Tk) : Except Fl (List Sq) :=
  match acc 1 [97, 108, 119, 97, 121, 115] ts with
  | some r => if r = [] then .ok [(0, 10080)] else .error (unexp e r)
  | none =>
    match acc 1 [110, 101, 118, 101, 114] ts with
    | some r => if r = [] then .ok [] else .error (unexp e r)
    | none => match partsR e [] ts with
      | .error x => .error x
      | .ok (L, r) => if r = [] then .ok L else .error (unexp e r)
end Go.Proofs.YtgbkjdpjilldmaaGreatDoor.Hr
/- lexer.Lex. -/
namespace Go.Proofs.YtgbkjdpjilldmaaGreatDoor.Lx
open Go.RowKit Go.Sort Go.Shelf
attribute [local go_sem] Oper.semAt_some
theorem four_made (w : World) (t1 t2 t3 t4 : TypeId) (c1 c2 c3 c4 : Array Value) : ∃ W, (((w.alloc (.cells c1 t1)).alloc (.cells c2 t2)).alloc (.cells c3 t3)).alloc (.cells c4 t4) = W ∧ Below w.heap.size w W ∧
    IsRow W w.heap.size t1 c1 ∧ IsRow W (w.heap.size + 1) t2 c2 ∧ IsRow W (w.heap.size + 2) t3 c3 ∧ IsRow W (w.heap.size + 3) t4 c4 ∧ W.heap.size = w.heap.size + 4 := by
  have h1 := IsRow.made w t1 c1
  have h2 := IsRow.made (w.alloc (.cells c1 t1)) t2 c2
  have h3 := IsRow.made ((w.alloc (.cells c1 t1)).alloc (.cells c2 t2)) t3 c3
  have h4 := IsRow.made (((w.alloc (.cells c1 t1)).alloc (.cells c2 t2)).alloc (.cells c3 t3)) t4 c4
  rw [World.size_alloc] at h2
  rw [World.size_alloc, World.size_alloc] at h3
  rw [World.size_alloc, World.size_alloc, World.size_alloc] at h4
  exact ⟨_, rfl, (((((Below.refl _ _).alloc (Nat.le_refl _) _).alloc (by simp) _).alloc (by simp; omega) _).alloc (by simp; omega) _), ((h1.later _).later _).later _, (h2.later _).later _, h3.later _, h4, by simp⟩
theorem away_none {B : Nat} {W W' : World} (h : Below W.heap.size W W') : Away B W W' := ⟨none, grown_of_below h none, fun r e => by cases e⟩
theorem OwnK.shape {w : World} {base : Nat} {v : Value} {l : List Tk} (h : OwnK w base v l) : ∃ ao cap, v = .slice ao l.length cap := by
  obtain ⟨_, h2⟩ := h
  rcases h2 with ⟨rfl, h0⟩ | ⟨g, cap, cur, rfl, _⟩
  · exact ⟨none, 0, by rw [h0]⟩
  · exact ⟨_, _, rfl⟩
theorem InvL.fin {w W w1 : World} {N0 b : Nat} {pre : List (Tk × Int)} {t : Tk} {v v' : Value} (hi : InvL w N0 b pre W) (hv : IsRow W (b + 3) 56 #[v]) (ho : OwnK W b v (pre.map (·.1))) (hlen : pre.length < 5000)
    (hgrow : (W.alloc (.cells (encK t).toArray 108)).grownBy w1 v.ownBlock) (hown : w1.ownsRow b 108 3 v' (pre.length + 1) (flatK (pre.map (·.1)) ++ encK t)) :
    KeepsFrom N0 W (w1.setCell ⟨b + 3, 0, none⟩ v') ∧ KpR W (w1.setCell ⟨b + 3, 0, none⟩ v') ∧ InvL w N0 b (pre ++ [(t, 0)]) (w1.setCell ⟨b + 3, 0, none⟩ v') := by
  obtain ⟨U, hU⟩ : ∃ U, W.alloc (.cells (encK t).toArray 108) = U := ⟨_, rfl⟩
  have hbU : Below W.heap.size W U := hU ▸ alloc1 W _
  rw [hU] at hgrow
  have oU := ho.below hbU
  have hr : ∀ k, v.ownBlock = some k → ∃ cs t, IsRow U k t cs := fun k e => by obtain ⟨_, cs, h⟩ := oU.row k e; exact ⟨cs, _, h⟩
  have row : ∀ {g : Nat} {t : TypeId} {cs : Array Value}, t ≠ 108 → IsRow W g t cs → IsRow w1 g t cs := fun ht h => by
    have h2 := IsRow.below h hbU h.inside
    exact h2.grown hgrow (oU.ne h2 ht)
  have b1 : Below b w w1 := (hi.lo.trans (hbU.mono hi.lo_size)).grown hgrow (Nat.le_trans hi.lo_size hbU.size) (fun k e => (oU.row k e).1)
  have r3 := row (by decide) hv
  refine ⟨((keeps_of_below _ hbU).trans (keeps_grown _ hgrow hr)).trans ((KeepsOthers.setCell _ _ _).from _), ((KpR.of_below hbU).trans (KpR.grown hgrow (fun k e => by obtain ⟨_, cs, h⟩ := oU.row k e; exact ⟨cs, _, ⟨by decide, by decide⟩, h⟩))).trans ?_, ?_⟩
  · exact KpR.grown (grown_put w1 (b + 3) 0 v') (fun k e => by injection e with e; subst e; exact ⟨_, _, ⟨by decide, by decide⟩, r3⟩)
  · have e1 : (pre ++ [(t, (0 : Int))]).map (·.1) = pre.map (·.1) ++ [t] := by simp
    refine ⟨⟨v', r3.put 0 _, ?_⟩, (row (by decide) hi.r2).putOther (by simp) _, (row (by decide) hi.r3).putOther (by simp) _, (row (by decide) hi.r4).putOther (by simp) _, b1.setCell (p := ⟨b + 3, 0, none⟩) (by simp) _, ?_, ?_, ?_⟩
    · rw [e1]
      refine (ownK_snoc (s := t) ?_).put r3 (by decide) 0 _
      rw [List.length_map]
      exact hown
    · have := Nat.le_trans (Nat.le_trans hi.sz hbU.size) hgrow.size
      simpa using this
    · intro x hx
      rcases List.mem_append.1 hx with hx | hx
      · exact hi.ok x hx
      · rw [List.mem_singleton] at hx; subst hx; rfl
    · simp; omega
theorem InvL.ends {w W : World} {N0 b : Nat} {pre : List (Tk × Int)} {t : Tk} {e0 e : Int} (hi : InvL w N0 b pre W) (he : (e0 = 0 ∧ pre.length = 5000 ∧ e = 2) ∨ (e0 ≠ 0 ∧ e = e0)) :
    KeepsFrom N0 W (((W.drew.setCell ⟨b, 0, none⟩ (.slice none 0 0)).setCell ⟨b + 1, 0, none⟩ (.int .i64 e)).setCell ⟨b + 2, 0, none⟩ (.int .i64 (t.a : Int))) ∧
      EndL w N0 b .ret (pre ++ [(t, e0)]) (((W.drew.setCell ⟨b, 0, none⟩ (.slice none 0 0)).setCell ⟨b + 1, 0, none⟩ (.int .i64 e)).setCell ⟨b + 2, 0, none⟩ (.int .i64 (t.a : Int))) := by
  have r2 : IsRow W.drew b 56 #[.slice none 0 0] := hi.r2
  have r3 : IsRow W.drew (b + 1) 25 #[.int .i64 0] := hi.r3
  have r4 : IsRow W.drew (b + 2) 3 #[.int .i64 0] := hi.r4
  refine ⟨(((keeps_of_below _ (drew_below W)).trans ((KeepsOthers.setCell _ _ _).from _)).trans ((KeepsOthers.setCell _ _ _).from _)).trans ((KeepsOthers.setCell _ _ _).from _), rfl, ⟨e, t.a, ?_, ?_, ?_, pre, (t, e0), rfl, hi.ok, hi.few, he, rfl⟩, ?_, ?_⟩
  · exact ((r2.put 0 _).putOther (by simp) _).putOther (by simp) _
  · exact ((r3.putOther (by simp) _).put 0 _).putOther (by simp) _
  · exact ((r4.putOther (by simp) _).putOther (by simp) _).put 0 _
  · exact (((hi.lo.trans ((drew_below W).mono hi.lo_size)).setCell (p := ⟨b, 0, none⟩) (Nat.le_refl _) _).setCell (p := ⟨b + 1, 0, none⟩) (by simp) _).setCell (p := ⟨b + 2, 0, none⟩) (by simp) _
  · have := hi.sz
    simpa using this
/-- what Lex answers. -/
def LOut (w : World) (r : List Tk × Int × Int) (e : Ending) (w' : World) : Prop := (∃ v, e = .returned (.tuple #[v, .int .i64 r.2.1, .int .i64 r.2.2]) ∧ OwnK w' w.heap.size v r.1) ∧ Below w.heap.size w w'
set_option maxRecDepth 100000 in
set_option maxHeartbeats 4000000 in
theorem lex_fit (s : ByteArray) (w : World) (hm : s.size ≤ 20000) : Calls Tryz.prog 30 #[.string s] w (LOut w (scan [] (evL s.data.toList))) := by
  refine (callsIn_wide (n := 6)).1 ?_
  refine callsIn_of_wp_marks Tryz.func30 rfl trivial ?_ rfl
  simp only [Tryz.ntmps30, List.size_toArray, List.length_cons, List.length_nil, Nat.reduceAdd, Nat.reduceSub, Array.replicate_succ, Array.replicate_zero, List.push_toArray, List.append_toArray, List.nil_append, List.cons_append]
  have hlt : ¬ (20000 : Int) < (s.size : Int) := by omega
  gi_wp2_with (refine ⟨trivial, ?_⟩; gi_at_call 62; refine (callsIn_wide.2 (tokens_any s _)).mono ?_; rintro e W1 ⟨rfl, rfl⟩)
  obtain ⟨W1, hW1, B1, R0, R1, R2, R3, hs1⟩ := four_made w 56 25 3 56 #[.slice none 0 0] #[.int .i64 0] #[.int .i64 0] #[.slice none 0 0]
  rw [hW1]
  clear hW1
  obtain ⟨W0, hW0⟩ : ∃ V, W1.alloc (.cells #[.string s] 9) = V := ⟨_, rfl⟩
  have hb := alloc1 W1 (.cells #[.string s] 9)
  have RB := IsRow.made W1 9 #[.string s]
  rw [hW0] at hb RB
  have B0 := B1.trans (hb.mono B1.size)
  have Q0 := R0.below hb R0.inside
  have Q1 := R1.below hb R1.inside
  have Q2 := R2.below hb R2.inside
  have Q3 := R3.below hb R3.inside
  have hs0 : W0.heap.size = w.heap.size + 5 := by rw [← hW0, World.size_alloc, hs1]
  rw [hW0]
  rw [hs1] at RB
  clear hW0 hb B1 R0 R1 R2 R3 hs1
  obtain ⟨b, hb⟩ : ∃ b, w.heap.size = b := ⟨_, rfl⟩
  have HB := Lib.hid hb
  rw [hb] at B0 Q0 Q1 Q2 Q3 RB hs0 ⊢
  rw [show b + 1 + 1 = b + 2 from rfl, show b + 2 + 1 = b + 3 from rfl, show b + 3 + 1 = b + 4 from rfl]
  clear hb
  refine Rule.range_own (t := 143) rfl (by omega) (gf := 88) (lb := #[.pointer (some ⟨b + 4, 0, none⟩)]) rfl trivial (enters_of Tryz.func88 (by kernel_rfl) rfl)
    (tokens_stops 5 (by omega) (b + 4) s W0 RB hm) KpR.trans (fun W l o o' h1 h2 h3 h4 => kpR_b (w := W0) W l o o' h1 h2 h3 h4) (Below.refl _ _) (fun _ => rfl)
    (InvL w W0.heap.size b) (EndL w W0.heap.size b)
    (own_of_away (InvL.away (by omega))) (fun c => own_of_away (EndL.away (by omega) c)) (lets_of_away (InvL.away (by omega))) (fun c => lets_of_away (EndL.away (by omega) c))
    ⟨⟨_, Q3, ownK_nil _ _⟩, Q0, Q1, Q2, B0, Nat.le_refl _, fun x hx => (by cases hx), Nat.zero_le _⟩
    (fun x a' W => ∃ Bx, W0.heap.size ≤ Bx ∧ IsRow W Bx 108 #[.int .i64 x.1.k, .string ⟨x.1.t.toArray⟩, .int .i64 (x.1.a : Int)] ∧
      a' = { tmps := #[.string s, undef, .pointer (some ⟨b, 0, none⟩), .pointer (some ⟨b + 1, 0, none⟩), .pointer (some ⟨b + 2, 0, none⟩), .pointer (some ⟨b + 3, 0, none⟩), .pointer (some ⟨Bx, 0, none⟩), .int .i64 x.2, .string s, .int .i64 (s.size : Int), .bool false, .string s, .func (.func 88) #[] #[.pointer (some ⟨b + 4, 0, none⟩)],
        .agg #[.int .i64 x.1.k, .string ⟨x.1.t.toArray⟩, .int .i64 (x.1.a : Int)], .int .i64 x.2, undef, undef, undef, undef, undef, undef, undef, undef, undef, undef, undef, undef, undef, undef, undef, undef, undef], defers := [] })
    (fun x a' => own_of_away fun _ X Y hs ha => by
      obtain ⟨Bx, h1, h2, h3⟩ := hs
      exact ⟨Bx, h1, h2.away (by decide) ha, h3⟩) ?assign ?body ?done ?stop
  case assign =>
    rintro y pre x W K hi hK
    gi_wp2
    exact hK _ _ ((KeepsOthers.alloc _ _).from _) (KpR.of_below (alloc1 _ _)) (InvL.away (by omega) _ _ _ hi (away_none (alloc1 _ _))) ⟨W.heap.size, hi.sz, IsRow.made W _ _, rfl⟩
  case body =>
    rintro y pre ⟨⟨k, t, a⟩, e0⟩ a' W hi ⟨Bx, hBx, rx, rfl⟩ hlt
    dsimp only at rx
    obtain ⟨d0, d1, d2, _, _, _⟩ := facts3 rx
    obtain ⟨⟨v, hv, ho⟩, _⟩ := id hi
    obtain ⟨ao, cap, rfl⟩ := ho.shape
    rw [List.length_map] at hv ho
    have q5 := hv.get 0
    have p5 := hv.open_ 0
    have q2 := hi.r2.get 0
    have p2 := hi.r2.open_ 0
    have q3 := hi.r3.get 0
    have p3 := hi.r3.open_ 0
    have q4 := hi.r4.get 0
    have p4 := hi.r4.open_ 0
    have HI := Lib.hid hi
    have hfew := hi.few
    clear hi hlt
    by_cases he : e0 = 0
    · subst he
      by_cases h5 : pre.length = 5000
      · have hl5 : ((pre.length : Int) == 5000) = true := by rw [h5]; rfl
        have HE := Lib.hid (InvL.ends (t := ⟨k, t, a⟩) HI.out (.inl ⟨rfl, h5, rfl⟩))
        clear h5
        gi_wp2
        gi_region
        all_goals
          gi_wp2
          exact HE.out
      · have hl5 : ((pre.length : Int) == 5000) = false := by rw [beq_eq_false_iff_ne]; omega
        obtain ⟨i0, hi0, hs0', hb0', hz0'⟩ := info_of tok_info
        have HT := Lib.hid (And.intro hi0 (And.intro hs0' (And.intro hb0' hz0')))
        have hL := Lib.hid (show pre.length < 5000 by omega)
        have HO := Lib.hid ho
        have HV := Lib.hid hv
        have H9 : Hid ((W.alloc (.cells #[.int .i64 k, .string ⟨t.toArray⟩, .int .i64 (a : Int)] 108)).ownsRow b 108 3 (.slice ao pre.length cap) pre.length (flatK (pre.map (·.1)))) := Lib.hid (by
          have := ho.below (alloc1 W (.cells #[.int .i64 k, .string ⟨t.toArray⟩, .int .i64 (a : Int)] 108))
          unfold OwnK at this
          rw [List.length_map] at this
          exact this)
        have hbs : b < W.heap.size := by have := HI.out.r2.inside; exact this
        have iL := hv.inside
        clear hi0 hs0' hb0' hz0' h5 ho hv rx
        gi_wp2_with (gi_at_builtin; go_loud (refine wpListIn_append_own _ rfl _ _ 56 rfl b 108 i0 _ 3 32 Tryz.underlying56 HT.out.1 HT.out.2.2.2 HT.out.2.1 HT.out.2.2.1 (by decide) (by decide) (.slice ao pre.length cap) pre.length (flatK (pre.map (·.1))) rfl H9.out ⟨W.heap.size, 0, none⟩ 1 1 [.int .i64 k, .string ⟨t.toArray⟩, .int .i64 (a : Int)] rfl rfl (World.news_of_block (heap_alloc_new W _)) (encK_one ⟨k, t, a⟩) (by have := hL.out; unfold maxLen; omega) (by have := hL.out; omega) (by simp; omega) ?_; intro v' w1 hown' hgrow _; obtain ⟨g', cap', hv'⟩ := ownsRow_succ hown'; subst hv'; have hr1 := (IsRow.later HV.out (.cells #[.int .i64 k, .string ⟨t.toArray⟩, .int .i64 (a : Int)] 108)).grown hgrow (OwnK.ne (OwnK.below (l := pre.map (·.1)) (by unfold OwnK; rw [List.length_map]; have := HO.out; unfold OwnK at this; rw [List.length_map] at this; exact this) (alloc1 W (.cells #[.int .i64 k, .string ⟨t.toArray⟩, .int .i64 (a : Int)] 108))) (IsRow.later HV.out (.cells #[.int .i64 k, .string ⟨t.toArray⟩, .int .i64 (a : Int)] 108)) (by decide)); have hq1 := hr1.get 0; have hp1 := hr1.open_ 0))
        exact HI.out.fin (t := ⟨k, t, a⟩) HV.out HO.out hL.out hgrow hown'
    · have he1 : (e0 == 0) = false := by rw [beq_eq_false_iff_ne]; exact he
      have he2 : (e0 != 0) = true := by simp [bne, he1]
      have HE := Lib.hid (InvL.ends (t := ⟨k, t, a⟩) HI.out (.inr ⟨he, rfl⟩))
      clear he
      gi_wp2
      gi_region
      all_goals
        gi_wp2
        exact HE.out
  case done =>
    rintro D ys W hD rfl hi hK
    obtain ⟨⟨v, hv, ho⟩, _⟩ := id hi
    obtain ⟨ao, cap, rfl⟩ := ho.shape
    obtain ⟨n, hn⟩ : ∃ n, ((evL s.data.toList).map (·.1)).length = n := ⟨_, rfl⟩
    rw [hn] at hv ho
    have q5 := hv.get 0
    have q2 := hi.r2.get 0
    have p2 := hi.r2.open_ 0
    have q3 := hi.r3.get 0
    have p3 := hi.r3.open_ 0
    have q4 := hi.r4.get 0
    have p4 := hi.r4.open_ 0
    have HI := Lib.hid hi
    have HO := Lib.hid ho
    clear hi ho hn
    gi_wp2
    obtain ⟨X, hX⟩ : ∃ X, ((W.setCell ⟨b, 0, none⟩ (.slice ao n cap)).setCell ⟨b + 1, 0, none⟩ (.int .i64 0)).setCell ⟨b + 2, 0, none⟩ (.int .i64 0) = X := ⟨_, rfl⟩
    have X2 : IsRow X b 56 #[.slice ao n cap] := hX ▸ ((HI.out.r2.put 0 _).putOther (by simp) _).putOther (by simp) _
    have X3 : IsRow X (b + 1) 25 #[.int .i64 0] := hX ▸ ((HI.out.r3.putOther (by simp) _).put 0 _).putOther (by simp) _
    have X4 : IsRow X (b + 2) 3 #[.int .i64 0] := hX ▸ ((HI.out.r4.putOther (by simp) _).putOther (by simp) _).put 0 _
    have XO : OwnK X b (.slice ao n cap) ((evL s.data.toList).map (·.1)) := hX ▸ (((HO.out.put HI.out.r2 (by decide) 0 _).put (HI.out.r3.putOther (p := ⟨b, 0, none⟩) (by simp) _) (by decide) 0 _).put ((HI.out.r4.putOther (p := ⟨b, 0, none⟩) (by simp) _).putOther (p := ⟨b + 1, 0, none⟩) (by simp) _) (by decide) 0 _)
    have XB : Below b w X := hX ▸ ((HI.out.lo.setCell (p := ⟨b, 0, none⟩) (Nat.le_refl _) _).setCell (p := ⟨b + 1, 0, none⟩) (by simp) _).setCell (p := ⟨b + 2, 0, none⟩) (by simp) _
    have XK : X.heap[D]? = some (.deferred (some [])) := hX ▸ (((Below.heap_setCell _ _ _ _ (by show D ≠ b + 2; omega)).trans (Below.heap_setCell _ _ _ _ (by show D ≠ b + 1; omega))).trans (Below.heap_setCell _ _ _ _ (by show D ≠ b; omega))).trans hK
    rw [hX]
    clear hX q5 q2 p2 q3 p3 q4 p4 hv
    refine ⟨by simp, .inl ⟨_, _, rfl, run_takeDeferred XK, ?_⟩⟩
    have hg := grownBy_putObj' X D (.deferred none)
    have Y2 := (X2.grown hg (fun e => by injection e with e; omega)).get 0
    have Y3 := (X3.grown hg (fun e => by injection e with e; omega)).get 0
    have Y4 := (X4.grown hg (fun e => by injection e with e; omega)).get 0
    have YO : OwnK (X.putObj D (.deferred none)) b (.slice ao n cap) ((evL s.data.toList).map (·.1)) := XO.kept hg (.inr (fun e => by
      obtain ⟨_, ds, hd⟩ := XO.row D e
      rw [show X.heap[D]? = some (.cells ds 108 (0, 0)) from hd] at XK
      cases XK))
    have YB : Below b w (X.putObj D (.deferred none)) := XB.trans (belowK_b (w := W0) (by omega) X D _ _ (by omega) XK rfl rfl)
    have hs := scan_ok (evL s.data.toList) [] HI.out.ok (by have := HI.out.few; simpa using this)
    simp at Y2 Y3 Y4
    refine ⟨.tuple #[.slice ao n cap, .int .i64 0, .int .i64 0], ?_, ?_⟩
    · simp [results, Tryz.f30, go_sem, Y2, Y3, Y4]
    · rw [hs, List.nil_append]
      exact ⟨⟨_, rfl, by rw [HB.out]; exact YO⟩, by rw [HB.out]; exact YB⟩
  case stop =>
    rintro D c pre W hD hp hE hK
    obtain ⟨rfl, ⟨e, a, h2, h3, h4, h5⟩, h6, h7⟩ := hE
    have hs := Lib.hid (scan_ends h5 hp)
    gi_wp2
    refine ⟨by simp, .inl ⟨_, _, rfl, run_takeDeferred hK, ?_⟩⟩
    have hg := grownBy_putObj' W D (.deferred none)
    have Y2 := (h2.grown hg (fun e => by injection e with e; omega)).get 0
    have Y3 := (h3.grown hg (fun e => by injection e with e; omega)).get 0
    have Y4 := (h4.grown hg (fun e => by injection e with e; omega)).get 0
    have YB : Below b w (W.putObj D (.deferred none)) := h6.trans (belowK_b (w := W0) (by omega) W D _ _ (by omega) hK rfl rfl)
    simp at Y2 Y3 Y4
    refine ⟨.tuple #[.slice none 0 0, .int .i64 e, .int .i64 a], ?_, ?_⟩
    · simp [results, Tryz.f30, go_sem, Y2, Y3, Y4]
    · rw [hs.out]
      exact ⟨⟨_, rfl, ownK_nil _ _⟩, by rw [HB.out]; exact YB⟩
set_option maxRecDepth 100000 in
set_option maxHeartbeats 1000000 in
theorem lex_any (s : ByteArray) (w : World) : Calls Tryz.prog 30 #[.string s] w (LOut w (lexR s.data.toList)) := by
  unfold lexR
  rw [len_data]
  by_cases hm : 20000 < s.size
  · rw [if_pos hm]
    have hlt : (20000 : Int) < (s.size : Int) := by omega
    have h1 := IsRow.made w 56 #[.slice none 0 0]
    have h2 := IsRow.made (w.alloc (.cells #[.slice none 0 0] 56)) 25 #[.int .i64 0]
    have h3 := IsRow.made ((w.alloc (.cells #[.slice none 0 0] 56)).alloc (.cells #[.int .i64 0] 25)) 3 #[.int .i64 0]
    rw [World.size_alloc] at h2
    rw [World.size_alloc, World.size_alloc] at h3
    obtain ⟨W, hW⟩ : ∃ W, ((w.alloc (.cells #[.slice none 0 0] 56)).alloc (.cells #[.int .i64 0] 25)).alloc (.cells #[.int .i64 0] 3) = W := ⟨_, rfl⟩
    have R2 : IsRow W w.heap.size 56 #[.slice none 0 0] := hW ▸ (h1.later _).later _
    have R3 : IsRow W (w.heap.size + 1) 25 #[.int .i64 0] := hW ▸ h2.later _
    have R4 : IsRow W (w.heap.size + 1 + 1) 3 #[.int .i64 0] := hW ▸ h3
    have B1 : Below w.heap.size w W := hW ▸ (((Below.refl _ _).alloc (Nat.le_refl _) _).alloc (by simp) _).alloc (by simp; omega) _
    have HW := Lib.hid hW
    have q2 := R2.get 0
    have p2 := R2.open_ 0
    have q3 := R3.get 0
    have p3 := R3.open_ 0
    have q4 := R4.get 0
    have p4 := R4.open_ 0
    have X2 := (((R2.put 0 (.slice none 0 0)).putOther (p := ⟨w.heap.size + 1, 0, none⟩) (by simp) (.int .i64 2)).putOther (p := ⟨w.heap.size + 1 + 1, 0, none⟩) (by show w.heap.size ≠ w.heap.size + 1 + 1; omega) (.int .i64 (-1))).get 0
    have X3 := (((R3.putOther (p := ⟨w.heap.size, 0, none⟩) (by simp) (.slice none 0 0)).put 0 (.int .i64 2)).putOther (p := ⟨w.heap.size + 1 + 1, 0, none⟩) (by simp) (.int .i64 (-1))).get 0
    have X4 := (((R4.putOther (p := ⟨w.heap.size, 0, none⟩) (by show w.heap.size + 1 + 1 ≠ w.heap.size; omega) (.slice none 0 0)).putOther (p := ⟨w.heap.size + 1, 0, none⟩) (by simp) (.int .i64 2)).put 0 (.int .i64 (-1))).get 0
    have B2 := Lib.hid (((B1.setCell (p := ⟨w.heap.size, 0, none⟩) (Nat.le_refl _) (.slice none 0 0)).setCell (p := ⟨w.heap.size + 1, 0, none⟩) (by simp) (.int .i64 2)).setCell (p := ⟨w.heap.size + 1 + 1, 0, none⟩) (by show w.heap.size ≤ w.heap.size + 1 + 1; omega) (.int .i64 (-1)))
    have HX := Lib.hid (And.intro X2 (And.intro X3 X4))
    clear h1 h2 h3 hW R2 R3 R4 B1 X2 X3 X4
    go_enter Tryz.func30, Tryz.ntmps30
    go_upto_region 1 with fail
    rw [HW.out]
    go_wp2
    obtain ⟨Y2, Y3, Y4⟩ := HX.out
    have B3 := B2.out
    clear q2 p2 q3 p3 q4 p4 B2 HX
    generalize ((W.setCell ⟨w.heap.size, 0, none⟩ (.slice none 0 0)).setCell ⟨w.heap.size + 1, 0, none⟩ (.int .i64 2)).setCell ⟨w.heap.size + 1 + 1, 0, none⟩ (.int .i64 (-1)) = V at *
    simp at Y2 Y3 Y4
    refine bodyPost_ret (v := .tuple #[.slice none 0 0, .int .i64 2, .int .i64 (-1)]) ?_ rfl ?_
    · simp [results, Tryz.f30, go_sem, Y2, Y3, Y4]
    · exact ⟨⟨_, rfl, ownK_nil _ _⟩, B3⟩
  · rw [if_neg hm]
    exact lex_fit s w (by omega)
end Go.Proofs.YtgbkjdpjilldmaaGreatDoor.Lx
