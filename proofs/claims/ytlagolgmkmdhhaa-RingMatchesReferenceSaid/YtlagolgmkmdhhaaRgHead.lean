/- The examples at the head of each law of ring: they hold. -/
import Derived.Test.YtlagolgmkmdhhaaRgPoints
namespace Go.Proofs.Ytlagolgmkmdhhaa.Rg
open Go.RowKit Go.Sort Go.Shelf
open Go.Proofs.Ytlagolgmkmdhhaa.Geo hiding intOf Apart
def metQ (l m : List Pt) (k : Int) : Bool := (List.range l.length).any fun i => (List.range m.length).any fun j => decide (meetsF (cor l i) (nxt l i) (cor m j) (nxt m j) = k)
theorem metQ_iff (l m : List Pt) (k : Int) : MetP l m k ↔ metQ l m k = true := by
  unfold MetP metQ
  rw [List.any_eq_true]
  constructor
  · rintro ⟨i, j, hi, hj, h⟩
    exact ⟨i, List.mem_range.2 hi, List.any_eq_true.2 ⟨j, List.mem_range.2 hj, decide_eq_true h⟩⟩
  · rintro ⟨i, hi, h⟩
    obtain ⟨j, hj, h⟩ := List.any_eq_true.1 h
    exact ⟨i, j, List.mem_range.1 hi, List.mem_range.1 hj, of_decide_eq_true h⟩
def relC (l m : List Pt) : Int :=
  if !(simpleN l && simpleN m) then 0 else if metQ l m 2 || metQ l m 3 || metQ l m 5 then 0
  else if plA l m 1 && plA l m (-1) then 0 else if plA l m 1 then 2 else if !plA l m (-1) then 4 else if plA m l 1 then 3 else 1
theorem relN_eq (l m : List Pt) : relN l m = relC l m := by
  unfold relN relC
  rw [cross_of (metQ_iff l m 2).symm (metQ_iff l m 3).symm (metQ_iff l m 5).symm]
def rR : List Pt := [⟨0, 0⟩, ⟨4, 0⟩, ⟨4, 4⟩, ⟨0, 4⟩]
def rS : List Pt := [⟨1, 1⟩, ⟨2, 1⟩, ⟨1, 2⟩]
def rT : List Pt := [⟨0, 0⟩, ⟨4, 0⟩, ⟨2, -3⟩]
def rU : List Pt := [⟨4, 4⟩, ⟨0, 4⟩, ⟨0, 0⟩, ⟨2, 2⟩]
def rV : List Pt := [⟨0, 0⟩, ⟨4, 0⟩, ⟨2, 0⟩]
def rW : List Pt := [⟨4, 4⟩, ⟨0, 4⟩, ⟨0, 0⟩]
theorem h1 : twiceN rR = 32 := by decide +kernel
theorem h2 : twiceN rS = 1 := by decide +kernel
theorem h3 : sideQ rR ⟨4, 2⟩ = 0 := by decide +kernel
theorem h4 : sideQ rR ⟨1, 1⟩ = 1 := by decide +kernel
theorem h5 : sideQ rR ⟨5, 5⟩ = -1 := by decide +kernel
theorem h6 : relN rS rR = 2 := by rw [relN_eq]; decide +kernel
theorem h7 : relN rR rT = 1 := by rw [relN_eq]; decide +kernel
theorem h8 : simpleN rV = false := by decide +kernel
theorem h9 : simpleN rU = true := by decide +kernel
theorem h10 : relN rU rW = 0 := by rw [relN_eq]; decide +kernel
theorem OwnP.ptsC {w : World} {base : Nat} {v : Value} {l : List Pt} (h : OwnP w base v l) : ∃ a cap, v = .slice a l.length cap ∧ l.length ≤ cap ∧ cap ≤ maxLen ∧ Pts w w.heap.size a l := by
  obtain ⟨a, cap, rfl, hp⟩ := OwnP.pts h
  refine ⟨a, cap, rfl, ?_, ?_, hp⟩
  · obtain ⟨_, ⟨e, h0⟩ | ⟨g, c, cur, e, _, _, h1, _⟩⟩ := h
    · omega
    · injection e with e1 e2 e3
      omega
  · obtain ⟨_, ⟨e, h0⟩ | ⟨g, c, cur, e, _, _, _, h1, _⟩⟩ := h
    · injection e with e1 e2 e3
      rw [e3]; exact Nat.zero_le _
    · injection e with e1 e2 e3
      rw [e3]; exact h1
theorem points_of (l : List Pt) (n : Nat) (cs : Array Value) (w : World) (hcs : cs = (flat l).toArray) (hn : n = 2 * l.length) (h5 : l.length ≤ 1000) :
    Calls Try.prog 16 #[.slice (some ⟨w.heap.size, 0, none⟩) n n] (w.alloc (.cells cs 3)) fun e w' => (∃ a cap, e = .returned (.slice a l.length cap) ∧ l.length ≤ cap ∧ cap ≤ maxLen ∧ Pts w' w'.heap.size a l) ∧ Below w.heap.size w w' := by
  subst hcs
  refine (points_any w.heap.size n n l _ (IsRow.made w _ _) hn h5).mono ?_
  rintro e w' ⟨⟨v, rfl, ho⟩, hb⟩
  obtain ⟨a, cap, rfl, h1, h2, hp⟩ := OwnP.ptsC ho
  exact ⟨⟨a, cap, rfl, h1, h2, hp⟩, (alloc1 w _).trans (hb.mono (by simp))⟩
theorem tw_is (a : Option Addr) (n cap : Nat) (l : List Pt) (w : World) {k : Int} (h : twiceN l = k) (hl : Pts w w.heap.size a l) (hln : n = l.length) (hcap : n ≤ cap) (hm : cap ≤ maxLen) :
    Calls Try.prog 7 #[.slice a n cap] w fun e w' => e = .returned (.int .i64 k) ∧ Below w.heap.size w w' := h ▸ twice_any a n cap l w hl hln hcap hm
theorem sd_is (a : Option Addr) (n cap : Nat) (l : List Pt) (p : Pt) (w : World) {k : Int} (h : sideQ l p = k) (hl : Pts w w.heap.size a l) (hln : n = l.length) (hcap : n ≤ cap) (hm : cap ≤ maxLen) :
    Calls Try.prog 11 #[.slice a n cap, .agg #[.int .i64 p.x, .int .i64 p.y]] w fun e w' => e = .returned (.int .i64 k) ∧ Below w.heap.size w w' := h ▸ side_any' a n cap l p w hl hln hcap hm
theorem sm_is (a : Option Addr) (n cap : Nat) (l : List Pt) (w : World) {k : Bool} (h : simpleN l = k) (hl : Pts w w.heap.size a l) (hln : n = l.length) (hcap : n ≤ cap) (hm : cap ≤ maxLen) :
    Calls Try.prog 9 #[.slice a n cap] w fun e w' => e = .returned (.bool k) ∧ Below w.heap.size w w' := h ▸ simple_any a n cap l w hl hln hcap hm
theorem rl_is (a a2 : Option Addr) (n cap n2 cap2 : Nat) (l m : List Pt) (w : World) {k : Int} (h : relN l m = k) (hl : Pts w w.heap.size a l) (hm : Pts w w.heap.size a2 m) (hln : n = l.length) (hmn : n2 = m.length) (hcap : n ≤ cap) (hcap2 : n2 ≤ cap2) (hmx : cap ≤ maxLen) (hmx2 : cap2 ≤ maxLen) :
    Calls Try.prog 13 #[.slice a n cap, .slice a2 n2 cap2] w fun e w' => e = .returned (.int .i64 k) ∧ Below w.heap.size w w' := h ▸ relation_any a a2 n cap n2 cap2 l m w hl hm hln hmn hcap hcap2 hmx hmx2
set_option maxRecDepth 100000 in
set_option maxHeartbeats 8000000 in
theorem head_any : Answers Try.prog 6 #[] (.bool true) := by
  intro w
  have B_0 : Hid (Below w.heap.size w w) := Below.refl _ _
  go_enter Try.func6, Try.ntmps6
  go_wp2_with fail
  refine (points_of rR 8 _ _ (by rfl) (by rfl) (by decide)).mono ?_
  rintro e w_1 ⟨⟨aR, cR, rfl, uR, vR, pR⟩, hb⟩
  have B_1 := Lib.hid (B_0.out.trans (hb.mono B_0.out.size))
  have PR_1 := Lib.hid pR
  have UR := Lib.hid uR
  have VR := Lib.hid vR
  clear pR uR vR
  clear hb B_0
  go_wp2_with fail
  refine (points_of rS 6 _ _ (by rfl) (by rfl) (by decide)).mono ?_
  rintro e w_2 ⟨⟨aS, cS, rfl, uS, vS, pS⟩, hb⟩
  have B_2 := Lib.hid (B_1.out.trans (hb.mono B_1.out.size))
  have PR_2 := Lib.hid (PR_1.out.later hb)
  have PS_2 := Lib.hid pS
  have US := Lib.hid uS
  have VS := Lib.hid vS
  clear pS uS vS
  clear hb B_1 PR_1
  go_wp2_with fail
  refine (points_of rT 6 _ _ (by rfl) (by rfl) (by decide)).mono ?_
  rintro e w_3 ⟨⟨aT, cT, rfl, uT, vT, pT⟩, hb⟩
  have B_3 := Lib.hid (B_2.out.trans (hb.mono B_2.out.size))
  have PR_3 := Lib.hid (PR_2.out.later hb)
  have PS_3 := Lib.hid (PS_2.out.later hb)
  have PT_3 := Lib.hid pT
  have UT := Lib.hid uT
  have VT := Lib.hid vT
  clear pT uT vT
  clear hb B_2 PR_2 PS_2
  go_wp2_with fail
  refine (points_of rU 8 _ _ (by rfl) (by rfl) (by decide)).mono ?_
  rintro e w_4 ⟨⟨aU, cU, rfl, uU, vU, pU⟩, hb⟩
  have B_4 := Lib.hid (B_3.out.trans (hb.mono B_3.out.size))
  have PR_4 := Lib.hid (PR_3.out.later hb)
  have PS_4 := Lib.hid (PS_3.out.later hb)
  have PT_4 := Lib.hid (PT_3.out.later hb)
  have PU_4 := Lib.hid pU
  have UU := Lib.hid uU
  have VU := Lib.hid vU
  clear pU uU vU
  clear hb B_3 PR_3 PS_3 PT_3
  go_wp2_with fail
  refine (tw_is aR 4 cR rR _ h1 PR_4.out rfl UR.out VR.out).mono ?_
  rintro e w_5 ⟨rfl, hb⟩
  have B_5 := Lib.hid (B_4.out.trans (hb.mono B_4.out.size))
  have PR_5 := Lib.hid (PR_4.out.later hb)
  have PS_5 := Lib.hid (PS_4.out.later hb)
  have PT_5 := Lib.hid (PT_4.out.later hb)
  have PU_5 := Lib.hid (PU_4.out.later hb)
  clear hb B_4 PR_4 PS_4 PT_4 PU_4
  go_wp2_with fail
  refine (tw_is aS 3 cS rS _ h2 PS_5.out rfl US.out VS.out).mono ?_
  rintro e w_6 ⟨rfl, hb⟩
  have B_6 := Lib.hid (B_5.out.trans (hb.mono B_5.out.size))
  have PR_6 := Lib.hid (PR_5.out.later hb)
  have PS_6 := Lib.hid (PS_5.out.later hb)
  have PT_6 := Lib.hid (PT_5.out.later hb)
  have PU_6 := Lib.hid (PU_5.out.later hb)
  clear hb B_5 PR_5 PS_5 PT_5 PU_5
  go_wp2_with fail
  refine (sd_is aR 4 cR rR ⟨4, 2⟩ _ h3 PR_6.out rfl UR.out VR.out).mono ?_
  rintro e w_7 ⟨rfl, hb⟩
  have B_7 := Lib.hid (B_6.out.trans (hb.mono B_6.out.size))
  have PR_7 := Lib.hid (PR_6.out.later hb)
  have PS_7 := Lib.hid (PS_6.out.later hb)
  have PT_7 := Lib.hid (PT_6.out.later hb)
  have PU_7 := Lib.hid (PU_6.out.later hb)
  clear hb B_6 PR_6 PS_6 PT_6 PU_6
  go_wp2_with fail
  refine (sd_is aR 4 cR rR ⟨1, 1⟩ _ h4 PR_7.out rfl UR.out VR.out).mono ?_
  rintro e w_8 ⟨rfl, hb⟩
  have B_8 := Lib.hid (B_7.out.trans (hb.mono B_7.out.size))
  have PR_8 := Lib.hid (PR_7.out.later hb)
  have PS_8 := Lib.hid (PS_7.out.later hb)
  have PT_8 := Lib.hid (PT_7.out.later hb)
  have PU_8 := Lib.hid (PU_7.out.later hb)
  clear hb B_7 PR_7 PS_7 PT_7 PU_7
  go_wp2_with fail
  refine (sd_is aR 4 cR rR ⟨5, 5⟩ _ h5 PR_8.out rfl UR.out VR.out).mono ?_
  rintro e w_9 ⟨rfl, hb⟩
  have B_9 := Lib.hid (B_8.out.trans (hb.mono B_8.out.size))
  have PR_9 := Lib.hid (PR_8.out.later hb)
  have PS_9 := Lib.hid (PS_8.out.later hb)
  have PT_9 := Lib.hid (PT_8.out.later hb)
  have PU_9 := Lib.hid (PU_8.out.later hb)
  clear hb B_8 PR_8 PS_8 PT_8 PU_8
  go_wp2_with fail
  refine (rl_is aS aR 3 cS 4 cR rS rR _ h6 PS_9.out PR_9.out rfl rfl US.out UR.out VS.out VR.out).mono ?_
  rintro e w_10 ⟨rfl, hb⟩
  have B_10 := Lib.hid (B_9.out.trans (hb.mono B_9.out.size))
  have PR_10 := Lib.hid (PR_9.out.later hb)
  have PS_10 := Lib.hid (PS_9.out.later hb)
  have PT_10 := Lib.hid (PT_9.out.later hb)
  have PU_10 := Lib.hid (PU_9.out.later hb)
  clear hb B_9 PR_9 PS_9 PT_9 PU_9
  go_wp2_with fail
  refine (rl_is aR aT 4 cR 3 cT rR rT _ h7 PR_10.out PT_10.out rfl rfl UR.out UT.out VR.out VT.out).mono ?_
  rintro e w_11 ⟨rfl, hb⟩
  have B_11 := Lib.hid (B_10.out.trans (hb.mono B_10.out.size))
  have PR_11 := Lib.hid (PR_10.out.later hb)
  have PS_11 := Lib.hid (PS_10.out.later hb)
  have PT_11 := Lib.hid (PT_10.out.later hb)
  have PU_11 := Lib.hid (PU_10.out.later hb)
  clear hb B_10 PR_10 PS_10 PT_10 PU_10
  go_wp2_with fail
  refine (points_of rV 6 _ _ (by rfl) (by rfl) (by decide)).mono ?_
  rintro e w_12 ⟨⟨aV, cV, rfl, uV, vV, pV⟩, hb⟩
  have B_12 := Lib.hid (B_11.out.trans (hb.mono B_11.out.size))
  have PR_12 := Lib.hid (PR_11.out.later hb)
  have PS_12 := Lib.hid (PS_11.out.later hb)
  have PT_12 := Lib.hid (PT_11.out.later hb)
  have PU_12 := Lib.hid (PU_11.out.later hb)
  have PV_12 := Lib.hid pV
  have UV := Lib.hid uV
  have VV := Lib.hid vV
  clear pV uV vV
  clear hb B_11 PR_11 PS_11 PT_11 PU_11
  go_wp2_with fail
  refine (sm_is aV 3 cV rV _ h8 PV_12.out rfl UV.out VV.out).mono ?_
  rintro e w_13 ⟨rfl, hb⟩
  have B_13 := Lib.hid (B_12.out.trans (hb.mono B_12.out.size))
  have PR_13 := Lib.hid (PR_12.out.later hb)
  have PS_13 := Lib.hid (PS_12.out.later hb)
  have PT_13 := Lib.hid (PT_12.out.later hb)
  have PU_13 := Lib.hid (PU_12.out.later hb)
  have PV_13 := Lib.hid (PV_12.out.later hb)
  clear hb B_12 PR_12 PS_12 PT_12 PU_12 PV_12
  go_wp2_with fail
  refine (sm_is aU 4 cU rU _ h9 PU_13.out rfl UU.out VU.out).mono ?_
  rintro e w_14 ⟨rfl, hb⟩
  have B_14 := Lib.hid (B_13.out.trans (hb.mono B_13.out.size))
  have PR_14 := Lib.hid (PR_13.out.later hb)
  have PS_14 := Lib.hid (PS_13.out.later hb)
  have PT_14 := Lib.hid (PT_13.out.later hb)
  have PU_14 := Lib.hid (PU_13.out.later hb)
  have PV_14 := Lib.hid (PV_13.out.later hb)
  clear hb B_13 PR_13 PS_13 PT_13 PU_13 PV_13
  go_wp2_with fail
  refine (points_of rW 6 _ _ (by rfl) (by rfl) (by decide)).mono ?_
  rintro e w_15 ⟨⟨aW, cW, rfl, uW, vW, pW⟩, hb⟩
  have B_15 := Lib.hid (B_14.out.trans (hb.mono B_14.out.size))
  have PR_15 := Lib.hid (PR_14.out.later hb)
  have PS_15 := Lib.hid (PS_14.out.later hb)
  have PT_15 := Lib.hid (PT_14.out.later hb)
  have PU_15 := Lib.hid (PU_14.out.later hb)
  have PV_15 := Lib.hid (PV_14.out.later hb)
  have PW_15 := Lib.hid pW
  have UW := Lib.hid uW
  have VW := Lib.hid vW
  clear pW uW vW
  clear hb B_14 PR_14 PS_14 PT_14 PU_14 PV_14
  go_wp2_with fail
  refine (rl_is aU aW 4 cU 3 cW rU rW _ h10 PU_15.out PW_15.out rfl rfl UU.out UW.out VU.out VW.out).mono ?_
  rintro e w_16 ⟨rfl, hb⟩
  have B_16 := Lib.hid (B_15.out.trans (hb.mono B_15.out.size))
  have PR_16 := Lib.hid (PR_15.out.later hb)
  have PS_16 := Lib.hid (PS_15.out.later hb)
  have PT_16 := Lib.hid (PT_15.out.later hb)
  have PU_16 := Lib.hid (PU_15.out.later hb)
  have PV_16 := Lib.hid (PV_15.out.later hb)
  have PW_16 := Lib.hid (PW_15.out.later hb)
  clear hb B_15 PR_15 PS_15 PT_15 PU_15 PV_15 PW_15
  go_wp2
  go_ret
  exact ⟨rfl, B_16.out⟩
end Go.Proofs.Ytlagolgmkmdhhaa.Rg
