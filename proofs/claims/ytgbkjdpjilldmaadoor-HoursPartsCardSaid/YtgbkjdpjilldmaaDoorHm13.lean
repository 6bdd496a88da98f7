/- Merged: HrConcat, HrBoth, HrRead. -/
import Derived.Test.YtgbkjdpjilldmaaDoorHm12
import Derived.Test.YtgbkjdpjilldmaaDoorHm1
/- hours: slices.Grow of nil; slices.Concat of slices of spans, each of which may be empty. -/
namespace Go.Proofs.YtgbkjdpjilldmaaDoor.Hr
open Go.RowKit Go.Sort Go.Shelf
open Lx (IsRow alloc1 drew_below)
open St (Sp encS encS_len encS_one)
set_option maxRecDepth 100000 in
set_option maxHeartbeats 2000000 in
theorem grow_any (n : Nat) (w : World) (hn : n ≤ 100000) :
    Calls Tryd.prog 37 #[.slice none 0 0, .int .i64 n] w fun e w' => (∃ v, e = .returned v ∧ OwnS w' w.heap.size v []) ∧ Below w.heap.size w w' := by
  by_cases h0 : 0 < n
  · obtain ⟨i0, hi0, hs0, hb0, hz0⟩ := info_of span_info
    have hrz : ∀ ty, (Builtin.append_ #[22, 3] ty #[.slice none 0 0, .int .i64 (n : Int)]).run Tryd.prog w =
        .ok (.slice (some ⟨w.heap.size, 0, none⟩) n (grownCap w n 0 40)) (w.drew.alloc (.cells ((#[] : Array Value) ++ Builtin.zeroCells (Value.agg #[.int .i64 0, .int .i64 0]).cells n ++ Builtin.zeroCells (Value.agg #[.int .i64 0, .int .i64 0]).cells (grownCap w n 0 40 - n)) 40)) := fun ty => by
      have h := Lib.run_append_grow_zeros (P := Tryd.prog) w 22 3 ty 40 i0 _ .i64 .i64 Tryd.underlying22 Tryd.underlying3 hi0 hz0 none 0 0 [] (run_firstCells_none w.drew i0.size 0 0 0) n h0 (by omega) (by omega) (by omega) (by rw [hb0]; omega)
        (growslice_fits (by omega) (by rw [hb0]; omega))
      rw [Nat.zero_add] at h
      exact h
    have hGn : n ≤ grownCap w n 0 40 := grownCap_ge w _ _ _
    have hG63 := grownCap_le_maxLen w n 0 40 (by unfold maxLen; omega)
    obtain ⟨G, hG⟩ : ∃ G, G = grownCap w n 0 40 := ⟨_, rfl⟩
    rw [← hG] at hrz hGn hG63
    clear hG hi0 hs0 hb0 hz0
    have HG63 := Lib.hid hG63
    unfold maxLen at hG63
    go_enter Tryd.func37, Tryd.ntmps37
    go_wp2_with (at_builtin; refine Lib.wpList_append_run _ rfl _ _ _ _ rfl _ _ rfl rfl _ _ (hrz _) ?_)
    all_goals
      go_ret
      have hsz : (Builtin.zeroCells #[Value.int .i64 0, Value.int .i64 0] n ++ Builtin.zeroCells #[Value.int .i64 0, Value.int .i64 0] (G - n)).size = G * 2 := by
        simp [Builtin.zeroCells]
        omega
      exact ⟨⟨_, rfl, World.ownsRow_made (base := w.heap.size) w _ G (Nat.le_refl _) HG63.out hsz⟩, (alloc1 w _).trans ((drew_below _).mono (by simp))⟩
  · obtain rfl : n = 0 := by omega
    go_enter Tryd.func37, Tryd.ntmps37
    go_wp2
    go_ret
    exact ⟨⟨_, rfl, OwnS.nil _ _⟩, Below.refl _ _⟩
/-- a slice of slices of spans: the row g of their values, and what they are. -/
def SlsT (w : World) (g : Nat) (ls : List (Option Addr × Nat × Nat × List Sp)) : Prop := Sls w g ls ∧ ∀ s ∈ ls, s.2.2.2.length = s.2.1 ∧ SpT w w.heap.size s.1 s.2.2.2 ∧ s.2.1 ≤ s.2.2.1
abbrev Sl := Option Addr × Nat × Nat × List Sp
def jl (ls : List Sl) (k : Nat) : List Sp := ((ls.take k).map fun s => s.2.2.2).flatten
def sm (ls : List Sl) (k : Nat) : Nat := ((ls.take k).map fun s => s.2.1).sum
theorem jl_succ {ls : List Sl} {k : Nat} (h : k < ls.length) : jl ls (k + 1) = jl ls k ++ ls[k].2.2.2 := by
  unfold jl
  rw [List.take_succ_eq_append_getElem h, List.map_append, List.flatten_append]
  simp
theorem sm_succ {ls : List Sl} {k : Nat} (h : k < ls.length) : sm ls (k + 1) = sm ls k + ls[k].2.1 := by
  unfold sm
  rw [List.take_succ_eq_append_getElem h, List.map_append, List.sum_append]
  simp
theorem sm_le {ls : List Sl} (hL : ∀ s ∈ ls, s.2.1 ≤ 1000) : ∀ k, k ≤ ls.length → sm ls k ≤ k * 1000
  | 0, _ => by simp [sm]
  | k + 1, h => by
    rw [sm_succ (by omega)]
    have := sm_le hL k (by omega)
    have := hL _ (List.getElem_mem (show k < ls.length by omega))
    omega
theorem jl_len {ls : List Sl} (hL : ∀ s ∈ ls, s.2.2.2.length = s.2.1) : ∀ k, k ≤ ls.length → (jl ls k).length = sm ls k
  | 0, _ => by simp [jl, sm]
  | k + 1, h => by
    rw [sm_succ (by omega), jl_succ (by omega), List.length_append, jl_len hL k (by omega), hL _ (List.getElem_mem (show k < ls.length by omega))]
set_option maxRecDepth 100000 in
set_option maxHeartbeats 4000000 in
theorem concat_any (g m : Nat) (ls : List Sl) (w : World) (h : SlsT w g ls) (hm : ls.length = m) (hm3 : m ≤ 10) (hL : ∀ s ∈ ls, s.2.1 ≤ 1000) :
    Calls Tryd.prog 26 #[.slice (some ⟨g, 0, none⟩) m m] w fun e w' => (∃ v, e = .returned v ∧ OwnS w' w.heap.size v (jl ls m)) ∧ Below w.heap.size w w' := by
  have H := Lib.hid h
  have HM := Lib.hid hm
  have HL := Lib.hid hL
  have hm' : (m : Int) ≤ 10 := by omega
  have SL := Lib.hid (sm_le hL)
  have JL := Lib.hid (jl_len (fun s hs => (h.2 s hs).1))
  clear h hm hL
  go_enter Tryd.func26, Tryd.ntmps26
  go_wp2
  go_loop [3, 11] (fun s i => ∃ k : Nat, k ≤ m ∧ i = .int .i64 k ∧ s = .int .i64 (sm ls k : Nat)) (fun _ i => m - (Lx.intOf i).toNat)
  case atStart => exact ⟨0, by omega, rfl, rfl⟩
  case round =>
    obtain ⟨k, hk, rfl, rfl⟩ := hrel
    by_cases hlt : k < m
    · have hkl : k < ls.length := by rw [HM.out]; exact hlt
      have hlt2 : (k : Int) < (m : Int) := by omega
      have x0 := H.out.1.get k
      rw [show (ls.map fun s => Value.slice s.1 s.2.1 s.2.2.1).toArray[k]? = some (Value.slice ls[k].1 ls[k].2.1 ls[k].2.2.1) by simp [hkl]] at x0
      have SS := Lib.hid (sm_succ hkl)
      have s1 := SL.out k (by rw [HM.out]; omega)
      have s2 := HL.out _ (List.getElem_mem hkl)
      generalize ls[k] = s at *
      obtain ⟨a1, n1, c1, l1⟩ := s
      dsimp only at x0 s2 SS
      have s1' : ((sm ls k : Nat) : Int) ≤ 10000 := by omega
      have s2' : ((n1 : Nat) : Int) ≤ 1000 := by omega
      clear hkl
      go_wp2
      go_round
      case rel => exact ⟨k + 1, by omega, by go_num, by rw [SS.out]; go_num⟩
      case measure => simp [Lx.intOf]; omega
    · obtain rfl : m = k := by omega
      have s1 := SL.out m (by rw [HM.out]; omega)
      have KG := Lib.hid (grow_any (sm ls m) w (by omega))
      go_wp2_with fail
      refine KG.out.mono ?_
      rintro e w1 ⟨⟨v, rfl, hv⟩, hb1⟩
      have O1 := Lib.hid (show OwnS w1 w.heap.size v (jl ls 0) from hv)
      have B1 := Lib.hid hb1
      have M3 := Lib.hid hm3
      clear hv hb1 KG
      go_wp2
      go_loopw [6, 27] (fun u i wr => ∃ k : Nat, k ≤ m ∧ i = .int .i64 k ∧ Hid (OwnS wr w.heap.size u (jl ls k)) ∧ Hid (Below w.heap.size w wr)) (fun _ i _ => m - (Lx.intOf i).toNat)
      case atStart => exact ⟨0, by omega, rfl, O1, B1⟩
      case round =>
        clear O1 B1
        obtain ⟨k, hk, rfl, HO, HB⟩ := hrel
        by_cases hlt : k < m
        · have hkl : k < ls.length := by rw [HM.out]; exact hlt
          have hlt2 : (k : Int) < (m : Int) := by omega
          have x0 := (H.out.1.below HB.out H.out.1.inside).get k
          rw [show (ls.map fun s => Value.slice s.1 s.2.1 s.2.2.1).toArray[k]? = some (Value.slice ls[k].1 ls[k].2.1 ls[k].2.2.1) by simp [hkl]] at x0
          have JS := Lib.hid (jl_succ hkl)
          have q1 := Lib.hid ((H.out.2 _ (List.getElem_mem hkl)).1)
          have q2 := Lib.hid ((H.out.2 _ (List.getElem_mem hkl)).2.1.later HB.out)
          have jn := Lib.hid (JL.out k (by omega))
          have s1 := Lib.hid (SL.out k (by omega))
          have s2 := Lib.hid (HL.out _ (List.getElem_mem hkl))
          generalize ls[k] = s at *
          obtain ⟨a1, n1, c1, l1⟩ := s
          dsimp only at x0 s2 JS q1 q2
          clear hkl
          go_wp2_with (at_builtin; refine wpList_appS rfl _ _ (by rfl) w.heap.size _ (jl ls k) l1 a1 n1 c1 (by rfl) HO.out (by rfl) q2.out q1.out.symm (by have := jn.out; have := s1.out; have := s2.out; have := M3.out; omega) HB.out.size ?_; intro v' w2 ho2 hg2 hlt2)
          have O2 := Lib.hid (show OwnS w2 w.heap.size v' (jl ls (k + 1)) from JS.out ▸ ho2)
          have B2 := Lib.hid (HB.out.grown hg2 HB.out.size (fun k hk => (hlt2 k hk).1))
          clear HO ho2 hg2 hlt2 x0
          go_wp2
          go_roundw
          case rel => exact ⟨k + 1, by omega, by go_num, O2, B2⟩
          case measure => simp [Lx.intOf]; omega
        · obtain rfl : m = k := by omega
          go_wp2
          go_ret
          exact ⟨⟨_, rfl, HO.out⟩, HB.out⟩
end Go.Proofs.YtgbkjdpjilldmaaDoor.Hr
/- hours: Either, Both. -/
namespace Go.Proofs.YtgbkjdpjilldmaaDoor.Hr
open Go.RowKit Go.Sort Go.Shelf
open Lx (IsRow alloc1 drew_below)
open St (Sp encS encS_len encS_one)
def eitherR (a b : List Sp) : List Sp := if vldS a = true ∧ vldS b = true then orL a b else []
def bothR (a b : List Sp) : List Sp := if vldS a = true ∧ vldS b = true then andL a b else []
set_option maxRecDepth 100000 in
set_option maxHeartbeats 400000 in
theorem either_any (ao bo : Option Addr) (n m ca cb : Nat) (a b : List Sp) (w : World) (hn : a.length = n) (hm : b.length = m) (ha : SpT w w.heap.size ao a) (hb : SpT w w.heap.size bo b) (hca : n ≤ ca) (hcb : m ≤ cb) (h1 : n ≤ 1000) (h2 : m ≤ 1000) :
    Calls Tryd.prog 17 #[.slice ao n ca, .slice bo m cb] w fun e w' => (∃ v, e = .returned v ∧ OwnS w' w.heap.size v (eitherR a b)) ∧ Below w.heap.size w w' := by
  have VA := Lib.hid (valid_any ao n ca a w hn ha hca (by omega))
  have VB := Lib.hid (fun w2 (b2 : Below w.heap.size w w2) => valid_any bo m cb b w2 hm (hb.later b2) hcb (by omega))
  obtain ⟨R, hR⟩ : ∃ R, eitherR a b = R := ⟨_, rfl⟩
  rw [hR]
  unfold eitherR at hR
  have HA := Lib.hid ha
  have HB := Lib.hid hb
  have HN := Lib.hid hn
  have HM := Lib.hid hm
  clear ha hb hn hm
  go_enter Tryd.func17, Tryd.ntmps17
  obtain ⟨V1, hV1⟩ : ∃ V, vldS a = V := ⟨_, rfl⟩
  obtain ⟨V2, hV2⟩ : ∃ V, vldS b = V := ⟨_, rfl⟩
  rw [hV1, hV2] at hR
  rw [hV1] at VA
  rw [hV2] at VB
  have HV1 := Lib.hid hV1
  have HV2 := Lib.hid hV2
  clear hV1 hV2
  cases V1 with
  | false =>
    rw [if_neg (fun h => by cases h.1)] at hR
    subst hR
    go_wp2_with (refine VA.out.mono ?_; rintro e w2 ⟨rfl, b2⟩)
    go_ret
    exact ⟨⟨_, rfl, OwnS.nil _ _⟩, b2⟩
  | true =>
  go_wp2_with fail
  refine VA.out.mono ?_
  rintro e w2 ⟨rfl, b2⟩
  have B2 := Lib.hid b2
  have V3 := Lib.hid (VB.out w2 b2)
  clear b2 VA VB
  cases V2 with
  | false =>
    rw [if_neg (fun h => by cases h.2)] at hR
    subst hR
    go_wp2_with (refine V3.out.mono ?_; rintro e w3 ⟨rfl, b3⟩)
    go_ret
    exact ⟨⟨_, rfl, OwnS.nil _ _⟩, B2.out.trans (b3.mono B2.out.size)⟩
  | true =>
  rw [if_pos ⟨trivial, rfl⟩] at hR
  subst hR
  go_wp2_with fail
  refine V3.out.mono ?_
  rintro e w3 ⟨rfl, b3⟩
  have B3 := Lib.hid (B2.out.trans (b3.mono B2.out.size))
  clear b3 B2 V3
  go_wp2_with fail
  have b4 := alloc1 w3 (.cells #[Value.slice ao n ca, Value.slice bo m cb] 22)
  have r4 := IsRow.made w3 22 #[Value.slice ao n ca, Value.slice bo m cb]
  generalize w3.alloc (.cells #[Value.slice ao n ca, Value.slice bo m cb] 22) = w4 at *
  have B4 := Lib.hid (B3.out.trans (b4.mono B3.out.size))
  have SL : SlsT w4 w3.heap.size [(ao, n, ca, a), (bo, m, cb, b)] := ⟨r4, fun s hs => by
    rcases List.mem_cons.1 hs with rfl | hs
    · exact ⟨HN.out, HA.out.later B4.out, hca⟩
    · simp at hs
      subst hs
      exact ⟨HM.out, HB.out.later B4.out, hcb⟩⟩
  refine (concat_any w3.heap.size 2 [(ao, n, ca, a), (bo, m, cb, b)] w4 SL rfl (by omega) (fun s hs => by
    rcases List.mem_cons.1 hs with rfl | hs
    · exact h1
    · simp at hs
      subst hs
      exact h2)).mono ?_
  rintro e w5 ⟨⟨v, rfl, hv⟩, b5⟩
  rw [show jl [(ao, n, ca, a), (bo, m, cb, b)] 2 = a ++ b from by simp [jl]] at hv
  obtain ⟨aS, cS, hvv, hc, _, _, tS⟩ := spt_of hv
  obtain ⟨k, hk⟩ : ∃ k, (a ++ b).length = k := ⟨_, rfl⟩
  rw [hk] at hvv hc
  subst hvv
  have B5 := Lib.hid (B4.out.trans (b5.mono B4.out.size))
  have KJ := Lib.hid (joined_any aS k cS (a ++ b) w5 hk tS (by rw [← hk, List.length_append, HN.out, HM.out]; omega))
  clear hk hv hc tS b4 r4 b5 SL B3
  go_wp2_with fail
  refine KJ.out.mono ?_
  rintro e w6 ⟨⟨v, l2, rfl, q1, q2, q3⟩, b6⟩
  rw [join_uni (ok_app (vld_val.1 HV1.out).1 (vld_val.1 HV2.out).1) q1 q2] at q3
  have Q3 := Lib.hid (show OwnS w6 w.heap.size v (orL a b) from Own.base_le q3 B5.out.size)
  have B6 := Lib.hid (B5.out.trans (b6.mono B5.out.size))
  clear q1 q2 q3 b6 KJ
  go_wp2
  go_ret
  exact ⟨⟨_, rfl, Q3.out⟩, B6.out⟩
theorem not_len : ∀ (l : List Sp) (c : Int), (notF c l).length ≤ l.length + 1
  | [], c => by rw [notF]; split <;> simp
  | s :: l, c => by
    rw [notF, List.length_append, List.length_cons]
    have := not_len l s.2
    split <;> simp <;> omega
theorem or_len (a b : List Sp) : (orL a b).length ≤ a.length + b.length := by
  unfold orL uni
  have := join_len (srtB (a ++ b)) (srtB (a ++ b)).length
  rw [List.take_length, (srtB_perm (a ++ b)).length_eq, List.length_append] at this
  exact this
set_option maxRecDepth 100000 in
set_option maxHeartbeats 400000 in
theorem both_any (ao bo : Option Addr) (n m ca cb : Nat) (a b : List Sp) (w : World) (hn : a.length = n) (hm : b.length = m) (ha : SpT w w.heap.size ao a) (hb : SpT w w.heap.size bo b) (hca : n ≤ ca) (hcb : m ≤ cb) (h1 : n ≤ 900) (h2 : m ≤ 900) :
    Calls Tryd.prog 18 #[.slice ao n ca, .slice bo m cb] w fun e w' => (∃ v, e = .returned v ∧ OwnS w' w.heap.size v (bothR a b)) ∧ Below w.heap.size w w' := by
  have VA := Lib.hid (valid_any ao n ca a w hn ha hca (by omega))
  have VB := Lib.hid (fun w2 (b2 : Below w.heap.size w w2) => valid_any bo m cb b w2 hm (hb.later b2) hcb (by omega))
  have NA := Lib.hid (fun w2 (b2 : Below w.heap.size w w2) => not_any ao n ca a w2 hn (ha.later b2) hca (by omega))
  have NB := Lib.hid (fun w2 (b2 : Below w.heap.size w w2) => not_any bo m cb b w2 hm (hb.later b2) hcb (by omega))
  obtain ⟨R, hR⟩ : ∃ R, bothR a b = R := ⟨_, rfl⟩
  rw [hR]
  unfold bothR at hR
  have HN := Lib.hid hn
  have HM := Lib.hid hm
  clear ha hb hn hm
  go_enter Tryd.func18, Tryd.ntmps18
  obtain ⟨V1, hV1⟩ : ∃ V, vldS a = V := ⟨_, rfl⟩
  obtain ⟨V2, hV2⟩ : ∃ V, vldS b = V := ⟨_, rfl⟩
  rw [hV1, hV2] at hR
  rw [hV1] at VA
  rw [hV2] at VB
  have HV1 := Lib.hid hV1
  have HV2 := Lib.hid hV2
  clear hV1 hV2
  cases V1 with
  | false =>
    rw [if_neg (fun h => by cases h.1)] at hR
    subst hR
    go_wp2_with (refine VA.out.mono ?_; rintro e w2 ⟨rfl, b2⟩)
    go_ret
    exact ⟨⟨_, rfl, OwnS.nil _ _⟩, b2⟩
  | true =>
  go_wp2_with fail
  refine VA.out.mono ?_
  rintro e w2 ⟨rfl, b2⟩
  have B2 := Lib.hid b2
  have V3 := Lib.hid (VB.out w2 b2)
  clear b2 VA VB
  cases V2 with
  | false =>
    rw [if_neg (fun h => by cases h.2)] at hR
    subst hR
    go_wp2_with (refine V3.out.mono ?_; rintro e w3 ⟨rfl, b3⟩)
    go_ret
    exact ⟨⟨_, rfl, OwnS.nil _ _⟩, B2.out.trans (b3.mono B2.out.size)⟩
  | true =>
  rw [if_pos ⟨trivial, rfl⟩] at hR
  subst hR
  have VA2 := Lib.hid (not_val (vld_val.1 HV1.out)).1
  have VB2 := Lib.hid (not_val (vld_val.1 HV2.out)).1
  have LA := Lib.hid (show (notL a).length ≤ n + 1 from by have := not_len a 0; rw [HN.out] at this; exact this)
  have LB := Lib.hid (show (notL b).length ≤ m + 1 from by have := not_len b 0; rw [HM.out] at this; exact this)
  go_wp2_with fail
  refine V3.out.mono ?_
  rintro e w3 ⟨rfl, b3⟩
  have B3 := Lib.hid (B2.out.trans (b3.mono B2.out.size))
  have N4 := Lib.hid (NA.out w3 B3.out)
  clear b3 B2 V3 NA
  go_wp2_with fail
  refine N4.out.mono ?_
  rintro e w4 ⟨⟨v4, rfl, o4⟩, b4⟩
  rw [show notR a = notL a from by unfold notR; rw [if_pos HV1.out]] at o4
  have B4 := Lib.hid (B3.out.trans (b4.mono B3.out.size))
  have O4 := Lib.hid o4
  have N5 := Lib.hid (NB.out w4 B4.out)
  clear b4 B3 N4 NB o4
  go_wp2_with fail
  refine N5.out.mono ?_
  rintro e w5 ⟨⟨v5, rfl, o5⟩, b5⟩
  rw [show notR b = notL b from by unfold notR; rw [if_pos HV2.out]] at o5
  have B5 := Lib.hid (B4.out.trans (b5.mono B4.out.size))
  have O4 := Lib.hid (Own.below O4.out b5)
  obtain ⟨a4, c4, rfl, hc4, _, _, t4⟩ := spt_of O4.out
  obtain ⟨a5, c5, rfl, hc5, _, _, t5⟩ := spt_of o5
  have EI := Lib.hid (either_any a4 a5 (notL a).length (notL b).length c4 c5 (notL a) (notL b) w5 rfl rfl t4 t5 hc4 hc5 (by have := LA.out; omega) (by have := LB.out; omega))
  clear b5 o5 N5 hc4 hc5 t4 t5 B4
  go_wp2_with fail
  refine EI.out.mono ?_
  rintro e w6 ⟨⟨v6, rfl, o6⟩, b6⟩
  rw [show eitherR (notL a) (notL b) = orL (notL a) (notL b) from by unfold eitherR; rw [if_pos ⟨vld_val.2 VA2.out, vld_val.2 VB2.out⟩]] at o6
  have B6 := Lib.hid (B5.out.trans (b6.mono B5.out.size))
  obtain ⟨a6, c6, rfl, hc6, _, _, t6⟩ := spt_of o6
  have N7 := Lib.hid (not_any a6 _ c6 (orL (notL a) (notL b)) w6 rfl t6 hc6 (by have := or_len (notL a) (notL b); have := LA.out; have := LB.out; omega))
  clear b6 o6 EI hc6 t6 B5
  go_wp2_with fail
  refine N7.out.mono ?_
  rintro e w7 ⟨⟨v7, rfl, o7⟩, b7⟩
  rw [show notR (orL (notL a) (notL b)) = andL a b from by unfold notR andL; rw [if_pos (vld_val.2 (or_val VA2.out VB2.out).1)]] at o7
  have O7 := Lib.hid (Own.base_le o7 B6.out.size)
  have B7 := Lib.hid (B6.out.trans (b7.mono B6.out.size))
  clear o7 b7 N7
  go_wp2
  go_ret
  exact ⟨⟨_, rfl, O7.out⟩, B7.out⟩
end Go.Proofs.YtgbkjdpjilldmaaDoor.Hr
/- Plain: how hours reads tokens: what its reader answers. -/
namespace Go.Proofs.YtgbkjdpjilldmaaDoor.Hr
open Lx (Tk B)
/-- the failure: an error and its offset. -/
abbrev Fl := Int × Int
def nx1 (e : Nat) : List Tk → Tk
  | [] => ⟨0, [], e⟩
  | t :: _ => t
def unexp (e : Nat) : List Tk → Fl
  | [] => (6, (e : Int))
  | t :: _ => (5, (t.a : Int))
def acc (k : Int) (s : B) : List Tk → Option (List Tk)
  | [] => none
  | t :: r => if t.k = k ∧ t.t = s then some r else none
def symR (s : B) (e : Nat) (ts : List Tk) : Except Fl (List Tk) :=
  match acc 4 s ts with
  | some r => .ok r
  | none => .error (unexp e ts)
/-- the value of digits. -/
def valN : B → Nat := fun t => t.foldl (fun n c => 10 * n + (c.toNat - 48)) 0
def numR (e : Nat) : List Tk → Except Fl (Tk × List Tk)
  | [] => .error (6, (e : Int))
  | t :: r => if t.k = 2 then .ok (t, r) else .error (5, (t.a : Int))
def clockR (most : Nat) (e : Nat) (ts : List Tk) : Except Fl ((Nat × Nat) × List Tk) :=
  match numR e ts with
  | .error f => .error f
  | .ok (h, ts1) =>
    if most < valN h.t then .error (10, (h.a : Int))
    else match symR [58] e ts1 with
      | .error f => .error f
      | .ok ts2 =>
        match numR e ts2 with
        | .error f => .error f
        | .ok (m, ts3) =>
          if m.t.length ≠ 2 ∨ 60 ≤ valN m.t ∨ (valN h.t = 24 ∧ 0 < valN m.t) then .error (10, (m.a : Int))
          else .ok ((valN h.t * 60 + valN m.t, h.a), ts3)
def dayB (d : Nat) : B :=
  match d with
  | 0 => [109, 111] | 1 => [116, 117] | 2 => [119, 101] | 3 => [116, 104] | 4 => [102, 114] | 5 => [115, 97] | _ => [115, 117]
/-- which day a token names, from one on. -/
def dayAt : Nat → Nat → List Tk → Option (Nat × List Tk)
  | _, 0, _ => none
  | d, f + 1, ts => match acc 1 (dayB d) ts with
    | some r => some (d, r)
    | none => dayAt (d + 1) f ts
def dayR (e : Nat) (ts : List Tk) : Except Fl (Nat × List Tk) :=
  match dayAt 0 7 ts with
  | some r => .ok r
  | none => .error (unexp e ts)
/-- the days from one to another. -/
def daysTo : Nat → Nat → Nat → List Nat
  | 0, d, _ => [d]
  | f + 1, d, l => if d = l then [d] else d :: daysTo f ((d + 1) % 7) l
def daysR (e : Nat) (ts : List Tk) : Except Fl (List Nat × List Tk) :=
  match dayR e ts with
  | .error f => .error f
  | .ok (d, ts1) =>
    match acc 4 [45] ts1 with
    | none => .ok ([d], ts1)
    | some ts2 => match dayR e ts2 with
      | .error f => .error f
      | .ok (l, ts3) => .ok (daysTo 6 d l, ts3)
/-- what add adds. -/
def addS (f t : Int) : List Sq := if 10080 < t then [(0, t - 10080), (f, 10080)] else [(f, t)]
def timeR (e : Nat) (days : List Nat) (ts : List Tk) : Except Fl (List Sq × List Tk) :=
  match clockR 23 e ts with
  | .error f => .error f
  | .ok ((a, _), ts1) =>
    match symR [45] e ts1 with
    | .error f => .error f
    | .ok ts2 =>
      match clockR 24 e ts2 with
      | .error f => .error f
      | .ok ((b, at_), ts3) =>
        if a = b then .error (10, (at_ : Int))
        else .ok (days.flatMap (fun (d : Nat) => addS ((d : Int) * 1440 + a) ((d : Int) * 1440 + (if b < a then (b : Int) + 1440 else b))), ts3)
def partsL (e : Nat) : Nat → List Nat → List Sq → List Tk → Except Fl (List Sq × List Tk)
  | 0, _, L, ts => .ok (L, ts)
  | f + 1, days, L, ts =>
    match acc 4 [44] ts with
    | none => .ok (L, ts)
    | some ts1 =>
      if (nx1 e ts1).k = 1 then
        match daysR e ts1 with
        | .error x => .error x
        | .ok (d2, ts2) => match timeR e d2 ts2 with
          | .error x => .error x
          | .ok (m, ts3) => partsL e f d2 (L ++ m) ts3
      else match timeR e days ts1 with
        | .error x => .error x
        | .ok (m, ts3) => partsL e f days (L ++ m) ts3
def partsR (e : Nat) (L : List Sq) (ts : List Tk) : Except Fl (List Sq × List Tk) :=
  match daysR e ts with
  | .error x => .error x
  | .ok (d, ts1) => match timeR e d ts1 with
    | .error x => .error x
    | .ok (m, ts2) => partsL e ts2.length d (L ++ m) ts2
def textR (e : Nat) (ts : List Tk) : Except Fl (List Sq) :=
  match acc 1 [97, 108, 119, 97, 121, 115] ts with
  | some r => if r = [] then .ok [(0, 10080)] else .error (unexp e r)
  | none =>
    match acc 1 [110, 101, 118, 101, 114] ts with
    | some r => if r = [] then .ok [] else .error (unexp e r)
    | none => match partsR e [] ts with
      | .error x => .error x
      | .ok (L, r) => if r = [] then .ok L else .error (unexp e r)
end Go.Proofs.YtgbkjdpjilldmaaDoor.Hr
