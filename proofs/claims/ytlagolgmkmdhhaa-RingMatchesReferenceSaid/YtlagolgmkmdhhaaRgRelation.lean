/- ring.Relation. -/
import Derived.Test.YtlagolgmkmdhhaaRgPlaces
namespace Go.Proofs.Ytlagolgmkmdhhaa.Rg
open Go.RowKit Go.Sort Go.Shelf
open Go.Proofs.Ytlagolgmkmdhhaa.Geo hiding intOf Apart
open Classical in
/-- whether sides of both meet otherwise than at their ends or all along. -/
noncomputable def crossB (l m : List Pt) : Bool := decide (MetP l m 2 ∨ MetP l m 3 ∨ MetP l m 5)
def plA (l m : List Pt) (c : Int) : Bool := plB l m (List.finRange l.length) c
noncomputable def relN (l m : List Pt) : Int :=
  if !(simpleN l && simpleN m) then 0 else if crossB l m then 0
  else if plA l m 1 && plA l m (-1) then 0 else if plA l m 1 then 2 else if !plA l m (-1) then 4 else if plA m l 1 then 3 else 1
open Classical in
theorem cross_of {l m : List Pt} {b2 b3 b5 : Bool} (h2 : b2 = true ↔ MetP l m 2) (h3 : b3 = true ↔ MetP l m 3) (h5 : b5 = true ↔ MetP l m 5) : crossB l m = (b2 || b3 || b5) := by
  unfold crossB
  rw [Bool.eq_iff_iff, decide_eq_true_iff, ← h2, ← h3, ← h5]
  simp [or_assoc]
theorem plC_all (l m : List Pt) : plC l m (List.finRange l.length) = #[.bool (plA l m (-1)), .bool (plA l m 0), .bool (plA l m 1)] := rfl
theorem run_third (x y z : Value) (w : World) : (Instr.index 51 (.agg #[x, y, z]) (.int .i64 2)).run Try.prog w = .ok z w := by kernel_rfl
theorem simple_fits {l : List Pt} (h : simpleN l = true) : fitsN l = true := by
  unfold simpleN at h
  rw [Bool.and_eq_true] at h
  exact h.1
set_option maxRecDepth 100000 in
set_option maxHeartbeats 4000000 in
theorem relation_any (a a2 : Option Addr) (n cap n2 cap2 : Nat) (l m : List Pt) (w : World) (hl : Pts w w.heap.size a l) (hm : Pts w w.heap.size a2 m) (hln : n = l.length) (hmn : n2 = m.length) (hcap : n ≤ cap) (hcap2 : n2 ≤ cap2) (hmx : cap ≤ maxLen) (hmx2 : cap2 ≤ maxLen) :
    Calls Try.prog 13 #[.slice a n cap, .slice a2 n2 cap2] w fun e w' => e = .returned (.int .i64 (relN l m)) ∧ Below w.heap.size w w' := by
  obtain ⟨R, hR⟩ : ∃ R, relN l m = R := ⟨_, rfl⟩
  have HR := Lib.hid hR
  rw [hR]
  have S1 := Lib.hid (simple_any a n cap l w hl hln hcap hmx)
  have HL := Lib.hid hl
  have HM := Lib.hid hm
  have HN := Lib.hid hln
  have HN2 := Lib.hid hmn
  have HMX := Lib.hid hmx
  have HMX2 := Lib.hid hmx2
  clear hR hl hm hln hmn hmx hmx2
  cases hs1 : simpleN l with
  | false =>
    have HE := Lib.hid (show (0 : Int) = R by rw [← HR.out]; unfold relN; rw [hs1]; rfl)
    rw [hs1] at S1
    clear hs1
    go_enter Try.func13, Try.ntmps13
    go_wp2_with fail
    refine S1.out.mono ?_
    rintro e w1 ⟨rfl, hb1⟩
    have B1 := Lib.hid hb1
    clear hb1
    go_wp2
    go_ret
    exact ⟨ret_int HE.out, B1.out⟩
  | true =>
    have HF1 := Lib.hid (simple_fits hs1)
    have HS1 := Lib.hid hs1
    rw [hs1] at S1
    clear hs1
    go_enter Try.func13, Try.ntmps13
    go_wp2_with fail
    refine S1.out.mono ?_
    rintro e w1 ⟨rfl, hb1⟩
    have B1 := Lib.hid hb1
    have S2 := Lib.hid (simple_any a2 n2 cap2 m w1 (HM.out.later hb1) HN2.out hcap2 HMX2.out)
    clear hb1 S1
    cases hs2 : simpleN m with
    | false =>
      have HE := Lib.hid (show (0 : Int) = R by rw [← HR.out]; unfold relN; rw [hs2, HS1.out]; rfl)
      rw [hs2] at S2
      clear hs2
      go_wp2_with fail
      refine S2.out.mono ?_
      rintro e w2 ⟨rfl, hb2⟩
      have B2 := Lib.hid (B1.out.trans (hb2.mono B1.out.size))
      clear hb2
      go_wp2
      go_ret
      exact ⟨ret_int HE.out, B2.out⟩
    | true =>
      have HF2 := Lib.hid (simple_fits hs2)
      have HR1 := Lib.hid (show (if crossB l m then 0 else if plA l m 1 && plA l m (-1) then 0 else if plA l m 1 then 2 else if !plA l m (-1) then 4 else if plA m l 1 then 3 else (1 : Int)) = R by rw [← HR.out]; unfold relN; rw [hs2, HS1.out]; rfl)
      obtain ⟨h3, h2, _⟩ := fits_parts HF1.out
      obtain ⟨h32, h22, _⟩ := fits_parts HF2.out
      rw [← HN.out] at h3 h2
      rw [← HN2.out] at h32 h22
      rw [hs2] at S2
      clear hs2 HR
      go_wp2_with fail
      refine S2.out.mono ?_
      rintro e w2 ⟨rfl, hb2⟩
      have B2 := Lib.hid (B1.out.trans (hb2.mono B1.out.size))
      have MT := Lib.hid (meetings_any a a2 n cap n2 cap2 l m w2 (HL.out.later B2.out) (HM.out.later B2.out) HN.out HN2.out hcap hcap2 (by omega) h2 (by omega) h22)
      clear hb2 S2 B1
      go_wp2_with fail
      refine MT.out.mono ?_
      rintro e w3 ⟨⟨b0, b1, b2, b3, b4, b5, rfl, hb2, hb3, hb5⟩, hbw⟩
      have B3 := Lib.hid (B2.out.trans (hbw.mono B2.out.size))
      have HC := Lib.hid (cross_of hb2 hb3 hb5)
      clear hb2 hb3 hb5 hbw MT B2
      go_upto_region 4 with fail
      obtain ⟨W3, hW3⟩ : ∃ W3, w3.alloc (.cells #[.bool b0, .bool b1, .bool b2, .bool b3, .bool b4, .bool b5] 49) = W3 := ⟨_, rfl⟩
      rw [hW3]
      have r3 : IsRow W3 w3.heap.size 49 #[.bool b0, .bool b1, .bool b2, .bool b3, .bool b4, .bool b5] := hW3 ▸ IsRow.made w3 _ _
      obtain ⟨c2, c3, c5⟩ : W3.cell? ⟨w3.heap.size, 2, none⟩ = some (.bool b2) ∧ W3.cell? ⟨w3.heap.size, 3, none⟩ = some (.bool b3) ∧ W3.cell? ⟨w3.heap.size, 5, none⟩ = some (.bool b5) := ⟨r3.get 2, r3.get 3, r3.get 5⟩
      have B4 : Hid (Below w.heap.size w W3) := hW3 ▸ B3.out.alloc B3.out.size _
      clear hW3 r3 B3
      cases hc : crossB l m with
      | true =>
        have HE := Lib.hid (show (0 : Int) = R by rw [← HR1.out, hc]; rfl)
        rw [hc] at HC
        cases b2 <;> cases b3 <;> cases b5 <;> first
          | exact absurd HC.out (by decide)
          | (clear hc HC
             go_wp2
             go_ret
             exact ⟨ret_int HE.out, B4.out⟩)
      | false =>
        have HR2 := Lib.hid (show (if plA l m 1 && plA l m (-1) then 0 else if plA l m 1 then 2 else if !plA l m (-1) then 4 else if plA m l 1 then 3 else (1 : Int)) = R by rw [← HR1.out, hc]; rfl)
        rw [hc] at HC
        have hb2 : b2 = false := by have := HC.out; revert this; cases b2 <;> simp
        have hb3 : b3 = false := by have := HC.out; revert this; cases b3 <;> simp
        have hb5 : b5 = false := by have := HC.out; revert this; cases b5 <;> simp
        subst hb2 hb3 hb5
        clear hc HC HR1
        have PL := Lib.hid (places_any a a2 n cap n2 cap2 l m W3 (HL.out.later B4.out) (HM.out.later B4.out) HN.out HN2.out hcap hcap2 HMX2.out HF1.out HF2.out)
        rw [plC_all] at PL
        go_wp2_with fail
        refine PL.out.mono ?_
        rintro e w4 ⟨rfl, hb4⟩
        have B5 := Lib.hid (B4.out.trans (hb4.mono B4.out.size))
        clear hb4 PL B4 c2 c3 c5
        obtain ⟨p0, hp0⟩ : ∃ p, plA l m (-1) = p := ⟨_, rfl⟩
        obtain ⟨p1, hp1⟩ : ∃ p, plA l m 0 = p := ⟨_, rfl⟩
        obtain ⟨p2, hp2⟩ : ∃ p, plA l m 1 = p := ⟨_, rfl⟩
        rw [hp0, hp2] at HR2
        rw [hp0, hp1, hp2]
        clear hp0 hp1 hp2
        go_upto_region 7 with fail
        obtain ⟨W4, hW4⟩ : ∃ W4, w4.alloc (.cells #[.bool p0, .bool p1, .bool p2] 51) = W4 := ⟨_, rfl⟩
        rw [hW4]
        have r4 : IsRow W4 w4.heap.size 51 #[.bool p0, .bool p1, .bool p2] := hW4 ▸ IsRow.made w4 _ _
        obtain ⟨c0, c2⟩ : W4.cell? ⟨w4.heap.size, 0, none⟩ = some (.bool p0) ∧ W4.cell? ⟨w4.heap.size, 2, none⟩ = some (.bool p2) := ⟨r4.get 0, r4.get 2⟩
        have B6 : Hid (Below w.heap.size w W4) := hW4 ▸ B5.out.alloc B5.out.size _
        clear hW4 r4 B5
        cases p2 with
        | true =>
          cases p0 with
          | true =>
            have HE := Lib.hid (show (0 : Int) = R from HR2.out)
            go_wp2
            go_ret
            exact ⟨ret_int HE.out, B6.out⟩
          | false =>
            have HE := Lib.hid (show (2 : Int) = R from HR2.out)
            go_wp2
            go_ret
            exact ⟨ret_int HE.out, B6.out⟩
        | false =>
          cases p0 with
          | false =>
            have HE := Lib.hid (show (4 : Int) = R from HR2.out)
            go_wp2
            go_ret
            exact ⟨ret_int HE.out, B6.out⟩
          | true =>
            have HE := Lib.hid (show (if plA m l 1 then 3 else (1 : Int)) = R from HR2.out)
            have PL := Lib.hid (places_any a2 a n2 cap2 n cap m l W4 (HM.out.later B6.out) (HL.out.later B6.out) HN2.out HN.out hcap2 hcap HMX.out HF2.out HF1.out)
            rw [plC_all] at PL
            go_wp2_with fail
            refine PL.out.mono ?_
            rintro e w5 ⟨rfl, hb5⟩
            have B7 := Lib.hid (B6.out.trans (hb5.mono B6.out.size))
            clear hb5 PL B6 c0 c2 HR2
            cases hq : plA m l 1 with
            | true =>
              rw [hq] at HE
              have HE' := Lib.hid (show (3 : Int) = R from HE.out)
              have hi := run_third
              clear hq HE
              go_wp2
              go_ret
              exact ⟨ret_int HE'.out, B7.out⟩
            | false =>
              rw [hq] at HE
              have HE' := Lib.hid (show (1 : Int) = R from HE.out)
              have hi := run_third
              clear hq HE
              go_wp2
              go_ret
              exact ⟨ret_int HE'.out, B7.out⟩
end Go.Proofs.Ytlagolgmkmdhhaa.Rg
