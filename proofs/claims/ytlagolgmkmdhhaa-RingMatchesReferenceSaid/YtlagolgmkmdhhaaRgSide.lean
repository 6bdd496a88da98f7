/- ring.Side. -/
import Derived.Test.YtlagolgmkmdhhaaRgSimple
namespace Go.Proofs.Ytlagolgmkmdhhaa.Rg
open Go.RowKit Go.Sort Go.Shelf
open Go.Proofs.Ytlagolgmkmdhhaa.Geo hiding intOf Apart
def sideQ (l : List Pt) (p : Pt) : Int := if simpleN l && nearB p then locN l p else -1
theorem loc_range (l : List Pt) (p : Pt) : locN l p = 0 ∨ locN l p = 1 ∨ locN l p = -1 := by
  unfold locN
  split
  · exact .inl rfl
  · exact .inr (par_range _ _ _)
set_option maxRecDepth 100000 in
set_option maxHeartbeats 2000000 in
theorem side_any' (a : Option Addr) (n cap : Nat) (l : List Pt) (p : Pt) (w : World) (hl : Pts w w.heap.size a l) (hln : n = l.length) (hcap : n ≤ cap) (hm : cap ≤ maxLen) :
    Calls Try.prog 11 #[.slice a n cap, .agg #[.int .i64 p.x, .int .i64 p.y]] w fun e w' => e = .returned (.int .i64 (sideQ l p)) ∧ Below w.heap.size w w' := by
  obtain ⟨R, hR⟩ : ∃ R, sideQ l p = R := ⟨_, rfl⟩
  have HR := Lib.hid hR
  rw [hR]
  obtain ⟨W, hW⟩ : ∃ W, w.alloc (.cells #[.int .i64 p.x, .int .i64 p.y] 24) = W := ⟨_, rfl⟩
  have HB : Hid (Below w.heap.size w W) := hW ▸ alloc1 _ _
  have hP := hW ▸ Has.made w 24 p
  have HL := Lib.hid (hl.later HB.out)
  have HF := Lib.hid (fits_any a n cap l W HL.out hln (Nat.le_trans hcap hm))
  have HN := Lib.hid hln
  have HM := Lib.hid hm
  have HW := Lib.hid hW
  clear hR hW hl hln hm
  go_enter Try.func11, Try.ntmps11
  go_upto_region 1 with fail
  rw [HW.out]
  cases hf : fitsN l with
  | false =>
    have HE := Lib.hid (show (-1 : Int) = R by rw [← HR.out]; unfold sideQ simpleN; rw [hf]; rfl)
    rw [hf] at HF
    clear hf
    go_wp2_with fail
    refine HF.out.mono ?_
    rintro e w1 ⟨rfl, hb1⟩
    have B1 := Lib.hid (HB.out.trans (hb1.mono HB.out.size))
    clear hb1
    go_wp2
    go_ret
    exact ⟨ret_int HE.out, B1.out⟩
  | true =>
    obtain ⟨h3, h2, _⟩ := fits_parts hf
    have HFT := Lib.hid hf
    rw [hf] at HF
    clear hf
    go_wp2_with fail
    refine HF.out.mono ?_
    rintro e w1 ⟨rfl, hb1⟩
    have B1 := Lib.hid (HB.out.trans (hb1.mono HB.out.size))
    have P1 := hP.below hb1
    have L1 := Lib.hid (HL.out.later hb1)
    obtain ⟨_, p0, p1⟩ := P1
    have P1' := hP.below hb1
    clear hb1 hP
    go_wp2_with fail
    refine (isFar_any p _).mono ?_
    rintro e w2 ⟨rfl, hb2⟩
    have B2 := Lib.hid (B1.out.trans (hb2.mono B1.out.size))
    have P2 := P1'.below hb2
    have L2 := Lib.hid (L1.out.later hb2)
    clear hb2 p0 p1 P1'
    cases hq : nearB p with
    | false =>
      have HE := Lib.hid (show (-1 : Int) = R by rw [← HR.out]; unfold sideQ; rw [hq]; simp)
      clear hq
      go_wp2
      go_ret
      exact ⟨ret_int HE.out, B2.out⟩
    | true =>
      obtain ⟨_, p0, p1⟩ := P2
      have LC := Lib.hid (locate_any a n cap l p w2 L2.out HN.out hcap (by have := HN.out; omega) (by have := HN.out; omega))
      have hlr := loc_range l p
      obtain ⟨c, hc⟩ : ∃ c, locN l p = c := ⟨_, rfl⟩
      have HE := Lib.hid (show (if simpleN l then c else -1) = R by rw [← HR.out, ← hc]; unfold sideQ; rw [hq]; simp)
      rw [hc] at LC hlr
      clear hc hq
      go_wp2_with fail
      refine LC.out.mono ?_
      rintro e w3 ⟨rfl, hb3⟩
      have B3 := Lib.hid (B2.out.trans (hb3.mono B2.out.size))
      have SM := Lib.hid (simple_any a n cap l w3 (L2.out.later hb3) HN.out hcap HM.out)
      clear hb3 p0 p1 LC
      by_cases h0 : c ≥ 0
      · obtain ⟨s, hs⟩ : ∃ s, simpleN l = s := ⟨_, rfl⟩
        rw [hs] at SM HE
        clear hs hlr
        go_wp2_with fail
        refine SM.out.mono ?_
        rintro e w4 ⟨rfl, hb4⟩
        have B4 := Lib.hid (B3.out.trans (hb4.mono B3.out.size))
        clear hb4 SM
        cases s with
        | true =>
          go_wp2
          go_ret
          exact ⟨ret_int HE.out, B4.out⟩
        | false =>
          go_wp2
          go_ret
          exact ⟨ret_int HE.out, B4.out⟩
      · have hcm : c = -1 := by omega
        have HE' : Hid ((-1 : Int) = R) := by
          show _ = _
          rw [← HE.out, hcm]
          split <;> rfl
        clear hlr hcm SM
        go_wp2
        go_ret
        exact ⟨ret_int HE'.out, B3.out⟩
end Go.Proofs.Ytlagolgmkmdhhaa.Rg
