/- Merged: RgRefSide, RgRefTwice, RgRefSimple, RgRefOn, RgRefWhere, RgRefSideC, RgRefDoubled, RgRefParts, RgRefRel, RgMatchesWalk. -/
import Derived.Test.YtlagolgmkmdhhaaRgNear
import Derived.Deep.RegionHeld3
import Derived.Laws.Rows
import Derived.Test.YtlagolgmkmdhhaaRgSimpleMath
import Derived.Test.YtlagolgmkmdhhaaGmRefAll
import Derived.Test.YtlagolgmkmdhhaaPlQuad
import Derived.Test.YtlagolgmkmdhhaaRgStat
import Derived.Test.YtlagolgmkmdhhaaRgPoints
import Derived.Test.YtlagolgmkmdhhaaRgSym
import Derived.Lib.QuietBelow
import Derived.BigQuiet
import Derived.Test.YtlagolgmkmdhhaaRgHead
/- planisphereref04.side: a side of a ring. -/
namespace Go.Proofs.Ytlagolgmkmdhhaa.Rg
open Go.RowKit Go.Sort Go.Shelf
open Go.Proofs.Ytlagolgmkmdhhaa.Geo hiding intOf Apart
set_option maxRecDepth 100000 in
set_option maxHeartbeats 2000000 in
theorem refside_any (a : Option Addr) (n cap k : Nat) (l : List Pt) (w : World) (hl : Pts w w.heap.size a l) (hn : n = l.length) (hk : k < n) (h5 : n ≤ 2000) :
    Calls Try.prog 20 #[.slice a n cap, .int .i64 k] w fun e w' => e = .returned (.agg #[.int .i64 (cor l k).x, .int .i64 (cor l k).y, .int .i64 (nxt l k).x, .int .i64 (nxt l k).y]) ∧ Below w.heap.size w w' := by
  obtain ⟨j, hj⟩ : ∃ j, (k + 1) % n = j := ⟨_, rfl⟩
  have hjn : j < n := hj ▸ Nat.mod_lt _ (by omega)
  have HX := Lib.hid (show nxt l k = cor l j by rw [nxt_cor (by omega), ← hn, hj])
  have ej : ((k : Int) + 1) % (n : Int) = (j : Int) := by rw [← hj]; simp
  obtain ⟨b, off, rfl, hbN, hc⟩ := hl (by omega)
  obtain ⟨x0, x1⟩ := hc k (cor l k) (cor_get (by omega))
  obtain ⟨y0, y1⟩ := hc j (cor l j) (cor_get (by omega))
  obtain ⟨W, hW⟩ : ∃ W, w.alloc (.cells #[.int .i64 0, .int .i64 0, .int .i64 0, .int .i64 0] 33) = W := ⟨_, rfl⟩
  have r0 : IsRow W w.heap.size 33 #[.int .i64 0, .int .i64 0, .int .i64 0, .int .i64 0] := hW ▸ IsRow.made _ _ _
  have hb : Below w.heap.size w W := hW ▸ alloc1 _ _
  have X0 : W.cell? ⟨b, off + k * 2, none⟩ = some (.int .i64 (cor l k).x) := (hb.cell (p := ⟨b, off + k * 2, none⟩) hbN).trans x0
  have X1 : W.cell? ⟨b, off + k * 2 + 1, none⟩ = some (.int .i64 (cor l k).y) := (hb.cell (p := ⟨b, off + k * 2 + 1, none⟩) hbN).trans x1
  have Y0 : W.cell? ⟨b, off + j * 2, none⟩ = some (.int .i64 (cor l j).x) := (hb.cell (p := ⟨b, off + j * 2, none⟩) hbN).trans y0
  have Y1 : W.cell? ⟨b, off + j * 2 + 1, none⟩ = some (.int .i64 (cor l j).y) := (hb.cell (p := ⟨b, off + j * 2 + 1, none⟩) hbN).trans y1
  have HW := Lib.hid hW
  have HN := Lib.hid hn
  clear hW x0 x1 y0 y1 hc hl hj hn
  have KG := Lib.hid (fun (wy : World) (h : Below w.heap.size W wy) => (⟨(h.cell (p := ⟨b, off + k * 2, none⟩) hbN).trans X0, (h.cell (p := ⟨b, off + k * 2 + 1, none⟩) hbN).trans X1, (h.cell (p := ⟨b, off + j * 2, none⟩) hbN).trans Y0, (h.cell (p := ⟨b, off + j * 2 + 1, none⟩) hbN).trans Y1⟩ :
    wy.cell? ⟨b, off + k * 2, none⟩ = some (.int .i64 (cor l k).x) ∧ wy.cell? ⟨b, off + k * 2 + 1, none⟩ = some (.int .i64 (cor l k).y) ∧ wy.cell? ⟨b, off + j * 2, none⟩ = some (.int .i64 (cor l j).x) ∧ wy.cell? ⟨b, off + j * 2 + 1, none⟩ = some (.int .i64 (cor l j).y)))
  rw [HX.out]
  go_enter Try.func20, Try.ntmps20
  go_upto_region 1 with fail
  rw [HW.out]
  obtain ⟨d0, d1, d2, d3, f0, f1, f2, f3⟩ := row_facts r0
  have R0 := Lib.hid r0
  have HB := Lib.hid hb
  have i0 : (0 : Int) ≤ (k : Int) := by omega
  have i1 : (k : Int) < (n : Int) := by omega
  have i2 : (0 : Int) ≤ (j : Int) := by omega
  have i3 : (j : Int) < (n : Int) := by omega
  have i4 : ¬ n = 0 := by omega
  have e1 : IntKind.i64.wrap ((k : Int) + 1) = (k : Int) + 1 := IntWalk.i64_in _ (by omega)
  have e2 : ((k : Int) + 1).tmod (n : Int) = (j : Int) := by rw [Int.tmod_eq_emod_of_nonneg (by omega)]; exact ej
  have e3 : (0 : Int) ≤ (k : Int) + 1 := by omega
  clear r0 hb HW
  go_region_held3 (fun w' => w'.cell? ⟨b, off + k * 2, none⟩ = some (.int .i64 (cor l k).x) ∧ w'.cell? ⟨b, off + k * 2 + 1, none⟩ = some (.int .i64 (cor l k).y) ∧ w'.cell? ⟨b, off + j * 2, none⟩ = some (.int .i64 (cor l j).x) ∧ w'.cell? ⟨b, off + j * 2 + 1, none⟩ = some (.int .i64 (cor l j).y))
    (first | exact KG.out _ (below4 (Below.refl w.heap.size W) (Nat.le_refl w.heap.size) _ _ _ _).drew | exact KG.out _ (Below.refl w.heap.size W).drew | go_keep) (fail)
  have hr := set4 R0.out (.int .i64 (cor l k).x) (.int .i64 (cor l k).y) (.int .i64 (cor l j).x) (.int .i64 (cor l j).y)
  have hb := (below4 (HB.out) (Nat.le_refl w.heap.size) (.int .i64 (cor l k).x) (.int .i64 (cor l k).y) (.int .i64 (cor l j).x) (.int .i64 (cor l j).y)).drew
  go_wp2
  refine bodyPost_ret (results_cell_row rfl _ _ w.heap.size _ _ (0, 0) _ rfl hr Try.underlying33 rfl infoSegA) rfl ?_
  exact ⟨by simp, hb⟩
end Go.Proofs.Ytlagolgmkmdhhaa.Rg
/- planisphereref04.Twice. -/
namespace Go.Proofs.Ytlagolgmkmdhhaa.Rg
open Go.RowKit Go.Sort Go.Shelf
open Go.Proofs.Ytlagolgmkmdhhaa.Geo hiding intOf Apart
set_option maxRecDepth 100000 in
set_option maxHeartbeats 4000000 in
theorem reftwice_any (a : Option Addr) (n cap : Nat) (l : List Pt) (w : World) (hl : Pts w w.heap.size a l) (hn : n = l.length) (hm : n ≤ maxLen) :
    Calls Try.prog 8 #[.slice a n cap] w fun e w' => e = .returned (.int .i64 (twiceN l)) ∧ Below w.heap.size w w' := by
  obtain ⟨R, hR⟩ : ∃ R, twiceN l = R := ⟨_, rfl⟩
  have HR := Lib.hid hR
  rw [hR]
  have HL := Lib.hid hl
  subst hn
  clear hR hl
  by_cases h3 : l.length < 3
  · have HE := Lib.hid (show (0 : Int) = R by rw [← HR.out]; unfold twiceN fitsN; rw [if_neg]; simp; omega)
    have i1 : (l.length : Int) < 3 := by omega
    go_enter Try.func8, Try.ntmps8
    go_wp2
    go_ret
    exact ⟨ret_int HE.out, Below.refl _ _⟩
  · by_cases h2 : 2000 < l.length
    · have HE := Lib.hid (show (0 : Int) = R by rw [← HR.out]; unfold twiceN fitsN; rw [if_neg]; simp; omega)
      have i1 : ¬ (l.length : Int) < 3 := by omega
      have i2 : (2000 : Int) < (l.length : Int) := by omega
      go_enter Try.func8, Try.ntmps8
      go_wp2
      go_ret
      exact ⟨ret_int HE.out, Below.refl _ _⟩
    · have i1 : ¬ (l.length : Int) < 3 := by omega
      have i2 : ¬ (2000 : Int) < (l.length : Int) := by omega
      go_enter Try.func8, Try.ntmps8
      go_wp2_with fail
      refine (near_any a _ cap l w HL.out rfl hm).mono ?_
      rintro e w1 ⟨rfl, b1⟩
      cases hnr : l.all nearB with
      | false =>
        have HE := Lib.hid (show (0 : Int) = R by rw [← HR.out]; unfold twiceN fitsN; rw [hnr, if_neg]; simp)
        clear hnr
        go_wp2
        go_ret
        exact ⟨ret_int HE.out, b1⟩
      | true =>
        have HE := Lib.hid (show tw l (List.finRange l.length) = R by rw [← HR.out]; unfold twiceN; rw [if_pos]; unfold fitsN; rw [hnr]; simp; omega)
        have HNR := Lib.hid hnr
        have B1 := Lib.hid b1
        have L1 := Lib.hid (HL.out.later b1)
        have h20 := Lib.hid (show l.length ≤ 2000 by omega)
        clear hnr b1 HL
        go_wp2_with fail
        go_loopw [3, 4, 5] (fun s i _ wr => ∃ k : Nat, k ≤ l.length ∧ i = .int .i64 k ∧ s = .int .i64 (tw l (upto l.length k)) ∧ Hid (Below w1.heap.size w1 wr)) (fun _ i _ _ => l.length - (intOf i).toNat)
        case atStart => exact ⟨0, by omega, rfl, rfl, Lib.hid (Below.refl _ _)⟩
        case round =>
          obtain ⟨k, hk, rfl, rfl, hb⟩ := hrel
          by_cases hkl : k < l.length
          · have tb := term_bound HNR.out hkl
            have wb := tw_bound HNR.out (upto l.length k)
            rw [upto_len l.length k hk] at wb
            have n1 := near_cor HNR.out hkl
            have n2 := near_nxt HNR.out hkl (by omega)
            have h20' := h20.out
            obtain ⟨w1', w2, w3, w4⟩ := twice_wraps n1 n2 (s := tw l (upto l.length k)) (by omega) (by omega)
            have HS := Lib.hid (show tw l (upto l.length (k + 1)) = tw l (upto l.length k) + term l k by rw [upto_succ l.length k hkl, tw_snoc])
            clear h20' tb wb n1 n2
            go_wp2_with fail
            refine (refside_any a _ cap k l wr (L1.out.later hb.out) rfl hkl h20.out).mono ?_
            rintro e w2' ⟨rfl, hb2⟩
            have hb3 := Lib.hid (hb.out.trans (hb2.mono hb.out.size))
            have hsz := hb3.out.size
            clear hb2 hb
            go_wp2_with fail
            go_roundw
            case rel => exact ⟨k + 1, by omega, by go_num, congrArg (Value.int .i64) (by rw [HS.out]; exact w4), Lib.hid (hb3.out.alloc hsz _)⟩
            case measure => simp [intOf]; omega
          · obtain rfl : k = l.length := by omega
            have HU := Lib.hid (show tw l (upto l.length l.length) = R by rw [upto_full]; exact HE.out)
            go_wp2_with fail
            go_ret
            exact ⟨ret_int HU.out, B1.out.trans (hb.out.mono B1.out.size)⟩
end Go.Proofs.Ytlagolgmkmdhhaa.Rg
/- planisphereref04.Simple. -/
namespace Go.Proofs.Ytlagolgmkmdhhaa.Rg
open Go.RowKit Go.Sort Go.Shelf
open Go.Proofs.Ytlagolgmkmdhhaa.Geo hiding intOf Apart
def okK (l : List Pt) (i k : Nat) : Prop := meetsF (cor l i) (nxt l i) (cor l k) (nxt l k) = wantN k i l.length
theorem ok_simple {l : List Pt} (hf : fitsN l = true) : simpleN l = true ↔ ∀ i, i < l.length → ∀ k, k < i → okK l i k := by
  unfold simpleN
  rw [hf, Bool.true_and, simpleB_iff]
  constructor
  · intro h i hi k hk
    unfold okK
    rw [meetsF_swap]
    exact h k i hk hi
  · intro h i j hij hj
    have := h j hj i hij
    unfold okK at this
    rw [meetsF_swap] at this
    exact this
theorem simple_false {l : List Pt} {i k : Nat} (hi : i < l.length) (hk : k < i) (h : ¬ okK l i k) : simpleN l = false := by
  cases hs : simpleN l with
  | false => rfl
  | true =>
    have hf : fitsN l = true := by unfold simpleN at hs; rw [Bool.and_eq_true] at hs; exact hs.1
    exact absurd ((ok_simple hf).1 hs i hi k hk) h
theorem unfit {l : List Pt} (h : fitsN l = false) : simpleN l = false := by unfold simpleN; rw [h]; rfl
theorem want_is {i k n : Nat} (hk : k < i) (hi : i < n) : wantN k i n = if i - k = 1 ∨ i - k = n - 1 then 1 else 0 := by
  unfold wantN nbN
  have e : ((decide ((k + 1) % n = i) || decide ((i + 1) % n = k)) = true) ↔ (i - k = 1 ∨ i - k = n - 1) := by
    rw [Bool.or_eq_true, decide_eq_true_iff, decide_eq_true_iff, Nat.mod_eq_of_lt (show k + 1 < n by omega)]
    by_cases g : i + 1 < n
    · rw [Nat.mod_eq_of_lt g]; omega
    · rw [show i + 1 = n by omega, Nat.mod_self]; omega
  by_cases g : i - k = 1 ∨ i - k = n - 1
  · rw [if_pos g, if_pos (e.2 g)]
  · rw [if_neg g, if_neg fun h => g (e.1 h)]
set_option maxRecDepth 100000 in
set_option maxHeartbeats 8000000 in
theorem refsimple_any (a : Option Addr) (n cap : Nat) (l : List Pt) (w : World) (hl : Pts w w.heap.size a l) (hn : n = l.length) (hm : n ≤ maxLen) :
    Calls Try.prog 10 #[.slice a n cap] w fun e w' => e = .returned (.bool (simpleN l)) ∧ Below w.heap.size w w' := by
  obtain ⟨R, hR⟩ : ∃ R, simpleN l = R := ⟨_, rfl⟩
  have HR := Lib.hid hR
  rw [hR]
  have HL := Lib.hid hl
  subst hn
  clear hR hl
  by_cases h3 : l.length < 3
  · have HE := Lib.hid (show false = R by rw [← HR.out]; exact (unfit (by unfold fitsN; simp; omega)).symm)
    have i1 : (l.length : Int) < 3 := by omega
    go_enter Try.func10, Try.ntmps10
    go_wp2
    go_ret
    exact ⟨ret_bool HE.out, Below.refl _ _⟩
  · by_cases h2 : 2000 < l.length
    · have HE := Lib.hid (show false = R by rw [← HR.out]; exact (unfit (by unfold fitsN; simp; omega)).symm)
      have i1 : ¬ (l.length : Int) < 3 := by omega
      have i2 : (2000 : Int) < (l.length : Int) := by omega
      go_enter Try.func10, Try.ntmps10
      go_wp2
      go_ret
      exact ⟨ret_bool HE.out, Below.refl _ _⟩
    · have i1 : ¬ (l.length : Int) < 3 := by omega
      have i2 : ¬ (2000 : Int) < (l.length : Int) := by omega
      go_enter Try.func10, Try.ntmps10
      go_wp2_with fail
      refine (near_any a _ cap l w HL.out rfl hm).mono ?_
      rintro e w1 ⟨rfl, b1⟩
      cases hnr : l.all nearB with
      | false =>
        have HE := Lib.hid (show false = R by rw [← HR.out]; exact (unfit (by unfold fitsN; rw [hnr]; simp)).symm)
        clear hnr
        go_wp2
        go_ret
        exact ⟨ret_bool HE.out, b1⟩
      | true =>
        have HF := Lib.hid (show fitsN l = true by unfold fitsN; rw [hnr]; simp; omega)
        have B1 := Lib.hid b1
        have L1 := Lib.hid (HL.out.later b1)
        have h20 := Lib.hid (show l.length ≤ 2000 by omega)
        clear hnr b1 HL
        go_wp2_with fail
        go_loopw [4, 5, 6] (fun i _ _ wr => ∃ k : Nat, k ≤ l.length ∧ i = .int .i64 k ∧ Hid (∀ i, i < k → ∀ j, j < i → okK l i j) ∧ Hid (Below w1.heap.size w1 wr)) (fun i _ _ _ => l.length - (intOf i).toNat)
        case atStart => exact ⟨0, by omega, rfl, Lib.hid (fun i hi => by omega), Lib.hid (Below.refl _ _)⟩
        case round =>
          obtain ⟨i, hi, rfl, hok, hb⟩ := hrel
          by_cases hil : i < l.length
          · obtain ⟨wo, rfl⟩ : ∃ wo : World, wo = wr := ⟨_, rfl⟩
            go_wp2_with fail
            go_loopw [5, 6] (fun j _ wr => ∃ k : Nat, k ≤ i ∧ j = .int .i64 k ∧ Hid (∀ j, j < k → okK l i j) ∧ Hid (Below w1.heap.size w1 wr)) (fun j _ _ => i - (intOf j).toNat)
            case atStart => exact ⟨0, by omega, rfl, Lib.hid (fun j hj => by omega), hb⟩
            case round =>
              obtain ⟨k, hk, rfl, hok2, hb2⟩ := hrel
              by_cases hki : k < i
              · obtain ⟨want, hw⟩ : ∃ v, wantN k i l.length = v := ⟨_, rfl⟩
                have hwr := want_is hki hil
                rw [hw] at hwr
                obtain ⟨mt, hmt⟩ : ∃ v, meetsF (cor l i) (nxt l i) (cor l k) (nxt l k) = v := ⟨_, rfl⟩
                have HW := Lib.hid hw
                have HM := Lib.hid hmt
                have hcase : (((i : Int) - (k : Int) == 1) = true ∧ want = 1) ∨ (((i : Int) - (k : Int) == 1) = false ∧ ((i : Int) - (k : Int) == (l.length : Int) - 1) = true ∧ want = 1) ∨ (((i : Int) - (k : Int) == 1) = false ∧ ((i : Int) - (k : Int) == (l.length : Int) - 1) = false ∧ want = 0) := by
                  rw [beq_iff_eq, beq_eq_false_iff_ne, beq_iff_eq, beq_eq_false_iff_ne]
                  by_cases g1 : i - k = 1
                  · rw [if_pos (.inl g1)] at hwr; left; exact ⟨by omega, hwr⟩
                  · by_cases g2 : i - k = l.length - 1
                    · rw [if_pos (.inr g2)] at hwr; right; left; exact ⟨by omega, by omega, hwr⟩
                    · rw [if_neg (by omega)] at hwr; right; right; exact ⟨by omega, by omega, hwr⟩
                clear hw hmt hwr
                have hik : (0 : Int) ≤ (i : Int) - (k : Int) := by omega
                rcases hcase with ⟨z1, rfl⟩ | ⟨z1, z2, rfl⟩ | ⟨z1, z2, rfl⟩
                · go_wp2_with fail
                  refine (refside_any a _ cap i l wr (L1.out.later hb2.out) rfl hil h20.out).mono ?_
                  rintro e w2 ⟨rfl, b2⟩
                  have hb3 := Lib.hid (hb2.out.trans (b2.mono hb2.out.size))
                  clear b2 hb2
                  go_wp2_with fail
                  refine (refside_any a _ cap k l w2 (L1.out.later hb3.out) rfl (Nat.lt_trans hki hil) h20.out).mono ?_
                  rintro e w3 ⟨rfl, b3⟩
                  have hb4 := Lib.hid (hb3.out.trans (b3.mono hb3.out.size))
                  clear b3 hb3
                  go_wp2_with fail
                  refine ((refmeets_any (cor l i) (nxt l i) (cor l k) (nxt l k)).to (congrArg (Value.int .i64) HM.out) _).mono ?_
                  rintro e w4 ⟨rfl, b4⟩
                  have hb5 := Lib.hid (hb4.out.trans (b4.mono hb4.out.size))
                  clear b4 hb4
                  by_cases g : mt = 1
                  · have z3 : (mt != 1) = false := by simp [g]
                    have hok3 := Lib.hid (show ∀ j, j < k + 1 → okK l i j from fun j hj => by
                      by_cases e : j = k
                      · subst e; unfold okK; rw [HM.out, HW.out]; exact g
                      · exact hok2.out j (by omega))
                    clear g hok2 HM HW z1
                    go_wp2
                    go_roundw
                    case rel => exact ⟨k + 1, by omega, by go_num, hok3, hb5⟩
                    case measure => simp [intOf]; omega
                  · have z3 : (mt != 1) = true := by simp [g]
                    have HE := Lib.hid (show false = R by rw [← HR.out]; exact (simple_false hil hki fun h => g (by unfold okK at h; rw [HM.out, HW.out] at h; exact h)).symm)
                    clear g hok2 HM HW z1
                    go_wp2
                    go_ret
                    exact ⟨ret_bool HE.out, B1.out.trans (hb5.out.mono B1.out.size)⟩
                · go_wp2_with fail
                  refine (refside_any a _ cap i l wr (L1.out.later hb2.out) rfl hil h20.out).mono ?_
                  rintro e w2 ⟨rfl, b2⟩
                  have hb3 := Lib.hid (hb2.out.trans (b2.mono hb2.out.size))
                  clear b2 hb2
                  go_wp2_with fail
                  refine (refside_any a _ cap k l w2 (L1.out.later hb3.out) rfl (Nat.lt_trans hki hil) h20.out).mono ?_
                  rintro e w3 ⟨rfl, b3⟩
                  have hb4 := Lib.hid (hb3.out.trans (b3.mono hb3.out.size))
                  clear b3 hb3
                  go_wp2_with fail
                  refine ((refmeets_any (cor l i) (nxt l i) (cor l k) (nxt l k)).to (congrArg (Value.int .i64) HM.out) _).mono ?_
                  rintro e w4 ⟨rfl, b4⟩
                  have hb5 := Lib.hid (hb4.out.trans (b4.mono hb4.out.size))
                  clear b4 hb4
                  by_cases g : mt = 1
                  · have z3 : (mt != 1) = false := by simp [g]
                    have hok3 := Lib.hid (show ∀ j, j < k + 1 → okK l i j from fun j hj => by
                      by_cases e : j = k
                      · subst e; unfold okK; rw [HM.out, HW.out]; exact g
                      · exact hok2.out j (by omega))
                    clear g hok2 HM HW z1
                    go_wp2
                    go_roundw
                    case rel => exact ⟨k + 1, by omega, by go_num, hok3, hb5⟩
                    case measure => simp [intOf]; omega
                  · have z3 : (mt != 1) = true := by simp [g]
                    have HE := Lib.hid (show false = R by rw [← HR.out]; exact (simple_false hil hki fun h => g (by unfold okK at h; rw [HM.out, HW.out] at h; exact h)).symm)
                    clear g hok2 HM HW z1
                    go_wp2
                    go_ret
                    exact ⟨ret_bool HE.out, B1.out.trans (hb5.out.mono B1.out.size)⟩
                · go_wp2_with fail
                  refine (refside_any a _ cap i l wr (L1.out.later hb2.out) rfl hil h20.out).mono ?_
                  rintro e w2 ⟨rfl, b2⟩
                  have hb3 := Lib.hid (hb2.out.trans (b2.mono hb2.out.size))
                  clear b2 hb2
                  go_wp2_with fail
                  refine (refside_any a _ cap k l w2 (L1.out.later hb3.out) rfl (Nat.lt_trans hki hil) h20.out).mono ?_
                  rintro e w3 ⟨rfl, b3⟩
                  have hb4 := Lib.hid (hb3.out.trans (b3.mono hb3.out.size))
                  clear b3 hb3
                  go_wp2_with fail
                  refine ((refmeets_any (cor l i) (nxt l i) (cor l k) (nxt l k)).to (congrArg (Value.int .i64) HM.out) _).mono ?_
                  rintro e w4 ⟨rfl, b4⟩
                  have hb5 := Lib.hid (hb4.out.trans (b4.mono hb4.out.size))
                  clear b4 hb4
                  by_cases g : mt = 0
                  · have z3 : (mt != 0) = false := by simp [g]
                    have hok3 := Lib.hid (show ∀ j, j < k + 1 → okK l i j from fun j hj => by
                      by_cases e : j = k
                      · subst e; unfold okK; rw [HM.out, HW.out]; exact g
                      · exact hok2.out j (by omega))
                    clear g hok2 HM HW z1
                    go_wp2
                    go_roundw
                    case rel => exact ⟨k + 1, by omega, by go_num, hok3, hb5⟩
                    case measure => simp [intOf]; omega
                  · have z3 : (mt != 0) = true := by simp [g]
                    have HE := Lib.hid (show false = R by rw [← HR.out]; exact (simple_false hil hki fun h => g (by unfold okK at h; rw [HM.out, HW.out] at h; exact h)).symm)
                    clear g hok2 HM HW z1
                    go_wp2
                    go_ret
                    exact ⟨ret_bool HE.out, B1.out.trans (hb5.out.mono B1.out.size)⟩
              · obtain rfl : k = i := by omega
                have hok3 := Lib.hid (show ∀ i, i < k + 1 → ∀ j, j < i → okK l i j from fun i hi j hj => by
                  by_cases e : i = k
                  · subst e; exact hok2.out j hj
                  · exact hok.out i (by omega) j hj)
                clear hok hok2
                go_wp2
                go_roundw
                case rel => exact ⟨k + 1, by omega, by go_num, hok3, hb2⟩
                case measure => simp [intOf]; omega
          · obtain rfl : i = l.length := by omega
            have HE := Lib.hid (show true = R by rw [← HR.out]; exact ((ok_simple HF.out).2 hok.out).symm)
            clear hok
            go_wp2
            go_ret
            exact ⟨ret_bool HE.out, B1.out.trans (hb.out.mono B1.out.size)⟩
end Go.Proofs.Ytlagolgmkmdhhaa.Rg
/- planisphereref04.cross and on. -/
namespace Go.Proofs.Ytlagolgmkmdhhaa.Rg
open Go.RowKit Go.Sort Go.Shelf
open Go.Proofs.Ytlagolgmkmdhhaa.Geo hiding intOf Apart
/-- coordinates of at most 2^22. -/
def bigB (p : Pt) : Prop := -4194304 ≤ p.x ∧ p.x ≤ 4194304 ∧ -4194304 ≤ p.y ∧ p.y ≤ 4194304
theorem big_sub {p q : Pt} (hp : bigB p) (hq : bigB q) : wrap64 (p.x - q.x) = p.x - q.x ∧ wrap64 (p.y - q.y) = p.y - q.y := by
  unfold bigB at hp hq
  unfold wrap64
  omega
theorem big_wrap {a b c : Pt} (ha : bigB a) (hb : bigB b) (hc : bigB c) :
    wrap64 (wrap64 (wrap64 (b.x - a.x) * wrap64 (c.y - a.y)) - wrap64 (wrap64 (b.y - a.y) * wrap64 (c.x - a.x))) = crs a b c := by
  rw [(big_sub hb ha).1, (big_sub hb ha).2, (big_sub hc ha).1, (big_sub hc ha).2]
  unfold bigB at ha hb hc
  have e1 := mul_bound (M := 8388608) (x := b.x - a.x) (y := c.y - a.y) (by omega) (by omega) (by omega) (by omega)
  have e2 := mul_bound (M := 8388608) (x := b.y - a.y) (y := c.x - a.x) (by omega) (by omega) (by omega) (by omega)
  unfold crs
  generalize (b.x - a.x) * (c.y - a.y) = X at *
  generalize (b.y - a.y) * (c.x - a.x) = Y at *
  unfold wrap64
  omega
set_option maxRecDepth 100000 in
set_option maxHeartbeats 400000 in
theorem cross4_any (a b c : Pt) (w : World) (ha : bigB a) (hb : bigB b) (hc : bigB c) :
    Calls Try.prog 53 #[.agg #[.int .i64 a.x, .int .i64 a.y], .agg #[.int .i64 b.x, .int .i64 b.y], .agg #[.int .i64 c.x, .int .i64 c.y]] w fun e w' => e = .returned (.int .i64 (crs a b c)) ∧ Below w.heap.size w w' := by
  go_enter Try.func53, Try.ntmps53
  go_wp2
  go_ret
  exact ⟨ret_int (big_wrap ha hb hc), alloc3 _ _ _ _⟩
/-- p is in the box of a and b. -/
def boxP (a b p : Pt) : Prop := (a.x ≤ p.x ∧ p.x ≤ b.x ∨ b.x ≤ p.x ∧ p.x ≤ a.x) ∧ (a.y ≤ p.y ∧ p.y ≤ b.y ∨ b.y ≤ p.y ∧ p.y ≤ a.y)
theorem box_holds {a b p : Pt} (h0 : crs a b p = 0) : holdsN a b p = true ↔ boxP a b p := by
  rw [holds_iff]
  have e0 : dt p a b = (a.x - p.x) * (b.x - p.x) + (a.y - p.y) * (b.y - p.y) := by unfold dt; grind
  constructor
  · rintro ⟨_, hd⟩
    have k1 : ((b.x - a.x) * (b.x - a.x) + (b.y - a.y) * (b.y - a.y)) * ((a.x - p.x) * (b.x - p.x)) = (b.x - a.x) * (b.x - a.x) * dt p a b := by rw [e0]; unfold crs at h0; grind
    have k2 : ((b.x - a.x) * (b.x - a.x) + (b.y - a.y) * (b.y - a.y)) * ((a.y - p.y) * (b.y - p.y)) = (b.y - a.y) * (b.y - a.y) * dt p a b := by rw [e0]; unfold crs at h0; grind
    have s1 := mul_self (b.x - a.x)
    have s2 := mul_self (b.y - a.y)
    by_cases g : a.x = b.x ∧ a.y = b.y
    · obtain ⟨g1, g2⟩ := g
      rw [← g1, ← g2] at e0
      have := sqs_zero (a := a.x - p.x) (b := a.y - p.y) (by omega)
      unfold boxP
      omega
    · have hn : 0 < (b.x - a.x) * (b.x - a.x) + (b.y - a.y) * (b.y - a.y) := by
        by_cases k : b.x - a.x = 0
        · have := Pl.sq_pos' (show b.y - a.y ≠ 0 by omega); omega
        · have := Pl.sq_pos' k; omega
      have m1 := Int.mul_nonpos_of_nonneg_of_nonpos s1 hd
      have m2 := Int.mul_nonpos_of_nonneg_of_nonpos s2 hd
      have x1 := Pl.sg ((b.x - a.x) * (b.x - a.x) + (b.y - a.y) * (b.y - a.y)) ((a.x - p.x) * (b.x - p.x))
      have x2 := Pl.sg ((b.x - a.x) * (b.x - a.x) + (b.y - a.y) * (b.y - a.y)) ((a.y - p.y) * (b.y - p.y))
      have x3 := Pl.sg (a.x - p.x) (b.x - p.x)
      have x4 := Pl.sg (a.y - p.y) (b.y - p.y)
      unfold boxP
      generalize (a.x - p.x) * (b.x - p.x) = y1 at *
      generalize (a.y - p.y) * (b.y - p.y) = y2 at *
      omega
  · rintro ⟨h1, h2⟩
    refine ⟨h0, ?_⟩
    have x3 := Pl.sg (a.x - p.x) (b.x - p.x)
    have x4 := Pl.sg (a.y - p.y) (b.y - p.y)
    omega
def boxB (a b p : Pt) : Bool := decide (min a.x b.x ≤ p.x) && decide (p.x ≤ max a.x b.x) && decide (min a.y b.y ≤ p.y) && decide (p.y ≤ max a.y b.y)
theorem box_bool (a b p : Pt) : boxB a b p = true ↔ boxP a b p := by
  unfold boxB boxP
  rw [Bool.and_eq_true, Bool.and_eq_true, Bool.and_eq_true, decide_eq_true_iff, decide_eq_true_iff, decide_eq_true_iff, decide_eq_true_iff]
  omega
theorem segpt_made (w : World) (t1 t2 : TypeId) (a b p : Pt) : ∃ W, (w.alloc (.cells #[.int .i64 a.x, .int .i64 a.y, .int .i64 b.x, .int .i64 b.y] t1)).alloc (.cells #[.int .i64 p.x, .int .i64 p.y] t2) = W ∧ Below w.heap.size w W ∧
    (W.cell? ⟨w.heap.size, 0, none⟩ = some (.int .i64 a.x) ∧ W.cell? ⟨w.heap.size, 1, none⟩ = some (.int .i64 a.y) ∧ W.cell? ⟨w.heap.size, 2, none⟩ = some (.int .i64 b.x) ∧ W.cell? ⟨w.heap.size, 3, none⟩ = some (.int .i64 b.y)) ∧
    (W.cell? ⟨w.heap.size + 1, 0, none⟩ = some (.int .i64 p.x) ∧ W.cell? ⟨w.heap.size + 1, 1, none⟩ = some (.int .i64 p.y)) ∧ w.heap.size + 1 < W.heap.size := by
  have h1 := (IsRow.made w t1 #[.int .i64 a.x, .int .i64 a.y, .int .i64 b.x, .int .i64 b.y]).later (.cells #[.int .i64 p.x, .int .i64 p.y] t2)
  have h2 := IsRow.made (w.alloc (.cells #[.int .i64 a.x, .int .i64 a.y, .int .i64 b.x, .int .i64 b.y] t1)) t2 #[.int .i64 p.x, .int .i64 p.y]
  rw [World.size_alloc] at h2
  exact ⟨_, rfl, alloc2 w _ _, ⟨h1.get 0, h1.get 1, h1.get 2, h1.get 3⟩, ⟨h2.get 0, h2.get 1⟩, by simp⟩
set_option maxRecDepth 100000 in
set_option maxHeartbeats 4000000 in
theorem refon4_any (a b p : Pt) (w : World) (ha : bigB a) (hb : bigB b) (hp : bigB p) :
    Calls Try.prog 52 #[.agg #[.int .i64 a.x, .int .i64 a.y, .int .i64 b.x, .int .i64 b.y], .agg #[.int .i64 p.x, .int .i64 p.y]] w fun e w' => e = .returned (.bool (holdsN a b p)) ∧ Below w.heap.size w w' := by
  obtain ⟨R, hR⟩ : ∃ R, holdsN a b p = R := ⟨_, rfl⟩
  have HR := Lib.hid hR
  rw [hR]
  obtain ⟨W, hW, hB, hA, hP, hsz⟩ := segpt_made w 33 24 a b p
  have HW := Lib.hid hW
  have HB := Lib.hid hB
  have HA := Lib.hid hA
  have HP := Lib.hid hP
  have KC := Lib.hid (cross4_any a b p W ha hb hp)
  obtain ⟨a0, a1, b0, b1⟩ := hA
  obtain ⟨p0, p1⟩ := hP
  clear hR hW hB ha hb hp
  obtain ⟨C, hC⟩ : ∃ C, crs a b p = C := ⟨_, rfl⟩
  have HC := Lib.hid hC
  rw [hC] at KC
  clear hC
  go_enter Try.func52, Try.ntmps52
  go_wp2_with fail
  rw [HW.out]
  refine KC.out.mono ?_
  rintro e w1 ⟨rfl, hb1⟩
  have B1 := Lib.hid (HB.out.trans (hb1.mono HB.out.size))
  have hs0 : w.heap.size < W.heap.size := by omega
  have a0' := (hb1.cell (p := ⟨w.heap.size, 0, none⟩) hs0).trans a0
  have a1' := (hb1.cell (p := ⟨w.heap.size, 1, none⟩) hs0).trans a1
  have b0' := (hb1.cell (p := ⟨w.heap.size, 2, none⟩) hs0).trans b0
  have b1' := (hb1.cell (p := ⟨w.heap.size, 3, none⟩) hs0).trans b1
  have p0' := (hb1.cell (p := ⟨w.heap.size + 1, 0, none⟩) hsz).trans p0
  have p1' := (hb1.cell (p := ⟨w.heap.size + 1, 1, none⟩) hsz).trans p1
  clear hb1 a0 a1 b0 b1 p0 p1 hs0
  by_cases c0 : C = 0
  · have z0 : (C == 0) = true := by simp [c0]
    have HX := Lib.hid (show boxB a b p = R by
      rw [← HR.out]
      refine Bool.eq_iff_iff.2 ((box_bool a b p).trans (box_holds (HC.out.trans c0)).symm))
    clear c0
    go_wp2_with fail
    all_goals
      go_ret
      exact ⟨ret_bool (by rw [← HX.out]; unfold boxB; grind), B1.out⟩
  · have z0 : (C == 0) = false := by simp [c0]
    have HE := Lib.hid (show false = R by
      rw [← HR.out]
      cases h : holdsN a b p with
      | false => rfl
      | true => exact absurd (HC.out.symm.trans (holds_iff.1 h).1) c0)
    clear c0
    go_wp2
    go_ret
    exact ⟨ret_bool HE.out, B1.out⟩
end Go.Proofs.Ytlagolgmkmdhhaa.Rg
/- planisphereref04.where. -/
namespace Go.Proofs.Ytlagolgmkmdhhaa.Rg
open Go.RowKit Go.Sort Go.Shelf
open Go.Proofs.Ytlagolgmkmdhhaa.Geo hiding intOf Apart
/-- the count over the first k sides. -/
def pS (l : List Pt) (p : Pt) (k : Nat) : Int := ((upto l.length k).map fun j => Pl.cs (cor l j.val) (nxt l j.val) p).sum
theorem pS_succ (l : List Pt) (p : Pt) {k : Nat} (hk : k < l.length) : pS l p (k + 1) = pS l p k + Pl.cs (cor l k) (nxt l k) p := by
  unfold pS
  rw [upto_succ l.length k hk]
  simp
theorem pS_all (l : List Pt) (p : Pt) : pS l p l.length = Pl.wn l p := by
  unfold pS Pl.wn
  rw [upto_full, sds_fin, List.map_map]
  rfl
def inV (x : Int) : Int := if x % 2 = 0 then -1 else 1
open Classical in
/-- what where answers. -/
noncomputable def whN (l : List Pt) (p : Pt) : Int := if ∃ s ∈ Pl.sds l, holdsN s.1 s.2 p = true then 0 else inV (Pl.wn l p)
theorem wh_on {l : List Pt} {p : Pt} {k : Nat} (hk : k < l.length) (h : holdsN (cor l k) (nxt l k) p = true) : whN l p = 0 := by
  unfold whN; rw [if_pos ⟨_, sds_in hk, h⟩]
theorem wh_off {l : List Pt} {p : Pt} (h : ∀ k, k < l.length → holdsN (cor l k) (nxt l k) p = false) : whN l p = inV (pS l p l.length) := by
  unfold whN
  rw [if_neg, pS_all]
  rintro ⟨s, hs, e⟩
  obtain ⟨k, hk, rfl⟩ := sds_ex hs
  rw [h k hk] at e; cases e
theorem inV_flip {x c : Int} (h : c = 1 ∨ c = -1) : inV (x + c) = -inV x := by unfold inV; split <;> split <;> omega
theorem inV_keep (x : Int) : inV (x + 0) = inV x := by rw [Int.add_zero]
theorem inV_range (x : Int) : inV x = 1 ∨ inV x = -1 := by unfold inV; split <;> simp
theorem cor_mem' {l : List Pt} {k : Nat} (hk : k < l.length) : cor l k ∈ l := List.mem_of_getElem? (cor_get hk)
theorem nxt_mem' {l : List Pt} {k : Nat} (hk : k < l.length) : nxt l k ∈ l := by rw [nxt_cor hk]; exact cor_mem' (Nat.mod_lt _ (by omega))
set_option maxRecDepth 100000 in
set_option maxHeartbeats 8000000 in
theorem refwhere_any (a : Option Addr) (n cap : Nat) (l : List Pt) (p : Pt) (w : World) (hl : Pts w w.heap.size a l) (hn : n = l.length) (h20 : n ≤ 2000) (hb : ∀ q ∈ l, bigB q) (hp : bigB p) :
    Calls Try.prog 29 #[.slice a n cap, .agg #[.int .i64 p.x, .int .i64 p.y]] w fun e w' => e = .returned (.int .i64 (whN l p)) ∧ Below w.heap.size w w' := by
  obtain ⟨R, hR⟩ : ∃ R, whN l p = R := ⟨_, rfl⟩
  have HR := Lib.hid hR
  rw [hR]
  subst hn
  obtain ⟨W, hW⟩ : ∃ W, w.alloc (.cells #[.int .i64 p.x, .int .i64 p.y] 24) = W := ⟨_, rfl⟩
  have B0 := Lib.hid (show Below w.heap.size w W from hW ▸ alloc1 _ _)
  have R0 := Lib.hid (show IsRow W w.heap.size 24 #[.int .i64 p.x, .int .i64 p.y] from hW ▸ IsRow.made _ _ _)
  have HW := Lib.hid hW
  have L0 := Lib.hid (hl.later B0.out)
  have HBG := Lib.hid hb
  have HPB := Lib.hid hp
  clear hR hW hl hb hp
  go_enter Try.func29, Try.ntmps29
  go_wp2_with fail
  rw [HW.out]
  go_loopw [5, 6, 7, 8] (fun s i _ _ wr => ∃ k : Nat, k ≤ l.length ∧ i = .int .i64 k ∧ s = .int .i64 (inV (pS l p k)) ∧ Hid (∀ j, j < k → holdsN (cor l j) (nxt l j) p = false) ∧ Hid (Below W.heap.size W wr)) (fun _ i _ _ _ => l.length - (intOf i).toNat)
  case atStart => exact ⟨0, by omega, rfl, rfl, Lib.hid (fun j hj => by omega), Lib.hid (Below.refl _ _)⟩
  case round =>
    obtain ⟨k, hk, rfl, rfl, hoff, hb⟩ := hrel
    by_cases hkl : k < l.length
    · have HS := Lib.hid (pS_succ l p hkl)
      go_wp2_with fail
      refine (refside_any a _ cap k l wr (L0.out.later hb.out) rfl hkl h20).mono ?_
      rintro e w2 ⟨rfl, hb2⟩
      have hb3 := Lib.hid (hb.out.trans (hb2.mono hb.out.size))
      clear hb2 hb
      have nb1 := Lib.hid (HBG.out _ (cor_mem' hkl))
      have nb2 := Lib.hid (HBG.out _ (nxt_mem' hkl))
      have K1 := Lib.hid (fun wy => refon4_any (cor l k) (nxt l k) p wy nb1.out nb2.out HPB.out)
      have K2 := Lib.hid (fun wy => cross4_any (cor l k) (nxt l k) p wy nb1.out nb2.out HPB.out)
      obtain ⟨c, hc⟩ : ∃ c, cor l k = c := ⟨_, rfl⟩
      obtain ⟨d, hd⟩ : ∃ d, nxt l k = d := ⟨_, rfl⟩
      rw [hc, hd] at K1 K2 HS ⊢
      have HCD := Lib.hid (And.intro hc hd)
      clear hc hd nb1 nb2
      obtain ⟨w3, hw3⟩ : ∃ w3, w2.alloc (.cells #[.int .i64 c.x, .int .i64 c.y, .int .i64 d.x, .int .i64 d.y] 33) = w3 := ⟨_, rfl⟩
      have B3 := Lib.hid (hw3 ▸ hb3.out.alloc hb3.out.size (.cells #[.int .i64 c.x, .int .i64 c.y, .int .i64 d.x, .int .i64 d.y] 33))
      have S3 := Lib.hid (hw3 ▸ IsRow.made w2 33 #[.int .i64 c.x, .int .i64 c.y, .int .i64 d.x, .int .i64 d.y])
      have HW3 := Lib.hid hw3
      have P3 := Lib.hid (R0.out.below B3.out R0.out.inside)
      clear hw3 hb3
      go_upto_region 6 with fail
      rw [HW3.out]
      have s0 := S3.out.get 0
      have s1 := S3.out.get 1
      have s2 := S3.out.get 2
      have s3 := S3.out.get 3
      have p0 := P3.out.get 0
      have p1 := P3.out.get 1
      go_wp2_with fail
      refine (K1.out w3).mono ?_
      rintro e w4 ⟨rfl, b4⟩
      have B4 := Lib.hid (B3.out.trans (b4.mono B3.out.size))
      have S4 := Lib.hid (S3.out.below b4 S3.out.inside)
      have P4 := Lib.hid (P3.out.below b4 P3.out.inside)
      clear b4 B3 S3 P3 s0 s1 s2 s3 p0 p1 HW3
      cases hh : holdsN c d p with
      | true =>
        have HE := Lib.hid (show (0 : Int) = R by rw [← HR.out]; exact (wh_on hkl (by rw [HCD.out.1, HCD.out.2]; exact hh)).symm)
        clear hh
        go_wp2
        go_ret
        exact ⟨ret_int HE.out, B0.out.trans (B4.out.mono B0.out.size)⟩
      | false =>
        have hoff2 := Lib.hid (show ∀ j, j < k + 1 → holdsN (cor l j) (nxt l j) p = false from fun j hj => by
          by_cases e : j = k
          · subst e; rw [HCD.out.1, HCD.out.2]; exact hh
          · exact hoff.out j (by omega))
        have s0 := S4.out.get 0
        have s1 := S4.out.get 1
        have s2 := S4.out.get 2
        have s3 := S4.out.get 3
        have p0 := P4.out.get 0
        have p1 := P4.out.get 1
        obtain ⟨x, hx⟩ : ∃ x, inV (pS l p k) = x := ⟨_, rfl⟩
        have hxr := inV_range (pS l p k)
        rw [hx] at hxr
        obtain ⟨C, hC⟩ : ∃ C, crs c d p = C := ⟨_, rfl⟩
        rw [hC] at K2
        have hcs : Pl.cs c d p = Pl.xs (c.y - p.y) (d.y - p.y) C := by unfold Pl.cs; rw [hC]
        have HKEEP := Lib.hid (fun (h : Pl.xs (c.y - p.y) (d.y - p.y) C = 0) => (show x = inV (pS l p (k + 1)) by rw [HS.out, hcs, h, inV_keep, hx]))
        have HFLIP := Lib.hid (fun (h : Pl.xs (c.y - p.y) (d.y - p.y) C = 1 ∨ Pl.xs (c.y - p.y) (d.y - p.y) C = -1) => (show -x = inV (pS l p (k + 1)) by rw [HS.out, hcs, inV_flip h, hx]))
        have hxw : IntKind.i64.wrap (-x) = -x := IntWalk.i64_in _ (by omega)
        rw [hx]
        clear hx hC hcs hh hoff
        by_cases u : c.y ≤ p.y
        · by_cases v : d.y ≤ p.y
          · have z1 : decide (c.y ≤ p.y) = true := decide_eq_true u
            have z2 : decide (d.y ≤ p.y) = true := decide_eq_true v
            have z3 : (decide (c.y ≤ p.y) != decide (d.y ≤ p.y)) = false := by rw [z1, z2]; rfl
            have HK := Lib.hid (HKEEP.out (Pl.xs_lo (by omega) (by omega)))
            clear HKEEP HFLIP
            go_wp2
            go_roundw
            case rel => exact ⟨k + 1, by omega, by go_num, congrArg (Value.int .i64) HK.out, hoff2, B4⟩
            case measure => simp [intOf]; omega
          · have z1 : decide (c.y ≤ p.y) = true := decide_eq_true u
            have z2 : decide (d.y ≤ p.y) = false := decide_eq_false v
            have z3 : (decide (c.y ≤ p.y) != decide (d.y ≤ p.y)) = true := by rw [z1, z2]; rfl
            have v' : c.y < d.y := by omega
            have v2 : ¬ d.y < c.y := by omega
            go_wp2_with fail
            refine (K2.out w4).mono ?_
            rintro e w5 ⟨rfl, b5⟩
            have B5 := Lib.hid (B4.out.trans (b5.mono B4.out.size))
            have S5 := S4.out.below b5 S4.out.inside
            have s1 := S5.get 1
            have s3 := S5.get 3
            clear b5 B4 S4 S5
            by_cases hC0 : 0 < C
            · have HK := Lib.hid (HFLIP.out (.inl (by rw [Pl.xs_up (by omega) (by omega), if_pos hC0])))
              clear HKEEP HFLIP
              go_wp2
              go_roundw
              case rel => exact ⟨k + 1, by omega, by go_num, congrArg (Value.int .i64) HK.out, hoff2, B5⟩
              case measure => simp [intOf]; omega
            · have HK := Lib.hid (HKEEP.out (by rw [Pl.xs_up (by omega) (by omega), if_neg hC0]))
              clear HKEEP HFLIP
              go_wp2
              go_roundw
              case rel => exact ⟨k + 1, by omega, by go_num, congrArg (Value.int .i64) HK.out, hoff2, B5⟩
              case measure => simp [intOf]; omega
        · by_cases v : d.y ≤ p.y
          · have z1 : decide (c.y ≤ p.y) = false := decide_eq_false u
            have z2 : decide (d.y ≤ p.y) = true := decide_eq_true v
            have z3 : (decide (c.y ≤ p.y) != decide (d.y ≤ p.y)) = true := by rw [z1, z2]; rfl
            have v' : d.y < c.y := by omega
            have v2 : ¬ c.y < d.y := by omega
            go_wp2_with fail
            refine (K2.out w4).mono ?_
            rintro e w5 ⟨rfl, b5⟩
            have B5 := Lib.hid (B4.out.trans (b5.mono B4.out.size))
            have S5 := S4.out.below b5 S4.out.inside
            have s1 := S5.get 1
            have s3 := S5.get 3
            clear b5 B4 S4 S5
            by_cases hC0 : C < 0
            · have HK := Lib.hid (HFLIP.out (.inr (by rw [Pl.xs_dn (by omega) (by omega), if_pos hC0])))
              clear HKEEP HFLIP
              go_wp2
              go_roundw
              case rel => exact ⟨k + 1, by omega, by go_num, congrArg (Value.int .i64) HK.out, hoff2, B5⟩
              case measure => simp [intOf]; omega
            · have HK := Lib.hid (HKEEP.out (by rw [Pl.xs_dn (by omega) (by omega), if_neg hC0]))
              clear HKEEP HFLIP
              go_wp2
              go_roundw
              case rel => exact ⟨k + 1, by omega, by go_num, congrArg (Value.int .i64) HK.out, hoff2, B5⟩
              case measure => simp [intOf]; omega
          · have z1 : decide (c.y ≤ p.y) = false := decide_eq_false u
            have z2 : decide (d.y ≤ p.y) = false := decide_eq_false v
            have z3 : (decide (c.y ≤ p.y) != decide (d.y ≤ p.y)) = false := by rw [z1, z2]; rfl
            have HK := Lib.hid (HKEEP.out (Pl.xs_hi (by omega) (by omega)))
            clear HKEEP HFLIP
            go_wp2
            go_roundw
            case rel => exact ⟨k + 1, by omega, by go_num, congrArg (Value.int .i64) HK.out, hoff2, B4⟩
            case measure => simp [intOf]; omega
    · obtain rfl : k = l.length := by omega
      have HE := Lib.hid (show inV (pS l p l.length) = R by rw [← HR.out]; exact (wh_off hoff.out).symm)
      go_wp2_with fail
      go_ret
      exact ⟨ret_int HE.out, B0.out.trans (hb.out.mono B0.out.size)⟩
end Go.Proofs.Ytlagolgmkmdhhaa.Rg
/- planisphereref04.Side, doubled. -/
namespace Go.Proofs.Ytlagolgmkmdhhaa.Rg
open Go.RowKit Go.Sort Go.Shelf
open Go.Proofs.Ytlagolgmkmdhhaa.Geo hiding intOf Apart
theorem big_near {p : Pt} (h : nearB p = true) : bigB p := by rw [nearB_iff] at h; unfold bigB; omega
theorem wh_side {l : List Pt} (hs : simpleN l = true) {p : Pt} (np : nearB p = true) : whN l p = locN l p := by
  have hn := near_of hs
  by_cases g : ∃ s ∈ Pl.sds l, holdsN s.1 s.2 p = true
  · obtain ⟨s, hs', e⟩ := g
    obtain ⟨k, hk, rfl⟩ := sds_ex hs'
    rw [wh_on hk e]
    refine (loc_on hk ?_).symm
    unfold onK onN
    rw [near_cor hn hk, near_nxt hn hk (by omega), np]
    exact e.symm ▸ rfl
  · have hoff : ∀ s ∈ Pl.sds l, holdsN s.1 s.2 p = false := fun s hs => by rw [← Bool.not_eq_true]; exact fun e => g ⟨s, hs, e⟩
    rw [loc_wn hn np hoff]
    unfold whN
    rw [if_neg g]
    rfl
set_option maxRecDepth 100000 in
set_option maxHeartbeats 2000000 in
theorem refSide_any (a : Option Addr) (n cap : Nat) (l : List Pt) (p : Pt) (w : World) (hl : Pts w w.heap.size a l) (hn : n = l.length) (hm : n ≤ maxLen) :
    Calls Try.prog 12 #[.slice a n cap, .agg #[.int .i64 p.x, .int .i64 p.y]] w fun e w' => e = .returned (.int .i64 (sideQ l p)) ∧ Below w.heap.size w w' := by
  obtain ⟨R, hR⟩ : ∃ R, sideQ l p = R := ⟨_, rfl⟩
  have HR := Lib.hid hR
  rw [hR]
  obtain ⟨W, hW⟩ : ∃ W, w.alloc (.cells #[.int .i64 p.x, .int .i64 p.y] 24) = W := ⟨_, rfl⟩
  have B0 := Lib.hid (show Below w.heap.size w W from hW ▸ alloc1 _ _)
  have R0 := Lib.hid (show IsRow W w.heap.size 24 #[.int .i64 p.x, .int .i64 p.y] from hW ▸ IsRow.made _ _ _)
  have HW := Lib.hid hW
  have L0 := Lib.hid (hl.later B0.out)
  have HN := Lib.hid hn
  clear hR hW hl hn
  go_enter Try.func12, Try.ntmps12
  go_wp2_with fail
  rw [HW.out]
  refine (refsimple_any a n cap l W L0.out HN.out hm).mono ?_
  rintro e w1 ⟨rfl, b1⟩
  have B1 := Lib.hid (B0.out.trans (b1.mono B0.out.size))
  have R1 := Lib.hid (R0.out.below b1 R0.out.inside)
  have L1 := Lib.hid (L0.out.later b1)
  have p0 := R1.out.get 0
  have p1 := R1.out.get 1
  clear b1 B0 R0 L0 HW
  cases hs : simpleN l with
  | false =>
    have HE := Lib.hid (show (-1 : Int) = R by rw [← HR.out]; unfold sideQ; rw [hs]; rfl)
    clear hs
    go_wp2
    go_ret
    exact ⟨ret_int HE.out, B1.out⟩
  | true =>
    have HS := Lib.hid hs
    clear hs
    go_wp2_with fail
    refine (is_any p w1).mono ?_
    rintro e w2 ⟨rfl, b2⟩
    have B2 := Lib.hid (B1.out.trans (b2.mono B1.out.size))
    have R2 := Lib.hid (R1.out.below b2 R1.out.inside)
    have L2 := Lib.hid (L1.out.later b2)
    clear b2 B1 R1 L1 p0 p1
    have p0 := R2.out.get 0
    have p1 := R2.out.get 1
    cases np : nearB p with
    | false =>
      have HE := Lib.hid (show (-1 : Int) = R by rw [← HR.out]; unfold sideQ; rw [np, Bool.and_false]; rfl)
      clear np
      go_wp2
      go_ret
      exact ⟨ret_int HE.out, B2.out⟩
    | true =>
      have HE := Lib.hid (show whN l p = R by rw [← HR.out, wh_side HS.out np]; unfold sideQ; rw [HS.out, np]; rfl)
      have h20 := Lib.hid (show n ≤ 2000 by
        have h := HS.out
        unfold simpleN at h
        rw [Bool.and_eq_true] at h
        rw [HN.out]; exact (fits_parts h.1).2.1)
      have HB := Lib.hid (fun q (hq : q ∈ l) => big_near (List.all_eq_true.1 (near_of HS.out) q hq))
      have HP := Lib.hid (big_near np)
      clear np
      go_wp2_with fail
      refine (refwhere_any a n cap l p w2 L2.out HN.out h20.out HB.out HP.out).mono ?_
      rintro e w3 ⟨rfl, b3⟩
      have B3 := Lib.hid (B2.out.trans (b3.mono B2.out.size))
      clear b3 B2
      go_wp2
      go_ret
      exact ⟨ret_int HE.out, B3.out⟩
end Go.Proofs.Ytlagolgmkmdhhaa.Rg
/- planisphereref04.doubled. -/
namespace Go.Proofs.Ytlagolgmkmdhhaa.Rg
open Go.RowKit Go.Sort Go.Shelf
open Go.Proofs.Ytlagolgmkmdhhaa.Geo hiding intOf Apart
theorem dbl_len (l : List Pt) : (Pl.dbl l).length = l.length := List.length_map _
theorem dbl_next {l : List Pt} {k : Nat} (h : k < l.length) : (Pl.dbl l).take k ++ [⟨2 * (cor l k).x, 2 * (cor l k).y⟩] = (Pl.dbl l).take (k + 1) := by
  have e : (Pl.dbl l)[k]? = some ⟨2 * (cor l k).x, 2 * (cor l k).y⟩ := by unfold Pl.dbl; rw [List.getElem?_map, cor_get h]; rfl
  rw [List.take_add_one, e]; rfl
set_option maxRecDepth 100000 in
set_option maxHeartbeats 4000000 in
theorem doubled_any (a : Option Addr) (n cap : Nat) (l : List Pt) (w : World) (hl : Pts w w.heap.size a l) (hn : n = l.length) (h5 : n ≤ 1000) (hnr : l.all nearB = true) :
    Calls Try.prog 56 #[.slice a n cap] w fun e w' => (∃ v, e = .returned v ∧ OwnP w' w.heap.size v (Pl.dbl l)) ∧ Below w.heap.size w w' := by
  have HL := Lib.hid hl
  have HNR := Lib.hid hnr
  subst hn
  clear hl hnr
  go_enter Try.func56, Try.ntmps56
  go_wp2
  go_loopw [3, 4] (fun s i wr => ∃ k : Nat, k ≤ l.length ∧ i = .int .i64 k ∧ Hid (OwnP wr w.heap.size s ((Pl.dbl l).take k)) ∧ Hid (Below w.heap.size w wr)) (fun _ i _ => l.length - (intOf i).toNat)
  case atStart => exact ⟨0, by omega, rfl, Lib.hid (by rw [List.take_zero]; exact OwnP.nil _ _), Lib.hid (Below.refl _ _)⟩
  case round =>
    obtain ⟨k, hk, rfl, ho, hb⟩ := hrel
    by_cases hkl : k < l.length
    · have HT := Lib.hid (dbl_next hkl)
      have hlen : ((Pl.dbl l).take k).length ≤ 1000 := by rw [List.length_take]; omega
      obtain ⟨b, off, rfl, hbN, hc⟩ := HL.out (by omega)
      obtain ⟨x0, x1⟩ := hc k (cor l k) (cor_get hkl)
      have hbg := big_near (near_cor HNR.out hkl)
      have hnc := near_cor HNR.out hkl
      rw [nearB_iff] at hnc
      obtain ⟨c, hcc⟩ : ∃ c, cor l k = c := ⟨_, rfl⟩
      rw [hcc] at x0 x1 HT hnc
      have c0 : wr.cell? ⟨b, off + k * 2, none⟩ = some (.int .i64 c.x) := (hb.out.cell (p := ⟨b, off + k * 2, none⟩) hbN).trans x0
      have c1 : wr.cell? ⟨b, off + k * 2 + 1, none⟩ = some (.int .i64 c.y) := (hb.out.cell (p := ⟨b, off + k * 2 + 1, none⟩) hbN).trans x1
      have KA : ∀ o, (wr.drew.alloc o).cell? ⟨b, off + k * 2, none⟩ = some (.int .i64 c.x) ∧ (wr.drew.alloc o).cell? ⟨b, off + k * 2 + 1, none⟩ = some (.int .i64 c.y) := fun o => by
        have hb9 : Below w.heap.size wr (wr.drew.alloc o) := ((drew_below wr).mono hb.out.size).trans ((alloc1 _ _).mono hb.out.size)
        exact ⟨(hb9.cell (p := ⟨b, off + k * 2, none⟩) hbN).trans c0, (hb9.cell (p := ⟨b, off + k * 2 + 1, none⟩) hbN).trans c1⟩
      have e1 : IntKind.i64.wrap (2 * c.x) = 2 * c.x := IntWalk.i64_in _ (by omega)
      have e2 : IntKind.i64.wrap (2 * c.y) = 2 * c.y := IntWalk.i64_in _ (by omega)
      have i0 : (0 : Int) ≤ (k : Int) := by omega
      have i1 : (k : Int) < (l.length : Int) := by omega
      clear x0 x1 hc hcc hbg hnc
      go_upto_region 5 with fail
      go_region_held3 (fun w' => w'.cell? ⟨b, off + k * 2, none⟩ = some (.int .i64 c.x) ∧ w'.cell? ⟨b, off + k * 2 + 1, none⟩ = some (.int .i64 c.y)) (first | exact ⟨c0, c1⟩ | exact KS | exact KA _ | go_keep)
        (first | (refine step_appP (by rfl) _ _ (by rfl) w.heap.size u3 ((Pl.dbl l).take k) ⟨2 * c.x, 2 * c.y⟩ wr.drew.heap.size (by rfl) ((ho.out.below (drew_below wr)).below (alloc1 _ _)) (by rfl) (IsRow.made wr.drew _ _) hlen (by have := hb.out.size; simp; omega) ?_; intro v2 w2 ho2 hg2 hlt2; have KS : w2.cell? ⟨b, off + k * 2, none⟩ = some (.int .i64 c.x) ∧ w2.cell? ⟨b, off + k * 2 + 1, none⟩ = some (.int .i64 c.y) := (by
          have b9 : Below w.heap.size w (wr.drew.alloc (.cells #[.int .i64 (2 * c.x), .int .i64 (2 * c.y)] 24)) := hb.out.trans (((drew_below wr).mono hb.out.size).trans ((alloc1 _ _).mono hb.out.size))
          have b8 := b9.grown hg2 b9.size (fun r hr => (hlt2 r hr).1)
          have z0 := hb.out.cell (p := ⟨b, off + k * 2, none⟩) hbN
          have z1 := hb.out.cell (p := ⟨b, off + k * 2 + 1, none⟩) hbN
          exact ⟨(b8.cell (p := ⟨b, off + k * 2, none⟩) hbN).trans (z0.symm.trans c0), (b8.cell (p := ⟨b, off + k * 2 + 1, none⟩) hbN).trans (z1.symm.trans c1)⟩)))
      have hb4 := Lib.hid (((hb.out.trans (((drew_below wr).mono hb.out.size).trans ((alloc1 _ _).mono hb.out.size))).grown hg2 (Nat.le_trans hb.out.size (by simp)) (fun r hr => (hlt2 r hr).1)))
      rw [HT.out] at ho2
      have ho4 := Lib.hid ho2
      clear ho2 hg2 hlt2 ho hb KA KS c0 c1 e1 e2
      go_wp2
      go_roundw
      case rel => exact ⟨k + 1, by omega, by go_num, ho4, hb4⟩
      case measure => simp [intOf]; omega
    · obtain rfl : k = l.length := by omega
      have hr : (Pl.dbl l).take l.length = Pl.dbl l := by rw [← dbl_len l, List.take_length]
      rw [hr] at ho
      clear hr
      go_wp2
      go_ret
      exact ⟨⟨_, rfl, ho.out⟩, hb.out⟩
end Go.Proofs.Ytlagolgmkmdhhaa.Rg
/- planisphereref04.parts. -/
namespace Go.Proofs.Ytlagolgmkmdhhaa.Rg
open Go.RowKit Go.Sort Go.Shelf
open Go.Proofs.Ytlagolgmkmdhhaa.Geo hiding intOf Apart
/-- the middle of a side that is none of m's is not on m. -/
theorem mid_off {l m : List Pt} (h : Okk l m) {s : Pt × Pt} (hs : s ∈ Pl.sds l) (hn : ¬ (s ∈ Pl.sds m ∨ Pl.flip s ∈ Pl.sds m)) : ∀ x ∈ Pl.sds (Pl.dbl m), holdsN x.1 x.2 (Pl.ad s.1 s.2) = false := by
  intro x hx
  unfold Pl.dbl at hx
  rw [Pl.sds_map] at hx
  obtain ⟨y, hy, rfl⟩ := List.mem_map.1 hx
  obtain ⟨k, hk, rfl⟩ := sds_ex hs
  have hne := side_ne (smp_of h.sl) hk
  have hm := Pl.mid_ad hne.symm
  have h4 : ¬ meetsN (cor l k) (nxt l k) y.1 y.2 = 4 := fun e => hn (by
    rcases kind_sm e with ⟨e1, e2⟩ | ⟨e1, e2⟩
    · left; rw [e1, e2]; exact hy
    · right; show (nxt l k, cor l k) ∈ _; rw [e1, e2]; exact hy)
  have hkd : meetsN (Pl.scl 2 y.1) (Pl.scl 2 y.2) (Pl.scl 2 (cor l k)) (Pl.scl 2 (nxt l k)) = 0 ∨ meetsN (Pl.scl 2 y.1) (Pl.scl 2 y.2) (Pl.scl 2 (cor l k)) (Pl.scl 2 (nxt l k)) = 1 := by
    rw [Pl.meetsN_scl (by decide), meets_swap]
    rcases h.kind _ hs y hy with g | g | g
    · exact .inl g
    · exact .inr g
    · exact absurd g h4
  rw [← Bool.not_eq_true]
  intro hh
  have hK := meets_kind (Pl.scl 2 y.1) (Pl.scl 2 y.2) (Pl.scl 2 (cor l k)) (Pl.scl 2 (nxt l k))
  have hcom : Com (Pl.scl 2 y.1) (Pl.scl 2 y.2) (Pl.scl 2 (cor l k)) (Pl.scl 2 (nxt l k)) (Pl.ad (cor l k) (nxt l k)) := ⟨hh, hm.holds⟩
  rcases hkd with g | g
  · exact common_kind hcom g
  · rw [g] at hK
    rcases hK with ⟨_, e⟩ | ⟨_, ⟨_, e⟩ | ⟨q, hq, cq, _, ⟨_, hq2, _⟩ | ⟨_, e⟩⟩ | ⟨_, ⟨_, e⟩ | ⟨_, e⟩⟩⟩
    · omega
    · omega
    · have hq3 : Pl.ad (cor l k) (nxt l k) ≠ q := by
        rcases hq2 with rfl | rfl
        · exact hm.ne
        · exact hm.back.ne
      rcases meets_two hcom cq hq3 with e | e <;> omega
    · omega
    · omega
    · omega
theorem wh_mid {l m : List Pt} (h : Okk l m) {s : Pt × Pt} (hs : s ∈ Pl.sds l) (hn : ¬ (s ∈ Pl.sds m ∨ Pl.flip s ∈ Pl.sds m)) : whN (Pl.dbl m) (Pl.ad s.1 s.2) = stN m s := by
  unfold whN stN
  rw [if_neg hn, if_neg]
  · rfl
  · rintro ⟨x, hx, e⟩
    rw [mid_off h hs hn x hx] at e; cases e
/-- is side k of l a side of m, among the first j? -/
def smB (l m : List Pt) (k j : Nat) : Bool := (List.range j).any fun i => decide (meetsF (cor l k) (nxt l k) (cor m i) (nxt m i) = 4)
theorem sm_succ (l m : List Pt) (k j : Nat) : smB l m k (j + 1) = (smB l m k j || decide (meetsF (cor l k) (nxt l k) (cor m j) (nxt m j) = 4)) := by
  unfold smB; rw [List.range_succ, List.any_append]; simp
theorem sm_all {l m : List Pt} (h : Okk l m) {k : Nat} (hk : k < l.length) : smB l m k m.length = true ↔ ((cor l k, nxt l k) ∈ Pl.sds m ∨ Pl.flip (cor l k, nxt l k) ∈ Pl.sds m) := by
  unfold smB
  rw [List.any_eq_true]
  have hF : ∀ i, i < m.length → meetsF (cor l k) (nxt l k) (cor m i) (nxt m i) = meetsN (cor l k) (nxt l k) (cor m i) (nxt m i) := fun i hi => by
    unfold meetsF
    rw [near_cor (near_of h.sl) hk, near_nxt (near_of h.sl) hk (by omega), near_cor (near_of h.sm) hi, near_nxt (near_of h.sm) hi (by omega)]
    rfl
  constructor
  · rintro ⟨i, hi, e⟩
    have hi' := List.mem_range.1 hi
    rw [decide_eq_true_iff, hF i hi'] at e
    rcases kind_sm e with ⟨e1, e2⟩ | ⟨e1, e2⟩
    · left; rw [e1, e2]; exact sds_in hi'
    · right; show (nxt l k, cor l k) ∈ _; rw [e1, e2]; exact sds_in hi'
  · rintro (g | g)
    · obtain ⟨i, hi, e⟩ := sds_ex g
      refine ⟨i, List.mem_range.2 hi, ?_⟩
      have e1 : cor l k = cor m i := congrArg Prod.fst e
      have e2 : nxt l k = nxt m i := congrArg Prod.snd e
      rw [decide_eq_true_iff, hF i hi, ← e1, ← e2]
      exact meets_self _ _
    · obtain ⟨i, hi, e⟩ := sds_ex g
      refine ⟨i, List.mem_range.2 hi, ?_⟩
      have e1 : nxt l k = cor m i := congrArg Prod.fst e
      have e2 : cor l k = nxt m i := congrArg Prod.snd e
      rw [decide_eq_true_iff, hF i hi, ← e1, ← e2, meets_back2]
      exact meets_self _ _
/-- is one of the first k sides of l at c? -/
noncomputable def stB (l m : List Pt) (c : Int) (k : Nat) : Bool := (List.range k).any fun i => decide (stN m (cor l i, nxt l i) = c)
theorem st_succ (l m : List Pt) (c : Int) (k : Nat) : stB l m c (k + 1) = (stB l m c k || decide (stN m (cor l k, nxt l k) = c)) := by
  unfold stB; rw [List.range_succ, List.any_append]; simp
theorem st_all {l m : List Pt} (h : Okk l m) {c : Int} (h0 : c ≠ 0) : stB l m c l.length = plA l m c := by
  refine bool_eq ?_
  rw [h.places h0]
  unfold stB
  rw [List.any_eq_true]
  constructor
  · rintro ⟨i, hi, e⟩
    exact ⟨_, sds_in (List.mem_range.1 hi), of_decide_eq_true e⟩
  · rintro ⟨s, hs, e⟩
    obtain ⟨k, hk, rfl⟩ := sds_ex hs
    exact ⟨k, List.mem_range.2 hk, decide_eq_true e⟩
theorem quiet_of' {P : Program} {f : FuncId} {args : Array Value} {v : Value} {w : World} (h : ∀ w', Below w.heap.size w w' → Calls P f args w' fun e w'' => e = .returned v ∧ Below w'.heap.size w' w'') (d : Nat) (os : Array Obj) :
    Calls P f args (grow (redrawn w d) os) fun e w'' => e = .returned v ∧ ∃ p : Regrown, w'' = grow (redrawn w p.d) p.os := Calls.regrown_of (h _ (below_regrown w d os))
set_option maxRecDepth 100000 in
set_option maxHeartbeats 8000000 in
theorem parts_any (a1 a2 : Option Addr) (n1 c1 n2 c2 : Nat) (l m : List Pt) (w : World) (hl : Pts w w.heap.size a1 l) (hm : Pts w w.heap.size a2 m) (e1 : n1 = l.length) (e2 : n2 = m.length) (g1 : n1 ≤ 1000) (g2 : n2 ≤ 1000) (h : Okk l m) :
    Calls Try.prog 32 #[.slice a1 n1 c1, .slice a2 n2 c2] w fun e w' => e = .returned (.tuple #[.bool (plA l m 1), .bool (plA l m (-1))]) ∧ Below w.heap.size w w' := by
  obtain ⟨I, hI⟩ : ∃ I, plA l m 1 = I := ⟨_, rfl⟩
  obtain ⟨O, hO⟩ : ∃ O, plA l m (-1) = O := ⟨_, rfl⟩
  rw [hI, hO]
  have HI := Lib.hid ((st_all h (c := 1) (by decide)).trans hI)
  have HO := Lib.hid ((st_all h (c := -1) (by decide)).trans hO)
  have HK := Lib.hid h
  have HNL := Lib.hid (near_of h.sl)
  have HNM := Lib.hid (near_of h.sm)
  have L0 := Lib.hid hl
  have M0 := Lib.hid hm
  subst e1 e2
  clear hI hO hl hm h
  go_enter Try.func32, Try.ntmps32
  go_wp2_with fail
  refine (doubled_any a2 _ c2 m w M0.out rfl g2 HNM.out).mono ?_
  rintro e w1 ⟨⟨v, rfl, ho⟩, b1⟩
  obtain ⟨a3, c3, rfl, _, _, hp3⟩ := OwnP.ptsC ho
  have B1 := Lib.hid b1
  have L1 := Lib.hid (L0.out.later b1)
  have M1 := Lib.hid (M0.out.later b1)
  have D1 := Lib.hid hp3
  have HD := Lib.hid (dbl_len m)
  rw [HD.out]
  clear b1 ho hp3 L0 M0
  go_wp2_with fail
  go_loopw [7, 8, 9, 10, 11, 12] (fun i o k _ _ _ wr => ∃ j : Nat, j ≤ l.length ∧ k = .int .i64 j ∧ i = .bool (stB l m 1 j) ∧ o = .bool (stB l m (-1) j) ∧ Hid (Below w1.heap.size w1 wr)) (fun _ _ k _ _ _ _ => l.length - (intOf k).toNat)
  case atStart => exact ⟨0, by omega, rfl, rfl, rfl, Lib.hid (Below.refl _ _)⟩
  case round =>
    obtain ⟨k, hk, rfl, rfl, rfl, hb⟩ := hrel
    by_cases hkl : k < l.length
    · go_wp2_with fail
      refine (refside_any a1 _ c1 k l wr (L1.out.later hb.out) rfl hkl (by omega)).mono ?_
      rintro e w2 ⟨rfl, hb2⟩
      have hb3 := Lib.hid (hb.out.trans (hb2.mono hb.out.size))
      clear hb2 hb
      obtain ⟨c, hc⟩ : ∃ c, cor l k = c := ⟨_, rfl⟩
      obtain ⟨d, hd⟩ : ∃ d, nxt l k = d := ⟨_, rfl⟩
      have HCD := Lib.hid (And.intro hc hd)
      rw [hc, hd]
      clear hc hd
      obtain ⟨w3, hw3⟩ : ∃ w3, w2.alloc (.cells #[.int .i64 c.x, .int .i64 c.y, .int .i64 d.x, .int .i64 d.y] 33) = w3 := ⟨_, rfl⟩
      have B3 := Lib.hid (hw3 ▸ hb3.out.alloc hb3.out.size (.cells #[.int .i64 c.x, .int .i64 c.y, .int .i64 d.x, .int .i64 d.y] 33))
      have S3 := Lib.hid (hw3 ▸ IsRow.made w2 33 #[.int .i64 c.x, .int .i64 c.y, .int .i64 d.x, .int .i64 d.y])
      have HW3 := Lib.hid hw3
      clear hw3 hb3
      go_upto_region 9 with fail
      rw [HW3.out]
      obtain ⟨g, hg⟩ : ∃ g, w2.heap.size = g := ⟨_, rfl⟩
      rw [hg] at S3 ⊢
      clear HW3 hg
      go_wp2_with fail
      go_loopw [11, 12] (fun s i wx => ∃ j : Nat, j ≤ m.length ∧ i = .int .i64 j ∧ s = .bool (smB l m k j) ∧ Hid (Below w3.heap.size w3 wx)) (fun _ i _ => m.length - (intOf i).toNat)
      case atStart => exact ⟨0, by omega, rfl, rfl, Lib.hid (Below.refl _ _)⟩
      case round =>
        obtain ⟨j, hj, rfl, rfl, hx⟩ := hrel
        by_cases hjm : j < m.length
        · have HS := Lib.hid (sm_succ l m k j)
          have SX := Lib.hid (S3.out.below hx.out S3.out.inside)
          have i1 : (j : Int) < (m.length : Int) := by omega
          cases hsm : smB l m k j with
          | true =>
            rw [hsm] at HS
            have HE := Lib.hid (show true = smB l m k (j + 1) by rw [HS.out]; rfl)
            clear hsm HS
            go_wp2_with fail
            refine wp_region_quiet_below (by kernel_rfl) (by kernel_rfl) ?_
            repeat (go_big_quiet_step (fail))
            refine wpQuiet_nil ?_
            intro _ hw'
            obtain ⟨⟨dq, osq⟩, hw''⟩ := hw'
            subst hw''
            have hx2 := Lib.hid (hx.out.trans ((below_regrown wr dq osq).mono hx.out.size))
            clear SX hx
            go_wp2
            go_roundw
            case rel => exact ⟨j + 1, by omega, by go_num, congrArg Value.bool HE.out, hx2⟩
            case measure => simp [intOf]; omega
          | false =>
            rw [hsm] at HS
            clear hsm
            obtain ⟨p, hp⟩ : ∃ p, cor m j = p := ⟨_, rfl⟩
            obtain ⟨q, hq⟩ : ∃ q, nxt m j = q := ⟨_, rfl⟩
            obtain ⟨mt, hmt⟩ : ∃ v, meetsF (cor l k) (nxt l k) p q = v := ⟨_, rfl⟩
            have HE := Lib.hid (show decide (mt = 4) = smB l m k (j + 1) by rw [HS.out, hp, hq, hmt]; simp)
            have q1 := quiet_of' (w := wr) (fun w' hb => (refside_any a2 _ c2 j m w' ((M1.out.later (B3.out.trans (hx.out.mono B3.out.size))).later hb) rfl hjm (by omega)))
            rw [hp, hq] at q1
            have q2 := ((refmeets_any c d p q).to (congrArg (Value.int .i64) (show meetsF c d p q = mt by rw [← HCD.out.1, ← HCD.out.2]; exact hmt))).quiet wr
            clear HS hp hq hmt
            have x0 := cell_regrown (SX.out.get 0)
            have x1 := cell_regrown (SX.out.get 1)
            have x2 := cell_regrown (SX.out.get 2)
            have x3 := cell_regrown (SX.out.get 3)
            go_wp2_with fail
            refine wp_region_quiet_below (by kernel_rfl) (by kernel_rfl) ?_
            repeat (go_big_quiet_step (first | with_reducible exact q1 _ _ | with_reducible exact q2 _ _))
            refine wpQuiet_nil ?_
            intro _ hw'
            obtain ⟨⟨dq, osq⟩, hw''⟩ := hw'
            subst hw''
            have hx2 := Lib.hid (hx.out.trans ((below_regrown wr dq osq).mono hx.out.size))
            clear SX hx q1 q2 x0 x1 x2 x3
            go_wp2
            go_roundw
            case rel => exact ⟨j + 1, by omega, by go_num, congrArg Value.bool (by first | exact HE.out | (rw [← HE.out]; rfl)), hx2⟩
            case measure => simp [intOf]; omega
        · obtain rfl : j = m.length := by omega
          have SX := Lib.hid (S3.out.below hx.out S3.out.inside)
          have B4 := Lib.hid (B3.out.trans (hx.out.mono B3.out.size))
          clear hx
          cases hsm : smB l m k m.length with
          | true =>
            have HZ : stN m (cor l k, nxt l k) = 0 := st_zero.2 ((sm_all HK.out hkl).1 hsm)
            have HI2 := Lib.hid (show stB l m 1 k = stB l m 1 (k + 1) by rw [st_succ, HZ]; simp)
            have HO2 := Lib.hid (show stB l m (-1) k = stB l m (-1) (k + 1) by rw [st_succ, HZ]; simp)
            clear hsm HZ
            go_wp2
            go_roundw
            case rel => exact ⟨k + 1, by omega, by go_num, congrArg Value.bool HI2.out, congrArg Value.bool HO2.out, B4⟩
            case measure => simp [intOf]; omega
          | false =>
            have hno : ¬ ((cor l k, nxt l k) ∈ Pl.sds m ∨ Pl.flip (cor l k, nxt l k) ∈ Pl.sds m) := fun h => by
              rw [(sm_all HK.out hkl).2 h] at hsm; cases hsm
            have hwh := wh_mid HK.out (sds_in hkl) hno
            obtain ⟨z, hz⟩ : ∃ z, stN m (cor l k, nxt l k) = z := ⟨_, rfl⟩
            have h3 := st_three m (cor l k, nxt l k)
            have h30 : ¬ stN m (cor l k, nxt l k) = 0 := fun e => hno (st_zero.1 e)
            have HI2 := Lib.hid (show (stB l m 1 k || decide (z = 1)) = stB l m 1 (k + 1) by rw [st_succ, hz])
            have HO2 := Lib.hid (show (stB l m (-1) k || decide (z = -1)) = stB l m (-1) (k + 1) by rw [st_succ, hz])
            have n1 := near_cor HNL.out hkl
            have n2 := near_nxt HNL.out hkl (by omega)
            have hwh2 : whN (Pl.dbl m) ⟨c.x + d.x, c.y + d.y⟩ = z := by
              rw [← HCD.out.1, ← HCD.out.2, ← hz]; exact hwh
            rw [HCD.out.1, nearB_iff] at n1
            rw [HCD.out.2, nearB_iff] at n2
            have HBG := Lib.hid (show ∀ q ∈ Pl.dbl m, bigB q from fun q hq => by
              unfold Pl.dbl at hq
              obtain ⟨r, hr, rfl⟩ := List.mem_map.1 hq
              have := List.all_eq_true.1 HNM.out r hr
              rw [nearB_iff] at this
              unfold bigB Pl.scl
              dsimp only
              omega)
            have HBP := Lib.hid (show bigB ⟨c.x + d.x, c.y + d.y⟩ by unfold bigB; dsimp only; omega)
            have w1' : wrap64 (c.x + d.x) = c.x + d.x := by unfold wrap64; omega
            have w2' : wrap64 (c.y + d.y) = c.y + d.y := by unfold wrap64; omega
            have x0 := SX.out.get 0
            have x1 := SX.out.get 1
            have x2 := SX.out.get 2
            have x3 := SX.out.get 3
            rw [hz] at h3 h30
            have D4 := Lib.hid (D1.out.later B4.out)
            clear hsm hno hwh hz n1 n2
            go_wp2_with fail
            have hK := refwhere_any a3 m.length c3 (Pl.dbl m) ⟨c.x + d.x, c.y + d.y⟩ wr D4.out HD.out.symm (by omega) HBG.out HBP.out
            rw [hwh2] at hK
            refine hK.mono ?_
            rintro e w4 ⟨rfl, b4⟩
            have B5 := Lib.hid (B4.out.trans (b4.mono B4.out.size))
            clear b4 hK hwh2 HBG HBP D4 B4 SX x0 x1 x2 x3
            rcases h3 with rfl | rfl | rfl
            · exact absurd rfl h30
            · have HI3 := Lib.hid (show true = stB l m 1 (k + 1) by rw [← HI2.out]; simp)
              have HO3 := Lib.hid (show stB l m (-1) k = stB l m (-1) (k + 1) by rw [← HO2.out]; simp)
              clear HI2 HO2
              go_wp2
              go_roundw
              case rel => exact ⟨k + 1, by omega, by go_num, congrArg Value.bool HI3.out, congrArg Value.bool HO3.out, B5⟩
              case measure => simp [intOf]; omega
            · have HI3 := Lib.hid (show stB l m 1 k = stB l m 1 (k + 1) by rw [← HI2.out]; simp)
              have HO3 := Lib.hid (show true = stB l m (-1) (k + 1) by rw [← HO2.out]; simp)
              clear HI2 HO2
              go_wp2
              go_roundw
              case rel => exact ⟨k + 1, by omega, by go_num, congrArg Value.bool HI3.out, congrArg Value.bool HO3.out, B5⟩
              case measure => simp [intOf]; omega
    · obtain rfl : k = l.length := by omega
      rw [HI.out, HO.out]
      go_wp2
      go_ret2
      exact ⟨rfl, B1.out.trans (hb.out.mono B1.out.size)⟩
end Go.Proofs.Ytlagolgmkmdhhaa.Rg
/- planisphereref04.Relation. -/
namespace Go.Proofs.Ytlagolgmkmdhhaa.Rg
open Go.RowKit Go.Sort Go.Shelf
open Go.Proofs.Ytlagolgmkmdhhaa.Geo hiding intOf Apart
def okX (l m : List Pt) (i j : Nat) : Prop := meetsF (cor l i) (nxt l i) (cor m j) (nxt m j) = 0 ∨ meetsF (cor l i) (nxt l i) (cor m j) (nxt m j) = 1 ∨ meetsF (cor l i) (nxt l i) (cor m j) (nxt m j) = 4
theorem meetsF_range (a b c d : Pt) : 0 ≤ meetsF a b c d ∧ meetsF a b c d ≤ 5 := by
  have := meets_range a b c d
  unfold meetsF
  split <;> omega
open Classical in
theorem cross_not {l m : List Pt} {i j : Nat} (hi : i < l.length) (hj : j < m.length) (h : ¬ okX l m i j) : crossB l m = true := by
  unfold okX at h
  have hr := meetsF_range (cor l i) (nxt l i) (cor m j) (nxt m j)
  have : meetsF (cor l i) (nxt l i) (cor m j) (nxt m j) = 2 ∨ meetsF (cor l i) (nxt l i) (cor m j) (nxt m j) = 3 ∨ meetsF (cor l i) (nxt l i) (cor m j) (nxt m j) = 5 := by omega
  have hM : MetP l m 2 ∨ MetP l m 3 ∨ MetP l m 5 := by
    rcases this with e | e | e
    · exact .inl ⟨i, j, hi, hj, e⟩
    · exact .inr (.inl ⟨i, j, hi, hj, e⟩)
    · exact .inr (.inr ⟨i, j, hi, hj, e⟩)
  unfold crossB
  exact decide_eq_true hM
open Classical in
theorem cross_all {l m : List Pt} (h : ∀ i, i < l.length → ∀ j, j < m.length → okX l m i j) : crossB l m = false := by
  unfold crossB
  refine decide_eq_false ?_
  unfold okX at h
  rintro (⟨i, j, hi, hj, e⟩ | ⟨i, j, hi, hj, e⟩ | ⟨i, j, hi, hj, e⟩) <;> (have := h i hi j hj; omega)
theorem fits_len {l : List Pt} (h : simpleN l = true) : l.length ≤ 2000 := by
  unfold simpleN at h
  rw [Bool.and_eq_true] at h
  exact (fits_parts h.1).2.1
set_option maxRecDepth 100000 in
set_option maxHeartbeats 8000000 in
theorem refrel_any (a1 a2 : Option Addr) (n1 c1 n2 c2 : Nat) (l m : List Pt) (w : World) (hl : Pts w w.heap.size a1 l) (hm : Pts w w.heap.size a2 m) (e1 : n1 = l.length) (e2 : n2 = m.length) (g1 : n1 ≤ 1000) (g2 : n2 ≤ 1000) :
    Calls Try.prog 14 #[.slice a1 n1 c1, .slice a2 n2 c2] w fun e w' => e = .returned (.int .i64 (relN l m)) ∧ Below w.heap.size w w' := by
  obtain ⟨R, hR⟩ : ∃ R, relN l m = R := ⟨_, rfl⟩
  have HR := Lib.hid hR
  rw [hR]
  have L0 := Lib.hid hl
  have M0 := Lib.hid hm
  subst e1 e2
  clear hl hm hR
  have S1 := Lib.hid (refsimple_any a1 l.length c1 l w L0.out rfl (by unfold maxLen; omega))
  go_enter Try.func14, Try.ntmps14
  go_wp2_with fail
  refine S1.out.mono ?_
  rintro e w1 ⟨rfl, b1⟩
  have B1 := Lib.hid b1
  have L1 := Lib.hid (L0.out.later b1)
  have M1 := Lib.hid (M0.out.later b1)
  clear b1 L0 M0 S1
  cases hs : simpleN l with
  | false =>
    have HE := Lib.hid (show (0 : Int) = R by rw [← HR.out]; unfold relN; rw [hs]; rfl)
    clear hs
    go_wp2
    go_ret
    exact ⟨ret_int HE.out, B1.out⟩
  | true =>
    have HS := Lib.hid hs
    clear hs
    have S2 := Lib.hid (refsimple_any a2 m.length c2 m w1 M1.out rfl (by unfold maxLen; omega))
    go_wp2_with fail
    refine S2.out.mono ?_
    rintro e w2 ⟨rfl, b2⟩
    have B2 := Lib.hid (B1.out.trans (b2.mono B1.out.size))
    have L2 := Lib.hid (L1.out.later b2)
    have M2 := Lib.hid (M1.out.later b2)
    clear b2 B1 L1 M1 S2
    cases hs : simpleN m with
    | false =>
      have HE := Lib.hid (show (0 : Int) = R by rw [← HR.out]; unfold relN; rw [hs, Bool.and_false]; rfl)
      clear hs
      go_wp2
      go_ret
      exact ⟨ret_int HE.out, B2.out⟩
    | true =>
      have HS2 := Lib.hid hs
      clear hs
      go_wp2_with fail
      go_loopw [5, 6, 7] (fun i _ _ wr => ∃ k : Nat, k ≤ l.length ∧ i = .int .i64 k ∧ Hid (∀ i, i < k → ∀ j, j < m.length → okX l m i j) ∧ Hid (Below w2.heap.size w2 wr)) (fun i _ _ _ => l.length - (intOf i).toNat)
      case atStart => exact ⟨0, by omega, rfl, Lib.hid (fun i hi => by omega), Lib.hid (Below.refl _ _)⟩
      case round =>
        obtain ⟨i, hi, rfl, hok, hb⟩ := hrel
        by_cases hil : i < l.length
        · go_wp2_with fail
          obtain ⟨wo, rfl⟩ : ∃ wo : World, wo = wr := ⟨_, rfl⟩
          go_loopw [6, 7] (fun j _ wr => ∃ k : Nat, k ≤ m.length ∧ j = .int .i64 k ∧ Hid (∀ j, j < k → okX l m i j) ∧ Hid (Below w2.heap.size w2 wr)) (fun j _ _ => m.length - (intOf j).toNat)
          case atStart => exact ⟨0, by omega, rfl, Lib.hid (fun j hj => by omega), hb⟩
          case round =>
            obtain ⟨k, hk, rfl, hok2, hb2⟩ := hrel
            by_cases hkm : k < m.length
            · obtain ⟨mt, hmt⟩ : ∃ v, meetsF (cor l i) (nxt l i) (cor m k) (nxt m k) = v := ⟨_, rfl⟩
              have HM := Lib.hid hmt
              have hcase : mt = 0 ∨ mt = 1 ∨ mt = 4 ∨ ((mt != 0) = true ∧ (mt != 1) = true ∧ (mt != 4) = true) := by
                by_cases g0 : mt = 0
                · exact .inl g0
                · by_cases g1 : mt = 1
                  · exact .inr (.inl g1)
                  · by_cases g4 : mt = 4
                    · exact .inr (.inr (.inl g4))
                    · exact .inr (.inr (.inr ⟨by simp [g0], by simp [g1], by simp [g4]⟩))
              clear hmt
              go_wp2_with fail
              refine (refside_any a1 _ c1 i l wr (L2.out.later hb2.out) rfl hil (by omega)).mono ?_
              rintro e w3 ⟨rfl, b3⟩
              have hb3 := Lib.hid (hb2.out.trans (b3.mono hb2.out.size))
              clear b3 hb2
              go_wp2_with fail
              refine (refside_any a2 _ c2 k m w3 (M2.out.later hb3.out) rfl hkm (by omega)).mono ?_
              rintro e w4 ⟨rfl, b4⟩
              have hb4 := Lib.hid (hb3.out.trans (b4.mono hb3.out.size))
              clear b4 hb3
              go_wp2_with fail
              refine ((refmeets_any (cor l i) (nxt l i) (cor m k) (nxt m k)).to (congrArg (Value.int .i64) HM.out) _).mono ?_
              rintro e w5 ⟨rfl, b5⟩
              have hb5 := Lib.hid (hb4.out.trans (b5.mono hb4.out.size))
              clear b5 hb4
              rcases hcase with rfl | rfl | rfl | ⟨z0, z1, z4⟩
              · have hok3 := Lib.hid (show ∀ j, j < k + 1 → okX l m i j from fun j hj => by
                  by_cases e : j = k
                  · subst e; exact .inl HM.out
                  · exact hok2.out j (by omega))
                clear hok2 HM
                go_wp2
                go_roundw
                case rel => exact ⟨k + 1, by omega, by go_num, hok3, hb5⟩
                case measure => simp [intOf]; omega
              · have hok3 := Lib.hid (show ∀ j, j < k + 1 → okX l m i j from fun j hj => by
                  by_cases e : j = k
                  · subst e; exact .inr (.inl HM.out)
                  · exact hok2.out j (by omega))
                clear hok2 HM
                go_wp2
                go_roundw
                case rel => exact ⟨k + 1, by omega, by go_num, hok3, hb5⟩
                case measure => simp [intOf]; omega
              · have hok3 := Lib.hid (show ∀ j, j < k + 1 → okX l m i j from fun j hj => by
                  by_cases e : j = k
                  · subst e; exact .inr (.inr HM.out)
                  · exact hok2.out j (by omega))
                clear hok2 HM
                go_wp2
                go_roundw
                case rel => exact ⟨k + 1, by omega, by go_num, hok3, hb5⟩
                case measure => simp [intOf]; omega
              · have HE := Lib.hid (show (0 : Int) = R by
                  have hc := cross_not hil hkm (fun h => by
                    unfold okX at h
                    rw [HM.out] at h
                    rcases h with h | h | h
                    · rw [h] at z0; simp at z0
                    · rw [h] at z1; simp at z1
                    · rw [h] at z4; simp at z4)
                  rw [← HR.out]; unfold relN; rw [HS.out, HS2.out, hc]; rfl)
                clear hok2 HM
                go_wp2
                go_ret
                exact ⟨ret_int HE.out, B2.out.trans (hb5.out.mono B2.out.size)⟩
            · obtain rfl : k = m.length := by omega
              have hok3 := Lib.hid (show ∀ i', i' < i + 1 → ∀ j, j < m.length → okX l m i' j from fun i' hi' j hj => by
                by_cases e : i' = i
                · subst e; exact hok2.out j hj
                · exact hok.out i' (by omega) j hj)
              clear hok hok2
              go_wp2
              go_roundw
              case rel => exact ⟨i + 1, by omega, by go_num, hok3, hb2⟩
              case measure => simp [intOf]; omega
        · obtain rfl : i = l.length := by omega
          have hc := cross_all hok.out
          have hkk := okk_of HS.out HS2.out hc
          have HC := Lib.hid (rel_okk hkk hc)
          rw [HR.out] at HC
          have P1 := Lib.hid (parts_any a1 a2 _ c1 _ c2 l m wr (L2.out.later hb.out) (M2.out.later hb.out) rfl rfl g1 g2 hkk)
          have HB := Lib.hid (B2.out.trans (hb.out.mono B2.out.size))
          have LB := Lib.hid (L2.out.later hb.out)
          have MB := Lib.hid (M2.out.later hb.out)
          have HK := Lib.hid hkk
          clear hok hc hkk hb
          go_wp2_with fail
          refine P1.out.mono ?_
          rintro e w3 ⟨rfl, b3⟩
          have B3 := Lib.hid (HB.out.trans (b3.mono HB.out.size))
          have P2 := Lib.hid (parts_any a2 a1 _ c2 _ c1 m l w3 (MB.out.later b3) (LB.out.later b3) rfl rfl g2 g1 HK.out.swap)
          clear b3 P1 HB LB MB HK
          go_wp2_with fail
          refine P2.out.mono ?_
          rintro e w4 ⟨rfl, b4⟩
          have B4 := Lib.hid (B3.out.trans (b4.mono B3.out.size))
          clear b4 P2 B3
          rcases HC.out with ⟨x1, x2, x3, x4, x5⟩ | ⟨x1, x2, x3, x4, x5⟩ | ⟨x1, x2, x3, x4, x5⟩ | ⟨x1, x2, x3, x4, x5⟩ | ⟨x1, x2, x3, x4, x5⟩ <;> clear HC <;> rw [x1, x2, x3, x4] <;> (have HE := Lib.hid x5.symm) <;> clear x1 x2 x3 x4 x5
          all_goals
            go_wp2
            go_ret
            exact ⟨ret_int HE.out, B4.out⟩
end Go.Proofs.Ytlagolgmkmdhhaa.Rg
/- P4.1, RingMatchesReference: its walk. -/
namespace Go.Proofs.Ytlagolgmkmdhhaa.Rg
open Go.RowKit Go.Sort Go.Shelf
open Go.Proofs.Ytlagolgmkmdhhaa.Geo hiding intOf Apart
set_option maxRecDepth 100000 in
set_option maxHeartbeats 16000000 in
theorem matches_any (a1 a2 : Option Addr) (n1 c1 n2 c2 : Nat) (l m : List Pt) (p : Pt) (w : World) (hl : Pts w w.heap.size a1 l) (hm : Pts w w.heap.size a2 m) (e1 : n1 = l.length) (e2 : n2 = m.length) (hc1 : n1 ≤ c1) (hc2 : n2 ≤ c2)
    (hx1 : c1 ≤ maxLen) (hx2 : c2 ≤ maxLen) :
    Calls Try.prog 3 #[.slice a1 n1 c1, .slice a2 n2 c2, .agg #[.int .i64 p.x, .int .i64 p.y]] w fun e w' => e = .returned (.bool true) ∧ Below w.heap.size w w' := by
  obtain ⟨W, hW⟩ : ∃ W, w.alloc (.cells #[.int .i64 p.x, .int .i64 p.y] 24) = W := ⟨_, rfl⟩
  have B0 := Lib.hid (show Below w.heap.size w W from hW ▸ alloc1 _ _)
  have R0 := Lib.hid (show IsRow W w.heap.size 24 #[.int .i64 p.x, .int .i64 p.y] from hW ▸ IsRow.made _ _ _)
  have HW := Lib.hid hW
  have L0 := Lib.hid hl
  have M0 := Lib.hid hm
  have E1 := Lib.hid e1
  have E2 := Lib.hid e2
  have X1 := Lib.hid hx1
  have X2 := Lib.hid hx2
  clear hW hl hm e1 e2 hx1 hx2
  go_enter Try.func3, Try.ntmps3
  go_wp2_with fail
  rw [HW.out]
  refine (head_any W).mono ?_
  rintro e w0 ⟨rfl, hb0⟩
  have B1 := Lib.hid (B0.out.trans (hb0.mono B0.out.size))
  have R1 := Lib.hid (R0.out.below hb0 R0.out.inside)
  have L1 := Lib.hid (L0.out.later B1.out)
  have M1 := Lib.hid (M0.out.later B1.out)
  clear hb0 B0 R0 HW L0 M0
  by_cases hg1 : n1 ≤ 40
  · by_cases hg2 : n2 ≤ 40
    · have i1 : ¬ (40 : Int) < (n1 : Int) := by omega
      have i2 : ¬ (40 : Int) < (n2 : Int) := by omega
      have N1 := Lib.hid (show n1 ≤ 1000 by omega)
      have N2 := Lib.hid (show n2 ≤ 1000 by omega)
      have ML := Lib.hid (show n1 ≤ maxLen by unfold maxLen; omega)
      clear hg1 hg2
      obtain ⟨tv, htv⟩ : ∃ v, twiceN l = v := ⟨_, rfl⟩
      obtain ⟨sv, hsv⟩ : ∃ v, simpleN l = v := ⟨_, rfl⟩
      obtain ⟨pv, hpv⟩ : ∃ v, sideQ l p = v := ⟨_, rfl⟩
      obtain ⟨rv, hrv⟩ : ∃ v, relN l m = v := ⟨_, rfl⟩
      have q1 := quiet_of' (w := w0) (fun w' hb => tw_is a1 n1 c1 l w' htv (L1.out.later hb) E1.out hc1 X1.out)
      have q2 := quiet_of' (w := w0) (fun w' hb => reftwice_any a1 n1 c1 l w' (L1.out.later hb) E1.out ML.out)
      have q3 := quiet_of' (w := w0) (fun w' hb => sm_is a1 n1 c1 l w' hsv (L1.out.later hb) E1.out hc1 X1.out)
      have q4 := quiet_of' (w := w0) (fun w' hb => refsimple_any a1 n1 c1 l w' (L1.out.later hb) E1.out ML.out)
      have q5 := quiet_of' (w := w0) (fun w' hb => sd_is a1 n1 c1 l p w' hpv (L1.out.later hb) E1.out hc1 X1.out)
      have q6 := quiet_of' (w := w0) (fun w' hb => refSide_any a1 n1 c1 l p w' (L1.out.later hb) E1.out ML.out)
      have q7 := quiet_of' (w := w0) (fun w' hb => rl_is a1 a2 n1 c1 n2 c2 l m w' hrv (L1.out.later hb) (M1.out.later hb) E1.out E2.out hc1 hc2 X1.out X2.out)
      have q8 := quiet_of' (w := w0) (fun w' hb => refrel_any a1 a2 n1 c1 n2 c2 l m w' (L1.out.later hb) (M1.out.later hb) E1.out E2.out N1.out N2.out)
      rw [htv] at q2
      rw [hsv] at q4
      rw [hpv] at q6
      rw [hrv] at q8
      have x0 := cell_regrown (R1.out.get 0)
      have x1 := cell_regrown (R1.out.get 1)
      have bt : (tv == tv) = true := by simp
      have bs : (sv == sv) = true := by simp
      have bp : (pv == pv) = true := by simp
      have br : (rv == rv) = true := by simp
      clear htv hsv hpv hrv
      go_wp2_with fail
      refine wp_region_quiet_below (by kernel_rfl) (by kernel_rfl) ?_
      repeat (go_big_quiet_step (first | with_reducible exact q1 _ _ | with_reducible exact q2 _ _ | with_reducible exact q3 _ _ | with_reducible exact q4 _ _ | with_reducible exact q5 _ _ | with_reducible exact q6 _ _ | with_reducible exact q7 _ _ | with_reducible exact q8 _ _))
      refine wpQuiet_nil ?_
      intro _ hw'
      obtain ⟨⟨dq, osq⟩, hw''⟩ := hw'
      subst hw''
      have B2 := Lib.hid (B1.out.trans ((below_regrown w0 dq osq).mono B1.out.size))
      clear q1 q2 q3 q4 q5 q6 q7 q8 x0 x1
      go_wp2
      go_ret
      exact ⟨rfl, B2.out⟩
    · have i1 : ¬ (40 : Int) < (n1 : Int) := by omega
      have i2 : (40 : Int) < (n2 : Int) := by omega
      go_wp2
      go_ret
      exact ⟨rfl, B1.out⟩
  · have i1 : (40 : Int) < (n1 : Int) := by omega
    go_wp2
    go_ret
    exact ⟨rfl, B1.out⟩
end Go.Proofs.Ytlagolgmkmdhhaa.Rg
