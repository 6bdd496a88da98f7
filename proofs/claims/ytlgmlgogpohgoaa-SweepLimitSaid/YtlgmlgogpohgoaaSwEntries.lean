/- sweep.entries. -/
import Derived.Test.YtlgmlgogpohgoaaSwBox
import Derived.Test.YtlgmlgogpohgoaaSwSort
import Derived.OwnWalk
namespace Go.Proofs.Ytlgmlgogpohgoaa.Sw
open Go.RowKit Go.Sort Go.Shelf
open Go.Proofs.Ytlgmlgogpohgoaa.Geo hiding intOf
theorem made_ents (z : Array Value) (hz : z = (encE default).toArray) (n : Nat) : (madeCells z (n * 5)).toList = (List.replicate n (default : Ent)).flatMap encE := by
  subst hz
  apply List.ext_getElem?
  intro q
  have hq : q = q / 5 * 5 + q % 5 := by rw [Nat.mul_comm]; exact (Nat.div_add_mod q 5).symm
  have h7 : q % 5 < 5 := Nat.mod_lt _ (by decide)
  by_cases h : q < n * 5
  · have h6 : q / 5 < n := by omega
    have hf := flat_at encE_len h7 (l := List.replicate n (default : Ent)) (k := q / 5) (x := default) (by rw [List.getElem?_replicate, if_pos h6])
    rw [← hq] at hf
    rw [hf]
    have hs : (encE default).toArray.size = 5 := rfl
    unfold madeCells
    simp only [Array.toList_map, List.getElem?_map, Array.getElem?_toList, Array.getElem?_range, h, if_true, Option.map_some, hs]
    rw [getElem!_pos (encE default).toArray (q % 5) h7, List.getElem?_eq_getElem (by rw [encE_len]; exact h7)]
    rfl
  · rw [List.getElem?_eq_none (by simp [madeCells]; omega), List.getElem?_eq_none (by rw [flat_len encE_len]; simp; omega)]
def entsK (l : List Sg) (k : Nat) : List Ent := (List.range k).map (entOf l) ++ List.replicate (l.length - k) default
theorem entsK_len {l : List Sg} {k : Nat} (h : k ≤ l.length) : (entsK l k).length = l.length := by unfold entsK; simp; omega
theorem entsK_zero (l : List Sg) : entsK l 0 = List.replicate l.length default := by unfold entsK; simp
theorem entsK_all (l : List Sg) : entsK l l.length = entsOf l := by unfold entsK entsOf; simp
theorem entsK_set {l : List Sg} {k : Nat} (h : k < l.length) : (entsK l k).set k (entOf l k) = entsK l (k + 1) := by
  unfold entsK
  obtain ⟨m, hm⟩ : ∃ m, l.length - k = m + 1 := ⟨l.length - k - 1, by omega⟩
  have e : l.length - (k + 1) = m := by omega
  rw [hm, e, List.replicate_succ, List.set_append, if_neg (by simp)]
  simp [List.range_succ]
set_option maxRecDepth 100000 in
set_option maxHeartbeats 2000000 in
theorem entries_any (a : Option Addr) (n cap : Nat) (l : List Sg) (w : World) (hl : Segs w w.heap.size a l) (hn : n = l.length) (h2 : n ≤ 20000) :
    Calls Try.prog 55 #[.slice a n cap] w fun e w' => (∃ g E, e = .returned (.slice (some ⟨g, 0, none⟩) n n) ∧ E.Perm (entsOf l) ∧ AscE E ∧ OwnE w' w.heap.size (.slice (some ⟨g, 0, none⟩) n n) E) ∧ Below w.heap.size w w' := by
  subst hn
  have HL := Lib.hid hl
  obtain ⟨i0, hi0, hs0, hb0, hz0⟩ := info_of entry_info
  have HI := Lib.hid (And.intro hi0 (And.intro hs0 (And.intro hb0 hz0)))
  clear hi0 hs0 hb0 hz0 hl
  go_enter Try.func55, Try.ntmps55
  go_wp2_with (refine wpList_make_full _ rfl _ _ 80 rfl w.heap.size 85 i0 _ 5 Try.underlying80 HI.out.1 HI.out.2.2.2 HI.out.2.1 .i64 .i64 _ _ l.length rfl rfl rfl rfl (by rw [HI.out.2.2.1]; omega) (by unfold maxLen; omega) (Nat.le_refl _) ?_; intro W1 hown hgrow)
  have HO : Hid (OwnE W1 w.heap.size (.slice (some ⟨w.heap.size, 0, none⟩) l.length l.length) (entsK l 0)) := by
    show World.ownsRow _ _ _ _ _ _ _
    rw [made_ents (Value.agg (encE default).toArray).cells rfl] at hown
    rw [entsK_zero, List.length_replicate]
    exact hown
  have HB : Hid (Below w.heap.size w W1) := (Below.refl _ w).grown hgrow (Nat.le_refl _) (fun k e => by cases e)
  clear hown hgrow
  go_loopw [11] (fun i wr => ∃ k : Nat, k ≤ l.length ∧ i = .int .i64 k ∧ Hid (OwnE wr w.heap.size (.slice (some ⟨w.heap.size, 0, none⟩) l.length l.length) (entsK l k)) ∧ Hid (Below w.heap.size w wr)) (fun i _ => l.length - (intOf i).toNat)
  case atStart => exact ⟨0, by omega, rfl, HO, HB⟩
  case round =>
    obtain ⟨k, hk, rfl, ho, hb⟩ := hrel
    by_cases hlt : k < l.length
    · obtain ⟨b, off, rfl, hbN, c0, c1, c2, c3⟩ := (HL.out.below hb.out).at_ hlt
      go_wp2_with fail
      refine (boxOf_any (sgAt l k) k _).mono ?_
      rintro e w1 ⟨rfl, hb1⟩
      have ho1 := (Own.below ho.out (alloc1 _ _)).below hb1
      have hb2 := hb.out.trans (((alloc1 wr _).trans (hb1.mono (by simp))).mono hb.out.size)
      have hcell := fun (j : Nat) (hj : j < 5) => Own.cells ho1 encE_len (k := k) (j := j) (x := (entsK l k)[k]'(by rw [entsK_len hk]; exact hlt)) (by rw [List.getElem?_eq_getElem]) hj
      obtain ⟨d0, d1, d2, d3, d4⟩ : w1.cell? ⟨w.heap.size, k * 5, none⟩ = some (.int .i64 ((entsK l k)[k]'(by rw [entsK_len hk]; exact hlt)).i) ∧ w1.cell? ⟨w.heap.size, k * 5 + 1, none⟩ = some (.int .i64 ((entsK l k)[k]'(by rw [entsK_len hk]; exact hlt)).lo.x) ∧ w1.cell? ⟨w.heap.size, k * 5 + 2, none⟩ = some (.int .i64 ((entsK l k)[k]'(by rw [entsK_len hk]; exact hlt)).lo.y) ∧ w1.cell? ⟨w.heap.size, k * 5 + 3, none⟩ = some (.int .i64 ((entsK l k)[k]'(by rw [entsK_len hk]; exact hlt)).hi.x) ∧ w1.cell? ⟨w.heap.size, k * 5 + 4, none⟩ = some (.int .i64 ((entsK l k)[k]'(by rw [entsK_len hk]; exact hlt)).hi.y) :=
        ⟨hcell 0 (by decide), hcell 1 (by decide), hcell 2 (by decide), hcell 3 (by decide), hcell 4 (by decide)⟩
      obtain ⟨f0, f1, f2, f3, f4⟩ : w1.frozen? ⟨w.heap.size, k * 5, none⟩ = false ∧ w1.frozen? ⟨w.heap.size, k * 5 + 1, none⟩ = false ∧ w1.frozen? ⟨w.heap.size, k * 5 + 2, none⟩ = false ∧ w1.frozen? ⟨w.heap.size, k * 5 + 3, none⟩ = false ∧ w1.frozen? ⟨w.heap.size, k * 5 + 4, none⟩ = false :=
        ⟨Own.open_ ho1 _, Own.open_ ho1 _, Own.open_ ho1 _, Own.open_ ho1 _, Own.open_ ho1 _⟩
      have HS := Lib.hid (OwnE.store ho1 (k := k) (by rw [entsK_len hk]; exact hlt) (entOf l k))
      have HB2 := Lib.hid hb2
      rw [entsK_set hlt] at HS
      clear hcell ho1 hb1 hb2 c0 c1 c2 c3 ho hb
      go_wp2
      go_roundw
      case rel => exact ⟨k + 1, by omega, by go_num, Lib.hid HS.out.1, Lib.hid (HB2.out.grown HS.out.2 HB2.out.size (fun g e => by injection e with e; omega))⟩
      case measure => simp [intOf]; omega
    · obtain rfl : k = l.length := by omega
      rw [entsK_all] at ho
      have hlen : (entsOf l).length = l.length := by unfold entsOf; simp
      have hsz : w.heap.size < wr.heap.size := by
        obtain ⟨_, ⟨hv, _⟩ | ⟨g, cap', cur, hv, _, hg, _⟩⟩ := ho.out
        · cases hv
        · injection hv with e1 _ _
          injection e1 with e1
          injection e1 with e1
          rw [e1]
          exact (Array.getElem?_eq_some_iff.1 hg).1
      have hS := Lib.hid (sortE_any w.heap.size (some ⟨w.heap.size, 0, none⟩) l.length l.length (entsOf l) wr ho.out hlen.symm ⟨_, rfl, hsz⟩ (by rw [hlen]; omega))
      clear hsz hlen
      go_wp2_with fail
      refine hS.out.mono ?_
      rintro e w2 ⟨rfl, E, hp, ha, ho2, hg2⟩
      have hb2 := hb.out.grown hg2 hb.out.size (fun g e => by injection e with e; have e' : w.heap.size = g := e; omega)
      have HE := Lib.hid (And.intro hp (And.intro ha (And.intro ho2 hb2)))
      clear hp ha ho2 hg2 hb2 hS
      go_wp2
      go_ret
      exact ⟨⟨_, E, rfl, HE.out.1, HE.out.2.1, HE.out.2.2.1⟩, HE.out.2.2.2⟩
end Go.Proofs.Ytlgmlgogpohgoaa.Sw
