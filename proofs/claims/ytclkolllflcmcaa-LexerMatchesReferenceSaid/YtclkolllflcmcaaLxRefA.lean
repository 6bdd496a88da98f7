/- The reference: Same, Alike, of lists that are so. -/
import Derived.Test.YtclkolllflcmcaaLxBeginWalk
namespace Go.Proofs.Ytclkolllflcmcaa.Lx
open Go.RowKit
theorem Toks.at_ {w : World} {B : Nat} {ao : Option Addr} {l : List Tk} {k : Nat} (h : Toks w B ao l) (hk : k < l.length) : ∃ g off, ao = some ⟨g, off, none⟩ ∧ g < B ∧
    w.cell? ⟨g, off + k * 3, none⟩ = some (.int .i64 l[k].k) ∧ w.cell? ⟨g, off + k * 3 + 1, none⟩ = some (.string ⟨l[k].t.toArray⟩) ∧ w.cell? ⟨g, off + k * 3 + 2, none⟩ = some (.int .i64 (l[k].a : Int)) := by
  obtain ⟨g, off, e, hg, hc⟩ := h (by omega)
  exact ⟨g, off, e, hg, hc k _ (List.getElem?_eq_getElem hk)⟩
set_option maxRecDepth 100000 in
set_option maxHeartbeats 1000000 in
theorem same_any (ao bo : Option Addr) (n ca cb d : Nat) (l : List Tk) (w : World) (hn : l.length = n) (ha : Toks w w.heap.size ao l) (hb : Toks w w.heap.size bo (l.map (shT d))) (hca : n ≤ ca) (hcb : n ≤ cb) (hn2 : n ≤ 100000) (hd : d ≤ 100000) (hla : ∀ t ∈ l, t.a ≤ 100000) :
    Calls Try.prog 14 #[.slice ao n ca, .int .i64 d, .slice bo n cb] w fun e w' => e = .returned (.bool true) ∧ Below w.heap.size w w' := by
  have HA := Lib.hid ha
  have HB := Lib.hid hb
  have HN := Lib.hid hn
  have HL := Lib.hid hla
  have hca' : (n : Int) ≤ (ca : Int) := by omega
  have hcb' : (n : Int) ≤ (cb : Int) := by omega
  clear ha hb hn hla
  go_enter Try.func14, Try.ntmps14
  go_wp2
  go_loopw [7] (fun i wr => ∃ k : Nat, k ≤ n ∧ i = .int .i64 k ∧ Hid (Below w.heap.size w wr)) (fun i _ => n - (intOf i).toNat)
  case atStart => exact ⟨0, by omega, rfl, Lib.hid (Below.refl _ _)⟩
  case round =>
    obtain ⟨k, hk, rfl, HW⟩ := hrel
    by_cases hlt : k < n
    · have hkl : k < l.length := by rw [HN.out]; exact hlt
      obtain ⟨g1, o1, rfl, hg1, a0, a1, a2⟩ := (HA.out.below HW.out (Nat.le_refl _)).at_ hkl
      obtain ⟨g2, o2, rfl, hg2, b0, b1, b2⟩ := (HB.out.below HW.out (Nat.le_refl _)).at_ (k := k) (by rw [List.length_map]; exact hkl)
      rw [List.getElem_map] at b0 b1 b2
      have hta := HL.out l[k] (List.getElem_mem hkl)
      obtain ⟨tk, ht⟩ : ∃ t, l[k] = t := ⟨_, rfl⟩
      rw [ht] at a0 a1 a2 b0 b1 b2 hta
      obtain ⟨k0, t0, x0⟩ := tk
      dsimp only [shT] at a0 a1 a2 b0 b1 b2 hta
      have e0 : ((x0 + d : Nat) : Int) = (x0 : Int) + (d : Int) := by omega
      rw [e0] at b2
      have hs := HW.out.size
      obtain ⟨V, hV⟩ : ∃ V, wr.alloc (.cells #[.int .i64 k0, .string ⟨t0.toArray⟩, .int .i64 ((x0 : Int) + (d : Int))] 31) = V := ⟨_, rfl⟩
      have bV : Below wr.heap.size wr V := hV ▸ alloc1 wr _
      have rV : IsRow V wr.heap.size 31 #[.int .i64 k0, .string ⟨t0.toArray⟩, .int .i64 ((x0 : Int) + (d : Int))] := hV ▸ IsRow.made wr _ _
      have HW2 := Lib.hid (HW.out.trans (bV.mono hs))
      obtain ⟨c0, c1, c2, _, _, _⟩ := facts3 rV
      have d0 := (bV.cell (p := ⟨g2, _, none⟩) (Nat.lt_of_lt_of_le hg2 hs)).trans b0
      have d1 := (bV.cell (p := ⟨g2, _, none⟩) (Nat.lt_of_lt_of_le hg2 hs)).trans b1
      have d2 := (bV.cell (p := ⟨g2, _, none⟩) (Nat.lt_of_lt_of_le hg2 hs)).trans b2
      have HV := Lib.hid hV
      clear hV bV rV b0 b1 b2 ht e0
      go_wp2
      rw [HV.out]
      clear HV a0 a1 a2
      generalize wr.heap.size = q at *
      go_quiet (fail)
      go_wp2
      have HW3 : Hid (∀ j, Below w.heap.size w (V.drewN j)) := Lib.hid fun j => below_drewN HW2.out j
      go_roundw
      case rel => exact ⟨k + 1, by omega, by go_num, Lib.hid (HW3.out _)⟩
      case measure => simp [intOf]; omega
    · obtain rfl : k = n := by omega
      go_wp2
      go_ret
      exact ⟨rfl, HW.out⟩
set_option maxRecDepth 100000 in
set_option maxHeartbeats 1000000 in
theorem alike_any (ao bo : Option Addr) (n ca cb : Nat) (l m : List Tk) (w : World) (hn : l.length = n) (hm : m.map kt = l.map kt) (ha : Toks w w.heap.size ao l) (hb : Toks w w.heap.size bo m) (hca : n ≤ ca) (hcb : n ≤ cb) (hn2 : n ≤ 100000) :
    Calls Try.prog 21 #[.slice ao n ca, .slice bo n cb] w fun e w' => e = .returned (.bool true) ∧ Below w.heap.size w w' := by
  have HA := Lib.hid ha
  have HB := Lib.hid hb
  have HN := Lib.hid hn
  have HM := Lib.hid hm
  have hca' : (n : Int) ≤ (ca : Int) := by omega
  have hcb' : (n : Int) ≤ (cb : Int) := by omega
  have hml : Hid (m.length = n) := Lib.hid (by rw [← hn, ← List.length_map (f := kt), hm, List.length_map])
  clear ha hb hn hm
  go_enter Try.func21, Try.ntmps21
  go_wp2
  go_loopw [5] (fun i wr => ∃ k : Nat, k ≤ n ∧ i = .int .i64 k ∧ Hid (Below w.heap.size w wr)) (fun i _ => n - (intOf i).toNat)
  case atStart => exact ⟨0, by omega, rfl, Lib.hid (Below.refl _ _)⟩
  case round =>
    obtain ⟨k, hk, rfl, HW⟩ := hrel
    by_cases hlt : k < n
    · have hkl : k < l.length := by rw [HN.out]; exact hlt
      have hkm : k < m.length := by rw [hml.out]; exact hlt
      obtain ⟨g1, o1, rfl, hg1, a0, a1, a2⟩ := (HA.out.below HW.out (Nat.le_refl _)).at_ hkl
      obtain ⟨g2, o2, rfl, hg2, b0, b1, b2⟩ := (HB.out.below HW.out (Nat.le_refl _)).at_ hkm
      have hkt : kt m[k] = kt l[k] := by
        have h1 : (m.map kt)[k]? = (l.map kt)[k]? := by rw [HM.out]
        rw [List.getElem?_map, List.getElem?_map, List.getElem?_eq_getElem hkl, List.getElem?_eq_getElem hkm] at h1
        simpa using h1
      have e1 : m[k].k = l[k].k := congrArg Prod.fst hkt
      have e2 : m[k].t = l[k].t := congrArg Prod.snd hkt
      rw [e1] at b0
      rw [e2] at b1
      generalize l[k].k = k0 at *
      generalize l[k].t = t0 at *
      clear hkt e1 e2 a2 b2 hkl hkm
      go_wp2
      go_quiet (fail)
      go_wp2
      have HW3 : Hid (∀ j, Below w.heap.size w (wr.drewN j)) := Lib.hid fun j => below_drewN HW.out j
      go_roundw
      case rel => exact ⟨k + 1, by omega, by go_num, Lib.hid (HW3.out _)⟩
      case measure => simp [intOf]; omega
    · obtain rfl : k = n := by omega
      go_wp2
      go_ret
      exact ⟨rfl, HW.out⟩
end Go.Proofs.Ytclkolllflcmcaa.Lx
