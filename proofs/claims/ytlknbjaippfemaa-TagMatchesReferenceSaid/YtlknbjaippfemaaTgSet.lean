/- tag: Set. -/
import Derived.Test.YtlknbjaippfemaaTgConcat
import Derived.Test.YtlknbjaippfemaaTgMerge
namespace Go.Proofs.Ytlknbjaippfemaa.Tg
open Go.RowKit Go.Sort
open Lx (IsRow alloc1 drew_below nmB name_any)
theorem asc_of_vld {l : List T} (h : vld l = true) : Inc l := by
  unfold vld chk at h
  rw [Bool.and_eq_true, Bool.and_eq_true] at h
  exact asc_iff.1 h.2.2
theorem low_len (l : List T) (k : B) : (lowT l k).length ≤ l.length := List.length_filter_le ..
theorem up_len (l : List T) (k : B) : (upT l k).length ≤ l.length := List.length_filter_le ..
theorem Part.below {w w' : World} {v : Value} {l : List T} (h : Part w v l) (hb : Below w.heap.size w w') : Part w' v l := by
  obtain ⟨a, n, c, rfl, h1, h2, h3⟩ := h
  exact ⟨a, n, c, rfl, h1, h2, h3.later hb⟩
/-- what Set answers. -/
def SOut (w : World) (r : List T × Int) (e : Ending) (w' : World) : Prop := (∃ v, e = .returned (.tuple #[v, .int .i64 r.2]) ∧ OwnG w' w.heap.size v r.1) ∧ Below w.heap.size w w'
set_option maxRecDepth 100000 in
set_option maxHeartbeats 4000000 in
theorem set_any (ao : Option Addr) (n cap : Nat) (l : List T) (key val : B) (w : World) (hn : l.length = n) (ha : TagsT w w.heap.size ao l) (hc : n ≤ cap) (hS : Siz l) (hk : key.length ≤ 100000) (hv : val.length ≤ 1000000) :
    Calls Try.prog 8 #[.slice ao n cap, .string ⟨key.toArray⟩, .string ⟨val.toArray⟩] w (SOut w (setR l key val)) := by
  obtain ⟨r, hr⟩ : ∃ r, setR l key val = r := ⟨_, rfl⟩
  obtain ⟨v1, hv1⟩ : ∃ v, vld l = v := ⟨_, rfl⟩
  obtain ⟨v2, hv2⟩ : ∃ v, nmB key = v := ⟨_, rfl⟩
  have HR := Lib.hid (show (if v1 = false ∨ v2 = false ∨ 200 < val.length then ([], 1) else if 60 < (setL l key val).length then ([], 2) else (setL l key val, 0)) = r by rw [← hr, ← hv1, ← hv2]; rfl)
  rw [hr]
  have HN := Lib.hid hn
  have HA := Lib.hid ha
  have HC := Lib.hid hc
  have V1 := Lib.hid hv1
  have KV := Lib.hid (valid_any ao n cap l w hn ha hc hS)
  rw [hv1] at KV
  have KN := Lib.hid (fun w' => name_any ⟨key.toArray⟩ w' (by show key.toArray.size ≤ 100000; simpa using hk))
  simp only [hv2] at KN
  have hv' : (val.length : Int) ≤ 1000000 := by omega
  clear hr hn ha hc hv1 hv2 hS hk
  go_enter Try.func8, Try.ntmps8
  cases v1 with
  | false =>
    obtain rfl : (([], 1) : List T × Int) = r := by have := HR.out; rw [if_pos (.inl rfl)] at this; exact this
    go_wp2_with (first
      | ((with_reducible refine KV.out.mono ?_); rintro e w1 ⟨rfl, b1⟩)
      | ((with_reducible refine (KN.out _).mono ?_); rintro e w2 ⟨rfl, rfl⟩))
    go_ret2
    exact ⟨⟨_, rfl, OwnG.nil _ _⟩, b1⟩
  | true =>
  cases v2 with
  | false =>
    obtain rfl : (([], 1) : List T × Int) = r := by have := HR.out; rw [if_pos (.inr (.inl rfl))] at this; exact this
    go_wp2_with (first
      | ((with_reducible refine KV.out.mono ?_); rintro e w1 ⟨rfl, b1⟩)
      | ((with_reducible refine (KN.out _).mono ?_); rintro e w2 ⟨rfl, rfl⟩))
    go_ret2
    exact ⟨⟨_, rfl, OwnG.nil _ _⟩, b1⟩
  | true =>
  by_cases h200 : 200 < val.length
  · obtain rfl : (([], 1) : List T × Int) = r := by have := HR.out; rw [if_pos (.inr (.inr h200))] at this; exact this
    have h201 : (200 : Int) < (val.length : Int) := by omega
    go_wp2_with (first
      | ((with_reducible refine KV.out.mono ?_); rintro e w1 ⟨rfl, b1⟩)
      | ((with_reducible refine (KN.out _).mono ?_); rintro e w2 ⟨rfl, rfl⟩))
    go_ret2
    exact ⟨⟨_, rfl, OwnG.nil _ _⟩, b1⟩
  have HR2 := Lib.hid (show (if 60 < (setL l key val).length then ([], 2) else (setL l key val, 0)) = r by
    have := HR.out
    rw [if_neg (by simp [h200])] at this
    exact this)
  have INC := Lib.hid (asc_of_vld V1.out)
  have N60 := Lib.hid (vld_len V1.out)
  have h201 : ¬ (200 : Int) < (val.length : Int) := by omega
  clear HR h200
  go_upto_region 3 with (first
      | ((with_reducible refine KV.out.mono ?_); rintro e w1 ⟨rfl, b1⟩)
      | ((with_reducible refine (KN.out _).mono ?_); rintro e w2 ⟨rfl, rfl⟩))
  have B1 := Lib.hid b1
  have KA := Lib.hid (around_any ao n cap l key w1 HN.out (HA.out.later b1) HC.out (by have := N60.out; rw [HN.out] at this; omega) INC.out)
  clear KV KN b1
  go_upto_region 5 with ((with_reducible refine KA.out.mono ?_); rintro e w2 ⟨⟨p1, p2, rfl, P1, P2⟩, b2⟩)
  have B2 := Lib.hid (B1.out.trans (b2.mono B1.out.size))
  have Q1 := Lib.hid P1
  have Q2 := Lib.hid P2
  clear P1 P2 b2 B1 KA
  obtain ⟨a1, n1, c1, rfl, P1a', P1b', P1c'⟩ := Q1.out
  obtain ⟨a2, n2, c2, rfl, P2a', P2b', P2c'⟩ := Q2.out
  have P1a := Lib.hid P1a'
  have P1b := Lib.hid P1b'
  have P1c := Lib.hid P1c'
  have P2a := Lib.hid P2a'
  have P2b := Lib.hid P2b'
  have P2c := Lib.hid P2c'
  have P1l := Lib.hid (show n1 ≤ 60 from by have := low_len l key; have := N60.out; omega)
  have P2l := Lib.hid (show n2 ≤ 60 from by have := up_len l key; have := N60.out; omega)
  clear P1a' P1b' P1c' P2a' P2b' P2c' Q1 Q2
  by_cases hv0 : val = []
  · subst hv0
    go_upto_region 7 with fail
    obtain ⟨am, nm, cm, PMe, PMa', PMb', PMc'⟩ : Part w2 (.slice none 0 0) (midT key []) := ⟨none, 0, 0, rfl, by simp [midT], Nat.le_refl _, by simp [midT]; exact TagsT.nil⟩
    rw [PMe]
    have PMa := Lib.hid PMa'
    have PMb := Lib.hid PMb'
    have PMc := Lib.hid PMc'
    have PMl := Lib.hid (show nm ≤ 60 from by rw [PMa']; simp [midT])
    have LEN := Lib.hid (show (setL l key []).length = n1 + nm + n2 by unfold setL; rw [List.length_append, List.length_append, P1a.out, P2a.out, PMa.out])
    have BW := Lib.hid (Below.refl w2.heap.size w2)
    clear PMe PMa' PMb' PMc'
    have hs1 : (n1 : Int) ≤ 60 := by have := P1l.out; omega
    have hs2 : (n2 : Int) ≤ 60 := by have := P2l.out; omega
    have hsm : (nm : Int) ≤ 60 := by have := PMl.out; omega
    by_cases h60 : 60 < n1 + nm + n2
    · have h61 : (60 : Int) < (n1 : Int) + (nm : Int) + (n2 : Int) := by omega
      obtain rfl : (([], 2) : List T × Int) = r := by have := HR2.out; rw [if_pos (by rw [LEN.out]; exact h60)] at this; exact this
      go_wp2
      go_ret2
      exact ⟨⟨_, rfl, OwnG.nil _ _⟩, B2.out⟩
    · have h61 : ¬ (60 : Int) < (n1 : Int) + (nm : Int) + (n2 : Int) := by omega
      obtain rfl : (setL l key [], (0 : Int)) = r := by have := HR2.out; rw [if_neg (by rw [LEN.out]; exact h60)] at this; exact this
      obtain ⟨w4, hw4, b4, r4⟩ : ∃ w4, w2.alloc (.cells #[.slice a1 n1 c1, .slice am nm cm, .slice a2 n2 c2] 22) = w4 ∧ Below w2.heap.size w2 w4 ∧ IsRow w4 w2.heap.size 22 #[.slice a1 n1 c1, .slice am nm cm, .slice a2 n2 c2] := ⟨_, rfl, alloc1 _ _, IsRow.made _ _ _⟩
      have B4 := Lib.hid (B2.out.trans (b4.mono B2.out.size))
      have HW4 := Lib.hid hw4
      have KC := Lib.hid (concat_any w2.heap.size 3 [(a1, n1, c1, lowT l key), (am, nm, cm, midT key []), (a2, n2, c2, upT l key)] w4 ⟨r4, fun s hs => by
        simp only [List.mem_cons, List.not_mem_nil, or_false] at hs
        rcases hs with rfl | rfl | rfl
        · exact ⟨P1a.out.symm, P1c.out.later (BW.out.trans (b4.mono BW.out.size)), P1b.out⟩
        · exact ⟨PMa.out.symm, PMc.out.later b4, PMb.out⟩
        · exact ⟨P2a.out.symm, P2c.out.later (BW.out.trans (b4.mono BW.out.size)), P2b.out⟩⟩ rfl (by decide) (fun s hs => by
        have e1 := P1l.out
        have e2 := P2l.out
        have e3 := PMl.out
        simp only [List.mem_cons, List.not_mem_nil, or_false] at hs
        rcases hs with rfl | rfl | rfl <;> dsimp only <;> omega))
      rw [show jl [(a1, n1, c1, lowT l key), (am, nm, cm, midT key []), (a2, n2, c2, upT l key)] 3 = setL l key [] from by unfold jl setL; simp] at KC
      clear hw4 b4 r4
      go_wp2_with fail
      rw [HW4.out]
      refine KC.out.mono ?_
      rintro e w5 ⟨⟨v, rfl, hv⟩, b5⟩
      have HV := Lib.hid (OwnG.down hv B4.out.size)
      have B5 := Lib.hid (B4.out.trans (b5.mono B4.out.size))
      clear hv b5 KC
      go_wp2
      go_ret2
      exact ⟨⟨_, rfl, HV.out⟩, B5.out⟩
  · have e1 : (val == []) = false := by rw [beq_eq_false_iff_ne]; exact hv0
    have e2 : val.isEmpty = false := by cases val with | nil => exact absurd rfl hv0 | cons => rfl
    have MID := Lib.hid (show midT key val = [(key, val)] from if_neg hv0)
    have T1 := Lib.hid (tags_one w2 key val)
    have B2a := Lib.hid (alloc1 w2 (.cells #[.string ⟨key.toArray⟩, .string ⟨val.toArray⟩] 43))
    go_upto_region 7 with (at_builtin; refine wpList_appG rfl _ _ (by rfl) w2.heap.size _ [] [(key, val)] _ 1 1 (by rfl) (OwnG.nil _ _) (by rfl) T1.out rfl (by simp) B2a.out.size ?_; intro v' w3 ho3 hg3 hlt3)
    have BW := Lib.hid (B2a.out.grown hg3 B2a.out.size (fun k hk => (hlt3 k hk).1))
    have B3 := Lib.hid (B2.out.trans (BW.out.mono B2.out.size))
    obtain ⟨am, cm, hve, PMb', _, PMc'⟩ := ho3.tags
    obtain ⟨nm, hnm⟩ : ∃ nm, ([] ++ [(key, val)] : List T).length = nm := ⟨_, rfl⟩
    rw [hnm] at hve PMb'
    subst hve
    have PMa := Lib.hid (show nm = (midT key val).length by rw [MID.out, ← hnm]; rfl)
    have PMb := Lib.hid PMb'
    have PMc := Lib.hid (show TagsT w3 w3.heap.size am (midT key val) by rw [MID.out]; exact PMc')
    have PMl := Lib.hid (show nm ≤ 60 from by rw [← hnm]; simp)
    have LEN := Lib.hid (show (setL l key val).length = n1 + nm + n2 by unfold setL; rw [List.length_append, List.length_append, P1a.out, P2a.out, PMa.out])
    clear PMb' PMc' hnm ho3 hg3 hlt3 B2a T1 MID e1 e2
    have hs1 : (n1 : Int) ≤ 60 := by have := P1l.out; omega
    have hs2 : (n2 : Int) ≤ 60 := by have := P2l.out; omega
    have hsm : (nm : Int) ≤ 60 := by have := PMl.out; omega
    by_cases h60 : 60 < n1 + nm + n2
    · have h61 : (60 : Int) < (n1 : Int) + (nm : Int) + (n2 : Int) := by omega
      obtain rfl : (([], 2) : List T × Int) = r := by have := HR2.out; rw [if_pos (by rw [LEN.out]; exact h60)] at this; exact this
      go_wp2
      go_ret2
      exact ⟨⟨_, rfl, OwnG.nil _ _⟩, B3.out⟩
    · have h61 : ¬ (60 : Int) < (n1 : Int) + (nm : Int) + (n2 : Int) := by omega
      obtain rfl : (setL l key val, (0 : Int)) = r := by have := HR2.out; rw [if_neg (by rw [LEN.out]; exact h60)] at this; exact this
      obtain ⟨w4, hw4, b4, r4⟩ : ∃ w4, w3.alloc (.cells #[.slice a1 n1 c1, .slice am nm cm, .slice a2 n2 c2] 22) = w4 ∧ Below w3.heap.size w3 w4 ∧ IsRow w4 w3.heap.size 22 #[.slice a1 n1 c1, .slice am nm cm, .slice a2 n2 c2] := ⟨_, rfl, alloc1 _ _, IsRow.made _ _ _⟩
      have B4 := Lib.hid (B3.out.trans (b4.mono B3.out.size))
      have HW4 := Lib.hid hw4
      have KC := Lib.hid (concat_any w3.heap.size 3 [(a1, n1, c1, lowT l key), (am, nm, cm, midT key val), (a2, n2, c2, upT l key)] w4 ⟨r4, fun s hs => by
        simp only [List.mem_cons, List.not_mem_nil, or_false] at hs
        rcases hs with rfl | rfl | rfl
        · exact ⟨P1a.out.symm, P1c.out.later (BW.out.trans (b4.mono BW.out.size)), P1b.out⟩
        · exact ⟨PMa.out.symm, PMc.out.later b4, PMb.out⟩
        · exact ⟨P2a.out.symm, P2c.out.later (BW.out.trans (b4.mono BW.out.size)), P2b.out⟩⟩ rfl (by decide) (fun s hs => by
        have e1 := P1l.out
        have e2 := P2l.out
        have e3 := PMl.out
        simp only [List.mem_cons, List.not_mem_nil, or_false] at hs
        rcases hs with rfl | rfl | rfl <;> dsimp only <;> omega))
      rw [show jl [(a1, n1, c1, lowT l key), (am, nm, cm, midT key val), (a2, n2, c2, upT l key)] 3 = setL l key val from by unfold jl setL; simp] at KC
      clear hw4 b4 r4
      go_wp2_with fail
      rw [HW4.out]
      refine KC.out.mono ?_
      rintro e w5 ⟨⟨v, rfl, hv⟩, b5⟩
      have HV := Lib.hid (OwnG.down hv B4.out.size)
      have B5 := Lib.hid (B4.out.trans (b5.mono B4.out.size))
      clear hv b5 KC
      go_wp2
      go_ret2
      exact ⟨⟨_, rfl, HV.out⟩, B5.out⟩
end Go.Proofs.Ytlknbjaippfemaa.Tg
