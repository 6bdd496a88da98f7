/- Merged: LxName, LxHead, HrTok, HrAcc, HrSym. -/
import Derived.Test.YtgbkjdpjilldmaaGreatDoorHz13
import Derived.Test.YtgbkjdpjilldmaaGreatDoorHz6
import Derived.Lib.Atoi
/- lexer.Name; the reference's Name. -/
namespace Go.Proofs.YtgbkjdpjilldmaaGreatDoor.Lx
open Go.RowKit
/-- is a text a name. -/
def nmB (l : B) : Bool := hd isLet l && decide (l.length ≤ 24) && l.all isWord
theorem all_take_succ {p : UInt8 → Bool} {l : B} {k : Nat} (h : k < l.length) : (l.take (k + 1)).all p = ((l.take k).all p && p l[k]) := by
  rw [List.take_succ_eq_append_getElem h, List.all_append]
  simp only [List.all_cons, List.all_nil, Bool.and_true]
theorem all_false {p : UInt8 → Bool} {l : B} {k : Nat} (h : k < l.length) (hc : p l[k] = false) : l.all p = false := by
  rw [List.all_eq_false]; exact ⟨l[k], List.getElem_mem h, by simp [hc]⟩
theorem hd_at (s : ByteArray) (p : UInt8 → Bool) (h : 0 < s.size) : hd p s.data.toList = p s[0] := by
  have := drop_at s 0 h
  rw [List.drop_zero] at this
  rw [this]; rfl
set_option maxRecDepth 100000 in
set_option maxHeartbeats 400000 in
theorem name_any (s : ByteArray) (w : World) (hs : s.size ≤ 100000) :
    Calls Tryz.prog 57 #[.string s] w fun e w' => e = .returned (.bool (nmB s.data.toList)) ∧ w = w' := by
  by_cases h0 : s.size = 0
  · obtain rfl : s = ⟨#[]⟩ := by
      have : s.data.toList = [] := List.eq_nil_of_length_eq_zero (by rw [len_data]; exact h0)
      exact str_of this
    clear h0
    go_enter Tryz.func57, Tryz.ntmps57
    go_wp2
    go_ret
    exact ⟨rfl, rfl⟩
  · have hpos : 0 < s.size := by omega
    have hne2 : s.data.toList ≠ [] := fun e => h0 (by have := congrArg List.length e; rw [len_data] at this; exact this)
    have hne : ¬ s.toList = [] := by rw [Lib.toList_data]; exact hne2
    have hne3 : s.toList.isEmpty = false := by rw [Lib.toList_data, List.isEmpty_eq_false_iff]; exact hne2
    clear h0
    by_cases h24 : 24 < s.size
    · have hz : (24 : Int) < (s.size : Int) := by omega
      have HR : Hid (nmB s.data.toList = false) := Lib.hid (by unfold nmB; rw [len_data, decide_eq_false (by omega), Bool.and_false, Bool.false_and])
      go_enter Tryz.func57, Tryz.ntmps57
      go_wp2
      all_goals
        go_ret
        exact ⟨ret_bool HR.out.symm, rfl⟩
    · have hz : (s.size : Int) ≤ 24 := by omega
      have hz2 : ¬ (24 : Int) < (s.size : Int) := by omega
      have h1 := Lib.hid (hd_at s isLet hpos)
      cases hL : isLet s[0] with
      | false =>
        have HR : Hid (nmB s.data.toList = false) := Lib.hid (by unfold nmB; rw [h1.out, hL, Bool.false_and, Bool.false_and])
        go_enter Tryz.func57, Tryz.ntmps57
        go_wp2_with ((with_reducible refine (isLetter_any _ _).mono ?_); rintro e w' ⟨rfl, rfl⟩)
        all_goals
          go_ret
          exact ⟨ret_bool HR.out.symm, rfl⟩
      | true =>
        have HR : Hid (nmB s.data.toList = s.data.toList.all isWord) := Lib.hid (by unfold nmB; rw [h1.out, hL, len_data, decide_eq_true (by omega), Bool.true_and, Bool.true_and])
        go_enter Tryz.func57, Tryz.ntmps57
        go_wp2_with ((with_reducible refine (isLetter_any _ _).mono ?_); rintro e w' ⟨rfl, rfl⟩)
        clear hL h1 hne2 hz2 hne hne3
        go_loop [19] (fun i => ∃ k : Nat, k ≤ s.size ∧ i = .int .i64 k ∧ Hid ((s.data.toList.take k).all isWord = true)) (fun i => s.size - (intOf i).toNat)
        case atStart => exact ⟨0, Nat.zero_le _, rfl, Lib.hid rfl⟩
        case round =>
          obtain ⟨k, hk, rfl, hall⟩ := hrel
          by_cases hlt : k < s.size
          · have hu := Lib.hid (u8_beq s[k] 95 (by decide))
            have hx := s[k].toNat_lt
            cases hw : isWord s[k] with
            | true =>
              have HN := Lib.hid (show (s.data.toList.take (k + 1)).all isWord = true by rw [all_take_succ (by rw [len_data]; exact hlt), hall.out, Bool.true_and]; exact hw)
              have hw2 : (isLet s[k] || isDig s[k] || s[k] == 95) = true := hw
              cases h1 : isLet s[k] with
              | true =>
                clear hw hw2
                go_wp2_with (first | ((with_reducible refine (isLetter_any _ _).mono ?_); rintro e w' ⟨rfl, rfl⟩) | ((with_reducible refine (isDigit_any _ _).mono ?_); rintro e w' ⟨rfl, rfl⟩))
                go_round
                case rel => exact ⟨k + 1, by omega, by go_num, HN⟩
                case measure => simp [intOf]; omega
              | false =>
                cases h2 : isDig s[k] with
                | true =>
                  clear hw hw2
                  go_wp2_with (first | ((with_reducible refine (isLetter_any _ _).mono ?_); rintro e w' ⟨rfl, rfl⟩) | ((with_reducible refine (isDigit_any _ _).mono ?_); rintro e w' ⟨rfl, rfl⟩))
                  go_round
                  case rel => exact ⟨k + 1, by omega, by go_num, HN⟩
                  case measure => simp [intOf]; omega
                | false =>
                  have h3 : ((s[k].toNat : Int) == 95) = true := by
                    have := hu.out
                    rw [show ((95 : Nat) : Int) = 95 from rfl] at this
                    rw [this]
                    rw [h1, h2] at hw2
                    simpa using hw2
                  have h4 : ((s[k].toNat : Int) != 95) = false := by simp [bne, h3]
                  clear hw hw2
                  go_wp2_with (first | ((with_reducible refine (isLetter_any _ _).mono ?_); rintro e w' ⟨rfl, rfl⟩) | ((with_reducible refine (isDigit_any _ _).mono ?_); rintro e w' ⟨rfl, rfl⟩))
                  go_round
                  case rel => exact ⟨k + 1, by omega, by go_num, HN⟩
                  case measure => simp [intOf]; omega
            | false =>
              have hw2 : (isLet s[k] || isDig s[k] || s[k] == 95) = false := hw
              rw [Bool.or_eq_false_iff, Bool.or_eq_false_iff] at hw2
              obtain ⟨⟨h1, h2⟩, h5⟩ := hw2
              have h3 : ((s[k].toNat : Int) == 95) = false := by
                have := hu.out
                rw [show ((95 : Nat) : Int) = 95 from rfl] at this
                rw [this]; exact h5
              have h4 : ((s[k].toNat : Int) != 95) = true := by simp [bne, h3]
              have HF := Lib.hid (show s.data.toList.all isWord = false from all_false (k := k) (by rw [len_data]; exact hlt) hw)
              clear hw h5
              go_wp2_with (first | ((with_reducible refine (isLetter_any _ _).mono ?_); rintro e w' ⟨rfl, rfl⟩) | ((with_reducible refine (isDigit_any _ _).mono ?_); rintro e w' ⟨rfl, rfl⟩))
              go_ret
              exact ⟨ret_bool (by rw [HR.out, HF.out]), rfl⟩
          · obtain rfl : k = s.size := by omega
            have HA := hall.out
            rw [List.take_of_length_le (by rw [len_data]; exact Nat.le_refl _)] at HA
            have HA2 := Lib.hid HA
            clear HA hall
            go_wp2
            go_ret
            exact ⟨ret_bool (by rw [HR.out, HA2.out]), rfl⟩
end Go.Proofs.YtgbkjdpjilldmaaGreatDoor.Lx
/- lexer: the laws' head; slices of tokens as they are read. -/
namespace Go.Proofs.YtgbkjdpjilldmaaGreatDoor.Lx
open Go.RowKit
/-- a slice of tokens in memory below B. -/
def Toks (w : World) (B : Nat) (ao : Option Addr) (l : List Tk) : Prop := 0 < l.length → ∃ g off, ao = some ⟨g, off, none⟩ ∧ g < B ∧ ∀ (k : Nat) (t : Tk), l[k]? = some t →
  w.cell? ⟨g, off + k * 3, none⟩ = some (.int .i64 t.k) ∧ w.cell? ⟨g, off + k * 3 + 1, none⟩ = some (.string ⟨t.t.toArray⟩) ∧ w.cell? ⟨g, off + k * 3 + 2, none⟩ = some (.int .i64 (t.a : Int))
theorem Toks.below {w w' : World} {B B' : Nat} {ao : Option Addr} {l : List Tk} (h : Toks w B ao l) (hb : Below B' w w') (hB : B ≤ B') : Toks w' B ao l := fun h0 => by
  obtain ⟨g, off, e, hg, hc⟩ := h h0
  exact ⟨g, off, e, hg, fun k t hk => by
    obtain ⟨c0, c1, c2⟩ := hc k t hk
    exact ⟨(hb.cell (p := ⟨g, _, none⟩) (Nat.lt_of_lt_of_le hg hB)).trans c0, (hb.cell (p := ⟨g, _, none⟩) (Nat.lt_of_lt_of_le hg hB)).trans c1, (hb.cell (p := ⟨g, _, none⟩) (Nat.lt_of_lt_of_le hg hB)).trans c2⟩⟩
theorem Toks.more {w : World} {B B' : Nat} {ao : Option Addr} {l : List Tk} (h : Toks w B ao l) (hB : B ≤ B') : Toks w B' ao l := fun h0 => by
  obtain ⟨g, off, e, hg, hc⟩ := h h0
  exact ⟨g, off, e, Nat.lt_of_lt_of_le hg hB, hc⟩
theorem flatK_len (l : List Tk) : (flatK l).length = l.length * 3 := by
  induction l with
  | nil => rfl
  | cons t l ih => unfold flatK at ih ⊢; rw [List.flatMap_cons, List.length_append, ih]; simp [encK]; omega
theorem flatK_get : ∀ (l : List Tk) (k : Nat) (t : Tk), l[k]? = some t → (flatK l)[k * 3]? = some (.int .i64 t.k) ∧ (flatK l)[k * 3 + 1]? = some (.string ⟨t.t.toArray⟩) ∧ (flatK l)[k * 3 + 2]? = some (.int .i64 (t.a : Int))
  | [], k, t, h => by simp at h
  | x :: l, 0, t, h => by
    rw [List.getElem?_cons_zero] at h
    injection h with h
    subst h
    exact ⟨rfl, rfl, rfl⟩
  | x :: l, k + 1, t, h => by
    rw [List.getElem?_cons_succ] at h
    have ih := flatK_get l k t h
    have e : ∀ j, (flatK (x :: l))[(k + 1) * 3 + j]? = (flatK l)[k * 3 + j]? := fun j => by
      unfold flatK
      rw [List.flatMap_cons, List.getElem?_append_right (by simp [encK]; omega)]
      congr 1
      simp [encK]; omega
    exact ⟨(e 0).trans ih.1, (e 1).trans ih.2.1, (e 2).trans ih.2.2⟩
theorem OwnK.toks {w : World} {base : Nat} {v : Value} {l : List Tk} (h : OwnK w base v l) : ∃ ao cap, v = .slice ao l.length cap ∧ l.length ≤ cap ∧ Toks w w.heap.size ao l := by
  obtain ⟨h1, h2⟩ := h
  rcases h2 with ⟨rfl, h0⟩ | ⟨g, cap, cur, rfl, hb, hg, _, hc, _, ht⟩
  · exact ⟨none, 0, by rw [h0], by omega, fun hp => by omega⟩
  · have hr : IsRow w g 108 cur := hg
    refine ⟨some ⟨g, 0, none⟩, cap, rfl, by omega, fun _ => ⟨g, 0, rfl, hr.inside, fun k t hk => ?_⟩⟩
    obtain ⟨f0, f1, f2⟩ := flatK_get l k t hk
    have hkl := (List.getElem?_eq_some_iff.1 hk).1
    rw [← ht, List.getElem?_take, if_pos (by omega)] at f0
    rw [← ht, List.getElem?_take, if_pos (by omega)] at f1
    rw [← ht, List.getElem?_take, if_pos (by omega)] at f2
    rw [hr.get, hr.get, hr.get, Nat.zero_add]
    exact ⟨by simpa using f0, by simpa using f1, by simpa using f2⟩
theorem lex_of (s : ByteArray) (w : World) (ts : List Tk) (e a : Int) (h : lexR s.data.toList = (ts, e, a)) :
    Calls Tryz.prog 30 #[.string s] w fun x w' => (∃ ao cap, x = .returned (.tuple #[.slice ao ts.length cap, .int .i64 e, .int .i64 a]) ∧ ts.length ≤ cap ∧ Toks w' w'.heap.size ao ts) ∧ Below w.heap.size w w' := by
  refine (lex_any s w).mono ?_
  rintro x w' ⟨⟨v, rfl, ho⟩, hb⟩
  rw [h] at ho ⊢
  obtain ⟨ao, cap, rfl, hc, ht⟩ := ho.toks
  exact ⟨⟨ao, cap, rfl, hc, ht⟩, hb⟩
theorem lex1 : lexR [119, 97, 121, 32, 119, 49, 32, 55, 45, 34, 97, 92, 34, 98, 34, 35, 32, 121] = ([⟨1, [119, 97, 121], 0⟩, ⟨1, [119, 49], 4⟩, ⟨2, [55], 7⟩, ⟨4, [45], 8⟩, ⟨3, [97, 34, 98], 9⟩], 0, 0) := by decide +kernel
theorem lex2 : lexR [97, 32, 33, 98] = ([], 3, 2) := by decide +kernel
theorem lex3 : lexR [55, 120] = ([], 4, 0) := by decide +kernel
theorem lex4 : lexR [97, 32, 34, 98] = ([], 3, 2) := by decide +kernel
theorem lex5 : lexR [10, 97, 98, 99, 100, 101, 102, 103, 104, 105, 106, 107, 108, 109, 110, 111, 112, 113, 114, 115, 116, 117, 118, 119, 120, 121] = ([], 2, 1) := by decide +kernel
theorem nm_lit (l : B) (b : Bool) (h : nmB l = b) (hl : l.length ≤ 100) (w : World) : Calls Tryz.prog 57 #[.string ⟨l.toArray⟩] w fun e w' => e = .returned (.bool b) ∧ w = w' := by
  have := name_any ⟨l.toArray⟩ w (by rw [str_size]; omega)
  rw [str_eq, h] at this
  exact this
end Go.Proofs.YtgbkjdpjilldmaaGreatDoor.Lx
/- hours: tokens.next, unexpected. -/
namespace Go.Proofs.YtgbkjdpjilldmaaGreatDoor.Hr
open Go.RowKit Go.Sort Go.Shelf
open Lx (IsRow alloc1 drew_below Tk B Toks vTok set3 below3 facts3 infoTok)
open St (Sp encS encS_len encS_one)
set_option maxRecDepth 100000 in
set_option maxHeartbeats 1000000 in
theorem tnext_any (g e n c : Nat) (ts : List Tk) (ao : Option Addr) (w : World) (c0 : w.cell? ⟨g, 0, none⟩ = some (.slice ao n c)) (c1 : w.cell? ⟨g, 1, none⟩ = some (.int .i64 (e : Int))) (hn : ts.length = n) (ht : Toks w w.heap.size ao ts) (hc : n ≤ c) (hg : g < w.heap.size) :
    Calls Tryz.prog 126 #[.pointer (some ⟨g, 0, none⟩)] w fun x w' => x = .returned (vTok (nx1 e ts).k (nx1 e ts).t (nx1 e ts).a) ∧ Below w.heap.size w w' := by
  obtain ⟨W, hW⟩ : ∃ W, w.alloc (.cells #[.int .i64 0, .string ⟨#[]⟩, .int .i64 0] 108) = W := ⟨_, rfl⟩
  have B0 : Below w.heap.size w W := hW ▸ alloc1 w _
  have T0 : IsRow W w.heap.size 108 #[.int .i64 0, .string ⟨#[]⟩, .int .i64 0] := hW ▸ IsRow.made w _ _
  have d0 := (B0.cell (p := ⟨g, 0, none⟩) hg).trans c0
  have d1 := (B0.cell (p := ⟨g, 1, none⟩) hg).trans c1
  obtain ⟨f0, f1, f2, f3, f4, f5⟩ := facts3 T0
  have HT := Lib.hid T0
  have HB := Lib.hid B0
  have HW := Lib.hid hW
  cases ts with
  | nil =>
    simp at hn
    subst hn
    clear B0 T0 hW ht c0 c1
    go_enter Tryz.func126, Tryz.ntmps126
    go_upto_region 1 with fail
    rw [HW.out]
    go_wp2
    have hr := set3 HT.out (.int .i64 0) (.string ⟨#[]⟩) (.int .i64 (e : Int))
    have hb := below3 HB.out (Nat.le_refl _) (.int .i64 0) (.string ⟨#[]⟩) (.int .i64 (e : Int))
    refine bodyPost_ret (results_cell_row rfl _ _ w.heap.size _ _ (0, 0) _ rfl hr Tryz.underlying108 rfl infoTok) rfl ?_
    exact ⟨rfl, hb⟩
  | cons t r =>
    obtain ⟨g2, o2, rfl, hg2, hcells⟩ := ht (by simp)
    obtain ⟨x0, x1, x2⟩ := hcells 0 t rfl
    obtain ⟨k, tt, a⟩ := t
    dsimp only at x0 x1 x2
    rw [Nat.zero_mul, Nat.add_zero] at x0 x1 x2
    have y0 := (B0.cell (p := ⟨g2, _, none⟩) hg2).trans x0
    have y1 := (B0.cell (p := ⟨g2, _, none⟩) hg2).trans x1
    have y2 := (B0.cell (p := ⟨g2, _, none⟩) hg2).trans x2
    have hn0 : (0 : Int) < (n : Int) := by have := hn; simp at this; omega
    have hnz : ((n : Int) == 0) = false := by rw [beq_eq_false_iff_ne]; omega
    have hnz2 : (n == 0) = false := by rw [beq_eq_false_iff_ne]; omega
    have hc' : (n : Int) ≤ (c : Int) := by omega
    clear B0 T0 hW ht c0 c1 hcells x0 x1 x2 hn
    go_enter Tryz.func126, Tryz.ntmps126
    go_upto_region 1 with fail
    rw [HW.out]
    go_wp2
    have hr := set3 HT.out (.int .i64 k) (.string ⟨tt.toArray⟩) (.int .i64 (a : Int))
    have hb := below3 HB.out (Nat.le_refl _) (.int .i64 k) (.string ⟨tt.toArray⟩) (.int .i64 (a : Int))
    refine bodyPost_ret (results_cell_row rfl _ _ w.heap.size _ _ (0, 0) _ rfl hr Tryz.underlying108 rfl infoTok) rfl ?_
    exact ⟨rfl, hb⟩
theorem infoFail : (Tryz.prog.info? 110).map (·.size) = some 2 := by kernel_rfl
theorem set2f {w : World} {g : Nat} {t : TypeId} {a b : Value} (h : IsRow w g t #[a, b]) (a' b' : Value) : IsRow ((w.setCell ⟨g, 0, none⟩ a').setCell ⟨g, 1, none⟩ b') g t #[a', b'] := by
  have := (h.put 0 a').put 1 b'
  simpa using this
theorem tok_field0 (k : Int) (s : ByteArray) (a : Int) : ∀ w : World, (Instr.field 108 (.agg #[.int .i64 k, .string s, .int .i64 a]) 0).run Tryz.prog w = .ok (.int .i64 k) w := fun _ => by kernel_rfl
theorem tok_field2 (k : Int) (s : ByteArray) (a : Int) : ∀ w : World, (Instr.field 108 (.agg #[.int .i64 k, .string s, .int .i64 a]) 2).run Tryz.prog w = .ok (.int .i64 a) w := fun _ => by kernel_rfl
/-- a failure as a value. -/
def vFl (f : Fl) : Value := .agg #[.int .i64 f.1, .int .i64 f.2]
set_option maxRecDepth 100000 in
set_option maxHeartbeats 1000000 in
theorem unexp_any (g e n c : Nat) (ts : List Tk) (ao : Option Addr) (w : World) (c0 : w.cell? ⟨g, 0, none⟩ = some (.slice ao n c)) (c1 : w.cell? ⟨g, 1, none⟩ = some (.int .i64 (e : Int))) (hn : ts.length = n) (ht : Toks w w.heap.size ao ts) (hc : n ≤ c) (hg : g < w.heap.size) :
    Calls Tryz.prog 95 #[.pointer (some ⟨g, 0, none⟩)] w fun x w' => x = .returned (vFl (unexp e ts)) ∧ Below w.heap.size w w' := by
  obtain ⟨W, hW⟩ : ∃ W, w.alloc (.cells #[.int .i64 0, .int .i64 0] 110) = W := ⟨_, rfl⟩
  have B0 : Below w.heap.size w W := hW ▸ alloc1 w _
  have T0 : IsRow W w.heap.size 110 #[.int .i64 0, .int .i64 0] := hW ▸ IsRow.made w _ _
  have d0 := (B0.cell (p := ⟨g, 0, none⟩) hg).trans c0
  have d1 := (B0.cell (p := ⟨g, 1, none⟩) hg).trans c1
  have NX := Lib.hid (tnext_any g e n c ts ao W d0 d1 hn ((ht.below B0 (Nat.le_refl _)).more B0.size) hc (Nat.lt_of_lt_of_le hg B0.size))
  obtain ⟨f0, f1, f2, f3⟩ := facts2 T0
  have HT := Lib.hid T0
  have HB := Lib.hid B0
  have HW := Lib.hid hW
  cases ts with
  | nil =>
    simp at hn
    subst hn
    clear B0 T0 hW ht c0 c1 NX
    go_enter Tryz.func95, Tryz.ntmps95
    go_upto_region 1 with fail
    rw [HW.out]
    go_wp2
    have hr := set2f HT.out (.int .i64 6) (.int .i64 (e : Int))
    have hb := (HB.out.setCell (p := ⟨w.heap.size, 0, none⟩) (Nat.le_refl _) (.int .i64 6)).setCell (p := ⟨w.heap.size, 1, none⟩) (Nat.le_refl _) (.int .i64 (e : Int))
    refine bodyPost_ret (results_cell_row rfl _ _ w.heap.size _ _ (0, 0) _ rfl hr Tryz.underlying110 rfl infoFail) rfl ?_
    exact ⟨rfl, hb⟩
  | cons t r =>
    obtain ⟨k, tt, a⟩ := t
    have hn0 : (0 : Int) < (n : Int) := by have := hn; simp at this; omega
    have hnz : ((n : Int) == 0) = false := by rw [beq_eq_false_iff_ne]; omega
    have hnz2 : (n == 0) = false := by rw [beq_eq_false_iff_ne]; omega
    have N2 := Lib.hid (show Calls Tryz.prog 126 #[.pointer (some ⟨g, 0, none⟩)] W fun x w' => x = .returned (.agg #[.int .i64 k, .string ⟨tt.toArray⟩, .int .i64 (a : Int)]) ∧ Below W.heap.size W w' from NX.out)
    clear B0 T0 hW ht c0 c1 hn NX
    go_enter Tryz.func95, Tryz.ntmps95
    go_upto_region 1 with fail
    rw [HW.out]
    go_wp2_with fail
    refine N2.out.mono ?_
    rintro x w2 ⟨rfl, b2⟩
    have R2 := Lib.hid (HT.out.below b2 HT.out.inside)
    have B2 := Lib.hid (HB.out.trans (b2.mono HB.out.size))
    obtain ⟨h0, h1, h2, h3⟩ := facts2 R2.out
    clear N2 b2 f0 f1 f2 f3
    have hfd := tok_field2 k ⟨tt.toArray⟩ (a : Int)
    go_wp2
    have hr := set2f R2.out (.int .i64 5) (.int .i64 (a : Int))
    have hb := (B2.out.setCell (p := ⟨w.heap.size, 0, none⟩) (Nat.le_refl _) (.int .i64 5)).setCell (p := ⟨w.heap.size, 1, none⟩) (Nat.le_refl _) (.int .i64 (a : Int))
    refine bodyPost_ret (results_cell_row rfl _ _ w.heap.size _ _ (0, 0) _ rfl hr Tryz.underlying110 rfl infoFail) rfl ?_
    exact ⟨rfl, hb⟩
end Go.Proofs.YtgbkjdpjilldmaaGreatDoor.Hr
/- hours: the reader in memory; tokens.accept. -/
namespace Go.Proofs.YtgbkjdpjilldmaaGreatDoor.Hr
open Go.RowKit Go.Sort Go.Shelf
open Lx (IsRow alloc1 drew_below Tk B Toks vTok set3 below3 facts3 infoTok)
open St (Sp encS encS_len encS_one)
/-- a number's text: at most seven digits. -/
def Dg (t : B) : Prop := t.length ≤ 7 ∧ Lib.atoi t = some (valN t : Int) ∧ valN t ≤ 9999999
def DgA (ts : List Tk) : Prop := ∀ t ∈ ts, t.k = 2 → Dg t.t
/-- a reader at g, with what it made from b on. -/
def Rh (w : World) (g b e : Nat) (ts : List Tk) (L : List Sp) : Prop :=
  b ≤ g ∧ ∃ ao n c sv, IsRow w g 115 #[.slice ao n c, .int .i64 (e : Int), sv] ∧ ts.length = n ∧ n ≤ c ∧ Toks w b ao ts ∧ OwnS w b sv L ∧ DgA ts
/-- what a reader keeps: all ahead of b, and each row that is neither a reader nor spans. -/
def Kf (b : Nat) (w w' : World) : Prop := Below b w w' ∧ ∀ k t cs, t ≠ 115 → t ≠ 54 → IsRow w k t cs → IsRow w' k t cs
theorem Kf.refl (b : Nat) (w : World) : Kf b w w := ⟨Below.refl _ _, fun _ _ _ _ _ h => h⟩
theorem Kf.trans {b : Nat} {w w1 w2 : World} (h : Kf b w w1) (k : Kf b w1 w2) : Kf b w w2 := ⟨h.1.trans k.1, fun i t cs h1 h2 r => k.2 i t cs h1 h2 (h.2 i t cs h1 h2 r)⟩
theorem Kf.of_below {b : Nat} {w w' : World} (h : Below w.heap.size w w') (hb : b ≤ w.heap.size) : Kf b w w' := ⟨h.mono hb, fun _ _ _ _ _ r => r.below h r.inside⟩
theorem Rh.inside {w : World} {g b e : Nat} {ts : List Tk} {L : List Sp} (h : Rh w g b e ts L) : b ≤ w.heap.size := by
  obtain ⟨h1, _, _, _, _, r, _⟩ := h
  have := r.inside
  omega
theorem Rh.later {w w' : World} {g b e : Nat} {ts : List Tk} {L : List Sp} (h : Rh w g b e ts L) (hb : Below w.heap.size w w') : Rh w' g b e ts L := by
  have hz := h.inside
  obtain ⟨h1, ao, n, c, sv, r, hn, hc, ht, ho, hdg⟩ := h
  exact ⟨h1, ao, n, c, sv, r.below hb r.inside, hn, hc, ht.below hb hz, Own.below ho hb, hdg⟩
theorem Toks.tail {w : World} {b : Nat} {g off : Nat} {t : Tk} {r : List Tk} (h : Toks w b (some ⟨g, off, none⟩) (t :: r)) : Toks w b (some ⟨g, off + 3, none⟩) r := fun h0 => by
  obtain ⟨g2, o2, e, hg, hc⟩ := h (by simp)
  injection e with e
  injection e with e1 e2
  subst e1 e2
  refine ⟨g, off + 3, rfl, hg, fun k t hk => ?_⟩
  have := hc (k + 1) t (by simpa using hk)
  rw [show off + (k + 1) * 3 = off + 3 + k * 3 by omega] at this
  exact this
theorem OwnS.off {w : World} {b g : Nat} {sv : Value} {L : List Sp} {T : TypeId} {cs : Array Value} (h : OwnS w b sv L) (r : IsRow w g T cs) (hT : T ≠ 54) : sv.ownBlock ≠ some g := by
  obtain ⟨h1, ⟨hv, _⟩ | ⟨g', cap', cur, hv, hbase, hb, hc1, hc2, hc3, ht⟩⟩ := h
  · subst hv
    intro e
    cases e
  · subst hv
    intro e
    have e2 : g' = g := by
      injection e
    subst e2
    unfold IsRow at r
    rw [r] at hb
    injection hb with hb
    injection hb with _ hb _
    exact hT hb
theorem Kf.put {b g : Nat} {w : World} {cs : Array Value} (r : IsRow w g 115 cs) (hb : b ≤ g) (i : Nat) (v : Value) : Kf b w (w.setCell ⟨g, i, none⟩ v) := by
  refine ⟨(Below.refl _ _).setCell (p := ⟨g, i, none⟩) hb v, fun k t cs' h1 _ r' => r'.putOther (fun e => ?_) v⟩
  subst e
  unfold IsRow at r r'
  rw [r] at r'
  injection r' with r'
  injection r' with _ r' _
  exact h1 r'.symm
theorem Rh.step {w : World} {g b e n c : Nat} {ts : List Tk} {L : List Sp} {v0 sv : Value} {ao : Option Addr} (r : IsRow w g 115 #[v0, .int .i64 (e : Int), sv]) (ho : OwnS w b sv L) (ht : Toks w b ao ts) (hb : b ≤ g) (hn : ts.length = n) (hc : n ≤ c) (hdg : DgA ts) :
    Rh (w.setCell ⟨g, 0, none⟩ (.slice ao n c)) g b e ts L := by
  have r2 : IsRow (w.setCell ⟨g, 0, none⟩ (.slice ao n c)) g 115 #[.slice ao n c, .int .i64 (e : Int), sv] := by
    have := r.put 0 (.slice ao n c)
    simpa using this
  refine ⟨hb, ao, n, c, sv, r2, hn, hc, ht.below ((Below.refl b w).setCell (p := ⟨g, 0, none⟩) hb _) (Nat.le_refl _), ?_, hdg⟩
  exact Own.kept ho (Lx.grown_put w g 0 _) (.inr (ho.off r (by decide)))
/-- what accept answers and leaves. -/
def AccP (g b e : Nat) (L : List Sp) (ts : List Tk) (w : World) (o : Option (List Tk)) (x : Ending) (w' : World) : Prop :=
  match o with
  | some r => x = .returned (.bool true) ∧ Rh w' g b e r L ∧ Kf b w w'
  | none => x = .returned (.bool false) ∧ Rh w' g b e ts L ∧ Kf b w w'
theorem AccP.no {g b e : Nat} {L : List Sp} {ts : List Tk} {w w' : World} {o : Option (List Tk)} {x : Ending} (ho : o = none) (hx : x = .returned (.bool false)) (h1 : Rh w' g b e ts L) (h2 : Kf b w w') : AccP g b e L ts w o x w' := by
  subst ho
  exact ⟨hx, h1, h2⟩
theorem AccP.yes {g b e : Nat} {L : List Sp} {ts r : List Tk} {w w' : World} {o : Option (List Tk)} {x : Ending} (ho : o = some r) (hx : x = .returned (.bool true)) (h1 : Rh w' g b e r L) (h2 : Kf b w w') : AccP g b e L ts w o x w' := by
  subst ho
  exact ⟨hx, h1, h2⟩
set_option maxRecDepth 100000 in
set_option maxHeartbeats 1000000 in
theorem acc_any (g b e : Nat) (k : Int) (s : B) (ts : List Tk) (L : List Sp) (w : World) (h : Rh w g b e ts L) (hk : k ≠ 0) :
    Calls Tryz.prog 92 #[.pointer (some ⟨g, 0, none⟩), .int .i64 k, .string ⟨s.toArray⟩] w (AccP g b e L ts w (acc k s ts)) := by
  have H := Lib.hid h
  have hz := Lib.hid h.inside
  obtain ⟨h1, ao, n, c, sv, r, hn, hc, ht, ho, hdg⟩ := h
  obtain ⟨c0, c1, _, f0, _, _⟩ := facts3 r
  have NX := Lib.hid (tnext_any g e n c ts ao w c0 c1 hn (ht.more hz.out) hc r.inside)
  have hgw := Lib.hid r.inside
  cases ts with
  | nil =>
    have hk0 : ((0 : Int) == k) = false := by rw [beq_eq_false_iff_ne]; exact fun e => hk e.symm
    have N2 := Lib.hid (show Calls Tryz.prog 126 #[.pointer (some ⟨g, 0, none⟩)] w fun x w' => x = .returned (.agg #[.int .i64 0, .string ⟨#[]⟩, .int .i64 (e : Int)]) ∧ Below w.heap.size w w' from NX.out)
    clear NX r hn ht ho c0 c1 f0 hdg
    go_enter Tryz.func92, Tryz.ntmps92
    go_wp2_with fail
    refine N2.out.mono ?_
    rintro x w2 ⟨rfl, b2⟩
    have b3 := alloc1 w2 (.cells #[.int .i64 0, .string ⟨#[]⟩, .int .i64 (e : Int)] 108)
    have r3 := IsRow.made w2 108 #[.int .i64 0, .string ⟨#[]⟩, .int .i64 (e : Int)]
    have B3 := Lib.hid (b2.trans (b3.mono b2.size))
    clear N2 b2
    go_upto_region 2 with fail
    obtain ⟨w3, hw3⟩ : ∃ w3, w2.alloc (.cells #[.int .i64 0, .string ⟨#[]⟩, .int .i64 (e : Int)] 108) = w3 := ⟨_, rfl⟩
    rw [hw3] at B3 r3 ⊢
    obtain ⟨y0, y1, y2, _, _, _⟩ := facts3 r3
    clear b3 r3 hw3
    go_wp2
    go_ret
    exact AccP.no rfl rfl (H.out.later B3.out) (Kf.of_below B3.out hz.out)
  | cons t q =>
    obtain ⟨g2, o2, rfl, hg2, hcells⟩ := ht (by simp)
    obtain ⟨k', tt, a⟩ := t
    have N2 := Lib.hid (show Calls Tryz.prog 126 #[.pointer (some ⟨g, 0, none⟩)] w fun x w' => x = .returned (.agg #[.int .i64 k', .string ⟨tt.toArray⟩, .int .i64 (a : Int)]) ∧ Below w.heap.size w w' from NX.out)
    have AC := Lib.hid (show acc k s (⟨k', tt, a⟩ :: q) = if k' = k ∧ tt = s then some q else none from rfl)
    have HT := Lib.hid (Toks.tail ht)
    have HN := Lib.hid (show q.length = n - 1 from by have := hn; simp at this; omega)
    have hn1 : 1 ≤ n := by have := hn; simp at this; omega
    have hn1' : (1 : Int) ≤ (n : Int) := by omega
    have hc' : (n : Int) ≤ (c : Int) := by omega
    have HO := Lib.hid ho
    have HDG := Lib.hid (show DgA q from fun t ht => hdg t (List.mem_cons_of_mem _ ht))
    have HR := Lib.hid r
    clear NX r hn ht ho hcells hdg
    go_enter Tryz.func92, Tryz.ntmps92
    go_wp2_with fail
    refine N2.out.mono ?_
    rintro x w2 ⟨rfl, b2⟩
    have b3 := alloc1 w2 (.cells #[.int .i64 k', .string ⟨tt.toArray⟩, .int .i64 (a : Int)] 108)
    have r3 := IsRow.made w2 108 #[.int .i64 k', .string ⟨tt.toArray⟩, .int .i64 (a : Int)]
    have B3 := Lib.hid (b2.trans (b3.mono b2.size))
    clear N2 b2
    go_upto_region 2 with fail
    obtain ⟨w3, hw3⟩ : ∃ w3, w2.alloc (.cells #[.int .i64 k', .string ⟨tt.toArray⟩, .int .i64 (a : Int)] 108) = w3 := ⟨_, rfl⟩
    rw [hw3] at B3 r3 ⊢
    obtain ⟨y0, y1, y2, _, _, _⟩ := facts3 r3
    clear b3 r3 hw3
    by_cases e1 : k' = k
    · subst e1
      by_cases e2 : tt = s
      · subst e2
        have d0 := (B3.out.cell (p := ⟨g, 0, none⟩) hgw.out).trans c0
        have R3 := Lib.hid (HR.out.below B3.out hgw.out)
        have f3 := R3.out.open_ 0
        clear c0 c1 f0
        have hlast : ¬ (n : Int) < 1 := by omega
        have FIN := Lib.hid (fun (v : Value) (hv : ∃ ao, v = .slice ao (n - 1) (c - 1) ∧ Toks w b ao q) => (show Rh (w3.setCell ⟨g, 0, none⟩ v) g b e q L ∧ Kf b w (w3.setCell ⟨g, 0, none⟩ v) from by
          obtain ⟨ao, rfl, hq⟩ := hv
          exact ⟨Rh.step R3.out (Own.below HO.out B3.out) (hq.below B3.out hz.out) h1 HN.out (by omega) HDG.out, (Kf.of_below B3.out hz.out).trans (Kf.put R3.out h1 _ _)⟩))
        by_cases hcap : (c : Int) = 1
        · obtain rfl : q = [] := List.eq_nil_of_length_eq_zero (by rw [HN.out]; omega)
          go_wp2
          go_ret
          obtain ⟨z1, z2⟩ := FIN.out _ ⟨some ⟨g2, o2, none⟩, rfl, fun h => by cases h⟩
          exact AccP.yes (by rw [AC.out]; simp) rfl z1 z2
        go_wp2
        go_ret
        obtain ⟨z1, z2⟩ := FIN.out _ ⟨_, rfl, HT.out⟩
        exact AccP.yes (by rw [AC.out]; simp) rfl z1 z2
      · have e3 : (tt == s) = false := by rw [beq_eq_false_iff_ne]; exact e2
        go_wp2
        go_ret
        exact AccP.no (by rw [AC.out, if_neg (fun h => e2 h.2)]) rfl (H.out.later B3.out) (Kf.of_below B3.out hz.out)
    · have e3 : (k' == k) = false := by rw [beq_eq_false_iff_ne]; exact e1
      go_wp2
      go_ret
      exact AccP.no (by rw [AC.out, if_neg (fun h => e1 h.1)]) rfl (H.out.later B3.out) (Kf.of_below B3.out hz.out)
end Go.Proofs.YtgbkjdpjilldmaaGreatDoor.Hr
/- hours: tokens.symbol. -/
namespace Go.Proofs.YtgbkjdpjilldmaaGreatDoor.Hr
open Go.RowKit Go.Sort Go.Shelf
open Lx (IsRow alloc1 drew_below Tk B Toks vTok set3 below3 facts3 infoTok)
open St (Sp encS encS_len encS_one)
/-- what a reading answers and leaves: its result, or a panic with the failure. -/
def RdP {α : Type} (b : Nat) (w : World) (R : Except Fl α) (ok : α → Ending → World → Prop) (x : Ending) (w' : World) : Prop :=
  match R with
  | .ok a => ok a x w' ∧ Kf b w w'
  | .error f => x = .panicked [{ v := .iface 110 (vFl f), recovered := false }] ∧ Kf b w w'
theorem RdP.yes {α : Type} {b : Nat} {w w' : World} {R : Except Fl α} {ok : α → Ending → World → Prop} {x : Ending} {a : α} (h : R = .ok a) (h1 : ok a x w') (h2 : Kf b w w') : RdP b w R ok x w' := by
  subst h; exact ⟨h1, h2⟩
theorem RdP.no {α : Type} {b : Nat} {w w' : World} {R : Except Fl α} {ok : α → Ending → World → Prop} {x : Ending} {f : Fl} (h : R = .error f) (h1 : x = .panicked [{ v := .iface 110 (vFl f), recovered := false }]) (h2 : Kf b w w') : RdP b w R ok x w' := by
  subst h; exact ⟨h1, h2⟩
/-- unexpected, of a reader. -/
theorem unexp_rh {g b e : Nat} {ts : List Tk} {L : List Sp} {w : World} (h : Rh w g b e ts L) :
    Calls Tryz.prog 95 #[.pointer (some ⟨g, 0, none⟩)] w fun x w' => x = .returned (vFl (unexp e ts)) ∧ Below w.heap.size w w' := by
  have hz := h.inside
  obtain ⟨h1, ao, n, c, sv, r, hn, hc, ht, ho, _⟩ := h
  obtain ⟨c0, c1, _, f0, _, _⟩ := facts3 r
  exact unexp_any g e n c ts ao w c0 c1 hn (ht.more hz) hc r.inside
set_option maxRecDepth 100000 in
set_option maxHeartbeats 1000000 in
theorem sym_any (g b e : Nat) (s : B) (ts : List Tk) (L : List Sp) (w : World) (h : Rh w g b e ts L) :
    Calls Tryz.prog 148 #[.pointer (some ⟨g, 0, none⟩), .string ⟨s.toArray⟩] w (RdP b w (symR s e ts) (fun r x w' => x = .returned (.tuple #[]) ∧ Rh w' g b e r L)) := by
  have AC := Lib.hid (acc_any g b e 4 s ts L w h (by decide))
  obtain ⟨R, hR⟩ : ∃ R, symR s e ts = R := ⟨_, rfl⟩
  rw [hR]
  unfold symR at hR
  cases ho : acc 4 s ts with
  | some r =>
    rw [ho] at AC hR
    have HR := Lib.hid hR
    clear ho hR h
    go_enter Tryz.func148, Tryz.ntmps148
    go_wp2_with fail
    refine AC.out.mono ?_
    rintro x w2 ⟨rfl, h2, k2⟩
    go_wp2
    exact bodyPost_end (results_none rfl _ _ _) rfl (RdP.yes HR.out.symm ⟨rfl, h2⟩ k2)
  | none =>
    rw [ho] at AC hR
    have HR := Lib.hid hR
    clear ho hR h
    go_enter Tryz.func148, Tryz.ntmps148
    go_wp2_with fail
    refine AC.out.mono ?_
    rintro x w2 ⟨rfl, h2, k2⟩
    have UN := Lib.hid (unexp_rh h2)
    have hz := Lib.hid h2.inside
    have K2 := Lib.hid k2
    clear AC k2
    go_wp2_with fail
    refine UN.out.mono ?_
    rintro x w3 ⟨rfl, b3⟩
    have K3 := Lib.hid (K2.out.trans (Kf.of_below b3 hz.out))
    clear b3 K2 UN h2
    go_wp2
    exact ⟨rfl, RdP.no HR.out.symm rfl K3.out⟩
end Go.Proofs.YtgbkjdpjilldmaaGreatDoor.Hr
