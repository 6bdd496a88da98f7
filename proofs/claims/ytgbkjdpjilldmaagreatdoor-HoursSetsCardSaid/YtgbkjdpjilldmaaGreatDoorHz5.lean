/- Merged: LxSkip, LxQuote, LxQuoted. -/
import Derived.Test.YtgbkjdpjilldmaaGreatDoorHz4
import Derived.WalkMore
/- lexer: the reader: comments, gaps. -/
namespace Go.Proofs.YtgbkjdpjilldmaaGreatDoor.Lx
open Go.RowKit
theorem idx_run : ∀ l : B, Lib.indexByte l 10 = if run (· != 10) l < l.length then (run (· != 10) l : Int) else -1
  | [] => rfl
  | c :: l => by
    have ih := idx_run l
    unfold Lib.indexByte
    by_cases h : c = 10
    · subst h
      rw [run_none (by rfl)]
      simp
    · rw [run_step (by simpa using h), if_neg (by simpa using h), ih]
      by_cases h2 : run (· != 10) l < l.length
      · rw [if_pos h2, if_neg (by simp), if_pos (by simpa using h2)]; omega
      · rw [if_neg h2, if_pos (by rfl), if_neg (by simpa using h2)]
theorem ext_end (s : ByteArray) (i : Nat) : (s.extract i s.size).data.toList = s.data.toList.drop i := by
  rw [ext_list]
  exact List.take_of_length_le (Nat.le_of_eq (by rw [List.length_drop, len_data]))
set_option maxRecDepth 100000 in
set_option maxHeartbeats 400000 in
theorem comment_any (g : Nat) (s : ByteArray) (i : Nat) (w : World) (h : Rdr w g s i) (hi : i ≤ s.size) (hm : s.size ≤ 20000) :
    Calls Tryz.prog 124 #[.pointer (some ⟨g, 0, none⟩)] w fun e w' => e = .returned (.tuple #[]) ∧ w.grownBy w' (some g) ∧ Rdr w' g s (i + run (· != 10) (s.data.toList.drop i)) := by
  have hx := idx_run (s.data.toList.drop i)
  have hl := run_le (· != 10) (s.data.toList.drop i)
  rw [show (s.data.toList.drop i).length = s.size - i by simp] at hx hl
  have K0 : ∀ W, Calls Tryz.prog 144 #[.string (s.extract i s.size), .int .u8 10] W fun e w' => e = .returned (.int .i64 (Lib.indexByte (s.data.toList.drop i) 10)) ∧ w' = W := fun W => by
    have k := Tryz.strings_IndexByte (s.extract i s.size) 10 W
    rw [ext_end] at k
    exact k
  obtain ⟨n, hn⟩ : ∃ n, run (· != 10) (s.data.toList.drop i) = n := ⟨_, rfl⟩
  obtain ⟨q, hq⟩ : ∃ q, Lib.indexByte (s.data.toList.drop i) 10 = q := ⟨_, rfl⟩
  rw [hn] at hx hl ⊢
  rw [hq] at hx K0
  have HR := Lib.hid h
  have c0 := h.text
  have c1 := h.at_
  have f1 := h.open_ 1
  have l1 : (i : Int) ≤ (s.size : Int) := by omega
  clear hn hq h
  by_cases hlt : n < s.size - i
  · rw [if_pos hlt] at hx
    subst hx
    have R3 : Hid (∀ k, Rdr ((w.drewN k).setCell ⟨g, 1, none⟩ (.int .i64 ((i : Int) + (n : Int)))) g s (i + n)) := fun k => by
      rw [show (i : Int) + (n : Int) = ((i + n : Nat) : Int) by omega]; exact Rdr.put (HR.out.below (below_drewN (Below.refl _ _) k)) _
    have G3 : Hid (∀ k, w.grownBy ((w.drewN k).setCell ⟨g, 1, none⟩ (.int .i64 ((i : Int) + (n : Int)))) (some g)) := fun k => grown_trans (grown_of_below (below_drewN (Below.refl _ _) k) _) (grown_put _ _ _ _)
    have hge : ¬ (n : Int) < 0 := by omega
    go_enter Tryz.func124, Tryz.ntmps124
    go_wp2
    go_quiet (exact Calls.quiet_of_same (K0 _))
    go_wp2
    go_end0
    exact ⟨rfl, G3.out _, R3.out _⟩
  · rw [if_neg hlt] at hx
    subst hx
    have hn2 : (i : Int) + ((s.size : Int) - (i : Int)) = ((i + n : Nat) : Int) := by omega
    have R3 : Hid (∀ k, Rdr ((w.drewN k).setCell ⟨g, 1, none⟩ (.int .i64 ((i : Int) + ((s.size : Int) - (i : Int))))) g s (i + n)) := fun k => by
      rw [hn2]; exact Rdr.put (HR.out.below (below_drewN (Below.refl _ _) k)) _
    have G3 : Hid (∀ k, w.grownBy ((w.drewN k).setCell ⟨g, 1, none⟩ (.int .i64 ((i : Int) + ((s.size : Int) - (i : Int))))) (some g)) := fun k => grown_trans (grown_of_below (below_drewN (Below.refl _ _) k) _) (grown_put _ _ _ _)
    clear hn2
    go_enter Tryz.func124, Tryz.ntmps124
    go_wp2
    go_quiet (exact Calls.quiet_of_same (K0 _))
    go_wp2
    go_quiet (fail)
    go_wp2
    go_end0
    exact ⟨rfl, G3.out _, R3.out _⟩
theorem and_blk : ∀ l : B, (bits .and .u8 (hdc l : Int) ((8 : Nat) : Int) != 0) = hd isBlk l
  | [] => rfl
  | c :: _ => (all_u8 (P := fun c => (bits .and .u8 (cls c : Int) ((8 : Nat) : Int) != 0) = isBlk c) (by decide +kernel)) c
theorem and_word : ∀ l : B, (bits .and .u8 (hdc l : Int) ((7 : Nat) : Int) != 0) = hd isWord l
  | [] => rfl
  | c :: _ => (all_u8 (P := fun c => (bits .and .u8 (cls c : Int) ((7 : Nat) : Int) != 0) = isWord c) (by decide +kernel)) c
theorem and_dig : ∀ l : B, (bits .and .u8 (hdc l : Int) ((2 : Nat) : Int) != 0) = hd isDig l
  | [] => rfl
  | c :: _ => (all_u8 (P := fun c => (bits .and .u8 (cls c : Int) ((2 : Nat) : Int) != 0) = isDig c) (by decide +kernel)) c
theorem and_gap : ∀ l : B, (bits .and .u8 (hdc l : Int) 24 != 0) = hd (fun c => isBlk c || c == 35) l
  | [] => rfl
  | c :: _ => (all_u8 (P := fun c => (bits .and .u8 (cls c : Int) 24 != 0) = (isBlk c || c == 35)) (by decide +kernel)) c
theorem is_hash : ∀ l : B, ((hdc l : Int) == 16) = hd (· == 35) l
  | [] => rfl
  | c :: _ => (all_u8 (P := fun c => ((cls c : Int) == 16) = (c == 35)) (by decide +kernel)) c
theorem blk_any (g : Nat) (s : ByteArray) (i : Nat) (w : World) (h : Rdr w g s i) (hi : i ≤ s.size) (hm : s.size ≤ 20000) :
    Calls Tryz.prog 123 #[.pointer (some ⟨g, 0, none⟩), .int .u8 8] w fun e w' => e = .returned (.string (s.extract i (i + run isBlk (s.data.toList.drop i)))) ∧ w.grownBy w' (some g) ∧ Rdr w' g s (i + run isBlk (s.data.toList.drop i)) := take_any g 8 isBlk and_blk s i w h hi hm
theorem gp_zero_of {l : B} (h : hd (fun c => isBlk c || c == 35) l = false) : gp false l = 0 := by
  cases l with
  | nil => rfl
  | cons c l =>
    simp only [hd, Bool.or_eq_false_iff, beq_eq_false_iff_ne, ne_eq] at h
    exact gp_zero h.1 h.2
/-- one round of skipGaps. -/
theorem gp_round {l : B} (h : hd (fun c => isBlk c || c == 35) l = true) :
    (hd (· == 35) (l.drop (run isBlk l)) = true → gp false l = run isBlk l + run (· != 10) (l.drop (run isBlk l)) + gp false (l.drop (run isBlk l + run (· != 10) (l.drop (run isBlk l)))) ∧ 1 ≤ run (· != 10) (l.drop (run isBlk l))) ∧
    (hd (· == 35) (l.drop (run isBlk l)) = false → gp false l = run isBlk l ∧ gp false (l.drop (run isBlk l)) = 0 ∧ 1 ≤ run isBlk l) := by
  have hb := gp_blk l
  have hh := run_hd isBlk l
  refine ⟨fun h2 => ?_, fun h2 => ?_⟩
  · cases hl : l.drop (run isBlk l) with
    | nil => rw [hl] at h2; cases h2
    | cons c m =>
      rw [hl] at h2 hb
      have hc : c = 35 := by simpa [hd] using h2
      rw [gp_hash hc, ← hl, List.drop_drop] at hb
      rw [← hl]
      refine ⟨by omega, ?_⟩
      rw [hl, run_step (by subst hc; decide)]
      omega
  · have hz : gp false (l.drop (run isBlk l)) = 0 := by
      refine gp_zero_of ?_
      cases hl : l.drop (run isBlk l) with
      | nil => rfl
      | cons c m => rw [hl] at hh h2; simp only [hd] at hh h2 ⊢; rw [hh, h2]; rfl
    refine ⟨by omega, hz, ?_⟩
    cases l with
    | nil => cases h
    | cons c m =>
      by_cases hc : isBlk c
      · rw [run_step hc]; omega
      · rw [run_none (by simpa using hc), List.drop_zero] at h2
        simp only [hd] at h h2
        rw [h2, Bool.or_false] at h
        exact absurd h hc
set_option maxRecDepth 100000 in
set_option maxHeartbeats 400000 in
theorem gaps_any (g : Nat) (s : ByteArray) (i : Nat) (w : World) (h : Rdr w g s i) (hi : i ≤ s.size) (hm : s.size ≤ 20000) :
    Calls Tryz.prog 90 #[.pointer (some ⟨g, 0, none⟩)] w fun e w' => e = .returned (.tuple #[]) ∧ w.grownBy w' (some g) ∧ Rdr w' g s (i + gp false (s.data.toList.drop i)) := by
  have hl := gp_le false (s.data.toList.drop i)
  rw [show (s.data.toList.drop i).length = s.size - i by simp] at hl
  obtain ⟨n, hn⟩ : ∃ n, gp false (s.data.toList.drop i) = n := ⟨_, rfl⟩
  rw [hn] at hl ⊢
  have HN := Lib.hid hn
  have HR := Lib.hid h
  clear hn h
  go_enter Tryz.func90, Tryz.ntmps90
  go_wp2
  go_loopg [] n (fun q wr => ∃ j : Nat, Hid (j + q = n) ∧ j ≤ n ∧ Hid (gp false (s.data.toList.drop (i + j)) = q) ∧ Hid (w.grownBy wr (some g)) ∧ Hid (Rdr wr g s (i + j)))
  case atStart => exact ⟨0, Lib.hid (by omega), by omega, HN, Lib.hid (grown_refl _ _), HR⟩
  case round =>
    clear HN HR
    obtain ⟨j, HJ0, hj, HJ, HG, HR⟩ := hrel
    have K0 := class_any g s (i + j) wr HR.out (by omega)
    have hq := and_gap (s.data.toList.drop (i + j))
    cases hb : hd (fun c => isBlk c || c == 35) (s.data.toList.drop (i + j)) with
    | true =>
      rw [hb] at hq
      have HP := Lib.hid (gp_round hb)
      obtain ⟨a, ha⟩ : ∃ a, run isBlk (s.data.toList.drop (i + j)) = a := ⟨_, rfl⟩
      have hal := run_le isBlk (s.data.toList.drop (i + j))
      rw [show (s.data.toList.drop (i + j)).length = s.size - (i + j) by simp, ha] at hal
      have K1 := fun W hR => blk_any g s (i + j) W hR (by omega) hm
      have K2 := fun W hR => class_any g s (i + j + a) W hR (by omega)
      have hq2 := is_hash (s.data.toList.drop (i + j + a))
      have hbl := run_le (· != 10) (s.data.toList.drop (i + j + a))
      obtain ⟨b, hb2⟩ : ∃ b, run (· != 10) (s.data.toList.drop (i + j + a)) = b := ⟨_, rfl⟩
      rw [show (s.data.toList.drop (i + j + a)).length = s.size - (i + j + a) by simp, hb2] at hbl
      have K3 := fun W hR => comment_any g s (i + j + a) W hR (by omega) hm
      have HP2 : Hid ((hd (· == 35) (s.data.toList.drop (i + j + a)) = true → gk = a + b + gp false (s.data.toList.drop (i + j + a + b)) ∧ 1 ≤ b) ∧ (hd (· == 35) (s.data.toList.drop (i + j + a)) = false → gk = a ∧ gp false (s.data.toList.drop (i + j + a)) = 0 ∧ 1 ≤ a)) := by
        have := HP.out
        rw [List.drop_drop, ha, List.drop_drop, HJ.out, hb2, show i + j + (a + b) = i + j + a + b by omega] at this
        exact this
      rw [ha] at K1
      rw [hb2] at K3
      obtain ⟨N, hN⟩ : ∃ N, hdc (s.data.toList.drop (i + j)) = N := ⟨_, rfl⟩
      obtain ⟨M, hM⟩ : ∃ M, hdc (s.data.toList.drop (i + j + a)) = M := ⟨_, rfl⟩
      rw [hN] at K0 hq
      rw [hM] at K2 hq2
      cases hh : hd (· == 35) (s.data.toList.drop (i + j + a)) with
      | true =>
        rw [hh] at hq2
        have HF := Lib.hid (HP2.out.1 hh)
        clear hb hN hM hh ha hb2 HP HP2
        go_wp2_with (first
          | ((with_reducible refine K0.mono ?_); rintro e w2 ⟨rfl, hb2⟩; have R2 := HR.out.below hb2)
          | ((with_reducible refine (K1 _ R2).mono ?_); rintro e w3 ⟨rfl, hg3, R3⟩)
          | ((with_reducible refine (K2 _ R3).mono ?_); rintro e w4 ⟨rfl, hb4⟩; have R4 := R3.below hb4)
          | ((with_reducible refine (K3 _ R4).mono ?_); rintro e w5 ⟨rfl, hg5, R5⟩))
        have G5 := Lib.hid (grown_trans (grown_trans (grown_trans (grown_trans HG.out (grown_of_below hb2 _)) hg3) (grown_of_below hb4 _)) hg5)
        go_roundg (gp false (s.data.toList.drop (i + j + a + b)))
        case rel => exact ⟨j + a + b, Lib.hid (by have := HF.out; have := HJ0.out; omega), by have := HF.out; have := HJ0.out; omega, Lib.hid (by rw [show i + (j + a + b) = i + j + a + b by omega]), G5, Lib.hid (by rw [show i + (j + a + b) = i + j + a + b by omega]; exact R5)⟩
        case measure => have := HF.out; omega
      | false =>
        rw [hh] at hq2
        have HF := Lib.hid (HP2.out.2 hh)
        clear hb hN hM hh ha hb2 HP HP2
        go_wp2_with (first
          | ((with_reducible refine K0.mono ?_); rintro e w2 ⟨rfl, hb2⟩; have R2 := HR.out.below hb2)
          | ((with_reducible refine (K1 _ R2).mono ?_); rintro e w3 ⟨rfl, hg3, R3⟩)
          | ((with_reducible refine (K2 _ R3).mono ?_); rintro e w4 ⟨rfl, hb4⟩; have R4 := R3.below hb4))
        have G5 := Lib.hid (grown_trans (grown_trans (grown_trans HG.out (grown_of_below hb2 _)) hg3) (grown_of_below hb4 _))
        go_roundg 0
        case rel => exact ⟨j + a, Lib.hid (by have := HF.out; have := HJ0.out; omega), by have := HF.out; have := HJ0.out; omega, Lib.hid (by rw [show i + (j + a) = i + j + a by omega]; exact HF.out.2.1), G5, Lib.hid (by rw [show i + (j + a) = i + j + a by omega]; exact R4)⟩
        case measure => have := HF.out; omega
    | false =>
      rw [hb] at hq
      have hz := gp_zero_of hb
      obtain rfl : j = n := by have := HJ.out; have := HJ0.out; omega
      obtain ⟨N, hN⟩ : ∃ N, hdc (s.data.toList.drop (i + j)) = N := ⟨_, rfl⟩
      rw [hN] at K0 hq
      clear hb hN HJ hz
      go_wp2_with ((with_reducible refine K0.mono ?_); rintro e w2 ⟨rfl, hb2⟩; have R2 := HR.out.below hb2)
      go_end0
      exact ⟨rfl, grown_trans HG.out (grown_of_below hb2 _), R2⟩
end Go.Proofs.YtgbkjdpjilldmaaGreatDoor.Lx
/- lexer.Quote; the reader's quoted; pair. -/
namespace Go.Proofs.YtgbkjdpjilldmaaGreatDoor.Lx
open Go.RowKit
theorem esc_app (a b : B) : esc (a ++ b) = esc a ++ esc b := by
  induction a with
  | nil => rfl
  | cons c a ih =>
    rw [List.cons_append, esc, esc, ih]
    (repeat' split) <;> simp
theorem esc_len : ∀ l : B, (esc l).length ≤ 2 * l.length
  | [] => Nat.le_refl _
  | c :: l => by
    have := esc_len l
    rw [esc]
    (repeat' split) <;> simp <;> omega
theorem take_snoc (s : ByteArray) (k : Nat) (h : k < s.size) : s.data.toList.take (k + 1) = s.data.toList.take k ++ [s[k]] := by
  rw [List.take_succ_eq_append_getElem (by simpa using h)]; rfl
theorem cells_one (l : B) (c : UInt8) : Lib.byteCells (l ++ [c]) = Lib.byteCells l ++ [.int .u8 c.toNat] := by rw [Lib.byteCells_append]; rfl
theorem cells_str : Lib.strCells ⟨#[92, 110]⟩ = Lib.byteCells [92, 110] := rfl
set_option maxRecDepth 100000 in
set_option maxHeartbeats 1000000 in
theorem quote_any (s : ByteArray) (w : World) (hm : s.size ≤ 100000) :
    Calls Tryz.prog 82 #[.string s] w fun e w' => e = .returned (.string ⟨(quote s.data.toList).toArray⟩) ∧ Below w.heap.size w w' := by
  go_enter Tryz.func82, Tryz.ntmps82
  go_wp2_with fail
  refine (writeByte_any w.heap.size w.heap.size (Lib.byteCells []) _ _ (Lib.fresh_isBuilder _ _ _) (by simp [Lib.byteCells_length])).mono ?_
  rintro e w1 ⟨rfl, hu1, hb1⟩
  have U1 : Hid (Holds w.heap.size w.heap.size (Lib.byteCells (34 :: esc (s.data.toList.take 0))) w1) := .inr hu1
  have B1 : Hid (Below w.heap.size w w1) := ((Below.refl _ _).alloc (Nat.le_refl _) _).trans hb1
  clear hu1 hb1
  go_wp2
  go_loopw [9] (fun i wr => ∃ k : Nat, k ≤ s.size ∧ i = .int .i64 k ∧ Hid (Holds w.heap.size w.heap.size (Lib.byteCells (34 :: esc (s.data.toList.take k))) wr) ∧ Hid (Below w.heap.size w wr)) (fun i _ => s.size - (intOf i).toNat)
  case atStart => exact ⟨0, by omega, rfl, U1, B1⟩
  case round =>
    clear U1 B1
    obtain ⟨k, hk, rfl, HU, HB⟩ := hrel
    have hlen := esc_len (s.data.toList.take k)
    have htl : (s.data.toList.take k).length ≤ k := List.length_take_le _ _
    by_cases hlt : k < s.size
    · have HT := Lib.hid (take_snoc s k hlt)
      by_cases h92 : s[k] = 92 ∨ s[k] = 34
      · have HN : Hid (Lib.byteCells (34 :: esc (s.data.toList.take (k + 1))) = Lib.byteCells (34 :: esc (s.data.toList.take k)) ++ [.int .u8 92] ++ [.int .u8 s[k].toNat]) := by
          rw [HT.out, esc_app, show esc [s[k]] = [92] ++ [s[k]] by rw [esc, if_pos h92]; rfl, ← List.append_assoc, show (34 :: (esc (s.data.toList.take k) ++ [92] ++ [s[k]]) : B) = (34 :: esc (s.data.toList.take k)) ++ [92] ++ [s[k]] by simp, cells_one, cells_one]; rfl
        have fin : ∀ w2, Hid (Used w.heap.size w.heap.size (Lib.byteCells (34 :: esc (s.data.toList.take k)) ++ [.int .u8 92] ++ [.int .u8 s[k].toNat]) w2) → Hid (Holds w.heap.size w.heap.size (Lib.byteCells (34 :: esc (s.data.toList.take (k + 1)))) w2) := fun w2 h => by rw [HN.out]; exact .inr h.out
        have FIN := Lib.hid fin
        clear fin HN
        by_cases h34 : s[k] = 92
        · have e1 : ((s[k].toNat : Int) == 92) = true := by rw [h34]; rfl
          clear h34 h92
          go_wp2_with fail
          refine (writeByte_any _ _ _ _ _ HU.out (by simp [Lib.byteCells_length]; omega)).mono ?_
          rintro e w2 ⟨rfl, hu2, hb2⟩
          have U2 := Lib.hid hu2
          have B2 := Lib.hid (HB.out.trans hb2)
          clear hu2 hb2
          go_wp2_with fail
          refine (writeByte_any _ _ _ _ _ (.inr U2.out) (by simp [Lib.byteCells_length]; omega)).mono ?_
          rintro e w3 ⟨rfl, hu3, hb3⟩
          have U3 := FIN.out w3 (Lib.hid hu3)
          have B3 := Lib.hid (B2.out.trans hb3)
          clear hu3 hb3 U2 B2
          go_wp2
          go_roundw
          case rel => exact ⟨k + 1, by omega, by go_num, U3, B3⟩
          case measure => simp [intOf]; omega
        · have h34' : s[k] = 34 := h92.resolve_left h34
          have e1 : ((s[k].toNat : Int) == 92) = false := by rw [h34']; rfl
          have e2 : ((s[k].toNat : Int) == 34) = true := by rw [h34']; rfl
          clear h34 h34' h92
          go_wp2_with fail
          refine (writeByte_any _ _ _ _ _ HU.out (by simp [Lib.byteCells_length]; omega)).mono ?_
          rintro e w2 ⟨rfl, hu2, hb2⟩
          have U2 := Lib.hid hu2
          have B2 := Lib.hid (HB.out.trans hb2)
          clear hu2 hb2
          go_wp2_with fail
          refine (writeByte_any _ _ _ _ _ (.inr U2.out) (by simp [Lib.byteCells_length]; omega)).mono ?_
          rintro e w3 ⟨rfl, hu3, hb3⟩
          have U3 := FIN.out w3 (Lib.hid hu3)
          have B3 := Lib.hid (B2.out.trans hb3)
          clear hu3 hb3 U2 B2
          go_wp2
          go_roundw
          case rel => exact ⟨k + 1, by omega, by go_num, U3, B3⟩
          case measure => simp [intOf]; omega
      · have e1 : ((s[k].toNat : Int) == 92) = false := by
          have := u8_beq s[k] 92 (by decide)
          rw [show ((92 : Nat) : Int) = 92 from rfl] at this
          rw [this, beq_eq_false_iff_ne]
          exact fun e => h92 (.inl e)
        have e2 : ((s[k].toNat : Int) == 34) = false := by
          have := u8_beq s[k] 34 (by decide)
          rw [show ((34 : Nat) : Int) = 34 from rfl] at this
          rw [this, beq_eq_false_iff_ne]
          exact fun e => h92 (.inr e)
        by_cases h10 : s[k] = 10
        · have e3 : ((s[k].toNat : Int) == 10) = true := by rw [h10]; rfl
          have HN : Hid (Lib.byteCells (34 :: esc (s.data.toList.take (k + 1))) = Lib.byteCells (34 :: esc (s.data.toList.take k)) ++ Lib.byteCells [92, 110]) := by
            rw [HT.out, esc_app, show esc [s[k]] = [92, 110] by rw [esc, if_neg h92, if_pos h10]; rfl, ← List.cons_append, Lib.byteCells_append]; exact Lib.hid rfl
          clear h10 h92
          go_wp2_with fail
          refine (writeString_any _ _ _ _ _ HU.out (by simp [Lib.byteCells_length, ByteArray.size]; omega)).mono ?_
          rintro e w2 ⟨rfl, hu2, hb2⟩
          have U2 : Hid (Holds w.heap.size w.heap.size (Lib.byteCells (34 :: esc (s.data.toList.take (k + 1)))) w2) := by
            rw [HN.out, ← cells_str]; exact .inr hu2
          have B2 := Lib.hid (HB.out.trans hb2)
          clear hu2 hb2
          go_wp2
          go_roundw
          case rel => exact ⟨k + 1, by omega, by go_num, U2, B2⟩
          case measure => simp [intOf]; omega
        · have e3 : ((s[k].toNat : Int) == 10) = false := by
            have := u8_beq s[k] 10 (by decide)
            rw [show ((10 : Nat) : Int) = 10 from rfl] at this
            rw [this, beq_eq_false_iff_ne]
            exact h10
          have HN : Hid (Lib.byteCells (34 :: esc (s.data.toList.take (k + 1))) = Lib.byteCells (34 :: esc (s.data.toList.take k)) ++ [.int .u8 s[k].toNat]) := by
            rw [HT.out, esc_app, show esc [s[k]] = [s[k]] by rw [esc, if_neg h92, if_neg h10]; rfl, ← List.cons_append, cells_one]; exact Lib.hid rfl
          have fin : ∀ w2, Hid (Used w.heap.size w.heap.size (Lib.byteCells (34 :: esc (s.data.toList.take k)) ++ [.int .u8 s[k].toNat]) w2) → Hid (Holds w.heap.size w.heap.size (Lib.byteCells (34 :: esc (s.data.toList.take (k + 1)))) w2) := fun w2 h => by rw [HN.out]; exact .inr h.out
          have FIN := Lib.hid fin
          clear fin HN h10 h92
          go_wp2_with fail
          refine (writeByte_any _ _ _ _ _ HU.out (by simp [Lib.byteCells_length]; omega)).mono ?_
          rintro e w2 ⟨rfl, hu2, hb2⟩
          have U2 := FIN.out w2 (Lib.hid hu2)
          have B2 := Lib.hid (HB.out.trans hb2)
          clear hu2 hb2
          go_wp2
          go_roundw
          case rel => exact ⟨k + 1, by omega, by go_num, U2, B2⟩
          case measure => simp [intOf]; omega
    · obtain rfl : k = s.size := by omega
      rw [List.take_of_length_le (show s.data.toList.length ≤ s.size by rw [len_data]; exact Nat.le_refl _)] at HU hlen
      have hls := Nat.le_of_eq (len_data s)
      go_wp2_with fail
      refine (writeByte_any _ _ _ _ _ HU.out (by simp [Lib.byteCells_length]; omega)).mono ?_
      rintro e w2 ⟨rfl, hu2, hb2⟩
      have U2 : Hid (Holds w.heap.size w.heap.size (Lib.byteCells (quote s.data.toList)) w2) := by
        unfold quote
        rw [← List.cons_append, cells_one]
        exact .inr hu2
      have B2 := Lib.hid (HB.out.trans hb2)
      clear hu2 hb2
      go_wp2_with fail
      refine (Tryz.Builder_String_any w.heap.size w.heap.size _ _ U2.out B2.out.size).mono ?_
      rintro e w' ⟨rfl, hbx⟩
      go_wp2
      go_ret
      exact ⟨rfl, B2.out.trans hbx⟩
end Go.Proofs.YtgbkjdpjilldmaaGreatDoor.Lx
/- lexer: pair; the reader's quoted. -/
namespace Go.Proofs.YtgbkjdpjilldmaaGreatDoor.Lx
open Go.RowKit
/-- what a pair stands for, behind its stroke. -/
def prv : B → UInt8
  | [] => 0
  | d :: _ => if d = 92 ∨ d = 34 then d else if d = 110 then 10 else 0
def prk : B → Bool
  | [] => false
  | d :: _ => d == 92 || d == 34 || d == 110
theorem pre_two (d : UInt8) : ∀ l : B, Lib.hasPrefix (92 :: l) [92, d] = hd (· == d) l
  | [] => by rfl
  | c :: l => by
    show ([92, d] : B).isPrefixOf (92 :: c :: l) = (c == d)
    simp only [List.isPrefixOf, beq_self_eq_true, Bool.true_and, Bool.and_true]
    rw [Bool.eq_iff_iff]; simp; exact ⟨fun h => h.symm, fun h => h.symm⟩
set_option maxRecDepth 100000 in
set_option maxHeartbeats 400000 in
theorem pair_any (s : ByteArray) (l : B) (w : World) (hl : s.data.toList = 92 :: l) :
    Calls Tryz.prog 145 #[.string s] w fun e w' => e = .returned (.tuple #[.int .u8 (prv l).toNat, .bool (prk l)]) ∧ w' = w := by
  have k1 := fun W => Tryz.strings_HasPrefix s ⟨#[92, 92]⟩ W
  have k2 := fun W => Tryz.strings_HasPrefix s ⟨#[92, 34]⟩ W
  have k3 := fun W => Tryz.strings_HasPrefix s ⟨#[92, 110]⟩ W
  rw [hl] at k1 k2 k3
  rw [show (ByteArray.mk #[92, 92]).data.toList = [92, 92] from rfl, pre_two] at k1
  rw [show (ByteArray.mk #[92, 34]).data.toList = [92, 34] from rfl, pre_two] at k2
  rw [show (ByteArray.mk #[92, 110]).data.toList = [92, 110] from rfl, pre_two] at k3
  clear hl
  have H : Hid ((prv l, prk l) = if hd (· == 92) l = true then (92, true) else if hd (· == 34) l = true then (34, true) else if hd (· == 110) l = true then (10, true) else (0, false)) := by
    cases l with
    | nil => exact Lib.hid rfl
    | cons d m =>
      have : ∀ d : UInt8, ((if d = 92 ∨ d = 34 then d else if d = 110 then 10 else 0 : UInt8), (d == 92 || d == 34 || d == 110)) = if (d == 92) = true then ((92 : UInt8), true) else if (d == 34) = true then (34, true) else if (d == 110) = true then (10, true) else (0, false) := all_u8 (by decide +kernel)
      exact Lib.hid (this d)
  generalize prv l = v at *
  generalize prk l = b at *
  cases h1 : hd (· == 92) l with
  | true =>
    rw [h1] at k1
    have e := H.out
    rw [h1, if_pos rfl] at e
    obtain ⟨rfl, rfl⟩ := Prod.mk.inj e
    clear h1 H e
    go_enter Tryz.func145, Tryz.ntmps145
    go_wp2_with ((with_reducible refine (k1 _).mono ?_); rintro e w' ⟨rfl, rfl⟩)
    go_ret2
    exact ⟨rfl, rfl⟩
  | false =>
    rw [h1] at k1
    cases h2 : hd (· == 34) l with
    | true =>
      rw [h2] at k2
      have e := H.out
      rw [h1, if_neg (by decide), h2, if_pos rfl] at e
      obtain ⟨rfl, rfl⟩ := Prod.mk.inj e
      clear h1 h2 H e
      go_enter Tryz.func145, Tryz.ntmps145
      go_wp2_with (first | ((with_reducible refine (k1 _).mono ?_); rintro e w' ⟨rfl, rfl⟩) | ((with_reducible refine (k2 _).mono ?_); rintro e w' ⟨rfl, rfl⟩))
      go_ret2
      exact ⟨rfl, rfl⟩
    | false =>
      rw [h2] at k2
      cases h3 : hd (· == 110) l with
      | true =>
        rw [h3] at k3
        have e := H.out
        rw [h1, if_neg (by decide), h2, if_neg (by decide), h3, if_pos rfl] at e
        obtain ⟨rfl, rfl⟩ := Prod.mk.inj e
        clear h1 h2 h3 H e
        go_enter Tryz.func145, Tryz.ntmps145
        go_wp2_with (first | ((with_reducible refine (k1 _).mono ?_); rintro e w' ⟨rfl, rfl⟩) | ((with_reducible refine (k2 _).mono ?_); rintro e w' ⟨rfl, rfl⟩) | ((with_reducible refine (k3 _).mono ?_); rintro e w' ⟨rfl, rfl⟩))
        go_ret2
        exact ⟨rfl, rfl⟩
      | false =>
        rw [h3] at k3
        have e := H.out
        rw [h1, if_neg (by decide), h2, if_neg (by decide), h3, if_neg (by decide)] at e
        obtain ⟨rfl, rfl⟩ := Prod.mk.inj e
        clear h1 h2 h3 H e
        go_enter Tryz.func145, Tryz.ntmps145
        go_wp2_with (first | ((with_reducible refine (k1 _).mono ?_); rintro e w' ⟨rfl, rfl⟩) | ((with_reducible refine (k2 _).mono ?_); rintro e w' ⟨rfl, rfl⟩) | ((with_reducible refine (k3 _).mono ?_); rintro e w' ⟨rfl, rfl⟩))
        go_ret2
        exact ⟨rfl, rfl⟩
theorem st_true (l : B) : st true l = if prk l then (st false (l.drop 1)).map fun r => (prv l :: r.1, r.2 + 1) else none := by
  cases l with
  | nil => rfl
  | cons d m =>
    rw [st, List.drop_succ_cons, List.drop_zero, show prk (d :: m) = (d == 92 || d == 34 || d == 110) from rfl, show prv (d :: m) = if d = 92 ∨ d = 34 then d else if d = 110 then 10 else 0 from rfl]
    by_cases h1 : d = 92 ∨ d = 34
    · rw [if_pos h1, if_pos (by rcases h1 with rfl | rfl <;> rfl), if_pos h1]
    · rw [if_neg h1, if_neg h1]
      by_cases h2 : d = 110
      · subst h2; rfl
      · rw [if_neg h2, if_neg]
        intro h
        simp only [Bool.or_eq_true, beq_iff_eq] at h
        rcases h with h | h
        · exact h1 h
        · exact h2 h
def cont (acc : B) (n : Nat) (o : Option (B × Nat)) : Option (B × Nat) := o.map fun r => (acc ++ r.1, n + r.2)
theorem cont_start (o : Option (B × Nat)) : o = cont [] 0 o := by cases o <;> simp [cont]
theorem cont_plain {acc l : B} {c : UInt8} {n : Nat} (h1 : c ≠ 34) (h2 : c ≠ 10) (h3 : c ≠ 92) : cont acc n (st false (c :: l)) = cont (acc ++ [c]) (n + 1) (st false l) := by
  rw [st, if_neg h1, if_neg h2, if_neg h3]
  unfold cont
  cases st false l with
  | none => rfl
  | some r => simp; omega
theorem cont_pair {acc l : B} {n : Nat} (h : prk l = true) : cont acc n (st false (92 :: l)) = cont (acc ++ [prv l]) (n + 2) (st false (l.drop 1)) := by
  rw [st, if_neg (by decide), if_neg (by decide), if_pos rfl, st_true, if_pos h]
  unfold cont
  cases st false (l.drop 1) with
  | none => rfl
  | some r => simp; omega
theorem cont_nopair {acc l : B} {n : Nat} (h : prk l = false) : cont acc n (st false (92 :: l)) = none := by
  rw [st, if_neg (by decide), if_neg (by decide), if_pos rfl, st_true, h]; rfl
/-- a call that leaves its world as it was, in a region behind others that drew. -/
theorem still_again {P : Program} {f : FuncId} {args : Array Value} {v : Value} (k : ∀ W, Calls P f args W fun e w' => e = .returned v ∧ w' = W) (w : World) (a n : Nat) :
    Calls P f args (w.drewN (a + n)) fun e w' => e = .returned v ∧ ∃ m, w' = w.drewN (a + m) := (k _).mono fun _ _ h => ⟨h.1, n, h.2⟩
/-- what quoted answers and leaves. -/
def QOut (w : World) (g : Nat) (s : ByteArray) (i : Nat) (o : Option (B × Nat)) (e : Ending) (w' : World) : Prop :=
  match o with
  | some r => e = .returned (.tuple #[.string ⟨r.1.toArray⟩, .int .i64 0]) ∧ w.grownBy w' (some g) ∧ Rdr w' g s (i + 1 + r.2)
  | none => e = .returned (.tuple #[.string ⟨#[]⟩, .int .i64 3]) ∧ w.grownBy w' (some g)
theorem used_put {B b : Nat} {p : Value} {bs : List Value} {w : World} (h : Lib.BuilderAt 92 5 B b p bs w) (g j : Nat) (hg : g < B) (u : Value) : Lib.BuilderAt 92 5 B b p bs (w.setCell ⟨g, j, none⟩ u) := by
  obtain ⟨hB, v, hbk, hown, hne⟩ := h
  refine ⟨hB, v, (Below.heap_setCell w ⟨g, j, none⟩ u b (by show b ≠ g; omega)).trans hbk, hown.kept (row := some g) (grown_put w g j u) (Or.inr fun e => ?_), hne⟩
  have := (hown.lt g e).1
  omega
theorem Holds.put {B b : Nat} {bs : List Value} {w : World} (h : Holds B b bs w) (g j : Nat) (hg : g < B) (u : Value) : Holds B b bs (w.setCell ⟨g, j, none⟩ u) := by
  rcases h with h | h
  · exact .inl (used_put h g j hg u)
  · exact .inr (used_put h g j hg u)
theorem grown_b {w w1 w2 : World} {row : Option Nat} (h : w.grownBy w1 row) (hb : Below w.heap.size w1 w2) : w.grownBy w2 row :=
  ⟨hb.os.trans h.os, hb.tape.trans h.tape, hb.output.trans h.output, Nat.le_trans h.size hb.size, fun i hi hne => (hb.block i hi).trans (h.block i hi hne)⟩
theorem Rdr.belowB {w w' : World} {g B : Nat} {s : ByteArray} {i : Nat} (h : Rdr w g s i) (hb : Below B w w') (hg : g < B) : Rdr w' g s i := IsRow.below h hb hg
/-- what stands between two rounds of quoted. -/
structure QInv (w : World) (g : Nat) (s : ByteArray) (i k : Nat) (acc : B) (wr : World) : Prop where
  k1 : i + 1 ≤ k
  k2 : k ≤ s.size
  st : st false (s.data.toList.drop (i + 1)) = cont acc (k - (i + 1)) (st false (s.data.toList.drop k))
  len : acc.length ≤ k
  gr : w.grownBy wr (some g)
  rd : Rdr wr g s k
  hb : Holds w.heap.size w.heap.size (Lib.byteCells acc) wr
set_option maxRecDepth 100000 in
set_option maxHeartbeats 1000000 in
theorem quoted_any (g : Nat) (s : ByteArray) (i : Nat) (w : World) (h : Rdr w g s i) (hi : i < s.size) (hm : s.size ≤ 20000) :
    Calls Tryz.prog 125 #[.pointer (some ⟨g, 0, none⟩)] w fun e w' => QOut w g s i (st false (s.data.toList.drop (i + 1))) e w' := by
  have hgs := h.inside
  obtain ⟨W, hW⟩ : ∃ W, w.alloc (.cells #[.pointer none, .slice none 0 0] 92) = W := ⟨_, rfl⟩
  have B0 : Below w.heap.size w W := hW ▸ alloc1 w _
  have U0 : Holds w.heap.size w.heap.size (Lib.byteCells []) W := hW ▸ Lib.fresh_isBuilder _ _ _
  have R0 : Rdr W g s i := h.below B0
  have c1 := R0.at_
  have f1 := R0.open_ 1
  have e1 : (i : Int) + 1 = ((i + 1 : Nat) : Int) := by omega
  have Q0 : Hid (QInv w g s i (i + 1) [] (W.setCell ⟨g, 1, none⟩ (.int .i64 ((i : Int) + 1)))) := by
    rw [e1]
    exact ⟨Nat.le_refl _, hi, by rw [Nat.sub_self]; exact cont_start _, by simp, grown_trans (grown_of_below B0 _) (grown_put _ _ _ _), R0.put _, U0.put g 1 hgs _⟩
  have HW := Lib.hid hW
  clear hW B0 U0 R0 h e1
  obtain ⟨O, hO⟩ : ∃ O, st false (s.data.toList.drop (i + 1)) = O := ⟨_, rfl⟩
  have HO := Lib.hid hO
  rw [hO]
  clear hO
  go_enter Tryz.func125, Tryz.ntmps125
  go_wp2
  go_step3
  go_wp2_with fail
  go_step3
  rw [HW.out]
  go_wp2
  clear c1 f1
  go_loopg [] (s.size - (i + 1)) (fun q wr => ∃ (k : Nat) (acc : B), Hid (k + q = s.size) ∧ Hid (QInv w g s i k acc wr))
  case atStart => exact ⟨i + 1, [], Lib.hid (by omega), Q0⟩
  case round =>
    clear Q0 HW
    obtain ⟨k, acc, HK, HQ⟩ := hrel
    have c0 := HQ.out.rd.text
    have c1 := HQ.out.rd.at_
    have f1 := HQ.out.rd.open_ 1
    have hk1 := HQ.out.k1
    have hk2 := HQ.out.k2
    by_cases hlt : k < s.size
    · have hd := drop_at s k hlt
      have HI := HQ.out.st
      rw [HO.out, hd] at HI
      have hl1 : (k : Int) < (s.size : Int) := by omega
      have G1 : Hid (∀ n, Holds w.heap.size w.heap.size (Lib.byteCells acc) (wr.drewN n)) := Lib.hid fun n => HQ.out.hb.below (below_drewN (Below.refl _ _) _)
      by_cases h34 : s[k] = 34
      · have e1 : ((s[k].toNat : Int) == 34) = true := by rw [h34]; rfl
        have HF : Hid (O = some (acc, k - (i + 1) + 1)) := by rw [HI, h34, st, if_pos rfl]; exact Lib.hid (by simp [cont])
        have e3 : (k : Int) + 1 = ((k + 1 : Nat) : Int) := by omega
        have R3 : Hid (∀ n, Rdr ((wr.drewN n).setCell ⟨g, 1, none⟩ (.int .i64 ((k : Int) + 1))) g s (k + 1)) := Lib.hid fun n => by rw [e3]; exact Rdr.put (HQ.out.rd.below (below_drewN (Below.refl _ _) _)) _
        have GR3 : Hid (∀ n, w.grownBy ((wr.drewN n).setCell ⟨g, 1, none⟩ (.int .i64 ((k : Int) + 1))) (some g)) := Lib.hid fun n => grown_trans (grown_trans HQ.out.gr (grown_of_below (below_drewN (Below.refl _ _) _) _)) (grown_put _ _ _ _)
        have U3 : Hid (∀ n, Holds w.heap.size w.heap.size (Lib.byteCells acc) ((wr.drewN n).setCell ⟨g, 1, none⟩ (.int .i64 ((k : Int) + 1)))) := Lib.hid fun n => (G1.out n).put g 1 hgs _
        clear HI hd h34 e3
        go_wp2
        go_quiet (fail)
        go_wp2
        go_quiet (fail)
        go_wp2_with fail
        refine (Tryz.Builder_String_any w.heap.size w.heap.size acc _ (U3.out _) (GR3.out _).size).mono ?_
        rintro e w4 ⟨rfl, hb4⟩
        have R4 := Lib.hid ((R3.out _).belowB hb4 hgs)
        have GR4 := Lib.hid (grown_b (GR3.out _) hb4)
        clear hb4 R3 GR3 U3 G1
        go_wp2
        rw [Exit.noGoto_ret]
        go_ret2
        rw [HF.out]
        exact ⟨rfl, GR4.out, by rw [show i + 1 + (k - (i + 1) + 1) = k + 1 by omega]; exact R4.out⟩
      · have e1 : ((s[k].toNat : Int) == 34) = false := by
          have := u8_beq s[k] 34 (by decide)
          rw [show ((34 : Nat) : Int) = 34 from rfl] at this
          rw [this, beq_eq_false_iff_ne]; exact h34
        by_cases h10 : s[k] = 10
        · have e2 : ((s[k].toNat : Int) == 10) = true := by rw [h10]; rfl
          have HF : Hid (O = none) := by rw [HI, h10, st, if_neg (by decide), if_pos rfl]; exact Lib.hid rfl
          have GR3 : Hid (∀ n, w.grownBy (wr.drewN n) (some g)) := Lib.hid fun n => grown_trans HQ.out.gr (grown_of_below (below_drewN (Below.refl _ _) _) _)
          clear HI hd h34 h10 G1
          go_wp2
          go_quiet (fail)
          go_wp2
          go_quiet (fail)
          go_wp2
          try rw [Exit.noGoto_ret]
          go_ret2
          rw [HF.out]
          exact ⟨rfl, GR3.out _⟩
        · have e2 : ((s[k].toNat : Int) == 10) = false := by
            have := u8_beq s[k] 10 (by decide)
            rw [show ((10 : Nat) : Int) = 10 from rfl] at this
            rw [this, beq_eq_false_iff_ne]; exact h10
          by_cases h92 : s[k] = 92
          · have e3 : ((s[k].toNat : Int) == 92) = true := by rw [h92]; rfl
            have K1 : ∀ W, Calls Tryz.prog 145 #[.string (s.extract k s.size)] W fun e w' => e = .returned (.tuple #[.int .u8 (prv (s.data.toList.drop (k + 1))).toNat, .bool (prk (s.data.toList.drop (k + 1)))]) ∧ w' = W := fun W => pair_any _ _ W (by rw [ext_end, hd, h92])
            rw [h92] at HI
            cases hp : prk (s.data.toList.drop (k + 1)) with
            | false =>
              rw [hp] at K1
              have HF : Hid (O = none) := by rw [HI, cont_nopair hp]; exact Lib.hid rfl
              have GR3 : Hid (∀ n, w.grownBy (wr.drewN n) (some g)) := Lib.hid fun n => grown_trans HQ.out.gr (grown_of_below (below_drewN (Below.refl _ _) _) _)
              clear HI hd h34 h10 G1 h92 hp
              go_wp2
              go_quiet (fail)
              go_wp2
              go_quiet (fail)
              go_wp2
              go_quiet (exact still_again K1 _ _ _)
              go_wp2
              try rw [Exit.noGoto_ret]
              go_ret2
              rw [HF.out]
              exact ⟨rfl, GR3.out _⟩
            | true =>
              rw [hp] at K1
              obtain ⟨hk3, hne⟩ : k + 2 ≤ s.size ∧ s.data.toList.drop (k + 1) ≠ [] := by
                cases hl : s.data.toList.drop (k + 1) with
                | nil => rw [hl] at hp; cases hp
                | cons d m =>
                  refine ⟨?_, by simp⟩
                  have := congrArg List.length hl
                  simp at this
                  omega
              rw [cont_pair hp, List.drop_drop] at HI
              have HI2 := Lib.hid HI
              generalize prv (s.data.toList.drop (k + 1)) = v at *
              have ek : (k : Int) + 1 = ((k + 1 : Nat) : Int) := by omega
              have R3 : Hid (∀ n, Rdr ((wr.drewN n).setCell ⟨g, 1, none⟩ (.int .i64 ((k : Int) + 1))) g s (k + 1)) := Lib.hid fun n => by rw [ek]; exact Rdr.put (HQ.out.rd.below (below_drewN (Below.refl _ _) _)) _
              have GR3 : Hid (∀ n, w.grownBy ((wr.drewN n).setCell ⟨g, 1, none⟩ (.int .i64 ((k : Int) + 1))) (some g)) := Lib.hid fun n => grown_trans (grown_trans HQ.out.gr (grown_of_below (below_drewN (Below.refl _ _) _) _)) (grown_put _ _ _ _)
              have U3 : Hid (∀ n, Holds w.heap.size w.heap.size (Lib.byteCells acc) ((wr.drewN n).setCell ⟨g, 1, none⟩ (.int .i64 ((k : Int) + 1)))) := Lib.hid fun n => (G1.out n).put g 1 hgs _
              have hlen := HQ.out.len
              clear HI hd h34 h10 G1 h92 hp ek hne
              go_wp2
              go_quiet (fail)
              go_wp2
              go_quiet (fail)
              go_wp2
              go_quiet (exact still_again K1 _ _ _)
              go_wp2_with fail
              refine (writeByte_any w.heap.size w.heap.size (Lib.byteCells acc) _ _ (U3.out _) (by simp [Lib.byteCells_length]; omega)).mono ?_
              rintro e w4 ⟨rfl, hu4, hb4⟩
              have R4 := (R3.out _).belowB hb4 hgs
              have GR4 := grown_b (GR3.out _) hb4
              have d1 := R4.at_
              have g1 := R4.open_ 1
              have QN : Hid (QInv w g s i (k + 2) (acc ++ [v]) (w4.setCell ⟨g, 1, none⟩ (.int .i64 ((k + 1 : Nat) + 1 : Int)))) := by
                have ek : ((k + 1 : Nat) + 1 : Int) = ((k + 2 : Nat) : Int) := by omega
                rw [ek]
                exact ⟨by omega, hk3, by rw [HO.out, HI2.out, show k - (i + 1) + 2 = k + 2 - (i + 1) by omega], by simp; omega, grown_trans GR4 (grown_put _ _ _ _), R4.put _, Holds.put (.inr (by rw [cells_one]; exact hu4)) g 1 hgs _⟩
              clear R4 GR4 hu4 hb4 R3 GR3 U3 HI2 HQ K1
              go_wp2
              go_roundg (s.size - (k + 2))
              case rel => exact ⟨k + 2, acc ++ [v], Lib.hid (by have := HK.out; omega), QN⟩
              case measure => have := HK.out; omega
          · have e3 : ((s[k].toNat : Int) == 92) = false := by
              have := u8_beq s[k] 92 (by decide)
              rw [show ((92 : Nat) : Int) = 92 from rfl] at this
              rw [this, beq_eq_false_iff_ne]; exact h92
            rw [cont_plain h34 h10 h92] at HI
            have HI2 := Lib.hid HI
            have GR3 : Hid (∀ n, w.grownBy (wr.drewN n) (some g)) := Lib.hid fun n => grown_trans HQ.out.gr (grown_of_below (below_drewN (Below.refl _ _) _) _)
            have R3 : Hid (∀ n, Rdr (wr.drewN n) g s k) := Lib.hid fun n => HQ.out.rd.below (below_drewN (Below.refl _ _) _)
            have hlen := HQ.out.len
            clear HI hd h34 h10 h92
            go_wp2
            go_quiet (fail)
            go_wp2
            go_quiet (fail)
            go_wp2_with fail
            refine (writeByte_any w.heap.size w.heap.size (Lib.byteCells acc) _ _ (G1.out _) (by simp [Lib.byteCells_length]; omega)).mono ?_
            rintro e w4 ⟨rfl, hu4, hb4⟩
            have R4 := (R3.out _).belowB hb4 hgs
            have GR4 := grown_b (GR3.out _) hb4
            have d1 := R4.at_
            have g1 := R4.open_ 1
            have QN : Hid (QInv w g s i (k + 1) (acc ++ [s[k]]) (w4.setCell ⟨g, 1, none⟩ (.int .i64 ((k : Int) + 1)))) := by
              have ek : (k : Int) + 1 = ((k + 1 : Nat) : Int) := by omega
              rw [ek]
              exact ⟨by omega, by omega, by rw [HO.out, HI2.out, show k - (i + 1) + 1 = k + 1 - (i + 1) by omega], by simp; omega, grown_trans GR4 (grown_put _ _ _ _), R4.put _, Holds.put (.inr (by rw [cells_one]; exact hu4)) g 1 hgs _⟩
            clear R4 GR4 hu4 hb4 R3 GR3 G1 HI2 HQ
            go_wp2
            go_roundg (s.size - (k + 1))
            case rel => exact ⟨k + 1, acc ++ [s[k]], Lib.hid (by have := HK.out; omega), QN⟩
            case measure => have := HK.out; omega
    · obtain rfl : k = s.size := by omega
      have HI := HQ.out.st
      rw [HO.out, List.drop_of_length_le (by simp)] at HI
      have HF : Hid (O = none) := by rw [HI]; exact Lib.hid rfl
      have GR3 : Hid (∀ n, w.grownBy (wr.drewN n) (some g)) := Lib.hid fun n => grown_trans HQ.out.gr (grown_of_below (below_drewN (Below.refl _ _) _) _)
      clear HI
      go_wp2
      go_quiet (fail)
      go_wp2
      try rw [Exit.noGoto_ret]
      go_ret2
      rw [HF.out]
      exact ⟨rfl, GR3.out _⟩
end Go.Proofs.YtgbkjdpjilldmaaGreatDoor.Lx
