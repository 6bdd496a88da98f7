/- lexer: the reader: comments, gaps. -/
import Derived.Test.YtlknbjaippfemaaLxBuild
namespace Go.Proofs.Ytlknbjaippfemaa.Lx
open Go.RowKit
theorem idx_run : ∀ l : B, Lib.indexByte l 10 = if run (· != 10) l < l.length then (run (· != 10) l : Int) else -1
  | [] => rfl
  | c :: l => by
    have ih := idx_run l
    unfold Lib.indexByte
    by_cases h : c = 10
    · subst h
      rw [run_none (by rfl)]
      simp
    · rw [run_step (by simpa using h), if_neg (by simpa using h), ih]
      by_cases h2 : run (· != 10) l < l.length
      · rw [if_pos h2, if_neg (by simp), if_pos (by simpa using h2)]; omega
      · rw [if_neg h2, if_pos (by rfl), if_neg (by simpa using h2)]
theorem ext_end (s : ByteArray) (i : Nat) : (s.extract i s.size).data.toList = s.data.toList.drop i := by
  rw [ext_list]
  exact List.take_of_length_le (Nat.le_of_eq (by rw [List.length_drop, len_data]))
set_option maxRecDepth 100000 in
set_option maxHeartbeats 400000 in
theorem comment_any (g : Nat) (s : ByteArray) (i : Nat) (w : World) (h : Rdr w g s i) (hi : i ≤ s.size) (hm : s.size ≤ 20000) :
    Calls Try.prog 74 #[.pointer (some ⟨g, 0, none⟩)] w fun e w' => e = .returned (.tuple #[]) ∧ w.grownBy w' (some g) ∧ Rdr w' g s (i + run (· != 10) (s.data.toList.drop i)) := by
  have hx := idx_run (s.data.toList.drop i)
  have hl := run_le (· != 10) (s.data.toList.drop i)
  rw [show (s.data.toList.drop i).length = s.size - i by simp] at hx hl
  have K0 : ∀ W, Calls Try.prog 87 #[.string (s.extract i s.size), .int .u8 10] W fun e w' => e = .returned (.int .i64 (Lib.indexByte (s.data.toList.drop i) 10)) ∧ w' = W := fun W => by
    have k := Try.strings_IndexByte (s.extract i s.size) 10 W
    rw [ext_end] at k
    exact k
  obtain ⟨n, hn⟩ : ∃ n, run (· != 10) (s.data.toList.drop i) = n := ⟨_, rfl⟩
  obtain ⟨q, hq⟩ : ∃ q, Lib.indexByte (s.data.toList.drop i) 10 = q := ⟨_, rfl⟩
  rw [hn] at hx hl ⊢
  rw [hq] at hx K0
  have HR := Lib.hid h
  have c0 := h.text
  have c1 := h.at_
  have f1 := h.open_ 1
  have l1 : (i : Int) ≤ (s.size : Int) := by omega
  clear hn hq h
  by_cases hlt : n < s.size - i
  · rw [if_pos hlt] at hx
    subst hx
    have R3 : Hid (∀ k, Rdr ((w.drewN k).setCell ⟨g, 1, none⟩ (.int .i64 ((i : Int) + (n : Int)))) g s (i + n)) := fun k => by
      rw [show (i : Int) + (n : Int) = ((i + n : Nat) : Int) by omega]; exact Rdr.put (HR.out.below (below_drewN (Below.refl _ _) k)) _
    have G3 : Hid (∀ k, w.grownBy ((w.drewN k).setCell ⟨g, 1, none⟩ (.int .i64 ((i : Int) + (n : Int)))) (some g)) := fun k => grown_trans (grown_of_below (below_drewN (Below.refl _ _) k) _) (grown_put _ _ _ _)
    have hge : ¬ (n : Int) < 0 := by omega
    go_enter Try.func74, Try.ntmps74
    go_wp2
    go_quiet (exact Calls.quiet_of_same (K0 _))
    go_wp2
    go_end0
    exact ⟨rfl, G3.out _, R3.out _⟩
  · rw [if_neg hlt] at hx
    subst hx
    have hn2 : (i : Int) + ((s.size : Int) - (i : Int)) = ((i + n : Nat) : Int) := by omega
    have R3 : Hid (∀ k, Rdr ((w.drewN k).setCell ⟨g, 1, none⟩ (.int .i64 ((i : Int) + ((s.size : Int) - (i : Int))))) g s (i + n)) := fun k => by
      rw [hn2]; exact Rdr.put (HR.out.below (below_drewN (Below.refl _ _) k)) _
    have G3 : Hid (∀ k, w.grownBy ((w.drewN k).setCell ⟨g, 1, none⟩ (.int .i64 ((i : Int) + ((s.size : Int) - (i : Int))))) (some g)) := fun k => grown_trans (grown_of_below (below_drewN (Below.refl _ _) k) _) (grown_put _ _ _ _)
    clear hn2
    go_enter Try.func74, Try.ntmps74
    go_wp2
    go_quiet (exact Calls.quiet_of_same (K0 _))
    go_wp2
    go_quiet (fail)
    go_wp2
    go_end0
    exact ⟨rfl, G3.out _, R3.out _⟩
theorem and_blk : ∀ l : B, (bits .and .u8 (hdc l : Int) ((8 : Nat) : Int) != 0) = hd isBlk l
  | [] => rfl
  | c :: _ => (all_u8 (P := fun c => (bits .and .u8 (cls c : Int) ((8 : Nat) : Int) != 0) = isBlk c) (by decide +kernel)) c
theorem and_word : ∀ l : B, (bits .and .u8 (hdc l : Int) ((7 : Nat) : Int) != 0) = hd isWord l
  | [] => rfl
  | c :: _ => (all_u8 (P := fun c => (bits .and .u8 (cls c : Int) ((7 : Nat) : Int) != 0) = isWord c) (by decide +kernel)) c
theorem and_dig : ∀ l : B, (bits .and .u8 (hdc l : Int) ((2 : Nat) : Int) != 0) = hd isDig l
  | [] => rfl
  | c :: _ => (all_u8 (P := fun c => (bits .and .u8 (cls c : Int) ((2 : Nat) : Int) != 0) = isDig c) (by decide +kernel)) c
theorem and_gap : ∀ l : B, (bits .and .u8 (hdc l : Int) 24 != 0) = hd (fun c => isBlk c || c == 35) l
  | [] => rfl
  | c :: _ => (all_u8 (P := fun c => (bits .and .u8 (cls c : Int) 24 != 0) = (isBlk c || c == 35)) (by decide +kernel)) c
theorem is_hash : ∀ l : B, ((hdc l : Int) == 16) = hd (· == 35) l
  | [] => rfl
  | c :: _ => (all_u8 (P := fun c => ((cls c : Int) == 16) = (c == 35)) (by decide +kernel)) c
theorem blk_any (g : Nat) (s : ByteArray) (i : Nat) (w : World) (h : Rdr w g s i) (hi : i ≤ s.size) (hm : s.size ≤ 20000) :
    Calls Try.prog 73 #[.pointer (some ⟨g, 0, none⟩), .int .u8 8] w fun e w' => e = .returned (.string (s.extract i (i + run isBlk (s.data.toList.drop i)))) ∧ w.grownBy w' (some g) ∧ Rdr w' g s (i + run isBlk (s.data.toList.drop i)) := take_any g 8 isBlk and_blk s i w h hi hm
theorem gp_zero_of {l : B} (h : hd (fun c => isBlk c || c == 35) l = false) : gp false l = 0 := by
  cases l with
  | nil => rfl
  | cons c l =>
    simp only [hd, Bool.or_eq_false_iff, beq_eq_false_iff_ne, ne_eq] at h
    exact gp_zero h.1 h.2
/-- one round of skipGaps. -/
theorem gp_round {l : B} (h : hd (fun c => isBlk c || c == 35) l = true) :
    (hd (· == 35) (l.drop (run isBlk l)) = true → gp false l = run isBlk l + run (· != 10) (l.drop (run isBlk l)) + gp false (l.drop (run isBlk l + run (· != 10) (l.drop (run isBlk l)))) ∧ 1 ≤ run (· != 10) (l.drop (run isBlk l))) ∧
    (hd (· == 35) (l.drop (run isBlk l)) = false → gp false l = run isBlk l ∧ gp false (l.drop (run isBlk l)) = 0 ∧ 1 ≤ run isBlk l) := by
  have hb := gp_blk l
  have hh := run_hd isBlk l
  refine ⟨fun h2 => ?_, fun h2 => ?_⟩
  · cases hl : l.drop (run isBlk l) with
    | nil => rw [hl] at h2; cases h2
    | cons c m =>
      rw [hl] at h2 hb
      have hc : c = 35 := by simpa [hd] using h2
      rw [gp_hash hc, ← hl, List.drop_drop] at hb
      rw [← hl]
      refine ⟨by omega, ?_⟩
      rw [hl, run_step (by subst hc; decide)]
      omega
  · have hz : gp false (l.drop (run isBlk l)) = 0 := by
      refine gp_zero_of ?_
      cases hl : l.drop (run isBlk l) with
      | nil => rfl
      | cons c m => rw [hl] at hh h2; simp only [hd] at hh h2 ⊢; rw [hh, h2]; rfl
    refine ⟨by omega, hz, ?_⟩
    cases l with
    | nil => cases h
    | cons c m =>
      by_cases hc : isBlk c
      · rw [run_step hc]; omega
      · rw [run_none (by simpa using hc), List.drop_zero] at h2
        simp only [hd] at h h2
        rw [h2, Bool.or_false] at h
        exact absurd h hc
set_option maxRecDepth 100000 in
set_option maxHeartbeats 400000 in
theorem gaps_any (g : Nat) (s : ByteArray) (i : Nat) (w : World) (h : Rdr w g s i) (hi : i ≤ s.size) (hm : s.size ≤ 20000) :
    Calls Try.prog 64 #[.pointer (some ⟨g, 0, none⟩)] w fun e w' => e = .returned (.tuple #[]) ∧ w.grownBy w' (some g) ∧ Rdr w' g s (i + gp false (s.data.toList.drop i)) := by
  have hl := gp_le false (s.data.toList.drop i)
  rw [show (s.data.toList.drop i).length = s.size - i by simp] at hl
  obtain ⟨n, hn⟩ : ∃ n, gp false (s.data.toList.drop i) = n := ⟨_, rfl⟩
  rw [hn] at hl ⊢
  have HN := Lib.hid hn
  have HR := Lib.hid h
  clear hn h
  go_enter Try.func64, Try.ntmps64
  go_wp2
  go_loopg [] n (fun q wr => ∃ j : Nat, Hid (j + q = n) ∧ j ≤ n ∧ Hid (gp false (s.data.toList.drop (i + j)) = q) ∧ Hid (w.grownBy wr (some g)) ∧ Hid (Rdr wr g s (i + j)))
  case atStart => exact ⟨0, Lib.hid (by omega), by omega, HN, Lib.hid (grown_refl _ _), HR⟩
  case round =>
    clear HN HR
    obtain ⟨j, HJ0, hj, HJ, HG, HR⟩ := hrel
    have K0 := class_any g s (i + j) wr HR.out (by omega)
    have hq := and_gap (s.data.toList.drop (i + j))
    cases hb : hd (fun c => isBlk c || c == 35) (s.data.toList.drop (i + j)) with
    | true =>
      rw [hb] at hq
      have HP := Lib.hid (gp_round hb)
      obtain ⟨a, ha⟩ : ∃ a, run isBlk (s.data.toList.drop (i + j)) = a := ⟨_, rfl⟩
      have hal := run_le isBlk (s.data.toList.drop (i + j))
      rw [show (s.data.toList.drop (i + j)).length = s.size - (i + j) by simp, ha] at hal
      have K1 := fun W hR => blk_any g s (i + j) W hR (by omega) hm
      have K2 := fun W hR => class_any g s (i + j + a) W hR (by omega)
      have hq2 := is_hash (s.data.toList.drop (i + j + a))
      have hbl := run_le (· != 10) (s.data.toList.drop (i + j + a))
      obtain ⟨b, hb2⟩ : ∃ b, run (· != 10) (s.data.toList.drop (i + j + a)) = b := ⟨_, rfl⟩
      rw [show (s.data.toList.drop (i + j + a)).length = s.size - (i + j + a) by simp, hb2] at hbl
      have K3 := fun W hR => comment_any g s (i + j + a) W hR (by omega) hm
      have HP2 : Hid ((hd (· == 35) (s.data.toList.drop (i + j + a)) = true → gk = a + b + gp false (s.data.toList.drop (i + j + a + b)) ∧ 1 ≤ b) ∧ (hd (· == 35) (s.data.toList.drop (i + j + a)) = false → gk = a ∧ gp false (s.data.toList.drop (i + j + a)) = 0 ∧ 1 ≤ a)) := by
        have := HP.out
        rw [List.drop_drop, ha, List.drop_drop, HJ.out, hb2, show i + j + (a + b) = i + j + a + b by omega] at this
        exact this
      rw [ha] at K1
      rw [hb2] at K3
      obtain ⟨N, hN⟩ : ∃ N, hdc (s.data.toList.drop (i + j)) = N := ⟨_, rfl⟩
      obtain ⟨M, hM⟩ : ∃ M, hdc (s.data.toList.drop (i + j + a)) = M := ⟨_, rfl⟩
      rw [hN] at K0 hq
      rw [hM] at K2 hq2
      cases hh : hd (· == 35) (s.data.toList.drop (i + j + a)) with
      | true =>
        rw [hh] at hq2
        have HF := Lib.hid (HP2.out.1 hh)
        clear hb hN hM hh ha hb2 HP HP2
        go_wp2_with (first
          | ((with_reducible refine K0.mono ?_); rintro e w2 ⟨rfl, hb2⟩; have R2 := HR.out.below hb2)
          | ((with_reducible refine (K1 _ R2).mono ?_); rintro e w3 ⟨rfl, hg3, R3⟩)
          | ((with_reducible refine (K2 _ R3).mono ?_); rintro e w4 ⟨rfl, hb4⟩; have R4 := R3.below hb4)
          | ((with_reducible refine (K3 _ R4).mono ?_); rintro e w5 ⟨rfl, hg5, R5⟩))
        have G5 := Lib.hid (grown_trans (grown_trans (grown_trans (grown_trans HG.out (grown_of_below hb2 _)) hg3) (grown_of_below hb4 _)) hg5)
        go_roundg (gp false (s.data.toList.drop (i + j + a + b)))
        case rel => exact ⟨j + a + b, Lib.hid (by have := HF.out; have := HJ0.out; omega), by have := HF.out; have := HJ0.out; omega, Lib.hid (by rw [show i + (j + a + b) = i + j + a + b by omega]), G5, Lib.hid (by rw [show i + (j + a + b) = i + j + a + b by omega]; exact R5)⟩
        case measure => have := HF.out; omega
      | false =>
        rw [hh] at hq2
        have HF := Lib.hid (HP2.out.2 hh)
        clear hb hN hM hh ha hb2 HP HP2
        go_wp2_with (first
          | ((with_reducible refine K0.mono ?_); rintro e w2 ⟨rfl, hb2⟩; have R2 := HR.out.below hb2)
          | ((with_reducible refine (K1 _ R2).mono ?_); rintro e w3 ⟨rfl, hg3, R3⟩)
          | ((with_reducible refine (K2 _ R3).mono ?_); rintro e w4 ⟨rfl, hb4⟩; have R4 := R3.below hb4))
        have G5 := Lib.hid (grown_trans (grown_trans (grown_trans HG.out (grown_of_below hb2 _)) hg3) (grown_of_below hb4 _))
        go_roundg 0
        case rel => exact ⟨j + a, Lib.hid (by have := HF.out; have := HJ0.out; omega), by have := HF.out; have := HJ0.out; omega, Lib.hid (by rw [show i + (j + a) = i + j + a by omega]; exact HF.out.2.1), G5, Lib.hid (by rw [show i + (j + a) = i + j + a by omega]; exact R4)⟩
        case measure => have := HF.out; omega
    | false =>
      rw [hb] at hq
      have hz := gp_zero_of hb
      obtain rfl : j = n := by have := HJ.out; have := HJ0.out; omega
      obtain ⟨N, hN⟩ : ∃ N, hdc (s.data.toList.drop (i + j)) = N := ⟨_, rfl⟩
      rw [hN] at K0 hq
      clear hb hN HJ hz
      go_wp2_with ((with_reducible refine K0.mono ?_); rintro e w2 ⟨rfl, hb2⟩; have R2 := HR.out.below hb2)
      go_end0
      exact ⟨rfl, grown_trans HG.out (grown_of_below hb2 _), R2⟩
end Go.Proofs.Ytlknbjaippfemaa.Lx
