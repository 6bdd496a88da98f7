/- tag: Text. -/
import Derived.Test.YtlknbjaippfemaaTgBuild
namespace Go.Proofs.Ytlknbjaippfemaa.Tg
open Go.RowKit
open Lx hiding intOf
theorem quote_len (v : B) : (Lx.quote v).length ≤ 2 * v.length + 2 := by
  unfold Lx.quote
  have := esc_len v
  simp
  omega
theorem txt_len : ∀ (l : List T) (k : Nat), Siz l → (txtL (l.take k)).length ≤ k * 400000 := by
  intro l k hS
  induction k with
  | zero => simp [txtL]
  | succ k ih =>
    by_cases hk : k < l.length
    · rw [List.take_succ_eq_append_getElem hk, txt_snoc]
      have h1 := hS _ (List.getElem_mem hk)
      have h2 := quote_len l[k].2
      unfold txt1
      simp only [List.length_append, List.length_cons]
      split <;> simp <;> omega
    · have e : l.take (k + 1) = l.take k := by rw [List.take_of_length_le (by omega), List.take_of_length_le (by omega)]
      rw [e]
      exact Nat.le_trans ih (Nat.mul_le_mul_right _ (Nat.le_succ k))
theorem holds_lt {Z b : Nat} {bs : List Value} {w : World} (h : Holds Z b bs w) : Z ≤ w.heap.size := h.elim (fun h => Nat.le_of_lt (Nat.lt_of_le_of_lt h.1 h.lt)) (fun h => Nat.le_of_lt (Nat.lt_of_le_of_lt h.1 h.lt))
theorem len_any (Z b : Nat) (bs : List Value) (w : World) (h : Holds Z b bs w) :
    Calls Try.prog 35 #[.pointer (some ⟨b, 0, none⟩)] w fun e w' => e = .returned (.int .i64 bs.length) ∧ w = w' := by
  have key : ∀ p, Lib.BuilderAt 59 5 Z b p bs w → ∃ ao cap, w.cell? ⟨b, 1, none⟩ = some (.slice ao bs.length cap) := by
    rintro p ⟨_, v, hb, ho, _⟩
    have hr : IsRow w b 59 #[p, v] := hb
    have hc := hr.get 1
    obtain ⟨_, ⟨rfl, h0⟩ | ⟨g, cap, cur, rfl, _⟩⟩ := ho
    · exact ⟨none, 0, by rw [h0]; exact hc⟩
    · exact ⟨_, _, hc⟩
  obtain ⟨ao, cap, hc⟩ : ∃ ao cap, w.cell? ⟨b, 1, none⟩ = some (.slice ao bs.length cap) := by
    rcases h with h | h
    · exact key _ h
    · exact key _ h
  generalize bs.length = m at *
  clear h key
  go_enter Try.func35, Try.ntmps35
  go_wp2
  go_ret
  exact ⟨rfl, rfl⟩
set_option maxRecDepth 100000 in
set_option maxHeartbeats 8000000 in
theorem text_any (ao : Option Addr) (n cap : Nat) (l : List T) (w : World) (hn : l.length = n) (ha : TagsT w w.heap.size ao l) (hc : n ≤ cap) (hS : Siz l) :
    Calls Try.prog 12 #[.slice ao n cap] w fun e w' => e = .returned (.tuple #[.string ⟨(textR l).1.toArray⟩, .int .i64 (textR l).2]) ∧ Below w.heap.size w w' := by
  have HA := Lib.hid ha
  have HN := Lib.hid hn
  have HS := Lib.hid hS
  have hc' : (n : Int) ≤ (cap : Int) := by omega
  obtain ⟨t1, ht1⟩ : ∃ x, (textR l).1 = x := ⟨_, rfl⟩
  obtain ⟨t2, ht2⟩ : ∃ x, (textR l).2 = x := ⟨_, rfl⟩
  rw [ht1, ht2]
  have HT := Lib.hid (show textR l = (t1, t2) by rw [← ht1, ← ht2])
  have KV := Lib.hid (valid_any ao n cap l w hn ha hc hS)
  clear hn ha hS ht1 ht2
  go_enter Try.func12, Try.ntmps12
  go_wp2_with fail
  refine KV.out.mono ?_
  rintro e w1 ⟨rfl, b1⟩
  have B1 := Lib.hid b1
  have HA1 := Lib.hid (HA.out.later b1)
  clear b1 KV HA
  cases hv : vld l with
  | false =>
    obtain ⟨rfl, rfl⟩ : ([] : B) = t1 ∧ (1 : Int) = t2 := by
      have := HT.out
      unfold textR at this
      rw [hv] at this
      exact ⟨congrArg Prod.fst this, congrArg Prod.snd this⟩
    clear hv
    go_wp2
    go_ret2
    exact ⟨rfl, B1.out⟩
  | true =>
    have n60 : (n : Int) ≤ 60 := by
      unfold vld at hv
      rw [Bool.and_eq_true, decide_eq_true_iff, HN.out] at hv
      omega
    have HV := Lib.hid hv
    clear hv
    have N60 := Lib.hid n60
    have TL := Lib.hid (fun k => txt_len l k HS.out)
    go_wp2_with fail
    obtain ⟨b, hb⟩ : ∃ b, w1.heap.size = b := ⟨_, rfl⟩
    have U0 := Lib.hid (show Holds b b (Lib.byteCells (txtL (l.take 0))) (w1.alloc (.cells #[.pointer none, .slice none 0 0] 59)) by
      rw [← hb]
      exact Lib.fresh_isBuilder _ _ w1)
    have ZB := Lib.hid (show w.heap.size ≤ b by rw [← hb]; exact B1.out.size)
    have A0 := Lib.hid (show Below b w1 (w1.alloc (.cells #[.pointer none, .slice none 0 0] 59)) by rw [← hb]; exact alloc1 _ _)
    have HA2 := Lib.hid (show TagsT w1 b ao l by rw [← hb]; exact HA1.out)
    rw [hb]
    clear hb HA1
    go_loopw [12] (fun i wr => ∃ k : Nat, k ≤ n ∧ i = .int .i64 k ∧ Hid (Holds b b (Lib.byteCells (txtL (l.take k))) wr) ∧ Hid (Below b w1 wr)) (fun i _ => n - (Lx.intOf i).toNat)
    case atStart => exact ⟨0, by omega, rfl, U0, A0⟩
    case round =>
      clear U0 A0
      obtain ⟨k, hk, rfl, HU, HK⟩ := hrel
      by_cases hlt : k < n
      · have hkl : k < l.length := by rw [HN.out]; exact hlt
        have hlt2 : (k : Int) < (n : Int) := by omega
        obtain ⟨g, off, rfl, hg, x0, x1⟩ := (HA2.out.below HK.out (Nat.le_refl _)).at_ hkl
        have hsz := HS.out _ (List.getElem_mem hkl)
        have hst := Lib.hid (show txtL (l.take (k + 1)) = txtL (l.take k) ++ (if k = 0 then [] else [32]) ++ txt1 l[k] by
          rw [List.take_succ_eq_append_getElem hkl, txt_snoc]
          congr 2
          by_cases h0 : k = 0
          · rw [if_pos h0, h0]; rfl
          · rw [if_neg h0, if_neg]
            intro e
            have h1 : (l.take k).length = 0 := by rw [e]; rfl
            rw [List.length_take] at h1
            omega)
        generalize l[k] = t at *
        obtain ⟨ky, val⟩ := t
        dsimp only at x0 x1 hsz
        have BL := Lib.hid (show (txtL (l.take k)).length ≤ 24000000 ∧ ky.length ≤ 100000 ∧ val.length ≤ 100000 ∧ (Lx.quote val).length ≤ 200002 by
          have e1 := TL.out k
          have e2 := quote_len val
          have e3 := N60.out
          refine ⟨?_, hsz.1, hsz.2, by omega⟩
          have : k * 400000 ≤ 60 * 400000 := Nat.mul_le_mul_right _ (by omega)
          omega)
        have KQ := Lib.hid (fun W => Lx.quote_any ⟨val.toArray⟩ W (by rw [Lx.str_size]; exact hsz.2))
        have ST := Lib.hid (show ∀ X : B, X = txtL (l.take k) ++ (if k = 0 then [] else [32]) → Lib.byteCells (txtL (l.take (k + 1))) = Lib.byteCells X ++ Lib.strCells ⟨ky.toArray⟩ ++ [.int .u8 61] ++ Lib.strCells ⟨(Lx.quote val).toArray⟩ by
          rintro X rfl
          rw [hst.out]
          unfold txt1
          dsimp only
          rw [Lib.byteCells_append, Lib.byteCells_append, show (61 :: Lx.quote val : B) = [61] ++ Lx.quote val from rfl, Lib.byteCells_append]
          simp only [List.append_assoc]
          rfl)
        clear hkl hsz hst
        obtain ⟨c0, hc0⟩ : ∃ c, wr.heap.size = c := ⟨_, rfl⟩
        have hw2 := Lib.hid (tag_made wr (.string ⟨ky.toArray⟩) (.string ⟨val.toArray⟩))
        by_cases h0 : 0 < k
        · have hd : decide ((0 : Int) < (k : Int)) = true := decide_eq_true (by omega)
          have hk0 : k ≠ 0 := by omega
          go_upto_if 18 with fail
          obtain ⟨w2, e2, b2, r2⟩ := hw2.out
          rw [e2]
          have U2 := Lib.hid (HU.out.below b2)
          have B2 := Lib.hid (HK.out.trans (b2.mono (holds_lt HU.out)))
          have R2 := Lib.hid r2
          rw [hc0] at R2
          clear e2 b2 r2 hw2 HU HK x0 x1 hc0
          go_wp2_with fail
          refine (writeByte_row _ _ _ _ _ _ _ U2.out R2.out (by rw [Lib.byteCells_length]; have := BL.out; omega)).mono ?_
          rintro e wa ⟨rfl, hua, hba, ra⟩
          have UA := Lib.hid (show Holds b b (Lib.byteCells (txtL (l.take k) ++ [32])) wa by rw [Lib.byteCells_append]; exact .inr hua)
          have BA := Lib.hid (B2.out.trans hba)
          have RA := Lib.hid ra
          clear hua hba ra U2 B2 R2
          have ST2 := Lib.hid (ST.out (txtL (l.take k) ++ [32]) (by rw [if_neg hk0]))
          obtain ⟨X, hX⟩ : ∃ X : B, txtL (l.take k) ++ [32] = X := ⟨_, rfl⟩
          rw [hX] at ST2 UA
          have LX := Lib.hid (show X.length ≤ 24000001 by rw [← hX]; have := BL.out; simp; omega)
          clear ST hX
          obtain ⟨y0, y1, _, _⟩ := facts2 RA.out
          go_wp2_with fail
          refine (writeString_row _ _ _ _ _ ⟨ky.toArray⟩ _ UA.out RA.out (by rw [Lib.byteCells_length, Lx.str_size]; have := LX.out; have := BL.out; omega)).mono ?_
          rintro e w3 ⟨rfl, hu3, hb3, r3⟩
          have U3 := Lib.hid hu3
          have B3 := Lib.hid (BA.out.trans hb3)
          have R3 := Lib.hid r3
          clear hu3 hb3 r3 UA BA RA y0 y1
          go_wp2_with fail
          refine (writeByte_row _ _ _ _ _ _ _ (.inr U3.out) R3.out (by rw [List.length_append, Lib.byteCells_length, Lib.strCells_length, Lx.str_size]; have := LX.out; have := BL.out; omega)).mono ?_
          rintro e w4 ⟨rfl, hu4, hb4, r4⟩
          have U4 := Lib.hid hu4
          have B4 := Lib.hid (B3.out.trans hb4)
          clear hu4 hb4 U3 B3 R3
          obtain ⟨y0, y1, _, _⟩ := facts2 r4
          have KQ4 := Lib.hid (KQ.out w4)
          clear r4 KQ
          go_wp2_with fail
          refine KQ4.out.mono ?_
          rintro e w5 ⟨rfl, b5⟩
          have U5 := Lib.hid (show Holds b b _ w5 from Holds.below (.inr U4.out) b5)
          have B5 := Lib.hid (B4.out.trans (b5.mono (holds_lt (.inr U4.out))))
          clear b5 KQ4 U4 B4 y0 y1
          go_wp2_with fail
          refine (writeString_any _ _ _ ⟨(Lx.quote val).toArray⟩ _ U5.out (by rw [List.length_append, List.length_append, Lib.byteCells_length, Lib.strCells_length, Lx.str_size, Lx.str_size]; have := LX.out; have := BL.out; simp; omega)).mono ?_
          rintro e w6 ⟨rfl, hu6, hb6⟩
          have U6 := Lib.hid (show Holds b b (Lib.byteCells (txtL (l.take (k + 1)))) w6 by rw [ST2.out]; exact .inr hu6)
          have B6 := Lib.hid (B5.out.trans hb6)
          clear hu6 hb6 U5 B5 ST2 BL LX
          go_wp2
          go_roundw
          case rel => exact ⟨k + 1, by omega, by go_num, U6, B6⟩
          case measure => simp [Lx.intOf]; omega
        · have hd : decide ((0 : Int) < (k : Int)) = false := decide_eq_false (by omega)
          have hk0 := Lib.hid (show k = 0 by omega)
          go_upto_if 18 with fail
          obtain ⟨w2, e2, b2, r2⟩ := hw2.out
          rw [e2]
          have U2 := Lib.hid (HU.out.below b2)
          have B2 := Lib.hid (HK.out.trans (b2.mono (holds_lt HU.out)))
          have R2 := Lib.hid r2
          rw [hc0] at R2
          clear e2 b2 r2 hw2 HU HK x0 x1 hc0
          have UA := Lib.hid (show Holds b b (Lib.byteCells (txtL (l.take k) ++ [])) w2 by rw [List.append_nil]; exact U2.out)
          have BA := B2
          have RA := R2
          clear U2 B2 R2
          have ST2 := Lib.hid (ST.out (txtL (l.take k) ++ []) (by rw [if_pos hk0.out]))
          obtain ⟨X, hX⟩ : ∃ X : B, txtL (l.take k) ++ [] = X := ⟨_, rfl⟩
          rw [hX] at ST2 UA
          have LX := Lib.hid (show X.length ≤ 24000001 by rw [← hX]; have := BL.out; simp; omega)
          clear ST hX
          obtain ⟨y0, y1, _, _⟩ := facts2 RA.out
          go_wp2_with fail
          refine (writeString_row _ _ _ _ _ ⟨ky.toArray⟩ _ UA.out RA.out (by rw [Lib.byteCells_length, Lx.str_size]; have := LX.out; have := BL.out; omega)).mono ?_
          rintro e w3 ⟨rfl, hu3, hb3, r3⟩
          have U3 := Lib.hid hu3
          have B3 := Lib.hid (BA.out.trans hb3)
          have R3 := Lib.hid r3
          clear hu3 hb3 r3 UA BA RA y0 y1
          go_wp2_with fail
          refine (writeByte_row _ _ _ _ _ _ _ (.inr U3.out) R3.out (by rw [List.length_append, Lib.byteCells_length, Lib.strCells_length, Lx.str_size]; have := LX.out; have := BL.out; omega)).mono ?_
          rintro e w4 ⟨rfl, hu4, hb4, r4⟩
          have U4 := Lib.hid hu4
          have B4 := Lib.hid (B3.out.trans hb4)
          clear hu4 hb4 U3 B3 R3
          obtain ⟨y0, y1, _, _⟩ := facts2 r4
          have KQ4 := Lib.hid (KQ.out w4)
          clear r4 KQ
          go_wp2_with fail
          refine KQ4.out.mono ?_
          rintro e w5 ⟨rfl, b5⟩
          have U5 := Lib.hid (show Holds b b _ w5 from Holds.below (.inr U4.out) b5)
          have B5 := Lib.hid (B4.out.trans (b5.mono (holds_lt (.inr U4.out))))
          clear b5 KQ4 U4 B4 y0 y1
          go_wp2_with fail
          refine (writeString_any _ _ _ ⟨(Lx.quote val).toArray⟩ _ U5.out (by rw [List.length_append, List.length_append, Lib.byteCells_length, Lib.strCells_length, Lx.str_size, Lx.str_size]; have := LX.out; have := BL.out; simp; omega)).mono ?_
          rintro e w6 ⟨rfl, hu6, hb6⟩
          have U6 := Lib.hid (show Holds b b (Lib.byteCells (txtL (l.take (k + 1)))) w6 by rw [ST2.out]; exact .inr hu6)
          have B6 := Lib.hid (B5.out.trans hb6)
          clear hu6 hb6 U5 B5 ST2 BL LX
          go_wp2
          go_roundw
          case rel => exact ⟨k + 1, by omega, by go_num, U6, B6⟩
          case measure => simp [Lx.intOf]; omega
      · obtain rfl : n = k := by omega
        have U9 := Lib.hid (show Holds b b (Lib.byteCells (txtL l)) wr by
          have := HU.out
          rw [← HN.out, List.take_length] at this
          exact this)
        have hL := TL.out n
        rw [← HN.out, List.take_length, HN.out] at hL
        have e0 := N60.out
        have hL2 : (txtL l).length ≤ 24000000 := by
          have : n * 400000 ≤ 60 * 400000 := Nat.mul_le_mul_right _ (by omega)
          omega
        have KL := Lib.hid (len_any b b _ wr U9.out)
        rw [Lib.byteCells_length] at KL
        have BF := Lib.hid (B1.out.trans (HK.out.mono ZB.out))
        by_cases hbig : 20000 < (txtL l).length
        · obtain ⟨rfl, rfl⟩ : ([] : B) = t1 ∧ (2 : Int) = t2 := by
            have := HT.out
            unfold textR at this
            rw [HV.out, if_pos rfl, if_pos hbig] at this
            exact ⟨congrArg Prod.fst this, congrArg Prod.snd this⟩
          have hb1 : (20000 : Int) < ((txtL l).length : Int) := by omega
          clear hL hL2 e0 hbig
          go_wp2_with (refine KL.out.mono ?_; rintro e w3 ⟨rfl, rfl⟩)
          go_ret2
          exact ⟨rfl, BF.out⟩
        · obtain ⟨rfl, rfl⟩ : txtL l = t1 ∧ (0 : Int) = t2 := by
            have := HT.out
            unfold textR at this
            rw [HV.out, if_pos rfl, if_neg hbig] at this
            exact ⟨congrArg Prod.fst this, congrArg Prod.snd this⟩
          have hb1 : ¬ (20000 : Int) < ((txtL l).length : Int) := by omega
          have KSt := Lib.hid (Try.Builder_String_any b b _ _ U9.out (holds_lt U9.out))
          clear hL hL2 e0 hbig
          go_wp2_with fail
          refine KL.out.mono ?_
          rintro e w3 ⟨rfl, rfl⟩
          go_wp2_with fail
          refine KSt.out.mono ?_
          rintro e w4 ⟨rfl, hb4⟩
          go_wp2
          go_ret2
          exact ⟨rfl, BF.out.trans (hb4.mono ZB.out)⟩
end Go.Proofs.Ytlknbjaippfemaa.Tg
