/- lexer.Quote; the reader's quoted; pair. -/
import Derived.Test.YtlknbjaippfemaaLxSkip
namespace Go.Proofs.Ytlknbjaippfemaa.Lx
open Go.RowKit
theorem esc_app (a b : B) : esc (a ++ b) = esc a ++ esc b := by
  induction a with
  | nil => rfl
  | cons c a ih =>
    rw [List.cons_append, esc, esc, ih]
    (repeat' split) <;> simp
theorem esc_len : ∀ l : B, (esc l).length ≤ 2 * l.length
  | [] => Nat.le_refl _
  | c :: l => by
    have := esc_len l
    rw [esc]
    (repeat' split) <;> simp <;> omega
theorem take_snoc (s : ByteArray) (k : Nat) (h : k < s.size) : s.data.toList.take (k + 1) = s.data.toList.take k ++ [s[k]] := by
  rw [List.take_succ_eq_append_getElem (by simpa using h)]; rfl
theorem cells_one (l : B) (c : UInt8) : Lib.byteCells (l ++ [c]) = Lib.byteCells l ++ [.int .u8 c.toNat] := by rw [Lib.byteCells_append]; rfl
theorem cells_str : Lib.strCells ⟨#[92, 110]⟩ = Lib.byteCells [92, 110] := rfl
set_option maxRecDepth 100000 in
set_option maxHeartbeats 1000000 in
theorem quote_any (s : ByteArray) (w : World) (hm : s.size ≤ 100000) :
    Calls Try.prog 34 #[.string s] w fun e w' => e = .returned (.string ⟨(quote s.data.toList).toArray⟩) ∧ Below w.heap.size w w' := by
  go_enter Try.func34, Try.ntmps34
  go_wp2_with fail
  refine (writeByte_any w.heap.size w.heap.size (Lib.byteCells []) _ _ (Lib.fresh_isBuilder _ _ _) (by simp [Lib.byteCells_length])).mono ?_
  rintro e w1 ⟨rfl, hu1, hb1⟩
  have U1 : Hid (Holds w.heap.size w.heap.size (Lib.byteCells (34 :: esc (s.data.toList.take 0))) w1) := .inr hu1
  have B1 : Hid (Below w.heap.size w w1) := ((Below.refl _ _).alloc (Nat.le_refl _) _).trans hb1
  clear hu1 hb1
  go_wp2
  go_loopw [9] (fun i wr => ∃ k : Nat, k ≤ s.size ∧ i = .int .i64 k ∧ Hid (Holds w.heap.size w.heap.size (Lib.byteCells (34 :: esc (s.data.toList.take k))) wr) ∧ Hid (Below w.heap.size w wr)) (fun i _ => s.size - (intOf i).toNat)
  case atStart => exact ⟨0, by omega, rfl, U1, B1⟩
  case round =>
    clear U1 B1
    obtain ⟨k, hk, rfl, HU, HB⟩ := hrel
    have hlen := esc_len (s.data.toList.take k)
    have htl : (s.data.toList.take k).length ≤ k := List.length_take_le _ _
    by_cases hlt : k < s.size
    · have HT := Lib.hid (take_snoc s k hlt)
      by_cases h92 : s[k] = 92 ∨ s[k] = 34
      · have HN : Hid (Lib.byteCells (34 :: esc (s.data.toList.take (k + 1))) = Lib.byteCells (34 :: esc (s.data.toList.take k)) ++ [.int .u8 92] ++ [.int .u8 s[k].toNat]) := by
          rw [HT.out, esc_app, show esc [s[k]] = [92] ++ [s[k]] by rw [esc, if_pos h92]; rfl, ← List.append_assoc, show (34 :: (esc (s.data.toList.take k) ++ [92] ++ [s[k]]) : B) = (34 :: esc (s.data.toList.take k)) ++ [92] ++ [s[k]] by simp, cells_one, cells_one]; rfl
        have fin : ∀ w2, Hid (Used w.heap.size w.heap.size (Lib.byteCells (34 :: esc (s.data.toList.take k)) ++ [.int .u8 92] ++ [.int .u8 s[k].toNat]) w2) → Hid (Holds w.heap.size w.heap.size (Lib.byteCells (34 :: esc (s.data.toList.take (k + 1)))) w2) := fun w2 h => by rw [HN.out]; exact .inr h.out
        have FIN := Lib.hid fin
        clear fin HN
        by_cases h34 : s[k] = 92
        · have e1 : ((s[k].toNat : Int) == 92) = true := by rw [h34]; rfl
          clear h34 h92
          go_wp2_with fail
          refine (writeByte_any _ _ _ _ _ HU.out (by simp [Lib.byteCells_length]; omega)).mono ?_
          rintro e w2 ⟨rfl, hu2, hb2⟩
          have U2 := Lib.hid hu2
          have B2 := Lib.hid (HB.out.trans hb2)
          clear hu2 hb2
          go_wp2_with fail
          refine (writeByte_any _ _ _ _ _ (.inr U2.out) (by simp [Lib.byteCells_length]; omega)).mono ?_
          rintro e w3 ⟨rfl, hu3, hb3⟩
          have U3 := FIN.out w3 (Lib.hid hu3)
          have B3 := Lib.hid (B2.out.trans hb3)
          clear hu3 hb3 U2 B2
          go_wp2
          go_roundw
          case rel => exact ⟨k + 1, by omega, by go_num, U3, B3⟩
          case measure => simp [intOf]; omega
        · have h34' : s[k] = 34 := h92.resolve_left h34
          have e1 : ((s[k].toNat : Int) == 92) = false := by rw [h34']; rfl
          have e2 : ((s[k].toNat : Int) == 34) = true := by rw [h34']; rfl
          clear h34 h34' h92
          go_wp2_with fail
          refine (writeByte_any _ _ _ _ _ HU.out (by simp [Lib.byteCells_length]; omega)).mono ?_
          rintro e w2 ⟨rfl, hu2, hb2⟩
          have U2 := Lib.hid hu2
          have B2 := Lib.hid (HB.out.trans hb2)
          clear hu2 hb2
          go_wp2_with fail
          refine (writeByte_any _ _ _ _ _ (.inr U2.out) (by simp [Lib.byteCells_length]; omega)).mono ?_
          rintro e w3 ⟨rfl, hu3, hb3⟩
          have U3 := FIN.out w3 (Lib.hid hu3)
          have B3 := Lib.hid (B2.out.trans hb3)
          clear hu3 hb3 U2 B2
          go_wp2
          go_roundw
          case rel => exact ⟨k + 1, by omega, by go_num, U3, B3⟩
          case measure => simp [intOf]; omega
      · have e1 : ((s[k].toNat : Int) == 92) = false := by
          have := u8_beq s[k] 92 (by decide)
          rw [show ((92 : Nat) : Int) = 92 from rfl] at this
          rw [this, beq_eq_false_iff_ne]
          exact fun e => h92 (.inl e)
        have e2 : ((s[k].toNat : Int) == 34) = false := by
          have := u8_beq s[k] 34 (by decide)
          rw [show ((34 : Nat) : Int) = 34 from rfl] at this
          rw [this, beq_eq_false_iff_ne]
          exact fun e => h92 (.inr e)
        by_cases h10 : s[k] = 10
        · have e3 : ((s[k].toNat : Int) == 10) = true := by rw [h10]; rfl
          have HN : Hid (Lib.byteCells (34 :: esc (s.data.toList.take (k + 1))) = Lib.byteCells (34 :: esc (s.data.toList.take k)) ++ Lib.byteCells [92, 110]) := by
            rw [HT.out, esc_app, show esc [s[k]] = [92, 110] by rw [esc, if_neg h92, if_pos h10]; rfl, ← List.cons_append, Lib.byteCells_append]; exact Lib.hid rfl
          clear h10 h92
          go_wp2_with fail
          refine (writeString_any _ _ _ _ _ HU.out (by simp [Lib.byteCells_length, ByteArray.size]; omega)).mono ?_
          rintro e w2 ⟨rfl, hu2, hb2⟩
          have U2 : Hid (Holds w.heap.size w.heap.size (Lib.byteCells (34 :: esc (s.data.toList.take (k + 1)))) w2) := by
            rw [HN.out, ← cells_str]; exact .inr hu2
          have B2 := Lib.hid (HB.out.trans hb2)
          clear hu2 hb2
          go_wp2
          go_roundw
          case rel => exact ⟨k + 1, by omega, by go_num, U2, B2⟩
          case measure => simp [intOf]; omega
        · have e3 : ((s[k].toNat : Int) == 10) = false := by
            have := u8_beq s[k] 10 (by decide)
            rw [show ((10 : Nat) : Int) = 10 from rfl] at this
            rw [this, beq_eq_false_iff_ne]
            exact h10
          have HN : Hid (Lib.byteCells (34 :: esc (s.data.toList.take (k + 1))) = Lib.byteCells (34 :: esc (s.data.toList.take k)) ++ [.int .u8 s[k].toNat]) := by
            rw [HT.out, esc_app, show esc [s[k]] = [s[k]] by rw [esc, if_neg h92, if_neg h10]; rfl, ← List.cons_append, cells_one]; exact Lib.hid rfl
          have fin : ∀ w2, Hid (Used w.heap.size w.heap.size (Lib.byteCells (34 :: esc (s.data.toList.take k)) ++ [.int .u8 s[k].toNat]) w2) → Hid (Holds w.heap.size w.heap.size (Lib.byteCells (34 :: esc (s.data.toList.take (k + 1)))) w2) := fun w2 h => by rw [HN.out]; exact .inr h.out
          have FIN := Lib.hid fin
          clear fin HN h10 h92
          go_wp2_with fail
          refine (writeByte_any _ _ _ _ _ HU.out (by simp [Lib.byteCells_length]; omega)).mono ?_
          rintro e w2 ⟨rfl, hu2, hb2⟩
          have U2 := FIN.out w2 (Lib.hid hu2)
          have B2 := Lib.hid (HB.out.trans hb2)
          clear hu2 hb2
          go_wp2
          go_roundw
          case rel => exact ⟨k + 1, by omega, by go_num, U2, B2⟩
          case measure => simp [intOf]; omega
    · obtain rfl : k = s.size := by omega
      rw [List.take_of_length_le (show s.data.toList.length ≤ s.size by rw [len_data]; exact Nat.le_refl _)] at HU hlen
      have hls := Nat.le_of_eq (len_data s)
      go_wp2_with fail
      refine (writeByte_any _ _ _ _ _ HU.out (by simp [Lib.byteCells_length]; omega)).mono ?_
      rintro e w2 ⟨rfl, hu2, hb2⟩
      have U2 : Hid (Holds w.heap.size w.heap.size (Lib.byteCells (quote s.data.toList)) w2) := by
        unfold quote
        rw [← List.cons_append, cells_one]
        exact .inr hu2
      have B2 := Lib.hid (HB.out.trans hb2)
      clear hu2 hb2
      go_wp2_with fail
      refine (Try.Builder_String_any w.heap.size w.heap.size _ _ U2.out B2.out.size).mono ?_
      rintro e w' ⟨rfl, hbx⟩
      go_wp2
      go_ret
      exact ⟨rfl, B2.out.trans hbx⟩
end Go.Proofs.Ytlknbjaippfemaa.Lx
