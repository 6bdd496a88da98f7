/- digest.joined and digest.List by contract. -/
import Derived.Test.YtanlpcdljclnmaaDoorDgSum
import Derived.Test.YtanlpcdljclnmaaDoorDgBuild
import Derived.Test.YtanlpcdljclnmaaDoorShelf
import Derived.WalkSmall
namespace Go.Proofs.YtanlpcdljclnmaaDoor.Dg
open Go.RowKit

/-- the library's table of powers of ten lies as it was laid. -/
def Tab (w : World) : Prop := Lib.TabIs Tryd.prog w "internal/strconv.uint64pow10" .u64 Lib.pow10Tab
theorem tab_at : Tryd.prog.globalNamed "internal/strconv.uint64pow10" = some 0 := by kernel_rfl
theorem Tab.inside {w : World} (h : Tab w) : 0 < w.heap.size := by
  refine Nat.lt_of_not_le fun hge => ?_
  unfold Tab Lib.TabIs World.var? at h
  rw [tab_at] at h
  simp [Array.getElem?_eq_none hge] at h
theorem Tab.below {w w' : World} (h : Tab w) {B : Nat} (hb : Below B w w') (hB : w.heap.size ≤ B) : Tab w' := var?_below hb tab_at (Nat.lt_of_lt_of_le h.inside hB) h
theorem itoa_any (n : Nat) (w : World) (hn : n ≤ 9223372036854775807) (ht : Tab w) :
    Calls Tryd.prog 38 #[.int .i64 n] w fun e w' => e = .returned (.string ⟨(Lib.itoa n).toArray⟩) ∧ Below w.heap.size w w' := by
  refine (Tryd.strconv_Itoa n (by omega) (by omega) w ht).mono ?_
  rintro e w' ⟨rfl, k, os, rfl⟩
  exact ⟨rfl, rfl, rfl, rfl, by simp [Sort.grow], fun i hi => by simp [Sort.grow, World.drewN, Array.getElem?_append, hi]⟩

/-- the slice at address a holds the strings l, in blocks below B. -/
def Strs (w : World) (B : Nat) (a : Option Addr) (l : List ByteArray) : Prop :=
  0 < l.length → ∃ b off, a = some ⟨b, off, none⟩ ∧ b < B ∧ ∀ i s, l[i]? = some s → w.cell? ⟨b, off + i, none⟩ = some (.string s)
theorem Strs.below {w w' : World} {B : Nat} {a : Option Addr} {l : List ByteArray} (h : Strs w B a l) (hb : Below B w w') : Strs w' B a l := by
  intro h0
  obtain ⟨b, off, rfl, hlt, hc⟩ := h h0
  exact ⟨b, off, rfl, hlt, fun i s hi => (hb.cell (p := ⟨b, off + i, none⟩) hlt).trans (hc i s hi)⟩
def lists (l : List ByteArray) : List (List UInt8) := l.map fun s => s.data.toList
theorem joined_append (a b : List (List UInt8)) : joined (a ++ b) = joined a ++ joined b := by
  induction a with
  | nil => rfl
  | cons x a ih => simp [joined, ih]
theorem joined_next {l : List ByteArray} {k : Nat} {s : ByteArray} (h : l[k]? = some s) :
    joined (lists (l.take (k + 1))) = joined (lists (l.take k)) ++ Lib.itoa s.size ++ [58] ++ s.data.toList := by
  obtain ⟨hk, rfl⟩ := List.getElem?_eq_some_iff.1 h
  rw [List.take_succ_eq_append_getElem hk]
  unfold lists
  rw [List.map_append, joined_append]
  simp [joined]
theorem joined_take_le (l : List ByteArray) (k : Nat) : (joined (lists (l.take k))).length ≤ (joined (lists l)).length := by
  have : joined (lists l) = joined (lists (l.take k)) ++ joined (lists (l.drop k)) := by
    rw [← joined_append]
    unfold lists
    rw [← List.map_append, List.take_append_drop]
  rw [this, List.length_append]
  omega
theorem str_len (l : List UInt8) : (ByteArray.mk l.toArray).size = l.length := by simp [ByteArray.size]
set_option maxRecDepth 100000 in
set_option maxHeartbeats 1000000 in
theorem joined_any (a : Option Addr) (cap : Nat) (l : List ByteArray) (w : World) (ht : Tab w) (hl : Strs w w.heap.size a l) (hn : l.length ≤ maxLen) (hlen : (joined (lists l)).length ≤ 140737488355328) :
    Calls Tryd.prog 47 #[.slice a l.length cap] w fun e w' => e = .returned (.string ⟨(joined (lists l)).toArray⟩) ∧ Below w.heap.size w w' := by
  unfold maxLen at hn
  go_enter Tryd.func47, Tryd.ntmps47
  go_wp2
  go_loopw [8] (fun i wr => ∃ k : Nat, k ≤ l.length ∧ i = .int .i64 k ∧ Hid (Holds w.heap.size w.heap.size (Lib.byteCells (joined (lists (l.take k)))) wr) ∧ Hid (Below w.heap.size w wr)) (fun i _ => l.length - (intOf i).toNat)
  case atStart => exact ⟨0, by omega, rfl, Lib.fresh_isBuilder _ _ _, (Below.refl _ _).alloc (Nat.le_refl _) _⟩
  case round =>
    obtain ⟨k, hk, rfl, hh, hb⟩ := hrel
    by_cases hlt : k < l.length
    · obtain ⟨b, off, rfl, hbB, hcell⟩ := hl (by omega)
      obtain ⟨s, hs⟩ : ∃ s, l[k]? = some s := ⟨_, List.getElem?_eq_getElem hlt⟩
      have c1 : wr.cell? ⟨b, off + k, none⟩ = some (.string s) := (hb.out.cell (p := ⟨b, off + k, none⟩) hbB).trans (hcell k s hs)
      have hnext := joined_next hs
      have hle := joined_take_le l (k + 1)
      rw [hnext] at hle
      simp only [List.length_append, List.length_cons, List.length_nil, len_data] at hle
      have HS := Lib.hid hs
      have HN := Lib.hid hnext
      have HC := Lib.hid hcell
      have htr : Hid (Tab wr) := ht.below hb.out (Nat.le_refl _)
      clear hs hnext hcell
      go_wp2_with fail
      refine (itoa_any s.size _ (by omega) htr.out).mono ?_
      rintro e w1 ⟨rfl, hb1⟩
      have hh1 := hh.out.below hb1
      have B1 : Hid (Below w.heap.size w w1) := hb.out.trans (hb1.mono hb.out.size)
      clear htr hh hb hb1
      go_wp2_with fail
      refine (writeString_any _ _ _ _ _ hh1 (by rw [Lib.byteCells_length, str_len]; omega)).mono ?_
      rintro e w2 ⟨rfl, hu2, hb2⟩
      have B2 : Hid (Below w.heap.size w w2) := B1.out.trans hb2
      clear hh1 B1 hb2
      rw [Lib.strCells_eq] at hu2
      go_wp2_with fail
      refine (writeByte_any _ _ _ _ _ (.inr hu2) (by simp [Lib.byteCells_length]; omega)).mono ?_
      rintro e w3 ⟨rfl, hu3, hb3⟩
      have B3 : Hid (Below w.heap.size w w3) := B2.out.trans hb3
      clear hu2 B2 hb3
      go_wp2_with fail
      refine (writeString_any _ _ _ _ _ (.inr hu3) (by simp [Lib.byteCells_length]; omega)).mono ?_
      rintro e w4 ⟨rfl, hu4, hb4⟩
      have B4 : Hid (Below w.heap.size w w4) := B3.out.trans hb4
      have U4 : Hid (Holds w.heap.size w.heap.size (Lib.byteCells (joined (lists (l.take (k + 1))))) w4) := by
        rw [HN.out, Lib.byteCells_append, Lib.byteCells_append, Lib.byteCells_append]
        exact .inr hu4
      clear hu3 hu4 B3 hb4
      go_wp2
      go_roundw
      case rel => exact ⟨k + 1, by omega, by go_num, U4, B4⟩
      case measure => simp [intOf]; omega
    · obtain rfl : k = l.length := by omega
      rw [List.take_length] at hh
      go_wp2_with fail
      refine (Tryd.Builder_String_any w.heap.size w.heap.size _ _ hh.out hb.out.size).mono ?_
      rintro e w' ⟨rfl, hbx⟩
      go_wp2
      go_ret
      exact ⟨rfl, hb.out.trans hbx⟩
set_option maxRecDepth 100000 in
set_option maxHeartbeats 400000 in
theorem list_any (a : Option Addr) (cap : Nat) (l : List ByteArray) (w : World) (ht : Tab w) (hl : Strs w w.heap.size a l) (hn : l.length ≤ maxLen) (hlen : (joined (lists l)).length ≤ 140737488355328) :
    Calls Tryd.prog 37 #[.slice a l.length cap] w fun e w' => e = .returned (.string ⟨(dsum (joined (lists l))).toArray⟩) ∧ Below w.heap.size w w' := by
  go_enter Tryd.func37, Tryd.ntmps37
  go_wp2_with fail
  refine (joined_any a cap l _ ht hl hn hlen).mono ?_
  rintro e w1 ⟨rfl, hb1⟩
  have H1 := Lib.hid hb1
  clear hb1 ht hl
  go_wp2_with fail
  refine (sum_any _ _ (by rw [str_len]; unfold maxLen; omega)).mono ?_
  rintro e w2 ⟨rfl, hb2⟩
  go_wp2
  go_ret
  exact ⟨rfl, H1.out.trans (hb2.mono H1.out.size)⟩
end Go.Proofs.YtanlpcdljclnmaaDoor.Dg
