/- digest.Sum by contract. -/
import Derived.Test.YtanlpcdljclnmaaDoorDgHex
namespace Go.Proofs.YtanlpcdljclnmaaDoor.Dg
open Go.RowKit
theorem start_eq (n : Nat) (h : n < 18446744073709551616) : bits .xor .u64 1181783497276652981 (n : Int) = ((1181783497276652981 ^^^ n : Nat) : Int) :=
  u64_xor_nat 1181783497276652981 n (by decide) h
theorem mix_of (a : Int) (x : Nat) (w : World) (h : a = (x : Int)) :
    Calls Tryd.prog 45 #[.int .u64 a] w fun e w' => e = .returned (.int .u64 (mixN x)) ∧ w = w' := by
  subst h; exact mix_any x w
set_option maxRecDepth 100000 in
set_option maxHeartbeats 400000 in
theorem blocks_any (s : ByteArray) (w : World) :
    Calls Tryd.prog 44 #[.string s] w fun e w' => e = .returned (.func (.func 50) #[] #[.pointer (some ⟨w.heap.size, 0, none⟩)]) ∧ w' = w.alloc (.cells #[.string s] 9) := by
  go_enter Tryd.func44, Tryd.ntmps44
  go_wp2
  go_ret
  exact ⟨rfl, rfl⟩
theorem bl_drop (l : List UInt8) (p : Nat) : ∀ n, bl (l.drop p) 0 n = bl l p n := by
  intro n
  exact bl_congr fun i _ => by simp [List.getD_eq_getElem?_getD, List.getElem?_drop]
set_option maxRecDepth 100000 in
set_option maxHeartbeats 400000 in
theorem sum_any (s : ByteArray) (w : World) (hs : s.size ≤ maxLen) :
    Calls Tryd.prog 35 #[.string s] w fun e w' => e = .returned (.string ⟨(dsum s.data.toList).toArray⟩) ∧ Below w.heap.size w w' := by
  have hs' := hs
  unfold maxLen at hs
  go_enter Tryd.func35, Tryd.ntmps35
  go_wp2_with (go_at_call 44; refine (blocks_any _ _).mono ?_; rintro e w' ⟨rfl, rfl⟩)
  go_loopw [4, 15] (fun n i wr => ∃ k : Nat, k ≤ s.size / 8 + 1 ∧ i = .int .i64 k ∧ n = .int .u64 (st s.data.toList k) ∧ (∃ r, Hid (IsRow wr w.heap.size 9 #[.string r]) ∧ r.size ≤ s.size ∧ Hid (r.data.toList = s.data.toList.drop (8 * k))) ∧ Hid (Below w.heap.size w wr)) (fun _ i _ => s.size / 8 + 1 - (intOf i).toNat)
  case atStart => exact ⟨0, by omega, rfl, val_int (by rw [st, len_data, start_eq s.size (by omega)]), ⟨s, IsRow.made _ _ _, Nat.le_refl _, rfl⟩, (Below.refl _ _).alloc (Nat.le_refl _) _⟩
  case round =>
    obtain ⟨k, hk, rfl, rfl, ⟨r, hrow, hrs, hr⟩, hb⟩ := hrel
    by_cases hlt : k < s.size / 8 + 1
    · go_wp2_with fail
      refine (next_any r w.heap.size wr hrow.out).mono ?_
      rintro e wn ⟨rfl, ⟨r', hrow', hr'⟩, hgrow⟩
      have hlm : s.data.toList.length < M := by rw [len_data]; unfold M; omega
      have hrow2 : Hid (IsRow wn w.heap.size 9 #[.string r']) := hrow'
      have hb2 : Hid (Below w.heap.size w wn) := hb.out.grown hgrow hb.out.size (fun b hb => by simp at hb; omega)
      have hr2 : Hid (r'.data.toList = s.data.toList.drop (8 * (k + 1))) := by
        show _ = _
        rw [hr', hr.out, List.drop_drop]; rfl
      have hrs2 : r'.size ≤ s.size := by
        rw [← len_data, hr', List.length_drop, len_data]; omega
      have hbl : Hid (bl r.data.toList 0 8 = bl s.data.toList (8 * k) 8) := by
        show _ = _
        rw [hr.out, bl_drop]
      clear hr hr' hrow hrow' hb hgrow
      go_wp2_with fail
      refine (mix_of _ (st s.data.toList k ^^^ bl s.data.toList (8 * k) 8) _ ?hm1).mono ?hm2
      case hm1 => rw [hbl.out]; exact u64_xor_nat _ _ (st_lt _ _ hlm) (bl8_lt _ _)
      case hm2 =>
        rintro e w' ⟨rfl, rfl⟩
        go_wp2
        go_roundw
        case rel => exact ⟨k + 1, by omega, by go_num, rfl, ⟨r', hrow2, hrs2, hr2⟩, hb2⟩
        case measure => simp [intOf]; omega
    · obtain rfl : k = s.size / 8 + 1 := by omega
      have hlm : s.data.toList.length < M := by rw [len_data]; unfold M; omega
      have hb2 := Lib.hid hb.out.size
      go_wp2_with fail
      refine (hex_any _ _ (st_lt _ _ hlm)).mono ?_
      rintro e w' ⟨rfl, hbx⟩
      go_wp2
      go_ret
      exact ⟨ret_str (by unfold dsum; rw [len_data]), hb.out.trans (hbx.mono hb.out.size)⟩
end Go.Proofs.YtanlpcdljclnmaaDoor.Dg
