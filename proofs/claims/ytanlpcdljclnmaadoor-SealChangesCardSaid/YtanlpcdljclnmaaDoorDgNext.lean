/- The closure of digest.blocks by contract: it takes eight bytes and leaves the rest. -/
import Derived.Test.YtanlpcdljclnmaaDoorDgKit
import Derived.RegionTactic
namespace Go.Proofs.YtanlpcdljclnmaaDoor.Dg
open Go.RowKit
theorem extract_list (s : ByteArray) (m : Nat) : (s.extract m s.size).data.toList = s.data.toList.drop m := by
  simp
  rw [List.take_of_length_le (by simp)]
/-- the first eight bytes of l as the cells of an array; bytes behind the end are 0. -/
def eight (l : List UInt8) : Array Value := #[.int .u8 (l.getD 0 0).toNat, .int .u8 (l.getD 1 0).toNat, .int .u8 (l.getD 2 0).toNat, .int .u8 (l.getD 3 0).toNat, .int .u8 (l.getD 4 0).toNat, .int .u8 (l.getD 5 0).toNat, .int .u8 (l.getD 6 0).toNat, .int .u8 (l.getD 7 0).toNat]
theorem eight_eq (s : ByteArray) : ((Lib.strCells s).take (Nat.min s.size 8) ++ (#[.int .u8 0, .int .u8 0, .int .u8 0, .int .u8 0, .int .u8 0, .int .u8 0, .int .u8 0, .int .u8 0] : Array Value).toList.drop (Nat.min s.size 8)).toArray = eight s.data.toList := by
  unfold eight Lib.strCells
  have hl : s.size = s.data.toList.length := by simp
  rw [hl]
  generalize s.data.toList = l
  match l with
  | [] => rfl
  | [_] => rfl
  | [_, _] => rfl
  | [_, _, _] => rfl
  | [_, _, _, _] => rfl
  | [_, _, _, _, _] => rfl
  | [_, _, _, _, _, _] => rfl
  | [_, _, _, _, _, _, _] => rfl
  | a0 :: a1 :: a2 :: a3 :: a4 :: a5 :: a6 :: a7 :: r =>
    have : Nat.min (a0 :: a1 :: a2 :: a3 :: a4 :: a5 :: a6 :: a7 :: r).length 8 = 8 := Nat.min_eq_right (by simp)
    rw [this]
    rfl
theorem eight_size : (Tryd.prog.info? 70).map (·.size) = some 8 := by kernel_rfl
theorem byte_size : (Tryd.prog.info? 5).map (·.size) = some 1 := by kernel_rfl
theorem drop_min (s : ByteArray) : s.data.toList.drop (Nat.min s.size 8) = s.data.toList.drop 8 := by
  rcases Nat.le_total s.size 8 with h | h
  · rw [show Nat.min s.size 8 = s.size from Nat.min_eq_left h, List.drop_eq_nil_of_le (by simp), List.drop_eq_nil_of_le (by simpa using h)]
  · rw [show Nat.min s.size 8 = 8 from Nat.min_eq_right h]
theorem eight_index_0 (l : List UInt8) (w : World) : (Instr.index 70 (.agg (eight l)) (.int .i64 0)).run Tryd.prog w = .ok (.int .u8 (l.getD 0 0).toNat) w := by kernel_rfl
theorem eight_index_1 (l : List UInt8) (w : World) : (Instr.index 70 (.agg (eight l)) (.int .i64 1)).run Tryd.prog w = .ok (.int .u8 (l.getD 1 0).toNat) w := by kernel_rfl
theorem eight_index_2 (l : List UInt8) (w : World) : (Instr.index 70 (.agg (eight l)) (.int .i64 2)).run Tryd.prog w = .ok (.int .u8 (l.getD 2 0).toNat) w := by kernel_rfl
theorem eight_index_3 (l : List UInt8) (w : World) : (Instr.index 70 (.agg (eight l)) (.int .i64 3)).run Tryd.prog w = .ok (.int .u8 (l.getD 3 0).toNat) w := by kernel_rfl
theorem eight_index_4 (l : List UInt8) (w : World) : (Instr.index 70 (.agg (eight l)) (.int .i64 4)).run Tryd.prog w = .ok (.int .u8 (l.getD 4 0).toNat) w := by kernel_rfl
theorem eight_index_5 (l : List UInt8) (w : World) : (Instr.index 70 (.agg (eight l)) (.int .i64 5)).run Tryd.prog w = .ok (.int .u8 (l.getD 5 0).toNat) w := by kernel_rfl
theorem eight_index_6 (l : List UInt8) (w : World) : (Instr.index 70 (.agg (eight l)) (.int .i64 6)).run Tryd.prog w = .ok (.int .u8 (l.getD 6 0).toNat) w := by kernel_rfl
theorem eight_index_7 (l : List UInt8) (w : World) : (Instr.index 70 (.agg (eight l)) (.int .i64 7)).run Tryd.prog w = .ok (.int .u8 (l.getD 7 0).toNat) w := by kernel_rfl
theorem eight_index (l : List UInt8) (k : Nat) (hk : k < 8) (w : World) : (Instr.index 70 (.agg (eight l)) (.int .i64 k)).run Tryd.prog w = .ok (.int .u8 (l.getD k 0).toNat) w := by
  match k, hk with
  | 0, _ => exact eight_index_0 l w
  | 1, _ => exact eight_index_1 l w
  | 2, _ => exact eight_index_2 l w
  | 3, _ => exact eight_index_3 l w
  | 4, _ => exact eight_index_4 l w
  | 5, _ => exact eight_index_5 l w
  | 6, _ => exact eight_index_6 l w
  | 7, _ => exact eight_index_7 l w
theorem val_int {k : IntKind} {a b : Int} (h : a = b) : Value.int k a = .int k b := by rw [h]
theorem bl_step (l : List UInt8) (k : Nat) (hk : k < 8) : bits .or .u64 (IntKind.u64.wrap ((bl l 0 k : Int) * 256)) (IntKind.u64.wrap ((l.getD k 0).toNat : Int)) = ((bl l 0 (k + 1) : Nat) : Int) := by
  have h1 := bl_lt l 0 k
  have h2 := byte_lt (l.getD k 0)
  have h3 : 256 ^ k ≤ 256 ^ 7 := Nat.pow_le_pow_right (by decide) (by omega)
  have h4 : (256 : Nat) ^ 7 = 72057594037927936 := by decide
  have e1 : IntKind.u64.wrap ((bl l 0 k : Int) * 256) = ((bl l 0 k * 256 : Nat) : Int) := by rw [IntKind.wrap_u64]; omega
  have e2 : IntKind.u64.wrap ((l.getD k 0).toNat : Int) = ((l.getD k 0).toNat : Int) := by rw [IntKind.wrap_u64]; omega
  rw [e1, e2, u64_or_nat _ _ (by omega) (by omega), nat_join 8 _ _ (by omega) (by omega), bl, Nat.zero_add]
theorem grownBy_put {w w' : World} {g : Nat} (h : w.grownBy w' (some g)) (u : Value) : w.grownBy (w'.setCell ⟨g, 0, none⟩ u) (some g) :=
  ⟨h.os, h.tape, h.output, by simpa [World.setCell] using h.size, fun i hi hne => (Below.heap_setCell w' _ u i (fun e => hne (by rw [e]))).trans (h.block i hi hne)⟩
set_option maxRecDepth 100000 in
set_option maxHeartbeats 400000 in
theorem next_any (s : ByteArray) (g : Nat) (w : World) (hr : IsRow w g 9 #[.string s]) :
    Calls Tryd.prog 50 #[.pointer (some ⟨g, 0, none⟩)] w fun e w' => e = .returned (.int .u64 (bl s.data.toList 0 8)) ∧ (∃ r, IsRow w' g 9 #[.string r] ∧ r.data.toList = s.data.toList.drop 8) ∧ w.grownBy w' (some g) := by
  have hin := hr.inside
  have hcopy := run_copy_string (P := Tryd.prog) (w.alloc (.cells #[.int .u8 0, .int .u8 0, .int .u8 0, .int .u8 0, .int .u8 0, .int .u8 0, .int .u8 0, .int .u8 0] 70)).drew 64 9 3 5 w.heap.size 8 8 s _ 70
    Tryd.underlying64 byte_size (IsRow.made w _ _) (by decide)
  rw [eight_eq] at hcopy
  obtain ⟨w2, hw2⟩ : ∃ w2, w2 = (w.alloc (.cells #[.int .u8 0, .int .u8 0, .int .u8 0, .int .u8 0, .int .u8 0, .int .u8 0, .int .u8 0, .int .u8 0] 70)).drew.setRow w.heap.size (eight s.data.toList) := ⟨_, rfl⟩
  rw [← hw2] at hcopy
  have c1 : w.cell? ⟨g, 0, none⟩ = some (.string s) := hr.get 0
  have r2 : IsRow w2 g 9 #[.string s] := by
    rw [hw2]
    exact (setRow_other _ _ _ _ (by omega)).trans (hr.later _)
  have e2 : IsRow w2 w.heap.size 70 (eight s.data.toList) := by
    rw [hw2]
    exact setRow_heap _ _ _ _ _ _ (IsRow.made w 70 _)
  have b2 : w.grownBy w2 (some g) := by
    rw [hw2]
    refine ⟨rfl, rfl, rfl, by simp, fun i hi _ => ?_⟩
    exact (setRow_other _ _ _ _ (by omega)).trans (Below.heap_alloc w _ i hi)
  have c2 : w2.cell? ⟨g, 0, none⟩ = some (.string s) := r2.get 0
  have f2 : w2.frozen? ⟨g, 0, none⟩ = false := r2.open_ 0
  have hm := Nat.min_le_left s.size 8
  have hd : (s.extract (Nat.min s.size 8) s.size).data.toList = s.data.toList.drop 8 := (extract_list s _).trans (drop_min s)
  have E3 : Hid ((w2.setCell ⟨g, 0, none⟩ (.string (s.extract (Nat.min s.size 8) s.size))).heap[w.heap.size]? = some (.cells (eight s.data.toList) 70 (0, 0))) := e2.putOther (by simp; omega) _
  have R3 : Hid (IsRow (w2.setCell ⟨g, 0, none⟩ (.string (s.extract (Nat.min s.size 8) s.size))) g 9 #[.string (s.extract (Nat.min s.size 8) s.size)]) := r2.put 0 _
  have B3 : Hid (w.grownBy (w2.setCell ⟨g, 0, none⟩ (.string (s.extract (Nat.min s.size 8) s.size))) (some g)) := grownBy_put b2 _
  have HD := Lib.hid hd
  have hm : Nat.min s.size 8 ≤ s.size := hm
  generalize Nat.min s.size 8 = m at *
  clear hw2 r2 e2 b2 hd
  go_enter Tryd.func50, Tryd.ntmps50
  go_wp2
  go_region
  all_goals
    go_wp2_with (refine wpList_load_row rfl 70 (.tmp 2) rfl w.heap.size rfl 70 (eight s.data.toList) (0, 0) _ E3.out Tryd.underlying70 rfl eight_size ?_)
    generalize w2.setCell ⟨g, 0, none⟩ (.string (s.extract m s.size)) = w3 at *
    go_loop [3, 12] (fun n i => ∃ k : Nat, k ≤ 8 ∧ i = .int .i64 k ∧ n = .int .u64 (bl s.data.toList 0 k)) (fun _ i => 8 - (intOf i).toNat)
    case atStart => exact ⟨0, by omega, rfl, rfl⟩
    case round =>
      obtain ⟨k, hk, rfl, rfl⟩ := hrel
      have hix := fun h => eight_index s.data.toList k h
      by_cases hlt : k < 8
      · go_wp2
        go_round
        case rel => exact ⟨k + 1, by omega, by go_num, val_int (by rw [← bl_step s.data.toList k hlt]; simp)⟩
        case measure => simp [intOf]; omega
      · go_wp2
        go_ret
        obtain rfl : k = 8 := by omega
        exact ⟨rfl, ⟨_, R3.out, HD.out⟩, B3.out⟩
end Go.Proofs.YtanlpcdljclnmaaDoor.Dg
