/- Merged: LxTab, LxReader, LxBuild. -/
import Derived.Test.YtgbkjdpjilldmaaGreatDoorHz3
import Derived.Laws.Tables
import Derived.Laws.ResultCell
import Derived.Great.Walk
import Derived.Test.YtgbkjdpjilldmaaGreatDoorLxShelf
import Derived.Lib.Builder
import Derived.Lib.AppendStr
import Derived.Laws.Externs
/- lexer: the classes of all bytes. -/
namespace Go.Proofs.YtgbkjdpjilldmaaGreatDoor.Lx
open Go.RowKit
/-- an array of the numbers of 256 bytes. -/
def tabOf (f : Nat → Nat) : Array Value := ((List.range 256).map fun i => Value.int .u8 (f i : Int)).toArray
theorem tabOf_size (f : Nat → Nat) : (tabOf f).size = 256 := by simp [tabOf]
theorem tabOf_get (f : Nat → Nat) (i : Nat) (h : i < 256) : (tabOf f)[i]? = some (.int .u8 (f i : Int)) := by simp [tabOf, h]
theorem tabOf_congr {f g : Nat → Nat} (h : ∀ i, i < 256 → f i = g i) : tabOf f = tabOf g := by
  unfold tabOf
  congr 1
  refine List.map_congr_left fun i hi => ?_
  rw [h i (by simpa using hi)]
theorem tabOf_put (f : Nat → Nat) (i v : Nat) (u : Value) (hu : u = .int .u8 (v : Int)) : (tabOf f).setIfInBounds i u = tabOf fun k => if k = i then v else f k := by
  subst hu
  apply Array.ext_getElem?
  intro k
  rw [Array.getElem?_setIfInBounds]
  by_cases hk : k < 256
  · rw [tabOf_get _ k hk, tabOf_size]
    by_cases e : i = k
    · subst e; rw [if_pos rfl, if_pos hk, tabOf_get _ i hk, if_pos rfl]
    · rw [if_neg e, tabOf_get _ k hk, if_neg (fun h => e h.symm)]
  · rw [Array.getElem?_eq_none (xs := tabOf fun k => if k = i then v else f k) (by rw [tabOf_size]; omega), tabOf_size, Array.getElem?_eq_none (xs := tabOf f) (by rw [tabOf_size]; omega)]
    split
    · rw [if_neg (by omega)]
    · rfl
theorem tabOf_one (f : Nat → Nat) : (tabOf f).all (·.oneCell') = true := by
  rw [Array.all_eq_true_iff_forall_mem]
  intro v hv
  simp only [tabOf, List.mem_toArray, List.mem_map] at hv
  obtain ⟨i, _, rfl⟩ := hv
  rfl
def clsN (i : Nat) : Nat := cls (UInt8.ofNat i)
def zer : Array Value := tabOf fun _ => 0
def tabC : Array Value := tabOf clsN
theorem tab_info : (Tryz.prog.info? 140).map (·.size) = some 256 := by kernel_rfl
theorem zero_tab (w : World) : Sem.run Tryz.prog (zeroValue 140) w = .ok (.agg zer) w := by kernel_rfl
theorem rng_get (f : Nat → Nat) (w : World) (g i : Nat) (h : IsRow w g 140 (tabOf f)) (hi : i < 256) : w.cell? ⟨g, i, none⟩ = some (.int .u8 (f i : Int)) := by rw [h.get, tabOf_get f i hi]
/-- the first k bytes have their classes as letters and digits. -/
def fst (k i : Nat) : Nat := if i < k then (if isLet (UInt8.ofNat i) then 1 else if isDig (UInt8.ofNat i) then 2 else 0) else 0
def snd (k i : Nat) : Nat := if (symB.take k).contains (UInt8.ofNat i) then 64 else fst 256 i
theorem row_put {w : World} {g : Nat} {f f' : Nat → Nat} (h : IsRow w g 140 (tabOf f)) (i v : Nat) (e : ∀ k, k < 256 → (if k = i then v else f k) = f' k) :
    IsRow (w.setCell ⟨g, i, none⟩ (.int .u8 (v : Int))) g 140 (tabOf f') := by
  have h1 := h.put i (.int .u8 (v : Int))
  rw [tabOf_put f i v _ rfl, tabOf_congr e] at h1
  exact h1
theorem fst_put {k : Nat} (v : Nat) (hv : v = if isLet (UInt8.ofNat k) then 1 else if isDig (UInt8.ofNat k) then 2 else 0) (i : Nat) : (if i = k then v else fst k i) = fst (k + 1) i := by
  unfold fst
  by_cases e : i = k
  · subst e; rw [if_pos rfl, if_pos (Nat.lt_succ_self _), hv]
  · rw [if_neg e]
    by_cases h : i < k
    · rw [if_pos h, if_pos (Nat.lt_succ_of_lt h)]
    · rw [if_neg h, if_neg (fun h2 => by omega)]
theorem fst_skip {k : Nat} (h1 : isLet (UInt8.ofNat k) = false) (h2 : isDig (UInt8.ofNat k) = false) : tabOf (fst k) = tabOf (fst (k + 1)) := tabOf_congr fun i _ => by
  rw [← fst_put 0 (by rw [h1, h2]; rfl) i]
  by_cases e : i = k
  · subst e; rw [if_pos rfl]; unfold fst; rw [if_neg (by omega)]
  · rw [if_neg e]
def symAt (k : Nat) : Nat := (symB.getD k 0).toNat
theorem snd_put : ∀ k : Fin 15, ∀ i : Fin 256, (if i.val = symAt k.val then 64 else snd k.val i.val) = snd (k.val + 1) i.val := by decide +kernel
theorem sym_lt : ∀ k : Fin 15, symAt k.val < 256 := by decide
theorem last_put : ∀ i : Fin 256, (if i.val = 34 then 32 else if i.val = 35 then 16 else if i.val = 95 then 4 else if i.val = 10 then 8 else if i.val = 9 then 8 else if i.val = 32 then 8 else snd 15 i.val) = clsN i.val := by decide +kernel
theorem sym_index_0 (w : World) : (Instr.index 9 (.string ⟨#[59, 44, 46, 58, 40, 41, 123, 125, 91, 93, 61, 60, 62, 47, 45]⟩) (.int .i64 0)).run Tryz.prog w = .ok (.int .u8 59) w := by kernel_rfl
theorem sym_index_1 (w : World) : (Instr.index 9 (.string ⟨#[59, 44, 46, 58, 40, 41, 123, 125, 91, 93, 61, 60, 62, 47, 45]⟩) (.int .i64 1)).run Tryz.prog w = .ok (.int .u8 44) w := by kernel_rfl
theorem sym_index_2 (w : World) : (Instr.index 9 (.string ⟨#[59, 44, 46, 58, 40, 41, 123, 125, 91, 93, 61, 60, 62, 47, 45]⟩) (.int .i64 2)).run Tryz.prog w = .ok (.int .u8 46) w := by kernel_rfl
theorem sym_index_3 (w : World) : (Instr.index 9 (.string ⟨#[59, 44, 46, 58, 40, 41, 123, 125, 91, 93, 61, 60, 62, 47, 45]⟩) (.int .i64 3)).run Tryz.prog w = .ok (.int .u8 58) w := by kernel_rfl
theorem sym_index_4 (w : World) : (Instr.index 9 (.string ⟨#[59, 44, 46, 58, 40, 41, 123, 125, 91, 93, 61, 60, 62, 47, 45]⟩) (.int .i64 4)).run Tryz.prog w = .ok (.int .u8 40) w := by kernel_rfl
theorem sym_index_5 (w : World) : (Instr.index 9 (.string ⟨#[59, 44, 46, 58, 40, 41, 123, 125, 91, 93, 61, 60, 62, 47, 45]⟩) (.int .i64 5)).run Tryz.prog w = .ok (.int .u8 41) w := by kernel_rfl
theorem sym_index_6 (w : World) : (Instr.index 9 (.string ⟨#[59, 44, 46, 58, 40, 41, 123, 125, 91, 93, 61, 60, 62, 47, 45]⟩) (.int .i64 6)).run Tryz.prog w = .ok (.int .u8 123) w := by kernel_rfl
theorem sym_index_7 (w : World) : (Instr.index 9 (.string ⟨#[59, 44, 46, 58, 40, 41, 123, 125, 91, 93, 61, 60, 62, 47, 45]⟩) (.int .i64 7)).run Tryz.prog w = .ok (.int .u8 125) w := by kernel_rfl
theorem sym_index_8 (w : World) : (Instr.index 9 (.string ⟨#[59, 44, 46, 58, 40, 41, 123, 125, 91, 93, 61, 60, 62, 47, 45]⟩) (.int .i64 8)).run Tryz.prog w = .ok (.int .u8 91) w := by kernel_rfl
theorem sym_index_9 (w : World) : (Instr.index 9 (.string ⟨#[59, 44, 46, 58, 40, 41, 123, 125, 91, 93, 61, 60, 62, 47, 45]⟩) (.int .i64 9)).run Tryz.prog w = .ok (.int .u8 93) w := by kernel_rfl
theorem sym_index_10 (w : World) : (Instr.index 9 (.string ⟨#[59, 44, 46, 58, 40, 41, 123, 125, 91, 93, 61, 60, 62, 47, 45]⟩) (.int .i64 10)).run Tryz.prog w = .ok (.int .u8 61) w := by kernel_rfl
theorem sym_index_11 (w : World) : (Instr.index 9 (.string ⟨#[59, 44, 46, 58, 40, 41, 123, 125, 91, 93, 61, 60, 62, 47, 45]⟩) (.int .i64 11)).run Tryz.prog w = .ok (.int .u8 60) w := by kernel_rfl
theorem sym_index_12 (w : World) : (Instr.index 9 (.string ⟨#[59, 44, 46, 58, 40, 41, 123, 125, 91, 93, 61, 60, 62, 47, 45]⟩) (.int .i64 12)).run Tryz.prog w = .ok (.int .u8 62) w := by kernel_rfl
theorem sym_index_13 (w : World) : (Instr.index 9 (.string ⟨#[59, 44, 46, 58, 40, 41, 123, 125, 91, 93, 61, 60, 62, 47, 45]⟩) (.int .i64 13)).run Tryz.prog w = .ok (.int .u8 47) w := by kernel_rfl
theorem sym_index_14 (w : World) : (Instr.index 9 (.string ⟨#[59, 44, 46, 58, 40, 41, 123, 125, 91, 93, 61, 60, 62, 47, 45]⟩) (.int .i64 14)).run Tryz.prog w = .ok (.int .u8 45) w := by kernel_rfl
theorem sym_index (k : Nat) (hk : k < 15) (w : World) : (Instr.index 9 (.string ⟨#[59, 44, 46, 58, 40, 41, 123, 125, 91, 93, 61, 60, 62, 47, 45]⟩) (.int .i64 k)).run Tryz.prog w = .ok (.int .u8 (symAt k : Int)) w := by
  match k, hk with
  | 0, _ => exact sym_index_0 w
  | 1, _ => exact sym_index_1 w
  | 2, _ => exact sym_index_2 w
  | 3, _ => exact sym_index_3 w
  | 4, _ => exact sym_index_4 w
  | 5, _ => exact sym_index_5 w
  | 6, _ => exact sym_index_6 w
  | 7, _ => exact sym_index_7 w
  | 8, _ => exact sym_index_8 w
  | 9, _ => exact sym_index_9 w
  | 10, _ => exact sym_index_10 w
  | 11, _ => exact sym_index_11 w
  | 12, _ => exact sym_index_12 w
  | 13, _ => exact sym_index_13 w
  | 14, _ => exact sym_index_14 w
theorem rng_zero (w : World) (g : Nat) (f : Nat → Nat) (h : IsRow w g 140 (tabOf f)) (i : Nat) (hi : i < 256) : w.cell? ⟨g, i, none⟩ = some (.int .u8 (f i : Int)) ∧ w.frozen? ⟨g, i, none⟩ = false := ⟨rng_get f w g i h hi, h.open_ i⟩
set_option maxRecDepth 100000 in
set_option maxHeartbeats 1000000 in
theorem classes_any (w : World) : Calls Tryz.prog 89 #[] w fun e w' => e = .returned (.agg tabC) ∧ Below w.heap.size w w' := by
  have hz := zero_tab
  go_enter Tryz.func89, Tryz.ntmps89
  go_wp2
  clear hz
  have B1 : Below w.heap.size w ((w.alloc (.cells zer 140)).alloc (.cells zer 140)) := ((Below.refl _ _).alloc (Nat.le_refl _) _).alloc (by simp) _
  have R1 : IsRow ((w.alloc (.cells zer 140)).alloc (.cells zer 140)) w.heap.size 140 zer := (IsRow.made w _ _).later _
  have R2 : IsRow ((w.alloc (.cells zer 140)).alloc (.cells zer 140)) (w.heap.size + 1) 140 (tabOf (fst 0)) := by
    have h2 := IsRow.made (w.alloc (.cells zer 140)) 140 zer
    rw [World.size_alloc] at h2
    exact h2
  obtain ⟨W, hW⟩ : ∃ W, (w.alloc (.cells zer 140)).alloc (.cells zer 140) = W := ⟨_, rfl⟩
  rw [hW] at B1 R1 R2 ⊢
  clear hW
  obtain ⟨h, hh⟩ : ∃ h, w.heap.size = h := ⟨_, rfl⟩
  rw [hh] at B1 R1 R2 ⊢
  have HB1 := Lib.hid B1
  have HR1 := Lib.hid R1
  have HR2 := Lib.hid R2
  have HH := Lib.hid hh
  clear hh B1 R1 R2
  go_loopw [4] (fun i wr => ∃ k : Nat, k ≤ 256 ∧ i = .int .i64 k ∧ Hid (Below h w wr) ∧ Hid (IsRow wr h 140 zer) ∧ Hid (IsRow wr (h + 1) 140 (tabOf (fst k)))) (fun i _ => 256 - (intOf i).toNat)
  case atStart => exact ⟨0, by omega, rfl, HB1, HR1, HR2⟩
  case round =>
    clear HB1 HR1 HR2
    obtain ⟨k, hk, rfl, HB, HR1, HR2⟩ := hrel
    by_cases hlt : k < 256
    · obtain ⟨c, hc⟩ : ∃ c, UInt8.ofNat k = c := ⟨_, rfl⟩
      have hw : IntKind.u8.wrap (k : Int) = (c.toNat : Int) := by
        rw [← hc, IntWalk.u8_in _ (by omega)]; simp; omega
      obtain ⟨c0, f0⟩ := rng_zero wr (h + 1) _ HR2.out k hlt
      have HC := Lib.hid hc
      clear hc
      by_cases h1 : isLet c
      · have R3 := Lib.hid (row_put HR2.out k 1 (fun i _ => fst_put (k := k) 1 (by rw [HC.out, if_pos h1]) i))
        have R4 := Lib.hid (HR1.out.putOther (p := ⟨h + 1, k, none⟩) (by simp) (.int .u8 1))
        have B3 := Lib.hid (HB.out.setCell (p := ⟨h + 1, k, none⟩) (Nat.le_succ _) (.int .u8 1))
        go_wp2_with ((with_reducible refine (isLetter_any _ _).mono ?_); rintro e w' ⟨rfl, rfl⟩)
        go_roundw
        case rel => exact ⟨k + 1, by omega, by go_num, B3, R4, R3⟩
        case measure => simp [intOf]; omega
      · have h1' : isLet c = false := by simpa using h1
        clear h1
        by_cases h2 : isDig c
        · have R3 := Lib.hid (row_put HR2.out k 2 (fun i _ => fst_put (k := k) 2 (by rw [HC.out, h1', h2]; rfl) i))
          have R4 := Lib.hid (HR1.out.putOther (p := ⟨h + 1, k, none⟩) (by simp) (.int .u8 2))
          have B3 := Lib.hid (HB.out.setCell (p := ⟨h + 1, k, none⟩) (Nat.le_succ _) (.int .u8 2))
          go_wp2_with (first | ((with_reducible refine (isLetter_any _ _).mono ?_); rintro e w' ⟨rfl, rfl⟩) | ((with_reducible refine (isDigit_any _ _).mono ?_); rintro e w' ⟨rfl, rfl⟩))
          go_roundw
          case rel => exact ⟨k + 1, by omega, by go_num, B3, R4, R3⟩
          case measure => simp [intOf]; omega
        · have h2' : isDig c = false := by simpa using h2
          clear h2
          have R3 : Hid (IsRow wr (h + 1) 140 (tabOf (fst (k + 1)))) := by rw [← fst_skip (by rw [HC.out]; exact h1') (by rw [HC.out]; exact h2')]; exact HR2
          go_wp2_with (first | ((with_reducible refine (isLetter_any _ _).mono ?_); rintro e w' ⟨rfl, rfl⟩) | ((with_reducible refine (isDigit_any _ _).mono ?_); rintro e w' ⟨rfl, rfl⟩))
          go_roundw
          case rel => exact ⟨k + 1, by omega, by go_num, HB, HR1, R3⟩
          case measure => simp [intOf]; omega
    · obtain rfl : k = 256 := by omega
      have HR3 : Hid (IsRow wr (h + 1) 140 (tabOf (snd 0))) := by
        rw [show tabOf (snd 0) = tabOf (fst 256) from rfl]; exact HR2
      clear hlt hk HR2
      go_wp2
      go_loopw [18] (fun i wr => ∃ k : Nat, k ≤ 15 ∧ i = .int .i64 k ∧ Hid (Below h w wr) ∧ Hid (IsRow wr h 140 zer) ∧ Hid (IsRow wr (h + 1) 140 (tabOf (snd k)))) (fun i _ => 15 - (intOf i).toNat)
      case atStart => exact ⟨0, by omega, rfl, HB, HR1, HR3⟩
      case round =>
        clear HB HR1 HR3
        obtain ⟨k, hk, rfl, HB, HR1, HR2⟩ := hrel
        by_cases hlt : k < 15
        · have hs := sym_lt ⟨k, hlt⟩
          have hi := sym_index k hlt
          obtain ⟨c0, f0⟩ := rng_zero wr (h + 1) _ HR2.out (symAt k) hs
          have R3 := Lib.hid (row_put HR2.out (symAt k) 64 (fun i hi => snd_put ⟨k, hlt⟩ ⟨i, hi⟩))
          have R4 := Lib.hid (HR1.out.putOther (p := ⟨h + 1, symAt k, none⟩) (by simp) (.int .u8 64))
          have B3 := Lib.hid (HB.out.setCell (p := ⟨h + 1, symAt k, none⟩) (Nat.le_succ _) (.int .u8 64))
          dsimp only at hs
          go_wp2
          go_roundw
          case rel => exact ⟨k + 1, by omega, by go_num, B3, R4, R3⟩
          case measure => simp [intOf]; omega
        · obtain rfl : k = 15 := by omega
          have A0 := rng_zero wr (h + 1) _ HR2.out 32 (by decide)
          have A1 := rng_zero wr (h + 1) _ HR2.out 9 (by decide)
          have A2 := rng_zero wr (h + 1) _ HR2.out 10 (by decide)
          have A3 := rng_zero wr (h + 1) _ HR2.out 95 (by decide)
          have A4 := rng_zero wr (h + 1) _ HR2.out 35 (by decide)
          have A5 := rng_zero wr (h + 1) _ HR2.out 34 (by decide)
          have R3 := (row_put (row_put (row_put (row_put (row_put (row_put HR2.out 32 8 (fun _ _ => rfl)) 9 8 (fun _ _ => rfl)) 10 8 (fun _ _ => rfl)) 95 4 (fun _ _ => rfl)) 35 16 (fun _ _ => rfl)) 34 32 (fun i hi => last_put ⟨i, hi⟩))
          have R4 := (((((HR1.out.putOther (p := ⟨h + 1, 32, none⟩) (by simp) (.int .u8 8)).putOther (p := ⟨h + 1, 9, none⟩) (by simp) (.int .u8 8)).putOther (p := ⟨h + 1, 10, none⟩) (by simp) (.int .u8 8)).putOther (p := ⟨h + 1, 95, none⟩) (by simp) (.int .u8 4)).putOther (p := ⟨h + 1, 35, none⟩) (by simp) (.int .u8 16)).putOther (p := ⟨h + 1, 34, none⟩) (by simp) (.int .u8 32)
          have B3 := (((((HB.out.setCell (p := ⟨h + 1, 32, none⟩) (Nat.le_succ _) (.int .u8 8)).setCell (p := ⟨h + 1, 9, none⟩) (Nat.le_succ _) (.int .u8 8)).setCell (p := ⟨h + 1, 10, none⟩) (Nat.le_succ _) (.int .u8 8)).setCell (p := ⟨h + 1, 95, none⟩) (Nat.le_succ _) (.int .u8 4)).setCell (p := ⟨h + 1, 35, none⟩) (Nat.le_succ _) (.int .u8 16)).setCell (p := ⟨h + 1, 34, none⟩) (Nat.le_succ _) (.int .u8 32)
          obtain ⟨c0, f0⟩ := A0
          obtain ⟨c1, f1⟩ := A1
          obtain ⟨c2, f2⟩ := A2
          obtain ⟨c3, f3⟩ := A3
          obtain ⟨c4, f4⟩ := A4
          obtain ⟨c5, f5⟩ := A5
          have HR3 := Lib.hid R3
          have HR4 := Lib.hid R4
          have HB3 := Lib.hid B3
          clear R3 R4 B3 HR2 HR1 HB
          go_upto_region 17 with (fail)
          have HT := Lib.hid (tabOf_size clsN)
          have HO := Lib.hid (tabOf_one clsN)
          have HZ := Lib.hid (tabOf_size fun _ => 0)
          generalize ((((((wr.setCell ⟨h + 1, 32, none⟩ (.int .u8 8)).setCell ⟨h + 1, 9, none⟩ (.int .u8 8)).setCell ⟨h + 1, 10, none⟩ (.int .u8 8)).setCell ⟨h + 1, 95, none⟩ (.int .u8 4)).setCell ⟨h + 1, 35, none⟩ (.int .u8 16)).setCell ⟨h + 1, 34, none⟩ (.int .u8 32)) = V at *
          have HR5 := Lib.hid (show IsRow (V.setRow h (tabOf clsN)) h 140 (tabOf clsN) from setRow_heap _ _ _ _ _ _ HR4.out)
          have HB5 := Lib.hid (below_setRow HB3.out (Nat.le_refl h) (tabOf clsN))
          have hi : (Tryz.prog.info? 140).map (·.size) = some (tabOf clsN).size := by rw [HT.out]; exact tab_info
          have HI := Lib.hid hi
          have HZT := Lib.hid (show zer.size = (tabOf clsN).size by rw [HT.out]; exact HZ.out)
          clear hi c0 c1 c2 c3 c4 c5 f0 f1 f2 f3 f4 f5
          go_wp2_with (first | (refine wpList_load_row rfl 140 (.tmp 1) rfl (h + 1) rfl 140 (tabOf clsN) (0, 0) _ HR3.out Tryz.underlying140 rfl HI.out ?_) | (refine wpList_store_row rfl 140 (.tmp 0) (.tmp 31) rfl h (tabOf clsN) rfl rfl 140 zer HR4.out HI.out HZT.out HO.out ?_))
          refine bodyPost_ret (results_cell_row rfl _ _ h _ _ (0, 0) _ rfl HR5.out Tryz.underlying140 rfl HI.out) rfl ?_
          exact ⟨rfl, by rw [HH.out]; exact HB5.out⟩
end Go.Proofs.YtgbkjdpjilldmaaGreatDoor.Lx
/- lexer: the reader: class, take. -/
namespace Go.Proofs.YtgbkjdpjilldmaaGreatDoor.Lx
open Go.RowKit
/-- a reader of the text s at i. -/
def rowR (s : ByteArray) (i : Nat) : Array Value := #[.string s, .int .i64 (i : Int)] ++ tabC
def Rdr (w : World) (g : Nat) (s : ByteArray) (i : Nat) : Prop := IsRow w g 143 (rowR s i)
theorem rowR_size (s : ByteArray) (i : Nat) : (rowR s i).size = 258 := by unfold rowR tabC; simp [tabOf_size]
section
variable {w w' : World} {g : Nat} {s : ByteArray} {i : Nat}
theorem Rdr.text (h : Rdr w g s i) : w.cell? ⟨g, 0, none⟩ = some (.string s) := by rw [IsRow.get h]; unfold rowR; rw [Array.getElem?_append_left (by simp)]; rfl
theorem Rdr.at_ (h : Rdr w g s i) : w.cell? ⟨g, 1, none⟩ = some (.int .i64 (i : Int)) := by rw [IsRow.get h]; unfold rowR; rw [Array.getElem?_append_left (by simp)]; rfl
theorem Rdr.cls (h : Rdr w g s i) (c : UInt8) : w.cell? ⟨g, 2 + c.toNat, none⟩ = some (.int .u8 (cls c : Int)) := by
  rw [IsRow.get h]
  unfold rowR tabC
  rw [Array.getElem?_append_right (by simp)]
  have := c.toNat_lt
  rw [show 2 + c.toNat - (#[.string s, .int .i64 (i : Int)] : Array Value).size = c.toNat by simp, tabOf_get _ _ this]
  unfold clsN
  simp
theorem Rdr.put (h : Rdr w g s i) (j : Nat) : Rdr (w.setCell ⟨g, 1, none⟩ (.int .i64 (j : Int))) g s j := by
  have h1 := IsRow.put h 1 (.int .i64 (j : Int))
  unfold Rdr
  have e : (rowR s i).setIfInBounds 1 (.int .i64 (j : Int)) = rowR s j := by
    apply Array.ext_getElem?
    intro k
    rw [Array.getElem?_setIfInBounds]
    by_cases hk : 1 = k
    · subst hk
      rw [if_pos rfl, rowR_size, if_pos (by decide)]
      unfold rowR; rw [Array.getElem?_append_left (by simp)]; rfl
    · rw [if_neg hk]
      unfold rowR
      match k, hk with
      | 0, _ => rw [Array.getElem?_append_left (by simp), Array.getElem?_append_left (by simp)]; rfl
      | 1, h => exact absurd rfl h
      | k + 2, _ => rw [Array.getElem?_append_right (by simp), Array.getElem?_append_right (by simp)]; rfl
  rw [e] at h1
  exact h1
theorem Rdr.below (h : Rdr w g s i) (hb : Below w.heap.size w w') : Rdr w' g s i := IsRow.below h hb (IsRow.inside h)
theorem Rdr.inside (h : Rdr w g s i) : g < w.heap.size := IsRow.inside h
theorem Rdr.open_ (h : Rdr w g s i) (k : Nat) : w.frozen? ⟨g, k, none⟩ = false := IsRow.open_ h k
end
/-- the class of the next byte; the end has none. -/
def hdc : B → Nat
  | [] => 0
  | c :: _ => cls c
set_option maxRecDepth 100000 in
set_option maxHeartbeats 400000 in
theorem class_any (g : Nat) (s : ByteArray) (i : Nat) (w : World) (h : Rdr w g s i) (hi : i ≤ s.size) :
    Calls Tryz.prog 122 #[.pointer (some ⟨g, 0, none⟩)] w fun e w' => e = .returned (.int .u8 (hdc (s.data.toList.drop i))) ∧ Below w.heap.size w w' := by
  have c0 := h.text
  have c1 := h.at_
  by_cases he : i < s.size
  · have c2 := h.cls s[i]
    have hd := Lib.hid (show hdc (s.data.toList.drop i) = cls s[i] by rw [drop_at s i he]; rfl)
    have hne : ((i : Int) == (s.size : Int)) = false := by rw [beq_eq_false_iff_ne]; omega
    have hx := s[i].toNat_lt
    clear h
    go_enter Tryz.func122, Tryz.ntmps122
    go_wp2
    go_quiet (fail)
    go_wp2
    go_quiet (fail)
    go_wp2
    go_ret
    exact ⟨ret_int (by rw [hd.out]), by first | exact below_drewN (Below.refl _ w) _ | exact below_drewN (below_drewN (Below.refl _ w) _) _⟩
  · obtain rfl : i = s.size := by omega
    have hd := Lib.hid (show hdc (s.data.toList.drop s.size) = 0 by rw [List.drop_of_length_le (by simp)]; rfl)
    have hne : ((s.size : Int) == (s.size : Int)) = true := by simp
    clear h
    go_enter Tryz.func122, Tryz.ntmps122
    go_wp2
    go_quiet (fail)
    go_wp2
    go_ret
    exact ⟨ret_int (by rw [hd.out]; rfl), by first | exact below_drewN (Below.refl _ w) _ | exact below_drewN (below_drewN (Below.refl _ w) _) _⟩
set_option maxRecDepth 100000 in
set_option maxHeartbeats 400000 in
theorem take_any (g m : Nat) (p : UInt8 → Bool) (hp : ∀ l : B, (bits .and .u8 (hdc l : Int) (m : Int) != 0) = hd p l) (s : ByteArray) (i : Nat) (w : World) (h : Rdr w g s i) (hi : i ≤ s.size) (hm : s.size ≤ 20000) :
    Calls Tryz.prog 123 #[.pointer (some ⟨g, 0, none⟩), .int .u8 m] w fun e w' => e = .returned (.string (s.extract i (i + run p (s.data.toList.drop i)))) ∧ w.grownBy w' (some g) ∧ Rdr w' g s (i + run p (s.data.toList.drop i)) := by
  obtain ⟨n, hn⟩ : ∃ n, run p (s.data.toList.drop i) = n := ⟨_, rfl⟩
  have hnl : i + n ≤ s.size := by
    have := run_le p (s.data.toList.drop i)
    simp at this
    omega
  rw [hn]
  have HN := Lib.hid hn
  have HP := Lib.hid hp
  have HR := Lib.hid h
  have c1 := h.at_
  clear hn hp h
  go_enter Tryz.func123, Tryz.ntmps123
  go_wp2
  clear c1
  go_loopg [] n (fun q wr => ∃ j : Nat, j + q = n ∧ Hid (run p (s.data.toList.drop (i + j)) = q) ∧ Hid (w.grownBy wr (some g)) ∧ Hid (Rdr wr g s (i + j)))
  case atStart => exact ⟨0, by omega, HN, Lib.hid (grown_refl _ _), HR⟩
  case round =>
    clear HN HR
    obtain ⟨j, hj, HJ, HG, HR⟩ := hrel
    have K0 := class_any g s (i + j) wr HR.out (by omega)
    have hq := HP.out (s.data.toList.drop (i + j))
    cases hb : hd p (s.data.toList.drop (i + j)) with
    | true =>
      rw [hb] at hq
      obtain ⟨hlt, hrun⟩ : i + j < s.size ∧ run p (s.data.toList.drop (i + j)) = run p (s.data.toList.drop (i + j + 1)) + 1 := by
        by_cases hlt : i + j < s.size
        · refine ⟨hlt, ?_⟩
          rw [drop_at s _ hlt] at hb ⊢
          exact run_step hb
        · rw [List.drop_of_length_le (by simp; omega)] at hb; cases hb
      have HJ2 := Lib.hid hrun
      have hgk : 1 ≤ gk := by have := HJ.out; omega
      have hw1 : IntKind.i64.wrap ((i : Int) + (j : Int) + 1) = (i : Int) + (j : Int) + 1 := IntWalk.i64_in _ (by omega)
      obtain ⟨N, hN⟩ : ∃ N, hdc (s.data.toList.drop (i + j)) = N := ⟨_, rfl⟩
      rw [hN] at K0 hq
      have HJ0 := Lib.hid hj
      clear hb hrun hN hj HP
      go_wp2_with ((with_reducible refine K0.mono ?_); rintro e w2 ⟨rfl, hb2⟩; have R2 := HR.out.below hb2; have d1 := R2.at_; have d2 := R2.open_ 1)
      have e3 : (i : Int) + (j : Int) + 1 = ((i + j + 1 : Nat) : Int) := by omega
      have R3 : Hid (Rdr (w2.setCell ⟨g, 1, none⟩ (.int .i64 ((i : Int) + (j : Int) + 1))) g s (i + j + 1)) := by rw [e3]; exact R2.put _
      have G3 := Lib.hid (grown_trans (grown_trans HG.out (grown_of_below hb2 _)) (grown_put w2 g 1 (.int .i64 ((i : Int) + (j : Int) + 1))))
      clear hw1
      go_roundg (gk - 1)
      case rel => exact ⟨j + 1, by have := HJ0.out; omega, Lib.hid (by have := HJ.out; have := HJ2.out; rw [show i + (j + 1) = i + j + 1 by omega]; omega), G3, R3⟩
      case measure => omega
    | false =>
      rw [hb] at hq
      have hrun : run p (s.data.toList.drop (i + j)) = 0 := by
        cases hl : s.data.toList.drop (i + j) with
        | nil => rfl
        | cons c l => rw [hl] at hb; exact run_none hb
      obtain rfl : j = n := by have := HJ.out; omega
      obtain ⟨N, hN⟩ : ∃ N, hdc (s.data.toList.drop (i + j)) = N := ⟨_, rfl⟩
      rw [hN] at K0 hq
      clear hb hrun hN hj HP HJ
      go_wp2_with ((with_reducible refine K0.mono ?_); rintro e w2 ⟨rfl, hb2⟩; have R2 := HR.out.below hb2; have d0 := R2.text; have d1 := R2.at_)
      have G3 := Lib.hid (grown_trans HG.out (grown_of_below hb2 _))
      have R3 := Lib.hid R2
      clear R2 hb2 HR HG hq K0
      have l1 : (i : Int) ≤ ((i + j : Nat) : Int) := by omega
      have l2 : ((i + j : Nat) : Int) ≤ (s.size : Int) := by omega
      go_quiet (fail)
      go_wp2
      go_ret
      exact ⟨rfl, grown_trans G3.out (grown_of_below (below_drewN (Below.refl _ _) _) _), R3.out.below (below_drewN (Below.refl _ _) _)⟩
end Go.Proofs.YtgbkjdpjilldmaaGreatDoor.Lx
/- strings.Builder by contract, at this translation: copyCheck, WriteByte, WriteString. -/
namespace Go.Proofs.YtgbkjdpjilldmaaGreatDoor.Lx
open Go.RowKit
theorem bl_size : (Tryz.prog.info? 92).map (·.size) = some 2 := by kernel_rfl
theorem bl_lies : liesAt Tryz.prog Tryz.prog.depth 92 (2 / Tryz.prog.cellsOf 92) 0 92 1 = true := by kernel_rfl
theorem bt_info : (Tryz.prog.info? 5).map (fun i => (i.zero, i.size, i.bytes)) = some (some (.int .u8 0), 1, 1) := by kernel_rfl
abbrev Holds (B b : Nat) (bs : List Value) (w : World) : Prop := Lib.IsBuilder 92 5 B b bs w
abbrev Used (B b : Nat) (bs : List Value) (w : World) : Prop := Lib.BuilderAt 92 5 B b (.pointer (some ⟨b, 0, none⟩)) bs w
set_option maxRecDepth 100000 in
set_option maxHeartbeats 400000 in
theorem check_used (b : Nat) (w : World) (h0 : w.cell? ⟨b, 0, none⟩ = some (.pointer (some ⟨b, 0, none⟩))) :
    Calls Tryz.prog 108 #[.pointer (some ⟨b, 0, none⟩)] w fun e w' => e = .returned (.tuple #[]) ∧ w = w' := by
  obtain ⟨j, hj, _⟩ := Option.map_eq_some_iff.1 bl_size
  go_enter Tryz.func108, Tryz.ntmps108
  go_wp2
  rw [Lib.run_neq_ptr_same w _ Tryz.underlying89 hj]
  go_wp2
  go_end0
  exact ⟨rfl, rfl⟩
set_option maxRecDepth 100000 in
set_option maxHeartbeats 400000 in
theorem check_fresh (b : Nat) (w : World) (h0 : w.cell? ⟨b, 0, none⟩ = some (.pointer none)) (hsh : w.shape? b = some (92, 2)) (hfz : w.frozen? ⟨b, 0, none⟩ = false) :
    Calls Tryz.prog 108 #[.pointer (some ⟨b, 0, none⟩)] w fun e w' => e = .returned (.tuple #[]) ∧ w.setCell ⟨b, 0, none⟩ (.pointer (some ⟨b, 0, none⟩)) = w' := by
  obtain ⟨j, hj, hjs⟩ := Option.map_eq_some_iff.1 bl_size
  have hto := Lib.run_to_unsafe (P := Tryz.prog) w ⟨b, 0, none⟩ Tryz.underlying89 Tryz.underlying180 hj (by rw [hjs]; decide) hsh (Nat.zero_lt_succ 1)
  have hfrom := Lib.run_from_unsafe (P := Tryz.prog) w ⟨b, 0, none⟩ Tryz.underlying180 Tryz.underlying89 hj hsh bl_lies
  clear hj hjs
  go_enter Tryz.func108, Tryz.ntmps108
  go_wp2
  rw [run_callFunc_extern Tryz.func131 (by kernel_rfl) (by kernel_rfl) (by kernel_rfl) (e := Extern.AbiNoEscape.same) (by kernel_rfl)]
  rw [Lib.run_noEscape]
  simp only [Result.andThen]
  rw [Oper.upon_value]
  go_wp2
  go_end0
  exact ⟨rfl, rfl⟩
theorem check_any (B b : Nat) (bs : List Value) (w : World) (h : Holds B b bs w) :
    Calls Tryz.prog 108 #[.pointer (some ⟨b, 0, none⟩)] w fun e w' => e = .returned (.tuple #[]) ∧ Used B b bs w' ∧ Below B w w' := by
  rcases h with h | h
  · refine (check_fresh b w h.cell0 h.shape h.frozen0).mono ?_
    rintro e w' ⟨rfl, rfl⟩
    exact ⟨rfl, h.used _, (Below.refl B w).setCell (p := ⟨b, 0, none⟩) h.1 _⟩
  · refine (check_used b w h.cell0).mono ?_
    rintro e w' ⟨rfl, rfl⟩
    exact ⟨rfl, h, Below.refl B _⟩
/-- the part that both writers share: where the builder's buffer stands behind the check. -/
theorem parts {B b : Nat} {bs : List Value} {w : World} (h : Used B b bs w) :
    ∃ v, B ≤ b ∧ IsRow w b 92 #[.pointer (some ⟨b, 0, none⟩), v] ∧ w.ownsRow B 5 1 v bs.length bs ∧ v.ownBlock ≠ some b := by
  obtain ⟨hB, v, hb, ho, hn⟩ := h
  exact ⟨v, hB, hb, ho, hn⟩
set_option maxRecDepth 100000 in
set_option maxHeartbeats 1000000 in
theorem writeByte_any (B b : Nat) (bs : List Value) (c : Int) (w : World) (h : Holds B b bs w) (hlen : bs.length + 1 ≤ 140737488355328) :
    Calls Tryz.prog 81 #[.pointer (some ⟨b, 0, none⟩), .int .u8 c] w fun e w' => e = .returned .nilIface ∧ Used B b (bs ++ [.int .u8 c]) w' ∧ Below B w w' := by
  obtain ⟨i0, hi, hz0, hz1, hz2⟩ := info_parts bt_info
  go_enter Tryz.func81, Tryz.ntmps81
  go_wp2_with fail
  refine (check_any B b bs _ h).mono ?_
  rintro e w1 ⟨rfl, h1, hb1⟩
  obtain ⟨v, hB, hrow, hown, hne⟩ := parts h1
  have c0 := hrow.get 0
  have c1 : w1.cell? ⟨b, 1, none⟩ = some v := hrow.get 1
  have hBw : B ≤ w1.heap.size := Nat.le_trans hB (Nat.le_of_lt hrow.inside)
  go_wp2_with (at_builtin; refine wpList_append_own _ rfl _ _ 90 rfl B 5 i0 (.int .u8 0) 1 1 Tryz.underlying90 hi hz0 hz1 hz2 rfl (by decide) _ _ _ rfl (hown.alloc _) ⟨w1.heap.size, 0, none⟩ 1 1 [.int .u8 c] rfl rfl ?c1 ?c2 ?c3 ?c4 ?c5 ?_)
  case c1 =>
    intro j u hj
    match j, hj with
    | 0, hj => simp at hj; subst hj; simp [Addr.add]
  case c2 => intro u hu; simp at hu; subst hu; rfl
  case c3 => unfold maxLen; omega
  case c4 => omega
  case c5 => simp; omega
  intro v' w2 hown' hgrow _
  have hrow2 : IsRow w2 b 92 #[.pointer (some ⟨b, 0, none⟩), v] := by
    unfold IsRow
    rw [hgrow.block b (by simp; have := hrow.inside; omega) (fun e => hne e.symm)]
    exact hrow.later _
  have d0 := hrow2.get 0
  have d1 : w2.cell? ⟨b, 1, none⟩ = some v := hrow2.get 1
  have f1 := hrow2.open_ 1
  obtain ⟨g, cap, rfl⟩ : ∃ g cap, v' = .slice (some ⟨g, 0, none⟩) (bs.length + 1) cap := by
    rcases hown'.2 with ⟨_, h0⟩ | ⟨g, cap, cur, hv, _⟩
    · omega
    · exact ⟨g, cap, hv⟩
  go_wp2
  go_ret
  refine ⟨rfl, ?_, ?_⟩
  · exact Lib.BuilderAt.put (T := 92) (e := 5) hB hrow2 (bs' := bs ++ [.int .u8 c]) (by simpa using hown') (by decide)
  · exact ((hb1.alloc hBw _).grown hgrow (by simp; omega) (fun k hk => (hown.lt k hk).1)).setCell (p := ⟨b, 1, none⟩) hB _
set_option maxRecDepth 100000 in
set_option maxHeartbeats 1000000 in
theorem writeString_any (B b : Nat) (bs : List Value) (s : ByteArray) (w : World) (h : Holds B b bs w) (hlen : bs.length + s.size ≤ 140737488355328) :
    Calls Tryz.prog 74 #[.pointer (some ⟨b, 0, none⟩), .string s] w fun e w' => e = .returned (.tuple #[.int .i64 s.size, .nilIface]) ∧ Used B b (bs ++ Lib.strCells s) w' ∧ Below B w w' := by
  obtain ⟨i0, hi, hz0, hz1, hz2⟩ := info_parts bt_info
  go_enter Tryz.func74, Tryz.ntmps74
  go_wp2_with fail
  refine (check_any B b bs _ h).mono ?_
  rintro e w1 ⟨rfl, h1, hb1⟩
  obtain ⟨v, hB, hrow, hown, hne⟩ := parts h1
  have c0 := hrow.get 0
  have c1 : w1.cell? ⟨b, 1, none⟩ = some v := hrow.get 1
  have hBw : B ≤ w1.heap.size := Nat.le_trans hB (Nat.le_of_lt hrow.inside)
  go_wp2_with (at_builtin; refine Lib.wpList_append_own_string _ rfl _ _ 90 9 rfl B 5 i0 Tryz.underlying90 Tryz.underlying9 hi hz0 hz1 hz2 _ _ _ rfl hown s rfl ?c3 ?c4 ?c5 ?_)
  case c3 => unfold maxLen; omega
  case c4 => omega
  case c5 => exact hBw
  intro v' w2 hown' hgrow _
  have hrow2 : IsRow w2 b 92 #[.pointer (some ⟨b, 0, none⟩), v] := by
    unfold IsRow
    rw [hgrow.block b hrow.inside (fun e => hne e.symm)]
    exact hrow
  have d0 := hrow2.get 0
  have d1 : w2.cell? ⟨b, 1, none⟩ = some v := hrow2.get 1
  have f1 := hrow2.open_ 1
  obtain ⟨ao, n', cap, rfl⟩ : ∃ ao n' cap, v' = .slice ao n' cap := by
    rcases hown'.2 with ⟨hv, _⟩ | ⟨g, cap, cur, hv, _⟩
    · exact ⟨_, _, _, hv⟩
    · exact ⟨_, _, _, hv⟩
  go_wp2
  go_ret2
  refine ⟨rfl, ?_, ?_⟩
  · exact Lib.BuilderAt.put (T := 92) (e := 5) hB hrow2 (bs' := bs ++ Lib.strCells s) (by simpa [Lib.strCells_length] using hown') (by decide)
  · exact (hb1.grown hgrow hBw (fun k hk => (hown.lt k hk).1)).setCell (p := ⟨b, 1, none⟩) hB _
theorem used_below {B b : Nat} {p : Value} {bs : List Value} {w w' : World} (h : Lib.BuilderAt 92 5 B b p bs w) (hb : Below w.heap.size w w') : Lib.BuilderAt 92 5 B b p bs w' := by
  have hlt := h.lt
  obtain ⟨hB, v, hbk, hown, hne⟩ := h
  exact ⟨hB, v, (hb.block b hlt).trans hbk, hown.kept (row := some b) ⟨hb.os, hb.tape, hb.output, hb.size, fun k hk _ => hb.block k hk⟩ (Or.inr hne), hne⟩
theorem Holds.below {B b : Nat} {bs : List Value} {w w' : World} (h : Holds B b bs w) (hb : Below w.heap.size w w') : Holds B b bs w' := by
  rcases h with h | h
  · exact .inl (used_below h hb)
  · exact .inr (used_below h hb)
end Go.Proofs.YtgbkjdpjilldmaaGreatDoor.Lx
