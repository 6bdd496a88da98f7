/- lexer: the classes of all bytes. -/
import Derived.Test.YtlknbjaippfemaaLxLeaf
import Derived.Laws.Tables
import Derived.Laws.ResultCell
import Derived.Great.Walk
namespace Go.Proofs.Ytlknbjaippfemaa.Lx
open Go.RowKit
/-- an array of the numbers of 256 bytes. -/
def tabOf (f : Nat → Nat) : Array Value := ((List.range 256).map fun i => Value.int .u8 (f i : Int)).toArray
theorem tabOf_size (f : Nat → Nat) : (tabOf f).size = 256 := by simp [tabOf]
theorem tabOf_get (f : Nat → Nat) (i : Nat) (h : i < 256) : (tabOf f)[i]? = some (.int .u8 (f i : Int)) := by simp [tabOf, h]
theorem tabOf_congr {f g : Nat → Nat} (h : ∀ i, i < 256 → f i = g i) : tabOf f = tabOf g := by
  unfold tabOf
  congr 1
  refine List.map_congr_left fun i hi => ?_
  rw [h i (by simpa using hi)]
theorem tabOf_put (f : Nat → Nat) (i v : Nat) (u : Value) (hu : u = .int .u8 (v : Int)) : (tabOf f).setIfInBounds i u = tabOf fun k => if k = i then v else f k := by
  subst hu
  apply Array.ext_getElem?
  intro k
  rw [Array.getElem?_setIfInBounds]
  by_cases hk : k < 256
  · rw [tabOf_get _ k hk, tabOf_size]
    by_cases e : i = k
    · subst e; rw [if_pos rfl, if_pos hk, tabOf_get _ i hk, if_pos rfl]
    · rw [if_neg e, tabOf_get _ k hk, if_neg (fun h => e h.symm)]
  · rw [Array.getElem?_eq_none (xs := tabOf fun k => if k = i then v else f k) (by rw [tabOf_size]; omega), tabOf_size, Array.getElem?_eq_none (xs := tabOf f) (by rw [tabOf_size]; omega)]
    split
    · rw [if_neg (by omega)]
    · rfl
theorem tabOf_one (f : Nat → Nat) : (tabOf f).all (·.oneCell') = true := by
  rw [Array.all_eq_true_iff_forall_mem]
  intro v hv
  simp only [tabOf, List.mem_toArray, List.mem_map] at hv
  obtain ⟨i, _, rfl⟩ := hv
  rfl
def clsN (i : Nat) : Nat := cls (UInt8.ofNat i)
def zer : Array Value := tabOf fun _ => 0
def tabC : Array Value := tabOf clsN
theorem tab_info : (Try.prog.info? 100).map (·.size) = some 256 := by kernel_rfl
theorem zero_tab (w : World) : Sem.run Try.prog (zeroValue 100) w = .ok (.agg zer) w := by kernel_rfl
theorem rng_get (f : Nat → Nat) (w : World) (g i : Nat) (h : IsRow w g 100 (tabOf f)) (hi : i < 256) : w.cell? ⟨g, i, none⟩ = some (.int .u8 (f i : Int)) := by rw [h.get, tabOf_get f i hi]
/-- the first k bytes have their classes as letters and digits. -/
def fst (k i : Nat) : Nat := if i < k then (if isLet (UInt8.ofNat i) then 1 else if isDig (UInt8.ofNat i) then 2 else 0) else 0
def snd (k i : Nat) : Nat := if (symB.take k).contains (UInt8.ofNat i) then 64 else fst 256 i
theorem row_put {w : World} {g : Nat} {f f' : Nat → Nat} (h : IsRow w g 100 (tabOf f)) (i v : Nat) (e : ∀ k, k < 256 → (if k = i then v else f k) = f' k) :
    IsRow (w.setCell ⟨g, i, none⟩ (.int .u8 (v : Int))) g 100 (tabOf f') := by
  have h1 := h.put i (.int .u8 (v : Int))
  rw [tabOf_put f i v _ rfl, tabOf_congr e] at h1
  exact h1
theorem fst_put {k : Nat} (v : Nat) (hv : v = if isLet (UInt8.ofNat k) then 1 else if isDig (UInt8.ofNat k) then 2 else 0) (i : Nat) : (if i = k then v else fst k i) = fst (k + 1) i := by
  unfold fst
  by_cases e : i = k
  · subst e; rw [if_pos rfl, if_pos (Nat.lt_succ_self _), hv]
  · rw [if_neg e]
    by_cases h : i < k
    · rw [if_pos h, if_pos (Nat.lt_succ_of_lt h)]
    · rw [if_neg h, if_neg (fun h2 => by omega)]
theorem fst_skip {k : Nat} (h1 : isLet (UInt8.ofNat k) = false) (h2 : isDig (UInt8.ofNat k) = false) : tabOf (fst k) = tabOf (fst (k + 1)) := tabOf_congr fun i _ => by
  rw [← fst_put 0 (by rw [h1, h2]; rfl) i]
  by_cases e : i = k
  · subst e; rw [if_pos rfl]; unfold fst; rw [if_neg (by omega)]
  · rw [if_neg e]
def symAt (k : Nat) : Nat := (symB.getD k 0).toNat
theorem snd_put : ∀ k : Fin 15, ∀ i : Fin 256, (if i.val = symAt k.val then 64 else snd k.val i.val) = snd (k.val + 1) i.val := by decide +kernel
theorem sym_lt : ∀ k : Fin 15, symAt k.val < 256 := by decide
theorem last_put : ∀ i : Fin 256, (if i.val = 34 then 32 else if i.val = 35 then 16 else if i.val = 95 then 4 else if i.val = 10 then 8 else if i.val = 9 then 8 else if i.val = 32 then 8 else snd 15 i.val) = clsN i.val := by decide +kernel
theorem sym_index_0 (w : World) : (Instr.index 9 (.string ⟨#[59, 44, 46, 58, 40, 41, 123, 125, 91, 93, 61, 60, 62, 47, 45]⟩) (.int .i64 0)).run Try.prog w = .ok (.int .u8 59) w := by kernel_rfl
theorem sym_index_1 (w : World) : (Instr.index 9 (.string ⟨#[59, 44, 46, 58, 40, 41, 123, 125, 91, 93, 61, 60, 62, 47, 45]⟩) (.int .i64 1)).run Try.prog w = .ok (.int .u8 44) w := by kernel_rfl
theorem sym_index_2 (w : World) : (Instr.index 9 (.string ⟨#[59, 44, 46, 58, 40, 41, 123, 125, 91, 93, 61, 60, 62, 47, 45]⟩) (.int .i64 2)).run Try.prog w = .ok (.int .u8 46) w := by kernel_rfl
theorem sym_index_3 (w : World) : (Instr.index 9 (.string ⟨#[59, 44, 46, 58, 40, 41, 123, 125, 91, 93, 61, 60, 62, 47, 45]⟩) (.int .i64 3)).run Try.prog w = .ok (.int .u8 58) w := by kernel_rfl
theorem sym_index_4 (w : World) : (Instr.index 9 (.string ⟨#[59, 44, 46, 58, 40, 41, 123, 125, 91, 93, 61, 60, 62, 47, 45]⟩) (.int .i64 4)).run Try.prog w = .ok (.int .u8 40) w := by kernel_rfl
theorem sym_index_5 (w : World) : (Instr.index 9 (.string ⟨#[59, 44, 46, 58, 40, 41, 123, 125, 91, 93, 61, 60, 62, 47, 45]⟩) (.int .i64 5)).run Try.prog w = .ok (.int .u8 41) w := by kernel_rfl
theorem sym_index_6 (w : World) : (Instr.index 9 (.string ⟨#[59, 44, 46, 58, 40, 41, 123, 125, 91, 93, 61, 60, 62, 47, 45]⟩) (.int .i64 6)).run Try.prog w = .ok (.int .u8 123) w := by kernel_rfl
theorem sym_index_7 (w : World) : (Instr.index 9 (.string ⟨#[59, 44, 46, 58, 40, 41, 123, 125, 91, 93, 61, 60, 62, 47, 45]⟩) (.int .i64 7)).run Try.prog w = .ok (.int .u8 125) w := by kernel_rfl
theorem sym_index_8 (w : World) : (Instr.index 9 (.string ⟨#[59, 44, 46, 58, 40, 41, 123, 125, 91, 93, 61, 60, 62, 47, 45]⟩) (.int .i64 8)).run Try.prog w = .ok (.int .u8 91) w := by kernel_rfl
theorem sym_index_9 (w : World) : (Instr.index 9 (.string ⟨#[59, 44, 46, 58, 40, 41, 123, 125, 91, 93, 61, 60, 62, 47, 45]⟩) (.int .i64 9)).run Try.prog w = .ok (.int .u8 93) w := by kernel_rfl
theorem sym_index_10 (w : World) : (Instr.index 9 (.string ⟨#[59, 44, 46, 58, 40, 41, 123, 125, 91, 93, 61, 60, 62, 47, 45]⟩) (.int .i64 10)).run Try.prog w = .ok (.int .u8 61) w := by kernel_rfl
theorem sym_index_11 (w : World) : (Instr.index 9 (.string ⟨#[59, 44, 46, 58, 40, 41, 123, 125, 91, 93, 61, 60, 62, 47, 45]⟩) (.int .i64 11)).run Try.prog w = .ok (.int .u8 60) w := by kernel_rfl
theorem sym_index_12 (w : World) : (Instr.index 9 (.string ⟨#[59, 44, 46, 58, 40, 41, 123, 125, 91, 93, 61, 60, 62, 47, 45]⟩) (.int .i64 12)).run Try.prog w = .ok (.int .u8 62) w := by kernel_rfl
theorem sym_index_13 (w : World) : (Instr.index 9 (.string ⟨#[59, 44, 46, 58, 40, 41, 123, 125, 91, 93, 61, 60, 62, 47, 45]⟩) (.int .i64 13)).run Try.prog w = .ok (.int .u8 47) w := by kernel_rfl
theorem sym_index_14 (w : World) : (Instr.index 9 (.string ⟨#[59, 44, 46, 58, 40, 41, 123, 125, 91, 93, 61, 60, 62, 47, 45]⟩) (.int .i64 14)).run Try.prog w = .ok (.int .u8 45) w := by kernel_rfl
theorem sym_index (k : Nat) (hk : k < 15) (w : World) : (Instr.index 9 (.string ⟨#[59, 44, 46, 58, 40, 41, 123, 125, 91, 93, 61, 60, 62, 47, 45]⟩) (.int .i64 k)).run Try.prog w = .ok (.int .u8 (symAt k : Int)) w := by
  match k, hk with
  | 0, _ => exact sym_index_0 w
  | 1, _ => exact sym_index_1 w
  | 2, _ => exact sym_index_2 w
  | 3, _ => exact sym_index_3 w
  | 4, _ => exact sym_index_4 w
  | 5, _ => exact sym_index_5 w
  | 6, _ => exact sym_index_6 w
  | 7, _ => exact sym_index_7 w
  | 8, _ => exact sym_index_8 w
  | 9, _ => exact sym_index_9 w
  | 10, _ => exact sym_index_10 w
  | 11, _ => exact sym_index_11 w
  | 12, _ => exact sym_index_12 w
  | 13, _ => exact sym_index_13 w
  | 14, _ => exact sym_index_14 w
theorem rng_zero (w : World) (g : Nat) (f : Nat → Nat) (h : IsRow w g 100 (tabOf f)) (i : Nat) (hi : i < 256) : w.cell? ⟨g, i, none⟩ = some (.int .u8 (f i : Int)) ∧ w.frozen? ⟨g, i, none⟩ = false := ⟨rng_get f w g i h hi, h.open_ i⟩
set_option maxRecDepth 100000 in
set_option maxHeartbeats 1000000 in
theorem classes_any (w : World) : Calls Try.prog 63 #[] w fun e w' => e = .returned (.agg tabC) ∧ Below w.heap.size w w' := by
  have hz := zero_tab
  go_enter Try.func63, Try.ntmps63
  go_wp2
  clear hz
  have B1 : Below w.heap.size w ((w.alloc (.cells zer 100)).alloc (.cells zer 100)) := ((Below.refl _ _).alloc (Nat.le_refl _) _).alloc (by simp) _
  have R1 : IsRow ((w.alloc (.cells zer 100)).alloc (.cells zer 100)) w.heap.size 100 zer := (IsRow.made w _ _).later _
  have R2 : IsRow ((w.alloc (.cells zer 100)).alloc (.cells zer 100)) (w.heap.size + 1) 100 (tabOf (fst 0)) := by
    have h2 := IsRow.made (w.alloc (.cells zer 100)) 100 zer
    rw [World.size_alloc] at h2
    exact h2
  obtain ⟨W, hW⟩ : ∃ W, (w.alloc (.cells zer 100)).alloc (.cells zer 100) = W := ⟨_, rfl⟩
  rw [hW] at B1 R1 R2 ⊢
  clear hW
  obtain ⟨h, hh⟩ : ∃ h, w.heap.size = h := ⟨_, rfl⟩
  rw [hh] at B1 R1 R2 ⊢
  have HB1 := Lib.hid B1
  have HR1 := Lib.hid R1
  have HR2 := Lib.hid R2
  have HH := Lib.hid hh
  clear hh B1 R1 R2
  go_loopw [4] (fun i wr => ∃ k : Nat, k ≤ 256 ∧ i = .int .i64 k ∧ Hid (Below h w wr) ∧ Hid (IsRow wr h 100 zer) ∧ Hid (IsRow wr (h + 1) 100 (tabOf (fst k)))) (fun i _ => 256 - (intOf i).toNat)
  case atStart => exact ⟨0, by omega, rfl, HB1, HR1, HR2⟩
  case round =>
    clear HB1 HR1 HR2
    obtain ⟨k, hk, rfl, HB, HR1, HR2⟩ := hrel
    by_cases hlt : k < 256
    · obtain ⟨c, hc⟩ : ∃ c, UInt8.ofNat k = c := ⟨_, rfl⟩
      have hw : IntKind.u8.wrap (k : Int) = (c.toNat : Int) := by
        rw [← hc, IntWalk.u8_in _ (by omega)]; simp; omega
      obtain ⟨c0, f0⟩ := rng_zero wr (h + 1) _ HR2.out k hlt
      have HC := Lib.hid hc
      clear hc
      by_cases h1 : isLet c
      · have R3 := Lib.hid (row_put HR2.out k 1 (fun i _ => fst_put (k := k) 1 (by rw [HC.out, if_pos h1]) i))
        have R4 := Lib.hid (HR1.out.putOther (p := ⟨h + 1, k, none⟩) (by simp) (.int .u8 1))
        have B3 := Lib.hid (HB.out.setCell (p := ⟨h + 1, k, none⟩) (Nat.le_succ _) (.int .u8 1))
        go_wp2_with ((with_reducible refine (isLetter_any _ _).mono ?_); rintro e w' ⟨rfl, rfl⟩)
        go_roundw
        case rel => exact ⟨k + 1, by omega, by go_num, B3, R4, R3⟩
        case measure => simp [intOf]; omega
      · have h1' : isLet c = false := by simpa using h1
        clear h1
        by_cases h2 : isDig c
        · have R3 := Lib.hid (row_put HR2.out k 2 (fun i _ => fst_put (k := k) 2 (by rw [HC.out, h1', h2]; rfl) i))
          have R4 := Lib.hid (HR1.out.putOther (p := ⟨h + 1, k, none⟩) (by simp) (.int .u8 2))
          have B3 := Lib.hid (HB.out.setCell (p := ⟨h + 1, k, none⟩) (Nat.le_succ _) (.int .u8 2))
          go_wp2_with (first | ((with_reducible refine (isLetter_any _ _).mono ?_); rintro e w' ⟨rfl, rfl⟩) | ((with_reducible refine (isDigit_any _ _).mono ?_); rintro e w' ⟨rfl, rfl⟩))
          go_roundw
          case rel => exact ⟨k + 1, by omega, by go_num, B3, R4, R3⟩
          case measure => simp [intOf]; omega
        · have h2' : isDig c = false := by simpa using h2
          clear h2
          have R3 : Hid (IsRow wr (h + 1) 100 (tabOf (fst (k + 1)))) := by rw [← fst_skip (by rw [HC.out]; exact h1') (by rw [HC.out]; exact h2')]; exact HR2
          go_wp2_with (first | ((with_reducible refine (isLetter_any _ _).mono ?_); rintro e w' ⟨rfl, rfl⟩) | ((with_reducible refine (isDigit_any _ _).mono ?_); rintro e w' ⟨rfl, rfl⟩))
          go_roundw
          case rel => exact ⟨k + 1, by omega, by go_num, HB, HR1, R3⟩
          case measure => simp [intOf]; omega
    · obtain rfl : k = 256 := by omega
      have HR3 : Hid (IsRow wr (h + 1) 100 (tabOf (snd 0))) := by
        rw [show tabOf (snd 0) = tabOf (fst 256) from rfl]; exact HR2
      clear hlt hk HR2
      go_wp2
      go_loopw [18] (fun i wr => ∃ k : Nat, k ≤ 15 ∧ i = .int .i64 k ∧ Hid (Below h w wr) ∧ Hid (IsRow wr h 100 zer) ∧ Hid (IsRow wr (h + 1) 100 (tabOf (snd k)))) (fun i _ => 15 - (intOf i).toNat)
      case atStart => exact ⟨0, by omega, rfl, HB, HR1, HR3⟩
      case round =>
        clear HB HR1 HR3
        obtain ⟨k, hk, rfl, HB, HR1, HR2⟩ := hrel
        by_cases hlt : k < 15
        · have hs := sym_lt ⟨k, hlt⟩
          have hi := sym_index k hlt
          obtain ⟨c0, f0⟩ := rng_zero wr (h + 1) _ HR2.out (symAt k) hs
          have R3 := Lib.hid (row_put HR2.out (symAt k) 64 (fun i hi => snd_put ⟨k, hlt⟩ ⟨i, hi⟩))
          have R4 := Lib.hid (HR1.out.putOther (p := ⟨h + 1, symAt k, none⟩) (by simp) (.int .u8 64))
          have B3 := Lib.hid (HB.out.setCell (p := ⟨h + 1, symAt k, none⟩) (Nat.le_succ _) (.int .u8 64))
          dsimp only at hs
          go_wp2
          go_roundw
          case rel => exact ⟨k + 1, by omega, by go_num, B3, R4, R3⟩
          case measure => simp [intOf]; omega
        · obtain rfl : k = 15 := by omega
          have A0 := rng_zero wr (h + 1) _ HR2.out 32 (by decide)
          have A1 := rng_zero wr (h + 1) _ HR2.out 9 (by decide)
          have A2 := rng_zero wr (h + 1) _ HR2.out 10 (by decide)
          have A3 := rng_zero wr (h + 1) _ HR2.out 95 (by decide)
          have A4 := rng_zero wr (h + 1) _ HR2.out 35 (by decide)
          have A5 := rng_zero wr (h + 1) _ HR2.out 34 (by decide)
          have R3 := (row_put (row_put (row_put (row_put (row_put (row_put HR2.out 32 8 (fun _ _ => rfl)) 9 8 (fun _ _ => rfl)) 10 8 (fun _ _ => rfl)) 95 4 (fun _ _ => rfl)) 35 16 (fun _ _ => rfl)) 34 32 (fun i hi => last_put ⟨i, hi⟩))
          have R4 := (((((HR1.out.putOther (p := ⟨h + 1, 32, none⟩) (by simp) (.int .u8 8)).putOther (p := ⟨h + 1, 9, none⟩) (by simp) (.int .u8 8)).putOther (p := ⟨h + 1, 10, none⟩) (by simp) (.int .u8 8)).putOther (p := ⟨h + 1, 95, none⟩) (by simp) (.int .u8 4)).putOther (p := ⟨h + 1, 35, none⟩) (by simp) (.int .u8 16)).putOther (p := ⟨h + 1, 34, none⟩) (by simp) (.int .u8 32)
          have B3 := (((((HB.out.setCell (p := ⟨h + 1, 32, none⟩) (Nat.le_succ _) (.int .u8 8)).setCell (p := ⟨h + 1, 9, none⟩) (Nat.le_succ _) (.int .u8 8)).setCell (p := ⟨h + 1, 10, none⟩) (Nat.le_succ _) (.int .u8 8)).setCell (p := ⟨h + 1, 95, none⟩) (Nat.le_succ _) (.int .u8 4)).setCell (p := ⟨h + 1, 35, none⟩) (Nat.le_succ _) (.int .u8 16)).setCell (p := ⟨h + 1, 34, none⟩) (Nat.le_succ _) (.int .u8 32)
          obtain ⟨c0, f0⟩ := A0
          obtain ⟨c1, f1⟩ := A1
          obtain ⟨c2, f2⟩ := A2
          obtain ⟨c3, f3⟩ := A3
          obtain ⟨c4, f4⟩ := A4
          obtain ⟨c5, f5⟩ := A5
          have HR3 := Lib.hid R3
          have HR4 := Lib.hid R4
          have HB3 := Lib.hid B3
          clear R3 R4 B3 HR2 HR1 HB
          go_upto_region 17 with (fail)
          have HT := Lib.hid (tabOf_size clsN)
          have HO := Lib.hid (tabOf_one clsN)
          have HZ := Lib.hid (tabOf_size fun _ => 0)
          generalize ((((((wr.setCell ⟨h + 1, 32, none⟩ (.int .u8 8)).setCell ⟨h + 1, 9, none⟩ (.int .u8 8)).setCell ⟨h + 1, 10, none⟩ (.int .u8 8)).setCell ⟨h + 1, 95, none⟩ (.int .u8 4)).setCell ⟨h + 1, 35, none⟩ (.int .u8 16)).setCell ⟨h + 1, 34, none⟩ (.int .u8 32)) = V at *
          have HR5 := Lib.hid (show IsRow (V.setRow h (tabOf clsN)) h 100 (tabOf clsN) from setRow_heap _ _ _ _ _ _ HR4.out)
          have HB5 := Lib.hid (below_setRow HB3.out (Nat.le_refl h) (tabOf clsN))
          have hi : (Try.prog.info? 100).map (·.size) = some (tabOf clsN).size := by rw [HT.out]; exact tab_info
          have HI := Lib.hid hi
          have HZT := Lib.hid (show zer.size = (tabOf clsN).size by rw [HT.out]; exact HZ.out)
          clear hi c0 c1 c2 c3 c4 c5 f0 f1 f2 f3 f4 f5
          go_wp2_with (first | (refine wpList_load_row rfl 100 (.tmp 1) rfl (h + 1) rfl 100 (tabOf clsN) (0, 0) _ HR3.out Try.underlying100 rfl HI.out ?_) | (refine wpList_store_row rfl 100 (.tmp 0) (.tmp 31) rfl h (tabOf clsN) rfl rfl 100 zer HR4.out HI.out HZT.out HO.out ?_))
          refine bodyPost_ret (results_cell_row rfl _ _ h _ _ (0, 0) _ rfl HR5.out Try.underlying100 rfl HI.out) rfl ?_
          exact ⟨rfl, by rw [HH.out]; exact HB5.out⟩
end Go.Proofs.Ytlknbjaippfemaa.Lx
