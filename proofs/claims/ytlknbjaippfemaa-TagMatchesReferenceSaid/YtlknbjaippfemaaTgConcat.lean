/- tag: slices.Grow of nil; slices.Concat of slices of tags, each of which may be empty. -/
import Derived.Test.YtlknbjaippfemaaTgAround
namespace Go.Proofs.Ytlknbjaippfemaa.Tg
open Go.RowKit Go.Sort
open Lx (IsRow alloc1 drew_below)
set_option maxRecDepth 100000 in
set_option maxHeartbeats 2000000 in
theorem grow_any (n : Nat) (w : World) (hn : n ≤ 100000) :
    Calls Try.prog 46 #[.slice none 0 0, .int .i64 n] w fun e w' => (∃ v, e = .returned v ∧ OwnG w' w.heap.size v []) ∧ Below w.heap.size w w' := by
  by_cases h0 : 0 < n
  · obtain ⟨i0, hi0, hs0, hb0, hz0⟩ := info_of tag_info
    have hrz : ∀ ty, (Builtin.append_ #[22, 3] ty #[.slice none 0 0, .int .i64 (n : Int)]).run Try.prog w =
        .ok (.slice (some ⟨w.heap.size, 0, none⟩) n (grownCap w n 0 43)) (w.drew.alloc (.cells ((#[] : Array Value) ++ Builtin.zeroCells (Value.agg #[.string ⟨#[]⟩, .string ⟨#[]⟩]).cells n ++ Builtin.zeroCells (Value.agg #[.string ⟨#[]⟩, .string ⟨#[]⟩]).cells (grownCap w n 0 43 - n)) 43)) := fun ty => by
      have h := Lib.run_append_grow_zeros (P := Try.prog) w 22 3 ty 43 i0 _ .i64 .i64 Try.underlying22 Try.underlying3 hi0 hz0 none 0 0 [] (run_firstCells_none w.drew i0.size 0 0 0) n h0 (by omega) (by omega) (by omega) (by rw [hb0]; omega)
        (growslice_fits (by omega) (by rw [hb0]; omega))
      rw [Nat.zero_add] at h
      exact h
    have hGn : n ≤ grownCap w n 0 43 := grownCap_ge w _ _ _
    have hG63 := grownCap_le_maxLen w n 0 43 (by unfold maxLen; omega)
    obtain ⟨G, hG⟩ : ∃ G, G = grownCap w n 0 43 := ⟨_, rfl⟩
    rw [← hG] at hrz hGn hG63
    clear hG hi0 hs0 hb0 hz0
    have HG63 := Lib.hid hG63
    unfold maxLen at hG63
    go_enter Try.func46, Try.ntmps46
    go_wp2_with (at_builtin; refine Lib.wpList_append_run _ rfl _ _ _ _ rfl _ _ rfl rfl _ _ (hrz _) ?_)
    all_goals
      go_ret
      have hsz : (Builtin.zeroCells #[Value.string ⟨#[]⟩, Value.string ⟨#[]⟩] n ++ Builtin.zeroCells #[Value.string ⟨#[]⟩, Value.string ⟨#[]⟩] (G - n)).size = G * 2 := by
        simp [Builtin.zeroCells]
        omega
      exact ⟨⟨_, rfl, World.ownsRow_made (base := w.heap.size) w _ G (Nat.le_refl _) HG63.out hsz⟩, (alloc1 w _).trans ((drew_below _).mono (by simp))⟩
  · obtain rfl : n = 0 := by omega
    go_enter Try.func46, Try.ntmps46
    go_wp2
    go_ret
    exact ⟨⟨_, rfl, OwnG.nil _ _⟩, Below.refl _ _⟩
abbrev Sl := Option Addr × Nat × Nat × List T
def jl (ls : List Sl) (k : Nat) : List T := ((ls.take k).map fun s => s.2.2.2).flatten
def sm (ls : List Sl) (k : Nat) : Nat := ((ls.take k).map fun s => s.2.1).sum
theorem jl_succ {ls : List Sl} {k : Nat} (h : k < ls.length) : jl ls (k + 1) = jl ls k ++ ls[k].2.2.2 := by
  unfold jl
  rw [List.take_succ_eq_append_getElem h, List.map_append, List.flatten_append]
  simp
theorem sm_succ {ls : List Sl} {k : Nat} (h : k < ls.length) : sm ls (k + 1) = sm ls k + ls[k].2.1 := by
  unfold sm
  rw [List.take_succ_eq_append_getElem h, List.map_append, List.sum_append]
  simp
theorem sm_le {ls : List Sl} (hL : ∀ s ∈ ls, s.2.1 ≤ 1000) : ∀ k, k ≤ ls.length → sm ls k ≤ k * 1000
  | 0, _ => by simp [sm]
  | k + 1, h => by
    rw [sm_succ (by omega)]
    have := sm_le hL k (by omega)
    have := hL _ (List.getElem_mem (show k < ls.length by omega))
    omega
theorem jl_len {ls : List Sl} (hL : ∀ s ∈ ls, s.2.2.2.length = s.2.1) : ∀ k, k ≤ ls.length → (jl ls k).length = sm ls k
  | 0, _ => by simp [jl, sm]
  | k + 1, h => by
    rw [sm_succ (by omega), jl_succ (by omega), List.length_append, jl_len hL k (by omega), hL _ (List.getElem_mem (show k < ls.length by omega))]
set_option maxRecDepth 100000 in
set_option maxHeartbeats 4000000 in
theorem concat_any (g m : Nat) (ls : List Sl) (w : World) (h : Sls w g ls) (hm : ls.length = m) (hm3 : m ≤ 10) (hL : ∀ s ∈ ls, s.2.1 ≤ 1000) :
    Calls Try.prog 25 #[.slice (some ⟨g, 0, none⟩) m m] w fun e w' => (∃ v, e = .returned v ∧ OwnG w' w.heap.size v (jl ls m)) ∧ Below w.heap.size w w' := by
  have H := Lib.hid h
  have HM := Lib.hid hm
  have HL := Lib.hid hL
  have hm' : (m : Int) ≤ 10 := by omega
  have SL := Lib.hid (sm_le hL)
  have JL := Lib.hid (jl_len (fun s hs => (h.2 s hs).1))
  clear h hm hL
  go_enter Try.func25, Try.ntmps25
  go_wp2
  go_loop [3, 11] (fun s i => ∃ k : Nat, k ≤ m ∧ i = .int .i64 k ∧ s = .int .i64 (sm ls k : Nat)) (fun _ i => m - (Lx.intOf i).toNat)
  case atStart => exact ⟨0, by omega, rfl, rfl⟩
  case round =>
    obtain ⟨k, hk, rfl, rfl⟩ := hrel
    by_cases hlt : k < m
    · have hkl : k < ls.length := by rw [HM.out]; exact hlt
      have hlt2 : (k : Int) < (m : Int) := by omega
      have x0 := H.out.1.get k
      rw [show (ls.map fun s => Value.slice s.1 s.2.1 s.2.2.1).toArray[k]? = some (Value.slice ls[k].1 ls[k].2.1 ls[k].2.2.1) by simp [hkl]] at x0
      have SS := Lib.hid (sm_succ hkl)
      have s1 := SL.out k (by rw [HM.out]; omega)
      have s2 := HL.out _ (List.getElem_mem hkl)
      generalize ls[k] = s at *
      obtain ⟨a1, n1, c1, l1⟩ := s
      dsimp only at x0 s2 SS
      have s1' : ((sm ls k : Nat) : Int) ≤ 10000 := by omega
      have s2' : ((n1 : Nat) : Int) ≤ 1000 := by omega
      clear hkl
      go_wp2
      go_round
      case rel => exact ⟨k + 1, by omega, by go_num, by rw [SS.out]; go_num⟩
      case measure => simp [Lx.intOf]; omega
    · obtain rfl : m = k := by omega
      have s1 := SL.out m (by rw [HM.out]; omega)
      have KG := Lib.hid (grow_any (sm ls m) w (by omega))
      go_wp2_with fail
      refine KG.out.mono ?_
      rintro e w1 ⟨⟨v, rfl, hv⟩, hb1⟩
      have O1 := Lib.hid (show OwnG w1 w.heap.size v (jl ls 0) from hv)
      have B1 := Lib.hid hb1
      have M3 := Lib.hid hm3
      clear hv hb1 KG
      go_wp2
      go_loopw [6, 27] (fun u i wr => ∃ k : Nat, k ≤ m ∧ i = .int .i64 k ∧ Hid (OwnG wr w.heap.size u (jl ls k)) ∧ Hid (Below w.heap.size w wr)) (fun _ i _ => m - (Lx.intOf i).toNat)
      case atStart => exact ⟨0, by omega, rfl, O1, B1⟩
      case round =>
        clear O1 B1
        obtain ⟨k, hk, rfl, HO, HB⟩ := hrel
        by_cases hlt : k < m
        · have hkl : k < ls.length := by rw [HM.out]; exact hlt
          have hlt2 : (k : Int) < (m : Int) := by omega
          have x0 := (H.out.1.below HB.out H.out.1.inside).get k
          rw [show (ls.map fun s => Value.slice s.1 s.2.1 s.2.2.1).toArray[k]? = some (Value.slice ls[k].1 ls[k].2.1 ls[k].2.2.1) by simp [hkl]] at x0
          have JS := Lib.hid (jl_succ hkl)
          have q1 := Lib.hid ((H.out.2 _ (List.getElem_mem hkl)).1)
          have q2 := Lib.hid ((H.out.2 _ (List.getElem_mem hkl)).2.1.later HB.out)
          have jn := Lib.hid (JL.out k (by omega))
          have s1 := Lib.hid (SL.out k (by omega))
          have s2 := Lib.hid (HL.out _ (List.getElem_mem hkl))
          generalize ls[k] = s at *
          obtain ⟨a1, n1, c1, l1⟩ := s
          dsimp only at x0 s2 JS q1 q2
          clear hkl
          go_wp2_with (at_builtin; refine wpList_appG rfl _ _ (by rfl) w.heap.size _ (jl ls k) l1 a1 n1 c1 (by rfl) HO.out (by rfl) q2.out q1.out.symm (by have := jn.out; have := s1.out; have := s2.out; have := M3.out; omega) HB.out.size ?_; intro v' w2 ho2 hg2 hlt2)
          have O2 := Lib.hid (show OwnG w2 w.heap.size v' (jl ls (k + 1)) from JS.out ▸ ho2)
          have B2 := Lib.hid (HB.out.grown hg2 HB.out.size (fun k hk => (hlt2 k hk).1))
          clear HO ho2 hg2 hlt2 x0
          go_wp2
          go_roundw
          case rel => exact ⟨k + 1, by omega, by go_num, O2, B2⟩
          case measure => simp [Lx.intOf]; omega
        · obtain rfl : m = k := by omega
          go_wp2
          go_ret
          exact ⟨⟨_, rfl, HO.out⟩, HB.out⟩
end Go.Proofs.Ytlknbjaippfemaa.Tg
