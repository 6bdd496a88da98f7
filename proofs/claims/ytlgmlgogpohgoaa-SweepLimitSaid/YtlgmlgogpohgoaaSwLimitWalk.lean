/- P5.6, SweepLimit: its walk. -/
import Derived.Test.YtlgmlgogpohgoaaSwOrderWalk
namespace Go.Proofs.Ytlgmlgogpohgoaa.Sw
open Go.RowKit Go.Sort Go.Shelf
open Go.Proofs.Ytlgmlgogpohgoaa.Geo hiding intOf
theorem lim_next (k : Nat) : limN k ++ [limS k] = limN (k + 1) := by unfold limN; simp [List.range_succ]
theorem limN_len (k : Nat) : (limN k).length = k := by unfold limN; simp
set_option maxRecDepth 100000 in
set_option maxHeartbeats 8000000 in
theorem limit_any (q : Nat) (W : World) (hq : q < 256) :
    Calls Try.prog 14 #[.int .u8 q] W fun e w' => e = .returned (.bool true) ∧ Below W.heap.size W w' := by
  go_enter Try.func14, Try.ntmps14
  go_wp2_with fail
  refine (head_any _).mono ?_
  rintro e w1 ⟨rfl, b1⟩
  have B1 := Lib.hid b1
  clear b1
  go_upto_region 4 with fail
  obtain ⟨k, hk⟩ : ∃ k, 19988 + q % 20 = k := ⟨_, rfl⟩
  have hk1 : 19988 ≤ k := by omega
  have hk2 : k ≤ 20007 := by omega
  have e0 : 19990 + (q : Int) % 20 = (k : Int) + 2 := by omega
  obtain ⟨r, hr⟩ : ∃ r, (q : Int) % 20 = r := ⟨_, rfl⟩
  rw [hr] at e0 ⊢
  rw [e0]
  clear e0 hk hr hq
  go_wp2_with fail
  go_loopw [5, 6] (fun s i wr => ∃ j : Nat, j ≤ k ∧ i = .int .i64 j ∧ Hid (OwnG wr w1.heap.size s (limN j)) ∧ Hid (Below w1.heap.size w1 wr)) (fun _ i _ => k - (intOf i).toNat)
  case atStart => exact ⟨0, by omega, rfl, Lib.hid (own_nil _ _), Lib.hid (Below.refl _ _)⟩
  case round =>
    obtain ⟨j, hj, rfl, ho, hb⟩ := hrel
    by_cases hjk : j < k
    · have i1 : (j : Int) < (k : Int) + 2 - 2 := by omega
      have HN := Lib.hid (lim_next j)
      have e1 : (j : Int) % 7 = ((j % 7 : Nat) : Int) := by omega
      obtain ⟨m, hm⟩ : ∃ m, j % 7 = m := ⟨_, rfl⟩
      have hm7 : m < 7 := by omega
      have HM := Lib.hid hm
      rw [hm] at e1
      clear hm
      go_wp2_with fail
      refine (side_any _ _ _ _ _).mono ?_
      rintro e w2 ⟨rfl, b2⟩
      have HS := Lib.hid (show limS j = ⟨⟨100 * (j : Int) - 1000000, 10⟩, ⟨100 * (j : Int) - 1000000 + 50, 20 + (m : Int)⟩⟩ by unfold limS; rw [HM.out])
      have hb2 := Lib.hid (hb.out.trans (b2.mono hb.out.size))
      have ho2 := Lib.hid (Own.below ho.out b2)
      have O4 := Lib.hid (Own.below ho2.out (alloc1 w2 (.cells ([(⟨⟨100 * (j : Int) - 1000000, 10⟩, ⟨100 * (j : Int) - 1000000 + 50, 20 + (m : Int)⟩⟩ : Sg)].flatMap encG).toArray 36)))
      have R4 := Lib.hid (IsRow.made w2 36 ([(⟨⟨100 * (j : Int) - 1000000, 10⟩, ⟨100 * (j : Int) - 1000000 + 50, 20 + (m : Int)⟩⟩ : Sg)].flatMap encG).toArray)
      have hsz := hb2.out.size
      have hlen := limN_len j
      clear b2 hb ho
      go_wp2_with (refine wpList_appG rfl _ _ rfl w1.heap.size _ (limN j) [(⟨⟨100 * (j : Int) - 1000000, 10⟩, ⟨100 * (j : Int) - 1000000 + 50, 20 + (m : Int)⟩⟩ : Sg)] w2.heap.size 1 1 rfl O4.out rfl rfl R4.out (by omega) (by simp; omega) ?_; intro v2 w4 hown hgrow)
      have hb4 : Hid (Below w1.heap.size w1 w4) := (hb2.out.trans ((alloc1 w2 _).mono hsz)).grown hgrow (by simp; omega) (fun k e => (Own.row O4.out k e).1)
      rw [← HS.out, HN.out] at hown
      have ho4 := Lib.hid hown
      clear hown hgrow O4 R4 hb2 ho2 HS HN HM
      go_wp2
      go_roundw
      case rel => exact ⟨j + 1, by omega, by go_num, ho4, hb4⟩
      case measure => simp [intOf]; omega
    · obtain rfl : j = k := by omega
      have i1 : ¬ (j : Int) < (j : Int) + 2 - 2 := by omega
      go_wp2_with fail
      refine (side_any _ _ _ _ _).mono ?_
      rintro e w2 ⟨rfl, b2⟩
      have hb2 := Lib.hid (hb.out.trans (b2.mono hb.out.size))
      have ho2 := Lib.hid (Own.below ho.out b2)
      clear b2 hb ho
      go_wp2_with fail
      refine (side_any _ _ _ _ _).mono ?_
      rintro e w3 ⟨rfl, b3⟩
      have hb3 := Lib.hid (hb2.out.trans (b3.mono hb2.out.size))
      have ho3 := Lib.hid (Own.below ho2.out b3)
      have O4 := Lib.hid (Own.below ho3.out (alloc1 w3 (.cells (limEnd.flatMap encG).toArray 36)))
      have R4 := Lib.hid (IsRow.made w3 36 (limEnd.flatMap encG).toArray)
      have hsz := hb3.out.size
      have hlen := limN_len j
      clear b3 hb2 ho2 ho3
      go_wp2_with (refine wpList_appG rfl _ _ rfl w1.heap.size _ (limN j) limEnd w3.heap.size 2 2 rfl O4.out rfl rfl R4.out (by omega) (by simp; omega) ?_; intro v2 w4 hown hgrow)
      have hb4 : Hid (Below W.heap.size W w4) := B1.out.trans (((hb3.out.trans ((alloc1 w3 _).mono hsz)).grown hgrow (by simp; omega) (fun k e => (Own.row O4.out k e).1)).mono B1.out.size)
      have hl2 : (limN j ++ limEnd).length = j + 2 := by rw [List.length_append, hlen]; rfl
      obtain ⟨a4, c4, rfl, _, _, hs4⟩ := OwnG.segs hown
      have S4 := Lib.hid hs4
      have HA := Lib.hid (ans_lim j)
      rw [hl2]
      clear hown hgrow O4 R4 hb3 hs4 hlen
      by_cases h20 : 20000 < j + 2
      · have z0 : (20000 : Int) < (j : Int) + 2 := by omega
        go_wp2_with fail
        refine (many_any a4 _ c4 w4 h20).mono ?_
        rintro e w5 ⟨rfl, b5⟩
        have B5 := Lib.hid (hb4.out.trans (b5.mono hb4.out.size))
        clear b5 hb4
        go_wp2
        go_ret
        exact ⟨rfl, B5.out⟩
      · have z0 : ¬ (20000 : Int) < (j : Int) + 2 := by omega
        go_wp2_with fail
        refine (all_any a4 _ c4 (limN j ++ limEnd) w4 S4.out hl2.symm (by omega)).mono ?_
        rintro e w5 ⟨⟨v, rfl, ho⟩, b5⟩
        rw [HA.out] at ho
        have B5 := Lib.hid (hb4.out.trans (b5.mono hb4.out.size))
        have O5 := Lib.hid ho
        clear b5 hb4 ho
        go_wp2_with fail
        have w5s := B5.out.size
        have e3 : (j : Int) + 2 - 1 = ((j + 1 : Nat) : Int) := by omega
        have o6 := own_lit (t := 48) encM_len w5 [(⟨j, j + 1, 3⟩ : Met)] (by simp)
        have a6 := alloc1 w5 (.cells ([(⟨j, j + 1, 3⟩ : Met)].flatMap encM).toArray 48)
        have o5 := Own.below O5.out a6
        rw [e3]
        refine (same_any _ _ v _ [(⟨j, j + 1, 3⟩ : Met)] _ o5 o6 (by simp)).mono ?_
        rintro e w7 ⟨rfl, b7⟩
        have B7 := Lib.hid (B5.out.trans ((a6.trans (b7.mono a6.size)).mono B5.out.size))
        clear o5 o6 a6 b7 B5 O5
        go_wp2
        go_ret
        exact ⟨rfl, B7.out⟩
theorem limit_u8 (x : Int) (W : World) (hx : 0 ≤ x ∧ x ≤ 255) :
    Calls Try.prog 14 #[.int .u8 x] W fun e w' => e = .returned (.bool true) ∧ Below W.heap.size W w' := by
  obtain ⟨q, rfl⟩ : ∃ q : Nat, x = (q : Int) := ⟨x.toNat, by omega⟩
  exact limit_any q W (by omega)
end Go.Proofs.Ytlgmlgogpohgoaa.Sw
