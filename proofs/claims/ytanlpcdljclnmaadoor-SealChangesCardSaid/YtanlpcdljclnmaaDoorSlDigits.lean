/- The digits of a message: the iterator's contract; signer. -/
import Derived.Test.YtanlpcdljclnmaaDoorSlKeys
import Derived.RangeFuncNested
import Derived.RangeFuncBound
import Derived.RangeFuncCalls
import Derived.RangeFuncLeaves
import Derived.Shelf.Abstract
import Derived.Shelf.RegionOpen
import Derived.OwnWalkIn
import Derived.TacticsInMore
import Derived.LoopNIn
import Derived.LoopIn
namespace Go.Proofs.YtanlpcdljclnmaaDoor.Sl
open Go.RowKit Go.Shelf
open Go.Proofs.YtanlpcdljclnmaaDoor.Dg hiding intOf
attribute [local go_sem] Oper.semAt_some

theorem value_of (a : Int) (c : UInt8) (d : Nat) (w : World) (ha : a = (c.toNat : Int)) (hc : isHexB c = true) (hd : valueB c = d) :
    Calls Tryd.prog 36 #[.int .u8 a] w fun e w' => e = .returned (.int .i64 d) ∧ w = w' := by
  subst ha hd
  exact value_any c w hc
theorem digits_any (m : B) (w : World) :
    Calls Tryd.prog 18 #[.string ⟨m.toArray⟩] w fun e w' => e = .returned (.func (.func 34) #[] #[.pointer (some ⟨w.heap.size, 0, none⟩)]) ∧ w.alloc (.cells #[.string ⟨m.toArray⟩] 9) = w' := by
  go_enter Tryd.func18, Tryd.ntmps18
  go_wp2
  go_ret
  exact ⟨rfl, rfl⟩
/-- what the iterator hands to a round. -/
abbrev encs (m : B) (k : Fin 18) : Array Value := #[.int .i64 (k.val : Int), .int .i64 (dig m k.val : Int)]
def upto (k : Nat) : List (Fin 18) := (List.finRange 18).take k
theorem upto_succ (k : Nat) (hk : k < 18) : upto (k + 1) = upto k ++ [⟨k, hk⟩] := by
  unfold upto
  rw [List.take_succ_eq_append_getElem (by simpa using hk)]
  simp
theorem upto_len (k : Nat) (hk : k ≤ 18) : (upto k).length = k := by simp [upto]; omega
theorem upto_full : upto 18 = List.finRange 18 := List.take_of_length_le (by simp)
theorem dsum_at (m : B) (k : Nat) (h : k < (ByteArray.mk (dsum m).toArray).size) : (ByteArray.mk (dsum m).toArray)[k] = (dsum m).getD k 0 := by
  have hk : k < (dsum m).length := by rw [str_size] at h; exact h
  rw [List.getD_eq_getElem?_getD, List.getElem?_eq_getElem hk]
  rfl
theorem dig_at (m : B) {k : Nat} (hk : k < 16) : valueB ((dsum m).getD k 0) = dig m k := by unfold dig; rw [if_pos hk]
theorem yieldAt_args {F : Fence} {m l : Nat} {P : Program} {args args' : Array Value} {W : World} {R : Ending → World → Prop} (h : YieldAt F m P l args W R) (e : args = args') : YieldAt F m P l args' W R := e ▸ h
theorem dig_16 (m : B) : dig m 16 = sumOf m 16 / 16 := by unfold dig; rw [if_neg (by decide), if_pos rfl]
theorem dig_17 (m : B) : dig m 17 = sumOf m 16 % 16 := by unfold dig; rw [if_neg (by decide), if_neg (by decide)]
theorem encs_16 (m : B) (q : Int) (h : ((dig m 16 : Nat) : Int) = q) : encs m ⟨16, by decide⟩ = #[.int .i64 16, .int .i64 q] := by subst h; rfl
theorem encs_17 (m : B) (q : Int) (h : ((dig m 17 : Nat) : Int) = q) : encs m ⟨17, by decide⟩ = #[.int .i64 17, .int .i64 q] := by subst h; rfl
set_option maxRecDepth 100000 in
set_option maxHeartbeats 2000000 in
theorem digits_stops (n : Nat) (hn : 1 ≤ n) (m : B) (hm : m.length ≤ 1000) (n₀ box : Nat) (w : World) (hbox : box < w.heap.size) (hc : w.cell? ⟨box, 0, none⟩ = some (.string ⟨m.toArray⟩)) :
    SeqStopsK Fence.wide n Tryd.prog 34 #[.pointer (some ⟨box, 0, none⟩)] (encs m) (Below n₀) (fun xs => xs = List.finRange 18) (fun _ => True) 18 w := fun l J Jx W hW hJ hJx hY h0 => by
  have c0 : W.cell? ⟨box, 0, none⟩ = some (.string ⟨m.toArray⟩) := (hW.cell (p := ⟨box, 0, none⟩) hbox).trans hc
  refine callsIn_of_wp Tryd.func34 rfl trivial ?_ rfl
  simp only [Tryd.ntmps34, List.size_toArray, List.length_cons, List.length_nil, Nat.reduceAdd, Nat.reduceSub, Array.replicate_succ, Array.replicate_zero, List.push_toArray, List.append_toArray, List.nil_append, List.cons_append]
  gi_wp2_with (refine ⟨trivial, ?_⟩; gi_at_call 35; refine (callsIn_wide.2 (sumB m _ (by omega))).mono ?_; rintro e W1 ⟨rfl, hb1⟩)
  have hlen : (ByteArray.mk (dsum m).toArray).size = 16 := by rw [str_size, dsum_length]
  have J1 : J [] W1 := hJ [] W W1 none h0 (grown_of_below hb1 none) (fun r e => by cases e)
  clear hW hc c0 h0
  gi_loopw [4, 11] (fun c i wr => ∃ k : Nat, k ≤ 16 ∧ i = .int .i64 k ∧ c = .int .i64 (sumOf m k) ∧ J (upto k) wr) (fun _ i _ => 16 - (intOf i).toNat)
  case atStart => exact ⟨0, by omega, rfl, rfl, J1⟩
  case round =>
    obtain ⟨k, hk, rfl, rfl, hJs⟩ := hrel
    by_cases hlt : k < 16
    · have hds := dig_lt m k (by omega)
      have hsl := sumOf_le m k
      have HS := Lib.hid (sumOf_succ m k hlt)
      have HU := Lib.hid (upto_succ k (by omega))
      obtain ⟨fn, tmps, assign, body, hy, hR⟩ := hY (upto k) ⟨k, by omega⟩ wr hJs (by rw [upto_len k (by omega)]; omega)
      dsimp only [encs] at hy
      have hat := dsum_at m k (by rw [hlen]; exact hlt)
      have hhex := dsum_hex m hlt
      have hdig := dig_at m hlt
      have k1 : k < (ByteArray.mk (dsum m).toArray).size := by rw [hlen]; exact hlt
      have HY := Lib.hid hY
      have HJ := Lib.hid hJ
      have HA := Lib.hid hat
      have HH := Lib.hid hhex
      have HD := Lib.hid hdig
      clear hY hJ hJx hat hhex hdig
      gi_wp2_with fail
      refine ⟨trivial, ?_⟩
      refine (callsIn_wide.2 (value_of _ ((dsum m).getD k 0) (dig m k) _ ?v1 HH.out HD.out)).mono ?_
      case v1 => rw [HA.out]
      rintro e w' ⟨rfl, rfl⟩
      have hs1 : (sumOf m k : Int) + (15 - (dig m k : Int)) = (sumOf m (k + 1) : Int) := by have := HS.out; omega
      gi_wp2
      refine hR.mono ?_
      rintro e W3 (⟨rfl, hJ3, _⟩ | ⟨rfl, hJx3⟩)
      · have HJ3 : J (upto (k + 1)) W3 := by rw [HU.out]; exact hJ3
        have HS1 := Lib.hid hs1
        clear hR hJ3 hs1
        gi_wp2
        go_roundw
        case rel => exact ⟨k + 1, by omega, by go_num, by rw [← HS1.out], HJ3⟩
        case measure => simp [intOf]; omega
      · gi_wp2
        refine bodyPost_ret (results_none rfl _ _ _) rfl ?_
        exact ⟨⟨_, rfl⟩, .inr ⟨_, trivial, hJx3⟩⟩
    · obtain rfl : k = 16 := by omega
      have hdl : (dsum m).length = 16 := dsum_length m
      have hsl := sumOf_le m 16
      have e16 : ((dig m 16 : Nat) : Int) = (sumOf m 16 : Int) / 16 := by
        rw [dig_16]; omega
      have e17 : ((dig m 17 : Nat) : Int) = (sumOf m 16 : Int) % 16 := by
        rw [dig_17]; omega
      have U16 := Lib.hid (upto_succ 16 (by omega))
      have U17 := Lib.hid (upto_succ 17 (by omega))
      have hy0 := yieldAt_args (args' := #[.int .i64 16, .int .i64 ((sumOf m 16 : Int) / 16)]) (hY (upto 16) ⟨16, by omega⟩ wr hJs (by rw [upto_len 16 (by omega)]; omega)) (encs_16 m _ e16)
      obtain ⟨fn, tmps, assign, body, hy, hR⟩ := hy0
      have HY := Lib.hid hY
      have HJ := Lib.hid hJ
      have E17 := Lib.hid e17
      clear hY hJ hJx hlen hlt e16 e17
      gi_wp2
      refine hR.mono ?_
      rintro e W3 (⟨rfl, hJ3, _⟩ | ⟨rfl, hJx3⟩)
      · have hJ17 : J (upto 17) W3 := by rw [U16.out]; exact hJ3
        have hy1 := yieldAt_args (args' := #[.int .i64 17, .int .i64 ((sumOf m 16 : Int) % 16)]) (HY.out (upto 17) ⟨17, by omega⟩ W3 hJ17 (by rw [upto_len 17 (by omega)]; omega)) (encs_17 m _ E17.out)
        obtain ⟨fn2, tmps2, assign2, body2, hy2, hR2⟩ := hy1
        clear hy hR hJ3 hJs
        gi_wp2
        refine hR2.mono ?_
        rintro e W4 (⟨rfl, hJ4, _⟩ | ⟨rfl, hJx4⟩)
        · gi_wp2
          go_end0
          exact ⟨⟨_, rfl⟩, .inl ⟨_, rfl, by rw [← upto_full, U17.out]; exact hJ4⟩⟩
        · gi_wp2
          go_end0
          exact ⟨⟨_, rfl⟩, .inr ⟨_, trivial, hJx4⟩⟩
      · gi_wp2
        go_end0
        exact ⟨⟨_, rfl⟩, .inr ⟨_, trivial, hJx3⟩⟩
end Go.Proofs.YtanlpcdljclnmaaDoor.Sl
