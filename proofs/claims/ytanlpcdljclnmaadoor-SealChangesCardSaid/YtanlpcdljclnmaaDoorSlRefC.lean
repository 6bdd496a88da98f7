/- The reference's Digits. -/
import Derived.Test.YtanlpcdljclnmaaDoorSlShown
import Derived.Test.YtanlpcdljclnmaaDoorSlDigits
namespace Go.Proofs.YtanlpcdljclnmaaDoor.Sl
open Go.RowKit
open Go.Proofs.YtanlpcdljclnmaaDoor.Dg hiding intOf

def intv (L : List Nat) : List Value := L.map fun x : Nat => Value.int .i64 (x : Int)
theorem intv_len (L : List Nat) : (intv L).length = L.length := List.length_map _
def OwnI (w : World) (base : Nat) (v : Value) (n : Nat) (L : List Nat) : Prop := n = L.length ∧ w.ownsRow base 3 1 v n (intv L)
theorem OwnI.nil (w : World) (base : Nat) : OwnI w base (.slice none 0 0) 0 [] := ⟨rfl, World.ownsRow_nil w base _ _⟩
theorem OwnI.later {w w' : World} {base n : Nat} {v : Value} {L : List Nat} (h : OwnI w base v n L) (hb : Below w.heap.size w w') : OwnI w' base v n L :=
  ⟨h.1, h.2.kept (grown_of_below hb none) (by cases hv : v.ownBlock <;> simp)⟩
theorem int_info : (Tryd.prog.info? 3).map (fun i => (i.zero, i.size, i.bytes)) = some (some (.int .i64 0), 1, 8) := by kernel_rfl
theorem intv_one (L : List Nat) : ∀ u ∈ intv L, u.oneCell' = true := by
  intro u hu
  unfold intv at hu
  obtain ⟨x, _, rfl⟩ := List.mem_map.1 hu
  rfl
theorem wpList_appI {w : World} {rest : List Oper} {ops : Array Oper} {o : Oper} {a : Act} {Q : Exit → Act → World → Prop} (hgd : o.guard = none) (s x : Operand)
    (ho : o.op = .call { callee := .builtin .append, args := #[s, x], argTypes := #[56, 56] }) (base : Nat) (v : Value) (n : Nat) (L M : List Nat) (H m : Nat) (cs : Array Value) (hcs : cs.toList = intv M)
    (hs : a.eval s = v) (hown : OwnI w base v n L) (hx : a.eval x = .slice (some ⟨H, 0, none⟩) m m) (hrow : w.heap[H]? = some (.cells cs 3 (0, 0))) (hm : m = M.length) (h0 : 0 < m) (hm1 : m ≤ 1000) (hlen : n ≤ 1000) (hbase : base ≤ w.heap.size)
    (h : ∀ g cap w', OwnI w' base (.slice (some ⟨g, 0, none⟩) (n + m) cap) (n + m) (L ++ M) → w.grownBy w' v.ownBlock → (∀ k, v.ownBlock = some k → base ≤ k ∧ k < w.heap.size) → (v.ownBlock = some g ∨ g = w.heap.size) → g < w'.heap.size →
      wpList Tryd.prog ops Q rest (a.put o.dst (.slice (some ⟨g, 0, none⟩) (n + m) cap)) w') : wpList Tryd.prog ops Q (o :: rest) a w := by
  obtain ⟨i0, hi, hz0, hz1, hz2⟩ := info_parts int_info
  refine wpList_append_lies (P := Tryd.prog) w hgd s x _ ho base 3 i0 _ 1 8 Tryd.underlying56 hi hz0 hz1 hz2 rfl (by decide) v n (intv L) hs hown.2 _ m m (intv M) hx (by rw [intv_len, Nat.mul_one]; exact hm.symm) (hcs ▸ World.news_of_block hrow) (intv_one M) h0 (by unfold maxLen; omega) (by omega) hbase w.heap.size rfl ?_
  intro g cap w1 h1 h2 h3 h4
  exact h g cap w1 ⟨by rw [hown.1, hm]; simp, by unfold intv; rw [List.map_append]; exact h1⟩ h2 hown.2.lt h3 h4
theorem digv_value {c : UInt8} (h : isHexB c = true) : digv c = ((valueB c : Nat) : Int) := by
  have h' := h
  unfold isHexB at h'
  simp only [Bool.or_eq_true, Bool.and_eq_true, decide_eq_true_eq] at h'
  unfold digv valueB
  by_cases h1 : c.toNat < 97
  · rw [if_pos (by omega), if_pos h1]; omega
  · rw [if_neg (by omega), if_pos (by omega), if_neg h1]; omega
theorem refdigit_of (x : Int) (c : UInt8) (d : Nat) (w : World) (hx : x = (c.toNat : Int)) (hh : isHexB c = true) (hd : valueB c = d) :
    Calls Tryd.prog 43 #[.int .u8 x] w fun e w' => e = .returned (.int .i64 (d : Int)) ∧ w = w' := by
  subst hx hd
  have := refdigit_any c w
  rw [digv_value hh] at this
  exact this
def digs (m : B) (k : Nat) : List Nat := (List.range k).map (dig m)
theorem digs_succ (m : B) (k : Nat) : digs m (k + 1) = digs m k ++ [dig m k] := range_map_succ _ _
theorem digs_all (m : B) (a b : Nat) (ha : dig m 16 = a) (hb : dig m 17 = b) : digs m 18 = digs m 16 ++ [a, b] := by
  rw [show digs m 18 = digs m 17 ++ [dig m 17] from digs_succ m 17, show digs m 17 = digs m 16 ++ [dig m 16] from digs_succ m 16, ha, hb, List.append_assoc]
  rfl
theorem OwnI.cell {w : World} {base n g c : Nat} {L : List Nat} (h : OwnI w base (.slice (some ⟨g, 0, none⟩) n c) n L) {k : Nat} (hk : k < n) : w.cell? ⟨g, k, none⟩ = some (.int .i64 ((L.getD k 0 : Nat) : Int)) := by
  have h1 := h.1
  rw [h.2.cellAt k (by omega)]
  unfold intv
  rw [List.getElem?_map, List.getElem?_eq_getElem (by omega), List.getD_eq_getElem?_getD, List.getElem?_eq_getElem (by omega)]
  rfl
set_option maxRecDepth 100000 in
set_option maxHeartbeats 2000000 in
theorem refdigits_any (m : B) (w : World) (hm : m.length ≤ 100000) :
    Calls Tryd.prog 31 #[.string ⟨m.toArray⟩] w fun e w' => ∃ g c, e = .returned (.slice (some ⟨g, 0, none⟩) 18 c) ∧ w.heap.size ≤ g ∧ g < w'.heap.size ∧ (∀ k, k < 18 → w'.cell? ⟨g, k, none⟩ = some (.int .i64 ((dig m k : Nat) : Int))) ∧ Below w.heap.size w w' := by
  go_enter Tryd.func31, Tryd.ntmps31
  go_wp2_with fail
  refine (refsumB m _ hm).mono ?_
  rintro e w' ⟨rfl, rfl⟩
  have hlen : (ByteArray.mk (dsum m).toArray).size = 16 := by rw [str_size, dsum_length]
  go_wp2
  go_loopw [4, 5, 6] (fun v r i wr => ∃ k s : Nat, k ≤ 16 ∧ s ≤ 15 * k ∧ i = .int .i64 k ∧ r = .int .i64 s ∧ Hid (s = sumOf m k) ∧ Hid (OwnI wr w.heap.size v k (digs m k)) ∧ Hid (Below w.heap.size w wr)) (fun _ _ i _ => 16 - (intOf i).toNat)
  case atStart => exact ⟨0, 0, by omega, by omega, rfl, rfl, rfl, OwnI.nil _ _, Below.refl _ _⟩
  case round =>
    obtain ⟨k, s, hk, hs, rfl, rfl, hsum, hown, hb⟩ := hrel
    by_cases hlt : k < 16
    · have hds := dig_lt m k (by omega)
      have hat := dsum_at m k (by rw [hlen]; exact hlt)
      have hhex := dsum_hex m hlt
      have hdig := dig_at m hlt
      have k1 : k < (ByteArray.mk (dsum m).toArray).size := by rw [hlen]; exact hlt
      have HA := Lib.hid hat
      have HH := Lib.hid hhex
      have HD := Lib.hid hdig
      have HS : Hid (s + (15 - dig m k) = sumOf m (k + 1)) := by show _ = _; rw [sumOf_succ m k hlt, hsum.out]
      have HG := Lib.hid (digs_succ m k)
      have hsz := hb.out.size
      clear hat hhex hdig hsum
      generalize hdk : dig m k = d at *
      clear hdk
      go_wp2_with fail
      refine (refdigit_of _ ((dsum m).getD k 0) d _ ?v1 HH.out HD.out).mono ?_
      case v1 => rw [HA.out]
      rintro e w' ⟨rfl, rfl⟩
      go_wp2_with (at_builtin; refine wpList_appI rfl _ _ (by rfl) w.heap.size _ k _ [d] wr.heap.size 1 _ (by rfl) (by rfl) (OwnI.later hown.out (below_new wr _)) (by rfl) (heap_alloc_new wr _) rfl (by decide) (by decide) (by omega) (Nat.le_trans hsz (below_new wr _).size) ?_; intro g cap w2 ho2 hg2 hlt2 hor2 hsz2)
      have O2 : Hid (OwnI w2 w.heap.size (.slice (some ⟨g, 0, none⟩) (k + 1) cap) (k + 1) (digs m (k + 1))) := by
        show OwnI _ _ _ _ _
        rw [HG.out]
        exact ho2
      have B2 : Hid (Below w.heap.size w w2) := (hb.out.alloc hsz _).grown hg2 (Nat.le_trans hsz (below_new wr _).size) (fun k hk => (hlt2 k hk).1)
      clear ho2 hg2 hlt2 hsz2 hor2
      go_roundw
      case rel => exact ⟨k + 1, s + (15 - d), by omega, by omega, by go_num, by go_num, HS.out, O2, B2⟩
      case measure => simp [intOf]; omega
    · obtain rfl : k = 16 := by omega
      have hdl : (dsum m).length = 16 := dsum_length m
      have hsz := hb.out.size
      have D16 : Hid (dig m 16 = s / 16) := by show _ = _; rw [dig_16, hsum.out]
      have D17 : Hid (dig m 17 = s % 16) := by show _ = _; rw [dig_17, hsum.out]
      have HG : Hid (digs m 18 = digs m 16 ++ [s / 16, s % 16]) := digs_all m _ _ D16.out D17.out
      clear hsum
      go_wp2_with (at_builtin; refine wpList_appI rfl _ _ (by rfl) w.heap.size _ 16 _ [s / 16, s % 16] wr.heap.size 2 _ (by simp [intv]) (by rfl) (OwnI.later hown.out (below_new wr _)) (by rfl) (heap_alloc_new wr _) rfl (by decide) (by decide) (by omega) (Nat.le_trans hsz (below_new wr _).size) ?_; intro g cap w2 ho2 hg2 hlt2 hor2 hsz2)
      have B2 : Hid (Below w.heap.size w w2) := (hb.out.alloc hsz _).grown hg2 (Nat.le_trans hsz (below_new wr _).size) (fun k hk => (hlt2 k hk).1)
      go_ret
      refine ⟨g, cap, rfl, ?_, hsz2, ?_, B2.out⟩
      · have := ho2.2.lt g rfl
        exact this.1
      · intro k hk
        have := ho2.cell (k := k) (by omega)
        rw [← HG.out] at this
        rw [this]
        have e : (digs m 18).getD k 0 = dig m k := map_range_getD _ _ _ _ hk
        rw [e]
end Go.Proofs.YtanlpcdljclnmaaDoor.Sl
