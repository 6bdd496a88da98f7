/- The laws' own functions: a ring in the opposite order, a ring with another first corner. -/
import Derived.Test.YtlgmlgogpohgoaaRgHead
import Derived.Deep.AppendLies
namespace Go.Proofs.Ytlgmlgogpohgoaa.Rg
open Go.RowKit Go.Sort Go.Shelf
open Go.Proofs.Ytlgmlgogpohgoaa.Geo hiding intOf Apart
theorem run_append_no (w : World) (ty : TypeId) (g k c : Nat) (p : Option Addr) (cp : Nat) (hk : k ≤ c) :
    (Builtin.append_ #[22, 22] ty #[.slice (some ⟨g, 0, none⟩) k c, .slice p 0 cp]).run Try.prog w = .ok (.slice (some ⟨g, 0, none⟩) k c) w := by
  obtain ⟨i0, hi, hz0, hz1, hz2⟩ := info_of point_info
  cases p with
  | none => simp [Builtin.append_, run_underlying Try.underlying22, sizeOf, typeInfo, hi, Builtin.lenOf, Builtin.firstCells, storeCells, hk]
  | some q => simp [Builtin.append_, run_underlying Try.underlying22, sizeOf, typeInfo, hi, Builtin.lenOf, Builtin.firstCells, storeCells, loadCells, loadCellsFrom, hk]
theorem pts_one (w : World) (p : Pt) : Pts (w.alloc (.cells #[.int .i64 p.x, .int .i64 p.y] 24)) (w.alloc (.cells #[.int .i64 p.x, .int .i64 p.y] 24)).heap.size (some ⟨w.heap.size, 0, none⟩) [p] := fun _ => by
  refine ⟨w.heap.size, 0, rfl, by simp, fun k q hk => ?_⟩
  have hr := IsRow.made w 24 #[.int .i64 p.x, .int .i64 p.y]
  cases k with
  | zero => simp at hk; subst hk; exact ⟨hr.get 0, hr.get 1⟩
  | succ k => simp at hk
theorem rev_take {l : List Pt} {k : Nat} (h : k < l.length) : l.reverse.take k ++ [cor l (l.length - 1 - k)] = l.reverse.take (k + 1) := by
  rw [List.take_succ_eq_append_getElem (by simpa using h)]
  congr 2
  rw [List.getElem_reverse]
  unfold cor
  rw [List.getD_eq_getElem?_getD, List.getElem?_eq_getElem (by omega)]; rfl
set_option maxRecDepth 100000 in
set_option maxHeartbeats 4000000 in
theorem back_any (a : Option Addr) (n cap : Nat) (l : List Pt) (w : World) (hl : Pts w w.heap.size a l) (hn : n = l.length) (h5 : n ≤ 1000) :
    Calls Try.prog 24 #[.slice a n cap] w fun e w' => (∃ v, e = .returned v ∧ OwnP w' w.heap.size v l.reverse) ∧ Below w.heap.size w w' := by
  have HL := Lib.hid hl
  subst hn
  clear hl
  go_enter Try.func24, Try.ntmps24
  go_wp2
  go_loopw [3, 4] (fun s i wr => ∃ k : Nat, k ≤ l.length ∧ i = .int .i64 ((l.length : Int) - 1 - k) ∧ Hid (OwnP wr w.heap.size s (l.reverse.take k)) ∧ Hid (Below w.heap.size w wr)) (fun _ i _ => (intOf i + 1).toNat)
  case atStart => exact ⟨0, by omega, congrArg (Value.int .i64) (by omega), Lib.hid (by rw [List.take_zero]; exact OwnP.nil _ _), Lib.hid (Below.refl _ _)⟩
  case round =>
    obtain ⟨k, hk, rfl, ho, hb⟩ := hrel
    by_cases hkl : k < l.length
    · obtain ⟨j, hj⟩ : ∃ j, l.length - 1 - k = j := ⟨_, rfl⟩
      have hjl : j < l.length := by omega
      have e0 : (l.length : Int) - 1 - (k : Int) = (j : Int) := by omega
      have HT := Lib.hid (by have := rev_take hkl; rw [hj] at this; exact this)
      have hlen : (l.reverse.take k).length ≤ 1000 := by rw [List.length_take]; omega
      obtain ⟨b, off, rfl, hbN, hc⟩ := HL.out (by omega)
      obtain ⟨x0, x1⟩ := hc j (cor l j) (cor_get hjl)
      have c0 : wr.cell? ⟨b, off + j * 2, none⟩ = some (.int .i64 (cor l j).x) := (hb.out.cell (p := ⟨b, off + j * 2, none⟩) hbN).trans x0
      have c1 : wr.cell? ⟨b, off + j * 2 + 1, none⟩ = some (.int .i64 (cor l j).y) := (hb.out.cell (p := ⟨b, off + j * 2 + 1, none⟩) hbN).trans x1
      have ho4 := Lib.hid (ho.out.below (alloc1 wr (.cells #[.int .i64 (cor l j).x, .int .i64 (cor l j).y] 24)))
      have hp4 := Lib.hid (pts_one wr (cor l j))
      have hsz := hb.out.size
      have hb4 := Lib.hid (hb.out.trans ((alloc1 wr (.cells #[.int .i64 (cor l j).x, .int .i64 (cor l j).y] 24)).mono hsz))
      clear x0 x1 hc hj ho hb
      rw [e0]
      go_wp2_with (refine wpList_appPs rfl _ _ (by rfl) w.heap.size _ (l.reverse.take k) [cor l j] (some ⟨wr.heap.size, 0, none⟩) 1 1 (by rfl) ho4.out (by rfl) hp4.out rfl (by omega) (by omega) hb4.out.size ?_; intro v2 w4 hown hgrow hlt)
      have hb5 := Lib.hid (hb4.out.grown hgrow hb4.out.size fun r hr => (hlt r hr).1)
      rw [HT.out] at hown
      have ho5 := Lib.hid hown
      clear hown hgrow hlt ho4 hp4 hb4 HT c0 c1
      go_wp2
      go_roundw
      case rel => exact ⟨k + 1, by omega, congrArg (Value.int .i64) (by omega), ho5, hb5⟩
      case measure => simp [intOf]
    · obtain rfl : k = l.length := by omega
      have e0 : (l.length : Int) - 1 - (l.length : Int) = -1 := by omega
      have hr : l.reverse.take l.length = l.reverse := List.take_of_length_le (by simp)
      rw [hr] at ho
      rw [e0]
      clear hr e0
      go_wp2
      go_ret
      exact ⟨⟨_, rfl, ho.out⟩, hb.out⟩
section
variable {w : World} {ops : Array Oper} {o : Oper} {a : Act} {Q : Exit → Act → World → Prop}
theorem step_appPs {K : Act → World → Prop} {E : Prop} (hgd : o.guard = none) (s x : Operand)
    (ho : o.op = .call { callee := .builtin .append, args := #[s, x], argTypes := #[22, 22] }) (base : Nat) (v : Value) (l m : List Pt) (ad : Option Addr) (n c : Nat)
    (hs : a.eval s = v) (hown : OwnP w base v l) (hx : a.eval x = .slice ad n c) (hp : Pts w w.heap.size ad m) (hm : n = m.length) (h0 : 0 < n) (hlen : l.length + n ≤ 100000) (hbase : base ≤ w.heap.size)
    (h : ∀ v' w', OwnP w' base v' (l ++ m) → w.grownBy w' v.ownBlock → (∀ k, v.ownBlock = some k → base ≤ k ∧ k < w.heap.size) → K (a.put o.dst v') w') :
    if Region.wanted o (yielded ops a.tmps) = true then Oper.wp Try.prog o a w K Q else E := by
  obtain ⟨i0, hi, hz0, hz1, hz2⟩ := info_of point_info
  obtain ⟨b, off, rfl, hb, hc⟩ := hp (by omega)
  refine step_append_lies (P := Try.prog) w hgd s x _ ho base 24 i0 _ 2 16 Try.underlying22 hi hz2 hz0 hz1 rfl (by decide) v l.length (flat l) hs hown ⟨b, off, none⟩ n c (flat m) hx (by rw [flat_length]; omega) (pts_news hc) (flat_one m) h0 (by unfold maxLen; omega) (by omega) hbase w.heap.size rfl ?_
  intro g cap w' h1 h2 _ _
  refine h _ w' ?_ h2 hown.lt
  unfold OwnP
  rw [flat_app, List.length_append, ← hm]
  exact h1
theorem step_appPe {K : Act → World → Prop} {E : Prop} (hgd : o.guard = none) (s x : Operand)
    (ho : o.op = .call { callee := .builtin .append, args := #[s, x], argTypes := #[22, 22] }) (base : Nat) (v : Value) (l m : List Pt) (ad : Option Addr) (n c : Nat)
    (hs : a.eval s = v) (hown : OwnP w base v l) (hx : a.eval x = .slice ad n c) (hp : Pts w w.heap.size ad m) (hm : n = m.length) (hl0 : 0 < l.length) (hlen : l.length + n ≤ 100000) (hbase : base ≤ w.heap.size)
    (h : ∀ v' w', OwnP w' base v' (l ++ m) → w.grownBy w' v.ownBlock → (∀ k, v.ownBlock = some k → base ≤ k ∧ k < w.heap.size) → K (a.put o.dst v') w') :
    if Region.wanted o (yielded ops a.tmps) = true then Oper.wp Try.prog o a w K Q else E := by
  by_cases h0 : 0 < n
  · exact step_appPs hgd s x ho base v l m ad n c hs hown hx hp hm h0 hlen hbase h
  · obtain rfl : n = 0 := by omega
    obtain rfl : m = [] := List.eq_nil_of_length_eq_zero hm.symm
    have hw : Region.wanted o (yielded ops a.tmps) = true := by simp [Region.wanted, hgd]
    rw [if_pos hw]
    have hown' := hown
    obtain ⟨_, ⟨_, e0⟩ | ⟨g, cap, cur, rfl, _, _, hkc, _⟩⟩ := hown'
    · omega
    · unfold Oper.wp
      simp [execOp, ho, resolve, invoke, builtin, hs, hx, run_append_no w o.type g l.length cap ad c hkc, Result.andThen]
      exact h _ w (by rw [List.append_nil]; exact hown) (World.grownBy.refl _ _) hown.lt
end
theorem own_empty (w : World) : OwnP (w.alloc (.cells #[] 24)) w.heap.size (.slice (some ⟨w.heap.size, 0, none⟩) 0 0) [] :=
  ⟨rfl, .inr ⟨w.heap.size, 0, #[], rfl, Nat.le_refl _, IsRow.made w _ _, Nat.le_refl _, Nat.zero_le _, rfl, rfl⟩⟩
theorem pts_drop {w : World} {N b off : Nat} {l : List Pt} (h : Pts w N (some ⟨b, off, none⟩) l) (k : Nat) (hk : k < l.length) : Pts w N (some ⟨b, off + k * 2, none⟩) (l.drop k) := fun _ => by
  obtain ⟨b', off', e, hN, hc⟩ := h (by omega)
  injection e with e
  injection e with e1 e2 _
  subst e1 e2
  refine ⟨b, off + k * 2, rfl, hN, fun j p hj => ?_⟩
  rw [List.getElem?_drop] at hj
  have := hc _ _ hj
  rw [show off + k * 2 + j * 2 = off + (k + j) * 2 by omega]
  exact this
theorem pts_take {w : World} {N : Nat} {a : Option Addr} {l : List Pt} (h : Pts w N a l) (k : Nat) : Pts w N a (l.take k) := fun h0 => by
  obtain ⟨b', off', e, hN, hc⟩ := h (by rw [List.length_take] at h0; omega)
  refine ⟨b', off', e, hN, fun j p hj => hc j p ?_⟩
  rw [List.getElem?_take] at hj
  split at hj
  · exact hj
  · cases hj
set_option maxRecDepth 100000 in
set_option maxHeartbeats 4000000 in
theorem lawTurned_any (a : Option Addr) (n cap q : Nat) (l : List Pt) (w : World) (hl : Pts w w.heap.size a l) (hn : n = l.length) (hc : n ≤ cap) (h5 : n ≤ 1000) (hq : q < 256) :
    Calls Try.prog 25 #[.slice a n cap, .int .u8 q] w fun e w' => (∃ v, e = .returned v ∧ OwnP w' w.heap.size v (l.drop (q % n) ++ l.take (q % n))) ∧ Below w.heap.size w w' := by
  have HL := Lib.hid hl
  subst hn
  clear hl
  by_cases h0 : l.length = 0
  · have e : l = [] := List.eq_nil_of_length_eq_zero h0
    subst e
    go_enter Try.func25, Try.ntmps25
    go_wp2
    go_ret
    exact ⟨⟨_, rfl, by simp; exact OwnP.nil _ _⟩, Below.refl _ _⟩
  · have h1 : 0 < l.length := by omega
    obtain ⟨k, hk⟩ : ∃ k, q % l.length = k := ⟨_, rfl⟩
    have hkl : k < l.length := hk ▸ Nat.mod_lt _ h1
    have ek : (q : Int) % (l.length : Int) = (k : Int) := by rw [← hk]; simp
    obtain ⟨b, off, rfl, hbN, hcc⟩ := HL.out h1
    have z0 : ((l.length : Int) == 0) = false := by rw [beq_eq_false_iff_ne]; omega
    rw [hk]
    clear hk hcc h0
    go_enter Try.func25, Try.ntmps25
    go_upto_region 4 with fail
    rw [ek]
    have i0 : (0 : Int) ≤ (k : Int) := by omega
    have i1 : (k : Int) ≤ (l.length : Int) := by omega
    have i2 : (k : Int) ≤ (cap : Int) := by omega
    have i3 : ¬ (cap : Int) < (k : Int) := by omega
    have O0 := Lib.hid ((own_empty w).below (drew_below _))
    have B0 := Lib.hid ((alloc1 w (.cells #[] 24)).trans ((drew_below _).mono (by simp)))
    have LD := Lib.hid (pts_drop HL.out k hkl)
    have LT := Lib.hid (pts_take HL.out k)
    have hdl := Lib.hid (show l.length - k = (l.drop k).length by rw [List.length_drop])
    have htl := Lib.hid (show k = (l.take k).length by rw [List.length_take]; omega)
    have hkc : ¬ cap = k := by omega
    go_region_held3 (fun _ => True) (exact trivial)
      (first
        | (refine step_appPs (by rfl) _ _ (by rfl) w.heap.size (.slice (some ⟨w.heap.size, 0, none⟩) 0 0) [] (l.drop k) (some ⟨b, off + k * 2, none⟩) (l.length - k) (cap - k) (by rfl) O0.out (by rfl) (LD.out.later B0.out) hdl.out (by omega) (by simp; omega) B0.out.size ?_; intro v1 w1 ho1 hg1 hlt1)
        | (refine step_appPe (by rfl) _ _ (by rfl) w.heap.size v1 ([] ++ l.drop k) (l.take k) (some ⟨b, off, none⟩) k cap (by rfl) ho1 (by rfl) (LT.out.later (B0.out.grown hg1 B0.out.size fun r hr => (hlt1 r hr).1)) htl.out (by rw [List.nil_append, List.length_drop]; omega) (by rw [List.nil_append, List.length_drop]; omega) (B0.out.grown hg1 B0.out.size fun r hr => (hlt1 r hr).1).size ?_; intro v2 w2 ho2 hg2 hlt2))
    go_wp2
    go_ret
    exact ⟨⟨_, rfl, ho2⟩, (B0.out.grown hg1 B0.out.size fun r hr => (hlt1 r hr).1).grown hg2 (B0.out.grown hg1 B0.out.size fun r hr => (hlt1 r hr).1).size fun r hr => (hlt2 r hr).1⟩
theorem back_of (a : Option Addr) (n cap : Nat) (l : List Pt) (w : World) (hl : Pts w w.heap.size a l) (hn : n = l.length) (h5 : n ≤ 1000) :
    Calls Try.prog 24 #[.slice a n cap] w fun e w' => (∃ a' c', e = .returned (.slice a' n c') ∧ n ≤ c' ∧ c' ≤ maxLen ∧ Pts w' w'.heap.size a' l.reverse ∧ n = l.reverse.length) ∧ Below w.heap.size w w' :=
  (back_any a n cap l w hl hn h5).mono fun _ _ ⟨⟨v, he, ho⟩, hb⟩ => by
    obtain ⟨a', c', rfl, h1, h2, hp⟩ := OwnP.ptsC ho
    rw [List.length_reverse, ← hn] at he h1
    exact ⟨⟨a', c', he, h1, h2, hp, by rw [List.length_reverse]; exact hn⟩, hb⟩
theorem lawTurned_of (a : Option Addr) (n cap q : Nat) (l : List Pt) (w : World) (hl : Pts w w.heap.size a l) (hn : n = l.length) (hc : n ≤ cap) (h5 : n ≤ 1000) (hq : q < 256) :
    Calls Try.prog 25 #[.slice a n cap, .int .u8 q] w fun e w' => (∃ a' c', e = .returned (.slice a' n c') ∧ n ≤ c' ∧ c' ≤ maxLen ∧ Pts w' w'.heap.size a' (l.drop (q % n) ++ l.take (q % n)) ∧ n = (l.drop (q % n) ++ l.take (q % n)).length) ∧ Below w.heap.size w w' :=
  (lawTurned_any a n cap q l w hl hn hc h5 hq).mono fun _ _ ⟨⟨v, he, ho⟩, hb⟩ => by
    obtain ⟨a', c', rfl, h1, h2, hp⟩ := OwnP.ptsC ho
    have e : (l.drop (q % n) ++ l.take (q % n)).length = n := by
      rw [List.length_append, List.length_drop, List.length_take]
      omega
    rw [e] at he h1
    exact ⟨⟨a', c', he, h1, h2, hp, e.symm⟩, hb⟩
end Go.Proofs.Ytlgmlgogpohgoaa.Rg
