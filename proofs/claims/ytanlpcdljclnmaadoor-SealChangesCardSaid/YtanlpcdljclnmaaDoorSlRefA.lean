/- The reference's lists of digested texts, part one: append with the block told; Power, node, chained. -/
import Derived.Test.YtanlpcdljclnmaaDoorSlKeys
import Derived.Test.YtanlpcdljclnmaaDoorDgDec
import Derived.Laws.OwnMore
namespace Go.Proofs.YtanlpcdljclnmaaDoor.Sl
open Go.RowKit
open Go.Proofs.YtanlpcdljclnmaaDoor.Dg hiding intOf

/-- two slices of the call's own lie in different blocks. -/
def Apart (u v : Value) : Prop := ∀ k, u.ownBlock = some k → v.ownBlock ≠ some k
theorem Apart.symm {u v : Value} (h : Apart u v) : Apart v u := fun k hk hu => h k hu hk
theorem Apart.none_ (u : Value) (n c : Nat) : Apart u (.slice none n c) := fun _ _ h => by cases h
theorem Apart.row {u v : Value} (h : Apart u v) : u.ownBlock = none ∨ u.ownBlock ≠ v.ownBlock := by
  cases hu : u.ownBlock with
  | none => exact .inl rfl
  | some k => exact .inr (fun e => h k hu e.symm)
theorem Apart.grow {w : World} {base n : Nat} {u v : Value} {L : List B} {g m c : Nat} (h : Apart u v) (hu : Own w base u n L) (hg : v.ownBlock = some g ∨ g = w.heap.size) : Apart u (.slice (some ⟨g, 0, none⟩) m c) := by
  intro k hk e
  obtain rfl : g = k := by injection e
  rcases hg with h1 | h1
  · exact h g hk h1
  · have := (hu.lt g hk).2; omega
theorem Apart.fresh {w : World} {base n : Nat} {u : Value} {L : List B} {m c : Nat} (hu : Own w base u n L) : Apart u (.slice (some ⟨w.heap.size, 0, none⟩) m c) := by
  intro k hk e
  obtain rfl : w.heap.size = k := by injection e
  have := (hu.lt _ hk).2; omega
section
variable {w : World} {rest : List Oper} {ops : Array Oper} {o : Oper} {a : Act} {Q : Exit → Act → World → Prop}
theorem news_txt {w : World} {N : Nat} {ad : Addr} {M : List B} (h : Txt w N (some ad) M) : ∀ j u, (strv M)[j]? = some u → w.cell? (ad.add j) = some u := by
  intro j u hu
  unfold strv at hu
  rw [List.getElem?_map] at hu
  cases hx : M[j]? with
  | none => rw [hx] at hu; cases hu
  | some x =>
    rw [hx] at hu
    injection hu with hu
    subst hu
    obtain ⟨hl, _⟩ := List.getElem?_eq_some_iff.1 hx
    obtain ⟨b, off, e, _, hc⟩ := h (by rw [bas_len]; omega)
    injection e with e
    subst e
    have := hc j _ (bas_get hx)
    rw [show (⟨b, off, none⟩ : Addr).add j = ⟨b, off + j, none⟩ by unfold Addr.add; split <;> simp_all]
    exact this
theorem strv_one (L : List B) : ∀ u ∈ strv L, u.oneCell' = true := by
  intro u hu
  unfold strv at hu
  obtain ⟨x, _, rfl⟩ := List.mem_map.1 hu
  rfl
/-- out = append(out, l...), l not empty. -/
theorem wpList_appL (hgd : o.guard = none) (s x : Operand)
    (ho : o.op = .call { callee := .builtin .append, args := #[s, x], argTypes := #[27, 27] }) (base : Nat) (v : Value) (n : Nat) (L M : List B) (ad : Addr) (m c : Nat)
    (hs : a.eval s = v) (hown : Own w base v n L) (hx : a.eval x = .slice (some ad) m c) (htx : Txt w w.heap.size (some ad) M) (hm : m = M.length) (h0 : 0 < m) (hm1 : m ≤ 1000000) (hlen : n ≤ 1000000) (hbase : base ≤ w.heap.size)
    (h : ∀ g cap w', Own w' base (.slice (some ⟨g, 0, none⟩) (n + m) cap) (n + m) (L ++ M) → w.grownBy w' v.ownBlock → (∀ k, v.ownBlock = some k → base ≤ k ∧ k < w.heap.size) → (v.ownBlock = some g ∨ g = w.heap.size) → g < w'.heap.size →
      wpList Tryd.prog ops Q rest (a.put o.dst (.slice (some ⟨g, 0, none⟩) (n + m) cap)) w') : wpList Tryd.prog ops Q (o :: rest) a w := by
  obtain ⟨i0, hi, hz0, hz1, hz2⟩ := info_parts string_info
  refine wpList_append_lies (P := Tryd.prog) w hgd s x _ ho base 9 i0 _ 1 16 Tryd.underlying27 hi hz0 hz1 hz2 rfl (by decide) v n (strv L) hs hown.2 ad m c (strv M) hx (by rw [strv_len, Nat.mul_one]; exact hm.symm) (news_txt htx) (strv_one M) h0 (by unfold maxLen; omega) (by omega) hbase w.heap.size rfl ?_
  intro g cap w1 h1 h2 h3 h4
  exact h g cap w1 ⟨by rw [hown.1, hm]; simp, by rw [strv_append]; exact h1⟩ h2 hown.lt h3 h4
/-- the same for one element, laid in a block of its own. -/
theorem wpList_appA (hgd : o.guard = none) (s x : Operand)
    (ho : o.op = .call { callee := .builtin .append, args := #[s, x], argTypes := #[27, 27] }) (base : Nat) (v : Value) (n : Nat) (L : List B) (y : B) (H : Nat)
    (hs : a.eval s = v) (hown : Own w base v n L) (hx : a.eval x = .slice (some ⟨H, 0, none⟩) 1 1) (hrow : w.heap[H]? = some (.cells #[.string ⟨y.toArray⟩] 9 (0, 0))) (hlen : n ≤ 1000000) (hbase : base ≤ w.heap.size)
    (h : ∀ g cap w', Own w' base (.slice (some ⟨g, 0, none⟩) (n + 1) cap) (n + 1) (L ++ [y]) → w.grownBy w' v.ownBlock → (∀ k, v.ownBlock = some k → base ≤ k ∧ k < w.heap.size) → (v.ownBlock = some g ∨ g = w.heap.size) → g < w'.heap.size →
      wpList Tryd.prog ops Q rest (a.put o.dst (.slice (some ⟨g, 0, none⟩) (n + 1) cap)) w') : wpList Tryd.prog ops Q (o :: rest) a w := by
  obtain ⟨i0, hi, hz0, hz1, hz2⟩ := info_parts string_info
  refine wpList_append_lies (P := Tryd.prog) w hgd s x _ ho base 9 i0 _ 1 16 Tryd.underlying27 hi hz0 hz1 hz2 rfl (by decide) v n (strv L) hs hown.2 _ 1 1 [.string ⟨y.toArray⟩] hx rfl (World.news_of_block hrow) (by intro u hu; simp at hu; subst hu; rfl) (by decide) (by unfold maxLen; omega) (by omega) hbase w.heap.size rfl ?_
  intro g cap w1 h1 h2 h3 h4
  exact h g cap w1 ⟨by rw [hown.1]; simp, by rw [strv_append]; exact h1⟩ h2 hown.lt h3 h4
/-- the same as a step of a region that draws its order. -/
theorem step_appA {K : Act → World → Prop} {E : Prop} (hgd : o.guard = none) (s x : Operand)
    (ho : o.op = .call { callee := .builtin .append, args := #[s, x], argTypes := #[27, 27] }) (base : Nat) (v : Value) (n : Nat) (L : List B) (y : B) (H : Nat)
    (hs : a.eval s = v) (hown : Own w base v n L) (hx : a.eval x = .slice (some ⟨H, 0, none⟩) 1 1) (hrow : w.heap[H]? = some (.cells #[.string ⟨y.toArray⟩] 9 (0, 0))) (hlen : n ≤ 1000000) (hbase : base ≤ w.heap.size)
    (h : ∀ g cap w', Own w' base (.slice (some ⟨g, 0, none⟩) (n + 1) cap) (n + 1) (L ++ [y]) → w.grownBy w' v.ownBlock → (∀ k, v.ownBlock = some k → base ≤ k ∧ k < w.heap.size) → (v.ownBlock = some g ∨ g = w.heap.size) → g < w'.heap.size →
      K (a.put o.dst (.slice (some ⟨g, 0, none⟩) (n + 1) cap)) w') : if Region.wanted o (yielded ops a.tmps) = true then Oper.wp Tryd.prog o a w K Q else E := by
  obtain ⟨i0, hi, hz0, hz1, hz2⟩ := info_parts string_info
  refine step_append_lies (P := Tryd.prog) w hgd s x _ ho base 9 i0 _ 1 16 Tryd.underlying27 hi hz0 hz1 hz2 rfl (by decide) v n (strv L) hs hown.2 _ 1 1 [.string ⟨y.toArray⟩] hx rfl (World.news_of_block hrow) (by intro u hu; simp at hu; subst hu; rfl) (by decide) (by unfold maxLen; omega) (by omega) hbase w.heap.size rfl ?_
  intro g cap w1 h1 h2 h3 h4
  exact h g cap w1 ⟨by rw [hown.1]; simp, by rw [strv_append]; exact h1⟩ h2 hown.lt h3 h4
end
theorem Own.lit (w : World) (base : Nat) (L : List B) (n : Nat) (cs : Array Value) (hb : base ≤ w.heap.size) (hn : n = L.length) (hm : n ≤ 1000000) (hc : cs = (strv L).toArray) : Own (w.alloc (.cells cs 9)) base (.slice (some ⟨w.heap.size, 0, none⟩) n n) n L := by
  refine ⟨hn, ?_⟩
  have := World.ownsRow_lit (base := base) (e := 9) (size := 1) w cs n hb (by unfold maxLen; omega) (by rw [hc, List.size_toArray, strv_len, Nat.mul_one]; exact hn.symm)
  rw [hc] at this ⊢
  exact this
theorem power_any (n : Nat) (w : World) (hn : n ≤ 8) :
    Calls Tryd.prog 26 #[.int .i64 n] w fun e w' => e = .returned (.int .i64 ((2 ^ n : Nat) : Int)) ∧ w = w' := by
  go_enter Tryd.func26, Tryd.ntmps26
  go_wp2
  go_loop [3, 4] (fun o i => ∃ k p : Nat, k ≤ n ∧ p ≤ 256 ∧ i = .int .i64 k ∧ o = .int .i64 p ∧ Hid (p = 2 ^ k)) (fun _ i => n - (intOf i).toNat)
  case atStart => exact ⟨0, 1, by omega, by omega, rfl, rfl, rfl⟩
  case round =>
    obtain ⟨k, p, hk, hp, rfl, rfl, hpk⟩ := hrel
    by_cases hlt : k < n
    · have h2 : Hid (2 * p = 2 ^ (k + 1)) := by show _ = _; rw [hpk.out, Nat.pow_succ, Nat.mul_comm]
      have h3 : 2 * p ≤ 256 := by rw [h2.out]; exact Nat.le_trans (Nat.pow_le_pow_right (by decide) (show k + 1 ≤ 8 by omega)) (by decide)
      go_wp2
      go_round
      case rel => exact ⟨k + 1, 2 * p, by omega, h3, by go_num, by go_num, h2⟩
      case measure => simp [intOf]; omega
    · obtain rfl : k = n := by omega
      go_wp2
      go_ret
      exact ⟨congrArg (fun p : Nat => Ending.returned (.int .i64 (p : Int))) hpk.out, rfl⟩
theorem refnode_any (a b : B) (w : World) (ha : a.length ≤ 1000) (hb : b.length ≤ 1000) :
    Calls Tryd.prog 30 #[.string ⟨a.toArray⟩, .string ⟨b.toArray⟩] w fun e w' => e = .returned (.string ⟨(nodeT a b).toArray⟩) ∧ Below w.heap.size w w' := by
  go_enter Tryd.func30, Tryd.ntmps30
  go_wp2_with fail
  have bx := below_new w (.cells (strv [nodeB, a, b]).toArray 9)
  refine (refjoinedB (some ⟨w.heap.size, 0, none⟩) 3 3 [nodeB, a, b] _ (row_list w _ _ _ rfl) rfl (few_node ha hb)).mono ?_
  rintro e w3 ⟨rfl, hb4⟩
  have H3 := Lib.hid (bx.trans (hb4.mono bx.size))
  clear hb4 bx
  go_wp2
  go_ret
  exact ⟨rfl, H3.out⟩
theorem chainL_succ (x : B) (k : Nat) : chainL x (k + 1) = chainL x k ++ [chainN x (k + 1)] := by
  unfold chainL
  rw [List.range_succ (n := k + 1), List.map_append]
  rfl
theorem chainL_len (x : B) (k : Nat) : (chainL x k).length = k + 1 := by unfold chainL; simp
theorem chained_any (x : B) (n : Nat) (w : World) (hx : x.length ≤ 100000) (hn : n ≤ 1000) :
    Calls Tryd.prog 29 #[.string ⟨x.toArray⟩, .int .i64 n] w fun e w' => ∃ g c, e = .returned (.slice (some ⟨g, 0, none⟩) (n + 1) c) ∧ Own w' w.heap.size (.slice (some ⟨g, 0, none⟩) (n + 1) c) (n + 1) (chainL x n) ∧ Below w.heap.size w w' := by
  go_enter Tryd.func29, Tryd.ntmps29
  go_wp2
  go_loopw [0, 5, 6] (fun t v i wr => ∃ k g c : Nat, k ≤ n ∧ i = .int .i64 k ∧ t = .string ⟨(chainN x k).toArray⟩ ∧ v = .slice (some ⟨g, 0, none⟩) (k + 1) c ∧ Hid (Own wr w.heap.size (.slice (some ⟨g, 0, none⟩) (k + 1) c) (k + 1) (chainL x k)) ∧ Hid (Below w.heap.size w wr)) (fun _ _ i _ => n - (intOf i).toNat)
  case atStart => exact ⟨0, _, _, by omega, rfl, rfl, rfl, Own.lit w _ [x] 1 _ (Nat.le_refl _) rfl (by decide) rfl, below_new _ _⟩
  case round =>
    obtain ⟨k, g, c, hk, rfl, rfl, rfl, hown, hb⟩ := hrel
    have hsz := hb.out.size
    by_cases hlt : k < n
    · go_wp2_with fail
      refine (refsumB (chainN x k) _ (chainN_len x hx (by decide) k)).mono ?_
      rintro e w1 ⟨rfl, rfl⟩
      go_wp2_with (at_builtin; refine wpList_app1 rfl _ _ (by rfl) w.heap.size _ (k + 1) _ (chainN x (k + 1)) wr.heap.size (by rfl) (Own.later hown.out (below_new wr _)) (by rfl) (heap_alloc_new wr _) (by omega) (Nat.le_trans hsz (below_new wr _).size) ?_; intro g2 cap w2 ho2 hg2 hlt2 hsz2)
      have O2 : Hid (Own w2 w.heap.size (.slice (some ⟨g2, 0, none⟩) (k + 1 + 1) cap) (k + 1 + 1) (chainL x (k + 1))) := by
        show Own _ _ _ _ _
        rw [chainL_succ]
        exact ho2
      have B2 : Hid (Below w.heap.size w w2) := (hb.out.alloc hsz _).grown hg2 (Nat.le_trans hsz (below_new wr _).size) (fun k hk => (hlt2 k hk).1)
      clear ho2 hg2 hlt2
      go_roundw
      case rel => exact ⟨k + 1, _, _, by omega, by go_num, rfl, rfl, O2, B2⟩
      case measure => simp [intOf]; omega
    · obtain rfl : k = n := by omega
      go_wp2
      go_ret
      exact ⟨_, _, rfl, hown.out, hb.out⟩
end Go.Proofs.YtanlpcdljclnmaaDoor.Sl
