/- P2.5, SealSecrets: its walk. -/
import Derived.Test.YtanlpcdljclnmaaDoorSlShown
import Derived.Test.YtanlpcdljclnmaaDoorSlVerifiesWalk
namespace Go.Proofs.YtanlpcdljclnmaaDoor.Sl
open Go.RowKit
open Go.Proofs.YtanlpcdljclnmaaDoor.Dg hiding intOf

theorem wpList_appLG {w : World} {rest : List Oper} {ops : Array Oper} {o : Oper} {a : Act} {Q : Exit → Act → World → Prop} (hgd : Region.wanted o (yielded ops a.tmps) = true) (s x : Operand)
    (ho : o.op = .call { callee := .builtin .append, args := #[s, x], argTypes := #[27, 27] }) (base : Nat) (v : Value) (n : Nat) (L M : List B) (ad : Addr) (m c : Nat)
    (hs : a.eval s = v) (hown : Own w base v n L) (hx : a.eval x = .slice (some ad) m c) (htx : Txt w w.heap.size (some ad) M) (hm : m = M.length) (h0 : 0 < m) (hm1 : m ≤ 1000000) (hlen : n ≤ 1000000) (hbase : base ≤ w.heap.size)
    (h : ∀ g cap w', Own w' base (.slice (some ⟨g, 0, none⟩) (n + m) cap) (n + m) (L ++ M) → w.grownBy w' v.ownBlock → (∀ k, v.ownBlock = some k → base ≤ k ∧ k < w.heap.size) → (v.ownBlock = some g ∨ g = w.heap.size) → g < w'.heap.size →
      wpList Tryd.prog ops Q rest (a.put o.dst (.slice (some ⟨g, 0, none⟩) (n + m) cap)) w') : wpList Tryd.prog ops Q (o :: rest) a w := by
  obtain ⟨i0, hi, hz0, hz1, hz2⟩ := info_parts string_info
  refine wpList_step fun K hK => ?_
  rw [if_pos hgd]
  refine wp_append_lies (P := Tryd.prog) w s x _ ho base 9 i0 _ 1 16 Tryd.underlying27 hi hz0 hz1 hz2 rfl (by decide) v n (strv L) hs hown.2 ad m c (strv M) hx (by rw [strv_len, Nat.mul_one]; exact hm.symm) (news_txt htx) (strv_one M) h0 (by unfold maxLen; omega) (by omega) hbase w.heap.size rfl ?_
  intro g cap w1 h1 h2 h3 h4
  exact hK _ _ (h g cap w1 ⟨by rw [hown.1, hm]; simp, by rw [strv_append]; exact h1⟩ h2 hown.lt h3 h4)
theorem row_three (w : World) (x y z : B) : Txt (w.alloc (.cells #[.string ⟨x.toArray⟩, .string ⟨y.toArray⟩, .string ⟨z.toArray⟩] 9)) (w.alloc (.cells #[.string ⟨x.toArray⟩, .string ⟨y.toArray⟩, .string ⟨z.toArray⟩] 9)).heap.size (some ⟨w.heap.size, 0, none⟩) [x, y, z] := row_list w _ _ _ rfl
theorem chainL_small {x : B} (hx : x.length ≤ 1000) (n : Nat) : ∀ y ∈ chainL x n, y.length ≤ 100000 := by
  intro y hy
  unfold chainL at hy
  obtain ⟨k, _, rfl⟩ := List.mem_map.1 hy
  exact Nat.le_trans (chainN_len x hx (by decide) k) (by decide)
theorem nodeT_small {a b : B} (ha : a.length ≤ 1000) (hb : b.length ≤ 1000) : (nodeT a b).length ≤ 100000 := Nat.le_trans (fewB_len (few_node ha hb)) (by decide)
theorem joined_small {L : List B} (h : fewB L) : (joined L).length ≤ 100000 := Nat.le_trans (fewB_len h) (by decide)
theorem made_small (sec : B) (h n : Nat) (hs : sec.length ≤ 1000) (hh : h ≤ 8) : ∀ x ∈ made sec h n, x.length ≤ 100000 := by
  intro x hx
  unfold made at hx
  rcases List.mem_append.1 hx with hx | hx
  · unfold madeKeys at hx
    obtain ⟨i, hi, hx⟩ := List.mem_flatMap.1 hx
    have hi' : i < 256 := Nat.lt_of_lt_of_le (List.mem_range.1 hi) (Nat.pow_le_pow_right (by decide) hh)
    unfold madeKey at hx
    rcases List.mem_append.1 hx with hx | hx
    · obtain ⟨k, hk, hx⟩ := List.mem_flatMap.1 hx
      have hk' := List.mem_range.1 hk
      unfold madeChain at hx
      rcases List.mem_cons.1 hx with rfl | hx
      · exact startT_small sec i k hs (by omega) (by omega)
      · exact chainL_small (Nat.le_trans (dsum_small _) (by decide)) n x hx
    · obtain rfl := List.mem_singleton.1 hx
      exact joined_small ⟨by rw [endsOf_len]; decide, ends_small sec i 18⟩
  · unfold madeTree at hx
    obtain ⟨d, _, hx⟩ := List.mem_flatMap.1 hx
    unfold upTexts at hx
    obtain ⟨j, _, rfl⟩ := List.mem_map.1 hx
    exact nodeT_small (getD_small (lev_small (keysOf_small _ _) d) _) (getD_small (lev_small (keysOf_small _ _) d) _)
theorem shown_of (a : Option Addr) (n cap : Nat) (L : List B) (w : World) (hl : Txt w w.heap.size a L) (hn : n = L.length) (hbig : n ≤ 100000) (hx : ∀ x ∈ L, x.length ≤ 100000) (hc : Coll L) :
    Calls Tryd.prog 10 #[.slice a n cap] w fun e w' => e = .returned (.bool true) ∧ Below w.heap.size w w' := shown_any a n cap L w hl hn hbig hx hc
theorem mem_small {L M : List B} {m : Nat} (h : ∀ x ∈ L, x.length ≤ m) (h' : ∀ x ∈ M, x.length ≤ m) : ∀ x ∈ L ++ M, x.length ≤ m := fun x hx => (List.mem_append.1 hx).elim (h x) (h' x)
theorem made_of (sec : B) (s : ByteArray) (h n : Nat) (b c : Int) (w : World) (hs' : s = ⟨sec.toArray⟩) (hb : b = (h : Int)) (hc : c = (n : Int)) (hs : sec.length ≤ 1000) (hh : h ≤ 2) (hn : 15 ≤ n) (hn2 : n ≤ 30) :
    Calls Tryd.prog 11 #[.string s, .int .i64 b, .int .i64 c] w fun e w' => ∃ a nn c, e = .returned (.slice a nn c) ∧ nn ≤ 5000 ∧ Own w' w.heap.size (.slice a nn c) nn (made sec h n) ∧ Below w.heap.size w w' := by
  subst hs' hb hc; exact made_any sec h n w hs hh hn hn2
end Go.Proofs.YtanlpcdljclnmaaDoor.Sl
