/- Slices of strings in memory, as lists of lists of bytes: read, own, append; the digests' contracts in these words. -/
import Derived.Test.YtanlpcdljclnmaaDoorSlMathB
import Derived.Test.YtanlpcdljclnmaaDoorDgRefSum
import Derived.Deep.AppendLies
import Derived.Deep.RegionHeld3
namespace Go.Proofs.YtanlpcdljclnmaaDoor.Sl
open Go.RowKit
open Go.Proofs.YtanlpcdljclnmaaDoor.Dg hiding intOf

def bas (L : List B) : List ByteArray := L.map fun x => ⟨x.toArray⟩
def strv (L : List B) : List Value := L.map fun x => .string ⟨x.toArray⟩
theorem bas_len (L : List B) : (bas L).length = L.length := List.length_map _
theorem lists_bas (L : List B) : lists (bas L) = L := by
  unfold lists bas
  rw [List.map_map]
  exact List.map_id'' (fun _ => rfl) L
theorem bas_get {L : List B} {k : Nat} {x : B} (h : L[k]? = some x) : (bas L)[k]? = some ⟨x.toArray⟩ := by
  unfold bas; rw [List.getElem?_map, h]; rfl
theorem bas_of (l : List ByteArray) : bas (lists l) = l := by
  unfold lists bas
  rw [List.map_map]
  exact List.map_id'' (fun _ => rfl) l
theorem strv_len (L : List B) : (strv L).length = L.length := List.length_map _
theorem strv_append (L M : List B) : strv (L ++ M) = strv L ++ strv M := List.map_append ..
theorem str_eta (s : ByteArray) : ∃ x : B, s = ⟨x.toArray⟩ := ⟨s.data.toList, rfl⟩
theorem str_list (x : B) : (ByteArray.mk x.toArray).data.toList = x := rfl
theorem str_size (x : B) : (ByteArray.mk x.toArray).size = x.length := by simp [ByteArray.size]

/-- the slice at address a holds the texts L, in blocks below B. -/
def Txt (w : World) (N : Nat) (a : Option Addr) (L : List B) : Prop := Strs w N a (bas L)
theorem Txt.below {w w' : World} {N : Nat} {a : Option Addr} {L : List B} (h : Txt w N a L) (hb : Below N w w') : Txt w' N a L := Strs.below h hb
theorem Txt.more {w : World} {N N' : Nat} {a : Option Addr} {L : List B} (h : Txt w N a L) (hN : N ≤ N') : Txt w N' a L := Strs.more h hN
theorem Txt.later {w w' : World} {a : Option Addr} {L : List B} (h : Txt w w.heap.size a L) (hb : Below w.heap.size w w') : Txt w' w'.heap.size a L := (h.below hb).more hb.size
theorem Txt.drew {w : World} {N : Nat} {a : Option Addr} {L : List B} (h : Txt w N a L) : Txt w.drew N a L := h
theorem Txt.at_ {w : World} {N : Nat} {a : Option Addr} {L : List B} (h : Txt w N a L) {k : Nat} (hk : k < L.length) :
    ∃ b off, a = some ⟨b, off, none⟩ ∧ b < N ∧ w.cell? ⟨b, off + k, none⟩ = some (.string ⟨(L.getD k []).toArray⟩) := by
  obtain ⟨b, off, rfl, hb, hc⟩ := h (by rw [bas_len]; omega)
  refine ⟨b, off, rfl, hb, hc k _ (bas_get ?_)⟩
  rw [List.getD_eq_getElem?_getD, List.getElem?_eq_getElem hk]; rfl
theorem Txt.of_row {w : World} {g N : Nat} {t : TypeId} {L : List B} (h : IsRow w g t (strv L).toArray) (hg : g < N) : Txt w N (some ⟨g, 0, none⟩) L := by
  intro _
  refine ⟨g, 0, rfl, hg, fun i s hi => ?_⟩
  rw [Nat.zero_add, h.get]
  unfold bas at hi
  rw [List.getElem?_map] at hi
  cases hx : L[i]? with
  | none => rw [hx] at hi; cases hi
  | some x =>
    rw [hx] at hi
    injection hi with hi
    subst hi
    simp [strv, hx]
theorem Txt.none_ {w : World} {N : Nat} {a : Option Addr} : Txt w N a [] := fun h => absurd h (by simp [bas])

/-- the slice value v of n elements is the call's own (blocks from base on) and holds the texts L. -/
def Own (w : World) (base : Nat) (v : Value) (n : Nat) (L : List B) : Prop := n = L.length ∧ w.ownsRow base 9 1 v n (strv L)
theorem Own.nil (w : World) (base : Nat) : Own w base (.slice none 0 0) 0 [] := ⟨rfl, World.ownsRow_nil w base _ _⟩
theorem Own.txt {w : World} {base m c n : Nat} {a : Option Addr} {L : List B} (h : Own w base (.slice a m c) n L) : m = n ∧ Txt w w.heap.size a L := by
  obtain ⟨hn, _, ⟨hv, h0⟩ | ⟨g, cap, cur, hv, _, hg, hnc, _, hcs, htake⟩⟩ := h
  · injection hv with h1 h2 h3
    subst h1 h2
    refine ⟨h0.symm, ?_⟩
    rw [List.eq_nil_of_length_eq_zero (by omega : L.length = 0)]
    exact Txt.none_
  · injection hv with h1 h2 h3
    subst h1 h2 h3
    refine ⟨rfl, fun _ => ⟨g, 0, rfl, (Array.getElem?_eq_some_iff.1 hg).1, fun i s hi => ?_⟩⟩
    rw [Nat.zero_add, cell_of_row w g i cur _ (0, 0) hg]
    have hi' : i < m := by
      obtain ⟨hl, _⟩ := List.getElem?_eq_some_iff.1 hi
      rw [bas_len] at hl; omega
    have : (strv L)[i]? = some (.string s) := by
      unfold bas at hi
      unfold strv
      rw [List.getElem?_map] at hi ⊢
      cases hx : L[i]? with
      | none => rw [hx] at hi; cases hi
      | some x => rw [hx] at hi; injection hi with hi; subst hi; rfl
    rw [← htake, List.getElem?_take, if_pos (by omega)] at this
    simpa using this
theorem Own.form {w : World} {base n : Nat} {v : Value} {L : List B} (h : Own w base v n L) : ∃ a c, v = .slice a n c := by
  obtain ⟨_, _, ⟨hv, h0⟩ | ⟨g, cap, cur, hv, _⟩⟩ := h
  · exact ⟨none, 0, by rw [hv, h0]⟩
  · exact ⟨_, _, hv⟩
theorem Own.lt {w : World} {base n : Nat} {v : Value} {L : List B} (h : Own w base v n L) : ∀ k, v.ownBlock = some k → base ≤ k ∧ k < w.heap.size := h.2.lt
theorem Own.kept {w w' : World} {base n : Nat} {v : Value} {L : List B} {row : Option Nat} (h : Own w base v n L) (hg : w.grownBy w' row) (hne : v.ownBlock = none ∨ v.ownBlock ≠ row) : Own w' base v n L := ⟨h.1, h.2.kept hg hne⟩
theorem grown_of_below {w w' : World} (h : Below w.heap.size w w') (row : Option Nat) : w.grownBy w' row := ⟨h.os, h.tape, h.output, h.size, fun i hi _ => h.block i hi⟩
theorem Own.later {w w' : World} {base n : Nat} {v : Value} {L : List B} (h : Own w base v n L) (hb : Below w.heap.size w w') : Own w' base v n L :=
  h.kept (row := none) (grown_of_below hb none) (by cases hv : v.ownBlock <;> simp)
theorem Own.down {w : World} {base base' n : Nat} {v : Value} {L : List B} (h : Own w base v n L) (hb : base' ≤ base) : Own w base' v n L := by
  obtain ⟨h1, h2, ⟨hv, h0⟩ | ⟨g, cap, cur, hv, hg, rest⟩⟩ := h
  · exact ⟨h1, h2, .inl ⟨hv, h0⟩⟩
  · exact ⟨h1, h2, .inr ⟨g, cap, cur, hv, by omega, rest⟩⟩
theorem below_own {w w' w0 : World} {base n : Nat} {v : Value} {L : List B} (hb : Below base w0 w) (h : Own w base v n L) (hg : w.grownBy w' v.ownBlock) (hbase : base ≤ w.heap.size) : Below base w0 w' :=
  hb.grown hg hbase (fun k hk => (h.lt k hk).1)

theorem Own.fresh {w : World} {base n m c : Nat} {ad : Addr} {L : List B} (h : Own w base (.slice (some ad) m c) n L) : base ≤ ad.block ∧ ad.block < w.heap.size := h.lt _ rfl
theorem Txt.grown {w w' : World} {N : Nat} {a : Option Addr} {L : List B} {row : Option Nat} (h : Txt w N a L) (hg : w.grownBy w' row) (hN : N ≤ w.heap.size) (hne : ∀ ad, a = some ad → some ad.block ≠ row) : Txt w' N a L := by
  intro h0
  obtain ⟨b, off, rfl, hb, hc⟩ := h h0
  refine ⟨b, off, rfl, hb, fun i s hi => ?_⟩
  exact (World.cell?_of_block (a := ⟨b, off + i, none⟩) (hg.block b (by omega) (hne _ rfl))).trans (hc i s hi)
theorem string_info : (Tryd.prog.info? 9).map (fun i => (i.zero, i.size, i.bytes)) = some (some (.string ⟨#[]⟩), 1, 16) := by kernel_rfl
section
variable {w : World} {rest : List Oper} {ops : Array Oper} {o : Oper} {a : Act} {Q : Exit → Act → World → Prop}
/-- out = append(out, y), y laid in a block of its own. -/
theorem wpList_app1 (hgd : o.guard = none) (s x : Operand)
    (ho : o.op = .call { callee := .builtin .append, args := #[s, x], argTypes := #[27, 27] }) (base : Nat) (v : Value) (n : Nat) (L : List B) (y : B) (H : Nat)
    (hs : a.eval s = v) (hown : Own w base v n L) (hx : a.eval x = .slice (some ⟨H, 0, none⟩) 1 1) (hrow : w.heap[H]? = some (.cells #[.string ⟨y.toArray⟩] 9 (0, 0))) (hlen : n ≤ 1000000) (hbase : base ≤ w.heap.size)
    (h : ∀ g cap w', Own w' base (.slice (some ⟨g, 0, none⟩) (n + 1) cap) (n + 1) (L ++ [y]) → w.grownBy w' v.ownBlock → (∀ k, v.ownBlock = some k → base ≤ k ∧ k < w.heap.size) → g < w'.heap.size →
      wpList Tryd.prog ops Q rest (a.put o.dst (.slice (some ⟨g, 0, none⟩) (n + 1) cap)) w') : wpList Tryd.prog ops Q (o :: rest) a w := by
  obtain ⟨i0, hi, hz0, hz1, hz2⟩ := info_parts string_info
  refine wpList_append_lies (P := Tryd.prog) w hgd s x _ ho base 9 i0 _ 1 16 Tryd.underlying27 hi hz0 hz1 hz2 rfl (by decide) v n (strv L) hs hown.2 _ 1 1 [.string ⟨y.toArray⟩] hx rfl (World.news_of_block hrow) (by intro u hu; simp at hu; subst hu; rfl) (by decide) (by unfold maxLen; omega) (by omega) hbase w.heap.size rfl ?_
  intro g cap w1 h1 h2 _ h4
  exact h g cap w1 ⟨by rw [hown.1]; simp, by rw [strv_append]; exact h1⟩ h2 hown.lt h4
theorem step_app1 {K : Act → World → Prop} {E : Prop} (hgd : o.guard = none) (s x : Operand)
    (ho : o.op = .call { callee := .builtin .append, args := #[s, x], argTypes := #[27, 27] }) (base : Nat) (v : Value) (n : Nat) (L : List B) (y : B) (H : Nat)
    (hs : a.eval s = v) (hown : Own w base v n L) (hx : a.eval x = .slice (some ⟨H, 0, none⟩) 1 1) (hrow : w.heap[H]? = some (.cells #[.string ⟨y.toArray⟩] 9 (0, 0))) (hlen : n ≤ 1000000) (hbase : base ≤ w.heap.size)
    (h : ∀ g cap w', Own w' base (.slice (some ⟨g, 0, none⟩) (n + 1) cap) (n + 1) (L ++ [y]) → w.grownBy w' v.ownBlock → (∀ k, v.ownBlock = some k → base ≤ k ∧ k < w.heap.size) → g < w'.heap.size →
      K (a.put o.dst (.slice (some ⟨g, 0, none⟩) (n + 1) cap)) w') : if Region.wanted o (yielded ops a.tmps) = true then Oper.wp Tryd.prog o a w K Q else E := by
  obtain ⟨i0, hi, hz0, hz1, hz2⟩ := info_parts string_info
  refine step_append_lies (P := Tryd.prog) w hgd s x _ ho base 9 i0 _ 1 16 Tryd.underlying27 hi hz0 hz1 hz2 rfl (by decide) v n (strv L) hs hown.2 _ 1 1 [.string ⟨y.toArray⟩] hx rfl (World.news_of_block hrow) (by intro u hu; simp at hu; subst hu; rfl) (by decide) (by unfold maxLen; omega) (by omega) hbase w.heap.size rfl ?_
  intro g cap w1 h1 h2 _ h4
  exact h g cap w1 ⟨by rw [hown.1]; simp, by rw [strv_append]; exact h1⟩ h2 hown.lt h4
end

/-! ### the digests' contracts in these words -/
theorem sumB (x : B) (w : World) (hx : x.length ≤ 1000000) :
    Calls Tryd.prog 35 #[.string ⟨x.toArray⟩] w fun e w' => e = .returned (.string ⟨(dsum x).toArray⟩) ∧ Below w.heap.size w w' :=
  sum_any ⟨x.toArray⟩ w (by rw [str_size]; unfold maxLen; omega)
theorem refsumB (x : B) (w : World) (hx : x.length ≤ 100000) :
    Calls Tryd.prog 25 #[.string ⟨x.toArray⟩] w fun e w' => e = .returned (.string ⟨(dsum x).toArray⟩) ∧ w = w' :=
  refsum_any ⟨x.toArray⟩ w (by rw [str_size]; omega)
def fewB (L : List B) : Prop := L.length ≤ 30 ∧ ∀ x ∈ L, x.length ≤ 1000
theorem few_of {L : List B} (h : fewB L) : few (bas L) 1000 = true := by
  rw [few, Bool.and_eq_true, List.all_eq_true]
  refine ⟨fun s hs => ?_, decide_eq_true (by rw [bas_len]; exact h.1)⟩
  unfold bas at hs
  obtain ⟨x, hx, rfl⟩ := List.mem_map.1 hs
  exact decide_eq_true (by rw [str_size]; exact h.2 x hx)
theorem fewB_len {L : List B} (h : fewB L) : (joined L).length ≤ 30660 := by
  have := few_big (few_of h)
  rwa [lists_bas] at this
theorem listB (a : Option Addr) (n cap : Nat) (L : List B) (w : World) (ht : Tab w) (hl : Txt w w.heap.size a L) (hn : n = L.length) (hf : fewB L) :
    Calls Tryd.prog 37 #[.slice a n cap] w fun e w' => e = .returned (.string ⟨(dl L).toArray⟩) ∧ Below w.heap.size w w' := by
  have := list_any a cap (bas L) w ht hl (by rw [bas_len]; have := hf.1; unfold maxLen; omega) (by rw [lists_bas]; have := fewB_len hf; omega)
  rw [lists_bas, bas_len, ← hn] at this
  exact this
theorem refjoinedB (a : Option Addr) (n cap : Nat) (L : List B) (w : World) (hl : Txt w w.heap.size a L) (hn : n = L.length) (hf : fewB L) :
    Calls Tryd.prog 27 #[.slice a n cap] w fun e w' => e = .returned (.string ⟨(joined L).toArray⟩) ∧ Below w.heap.size w w' := by
  have := refjoined_big a cap (bas L) w hl (few_of hf)
  rw [lists_bas, bas_len, ← hn] at this
  exact this
theorem row_list (w : World) (t : TypeId) (L : List B) (cs : Array Value) (h : cs = (strv L).toArray) : Txt (w.alloc (.cells cs t)) (w.alloc (.cells cs t)).heap.size (some ⟨w.heap.size, 0, none⟩) L :=
  Txt.of_row (t := t) (h ▸ IsRow.made w t cs) (by simp)
end Go.Proofs.YtanlpcdljclnmaaDoor.Sl
