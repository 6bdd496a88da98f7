/- tag: slices.Chunk of tokens, by threes. -/
import Derived.Test.YtlknbjaippfemaaTgSet
import Derived.Test.YtlknbjaippfemaaLxLex
import Derived.Test.YtlknbjaippfemaaLxHead
import Derived.Test.YtlknbjaippfemaaSlRound
namespace Go.Proofs.Ytlknbjaippfemaa.Tg
open Go.RowKit Go.Sort Go.Shelf
open Lx (IsRow alloc1 drew_below Tk Toks keeps_of_below)
attribute [local go_sem] Oper.semAt_some
theorem row_own {β : Type} (g : Nat) (t : TypeId) (f : β → Array Value) : Go.Own (fun (s : β) W => IsRow W g t (f s)) := fun s X Y row hs hg hr =>
  (hg.block g hs.inside (fun e => by obtain ⟨o, ho, hc⟩ := hr g e.symm; rw [show X.heap[g]? = _ from hs] at ho; cases ho; cases hc)).trans hs
/-- what the body of a loop over the threes keeps: tokens, boxes of them and of ints. -/
def KpB (W W' : World) : Prop := W.heap.size ≤ W'.heap.size ∧ ∀ (k : Nat) (cs : Array Value) (t : TypeId) (f : Nat × Nat), (t = 68 ∨ t = 3) → W.heap[k]? = some (.cells cs t f) → W'.heap[k]? = some (.cells cs t f)
section
variable {W W' W'' : World}
theorem KpB.refl (W : World) : KpB W W := ⟨Nat.le_refl _, fun _ _ _ _ _ h => h⟩
theorem KpB.trans (h : KpB W W') (k : KpB W' W'') : KpB W W'' := ⟨Nat.le_trans h.1 k.1, fun _ _ _ _ hi hc => k.2 _ _ _ _ hi (h.2 _ _ _ _ hi hc)⟩
theorem KpB.of_below (h : Below W.heap.size W W') : KpB W W' := ⟨h.size, fun i _ _ _ _ hc => (h.block i (Array.getElem?_eq_some_iff.1 hc).1).trans hc⟩
theorem KpB.grown {row : Option Nat} (hg : W.grownBy W' row) (hr : ∀ k, row = some k → ∃ cs t, (t ≠ 68 ∧ t ≠ 3) ∧ IsRow W k t cs) : KpB W W' :=
  ⟨hg.size, fun i cs t f hi hc => (hg.block i (Array.getElem?_eq_some_iff.1 hc).1 (fun e => by
    obtain ⟨cs', t', ⟨h1, h2⟩, h3⟩ := hr i e.symm
    rw [show W.heap[i]? = _ from h3] at hc
    injection hc with hc
    injection hc with _ e2 _
    subst e2
    rcases hi with hi | hi
    · exact h1 hi
    · exact h2 hi)).trans hc⟩
theorem KpB.row {g : Nat} {t : TypeId} {cs : Array Value} (h : KpB W W') (hr : IsRow W g t cs) (ht : t = 68 ∨ t = 3) : IsRow W' g t cs := h.2 g cs t (0, 0) ht hr
theorem kpB_b {w : World} (W : World) (l : Nat) (o o' : Obj) (_ : w.heap.size ≤ l) (h : W.heap[l]? = some o) (hc : o.isCells = false) (_ : o.isWalk = false) : KpB W (W.putObj l o') := by
  have hg := grownBy_putObj' W l o'
  refine ⟨hg.size, fun i cs t f _ hi => ?_⟩
  refine (hg.block i (Array.getElem?_eq_some_iff.1 hi).1 (fun e => ?_)).trans hi
  injection e with e
  subst e
  rw [h] at hi
  injection hi with hi
  subst hi
  cases hc
end
def upto (n k : Nat) : List (Fin n) := (List.finRange n).take k
theorem upto_succ (n k : Nat) (hk : k < n) : upto n (k + 1) = upto n k ++ [⟨k, hk⟩] := by
  unfold upto
  rw [List.take_succ_eq_append_getElem (by simpa using hk)]
  simp
theorem upto_len (n k : Nat) (hk : k ≤ n) : (upto n k).length = k := by simp [upto]; omega
theorem upto_full (n : Nat) : upto n n = List.finRange n := List.take_of_length_le (by simp)
set_option maxRecDepth 100000 in
set_option maxHeartbeats 1000000 in
theorem chunk_any (ao : Option Addr) (n c : Nat) (w : World) :
    Calls Try.prog 39 #[.slice ao n c, .int .i64 3] w fun e w' => e = .returned (.func (.func 53) #[] #[.pointer (some ⟨w.heap.size, 0, none⟩), .pointer (some ⟨w.heap.size + 1, 0, none⟩)]) ∧ (w.alloc (.cells #[.slice ao n c] 68)).alloc (.cells #[.int .i64 3] 3) = w' := by
  go_enter Try.func39, Try.ntmps39
  go_wp2
  go_ret
  exact ⟨rfl, rfl⟩
/-- what the iterator hands to a round. -/
abbrev encK3 (g : Nat) {q : Nat} (k : Fin q) : Array Value := #[.slice (some ⟨g, 3 * k.val * 3, none⟩) 3 3]
set_option maxRecDepth 100000 in
set_option maxHeartbeats 2000000 in
theorem chunk_stops (m : Nat) (hm : 1 ≤ m) (b1 b2 g n c q : Nat) (ao : Option Addr) (w : World) (hao : 0 < q → ao = some ⟨g, 0, none⟩) (h1 : IsRow w b1 68 #[.slice ao n c]) (h2 : IsRow w b2 3 #[.int .i64 3]) (hn : n = 3 * q) (hc : n ≤ c) (hq : n ≤ 20000) :
    SeqStopsK Fence.wide m Try.prog 53 #[.pointer (some ⟨b1, 0, none⟩), .pointer (some ⟨b2, 0, none⟩)] (encK3 g) KpB (fun xs => xs = List.finRange q) (fun _ => True) q w := fun y J Jx W hW hJ hJx hY h0 => by
  have R1 : IsRow W b1 68 #[.slice ao n c] := h1.below hW h1.inside
  have R2 : IsRow W b2 3 #[.int .i64 3] := h2.below hW h2.inside
  have H0 := Lib.hid (show J (upto q 0) W from h0)
  have HR1 := Lib.hid R1
  have HR2 := Lib.hid R2
  have c0 := R1.get 0
  have d0 := R2.get 0
  have hc' : (n : Int) ≤ (c : Int) := by omega
  have hq' : (n : Int) ≤ 20000 := by omega
  have HAO := Lib.hid hao
  clear R1 R2 h1 h2 hW h0 hao
  refine callsIn_of_wp Try.func53 rfl trivial ?_ rfl
  simp only [Try.ntmps53, List.size_toArray, List.length_cons, List.length_nil, Nat.reduceAdd, Nat.reduceSub, Array.replicate_succ, Array.replicate_zero, List.push_toArray, List.append_toArray, List.nil_append, List.cons_append]
  gi_wp2
  clear c0 d0
  gi_loopw [4] (fun s wr => ∃ k : Nat, k ≤ q ∧ s = .int .i64 ((3 * k : Nat) : Int) ∧ Hid (KpB W wr) ∧ Hid (J (upto q k) wr)) (fun s _ => (n - intOf s).toNat)
  case atStart => exact ⟨0, by omega, by simp, Lib.hid (KpB.refl _), H0⟩
  case round =>
    obtain ⟨k, hk, rfl, hb, hJs⟩ := hrel
    have c0 := (hb.out.row HR1.out (.inl rfl)).get 0
    have d0 := (hb.out.row HR2.out (.inr rfl)).get 0
    by_cases hlt : k < q
    · have hlt2 : ((3 * k : Nat) : Int) < (n : Int) := by omega
      obtain rfl : ao = some ⟨g, 0, none⟩ := HAO.out (by omega)
      have i1 : (0 : Int) ≤ 3 * (k : Int) := by omega
      have i2 : 3 * (k : Int) ≤ (n : Int) := by omega
      have i3 : 3 * (k : Int) ≤ (c : Int) := by omega
      have i4 : ¬ c = 3 * k := by omega
      have i5 : 3 * (k : Int) + 3 ≤ (n : Int) := by omega
      have i6 : 3 * (k : Int) + 3 ≤ (c : Int) := by omega
      gi_wp2_with fail
      gi_region
      rw [show min (3 : Int) ((3 * q - 3 * k : Nat) : Int) = 3 by omega]
      obtain ⟨V, hV⟩ : ∃ V, wr.drew = V := ⟨_, rfl⟩
      have BD : Below wr.heap.size wr V := hV ▸ drew_below wr
      have JV : J (upto q k) V := hJ _ _ _ none hJs.out (Lx.grown_of_below BD none) (fun r e => by cases e)
      have KV := Lib.hid (hb.out.trans (KpB.of_below BD))
      have c0 := (KV.out.row HR1.out (.inl rfl)).get 0
      have d0 := (KV.out.row HR2.out (.inr rfl)).get 0
      rw [hV]
      clear hV BD
      obtain ⟨fn, tmps, assign, body, hy, hR⟩ := hY (upto q k) ⟨k, hlt⟩ V JV (by rw [upto_len q k hk]; exact hlt)
      dsimp only [encK3] at hy
      have HST := Lib.hid (show upto q (k + 1) = upto q k ++ [⟨k, hlt⟩] from upto_succ q k hlt)
      gi_wp2_with fail
      refine hR.mono ?_
      rintro e W3 (⟨rfl, hJ3, hK3⟩ | ⟨rfl, hJx3⟩)
      · have HK3 := Lib.hid (KV.out.trans hK3)
        have HJ3 := Lib.hid hJ3
        rw [← HST.out] at HJ3
        clear hJ3 hK3 hR hy c0 d0 hb hJs JV KV
        have c0 := (HK3.out.row HR1.out (.inl rfl)).get 0
        have d0 := (HK3.out.row HR2.out (.inr rfl)).get 0
        gi_wp2
        go_roundw
        case rel => exact ⟨k + 1, by omega, by go_num, HK3, HJ3⟩
        case measure => simp [intOf]; omega
      · clear hR hy c0 d0
        gi_wp2
        refine bodyPost_ret (results_none rfl _ _ _) rfl ?_
        exact ⟨⟨_, rfl⟩, .inr ⟨_, trivial, hJx3⟩⟩
    · obtain rfl : k = q := by omega
      have hlt2 : ¬ ((3 * k : Nat) : Int) < (n : Int) := by omega
      have HJ := Lib.hid hJs.out
      rw [upto_full] at HJ
      clear hJs hJ hJx hY
      gi_wp2
      go_end0
      exact ⟨⟨_, rfl⟩, .inl HJ.out⟩
end Go.Proofs.Ytlknbjaippfemaa.Tg
