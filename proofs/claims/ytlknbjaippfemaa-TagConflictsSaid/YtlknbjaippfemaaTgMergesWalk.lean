/- tag: TagMerges. -/
import Derived.Test.YtlknbjaippfemaaTgHead
import Derived.Test.YtlknbjaippfemaaTgMergeMath
namespace Go.Proofs.Ytlknbjaippfemaa.Tg
open Go.RowKit
open Lx (IsRow alloc1 drew_below)
theorem merge_len (b o t : List T) : (mergeR b o t).1.length ≤ 100000 ∧ (mergeR b o t).2.length ≤ 100000 := by
  unfold mergeR
  split
  · rename_i h
    rw [Bool.and_eq_true, Bool.and_eq_true] at h
    have h1 := vld_few h.1.1
    have h2 := vld_few h.1.2
    have h3 := vld_few h.2
    have k1 := keys_len [b, o, t]
    simp only [List.map_cons, List.map_nil, List.sum_cons, List.sum_nil] at k1
    have k2 := mrg_len (fun k => oneR (getV b k) (getV o k) (getV t k)) (keysR [b, o, t]) (keysR [b, o, t]).length
    rw [List.take_length] at k2
    omega
  · exact ⟨Nat.zero_le _, Nat.zero_le _⟩
theorem merge_bad {b o t : List T} (h : vld b = false ∨ vld o = false) : mergeR b o t = ([], []) := by
  unfold mergeR
  rcases h with h | h <;> simp [h]
end Go.Proofs.Ytlknbjaippfemaa.Tg
