
import Derived.Test.YtanlpcdljclnmaaDoorSlHead
namespace Go.Proofs.YtanlpcdljclnmaaDoor.Sl
open Go.RowKit
open Go.Proofs.YtanlpcdljclnmaaDoor.Dg hiding intOf
theorem Txt.take {w : World} {N : Nat} {a : Option Addr} {L : List B} (h : Txt w N a L) (k : Nat) : Txt w N a (L.take k) := by
  intro h0
  have hl : 0 < (bas L).length := by rw [bas_len] at h0 ⊢; rw [List.length_take] at h0; omega
  obtain ⟨b, off, rfl, hb, hc⟩ := h hl
  refine ⟨b, off, rfl, hb, fun i s hi => hc i s ?_⟩
  unfold bas at hi ⊢
  rw [List.map_take, List.getElem?_take] at hi
  split at hi
  · exact hi
  · cases hi
theorem Txt.drop {w : World} {N : Nat} {b off : Nat} {L : List B} (h : Txt w N (some ⟨b, off, none⟩) L) (k : Nat) : Txt w N (some ⟨b, off + k, none⟩) (L.drop k) := by
  intro h0
  have hl : 0 < (bas L).length := by rw [bas_len] at h0 ⊢; rw [List.length_drop] at h0; omega
  obtain ⟨b', off', e, hb, hc⟩ := h hl
  injection e with e
  injection e with e1 e2
  subst e1 e2
  refine ⟨b, off + k, rfl, hb, fun i s hi => ?_⟩
  rw [Nat.add_assoc]
  refine hc (k + i) s ?_
  unfold bas at hi ⊢
  rw [List.map_drop, List.getElem?_drop] at hi
  exact hi
end Go.Proofs.YtanlpcdljclnmaaDoor.Sl
