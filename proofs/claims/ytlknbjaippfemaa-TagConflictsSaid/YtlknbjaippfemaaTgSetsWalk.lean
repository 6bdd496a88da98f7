/- tag: TagSets. -/
import Derived.Test.YtlknbjaippfemaaTgHead
import Derived.Test.YtlknbjaippfemaaTgSetMath
namespace Go.Proofs.Ytlknbjaippfemaa.Tg
open Go.RowKit
open Lx (IsRow alloc1 drew_below nmB)
theorem setR_ok {l : List T} {k v : B} (h1 : vld l = true) (h2 : nmB k = true) (h3 : v.length ≤ 200) (h4 : (setL l k v).length ≤ 60) : setR l k v = (setL l k v, 0) := by
  unfold setR
  rw [if_neg (by rw [h1, h2]; simp; exact h3), if_neg (by omega)]
theorem setR_cases (l : List T) (k v : B) : setR l k v = ([], 1) ∨ (setR l k v = ([], 2) ∧ vld l = true ∧ l.length = 60) ∨ (setR l k v = (setL l k v, 0) ∧ vld l = true ∧ nmB k = true ∧ v.length ≤ 200 ∧ (setL l k v).length ≤ 60) := by
  by_cases h1 : vld l = true
  · by_cases h2 : nmB k = true
    · by_cases h3 : v.length ≤ 200
      · by_cases h4 : (setL l k v).length ≤ 60
        · exact .inr (.inr ⟨setR_ok h1 h2 h3 h4, h1, h2, h3, h4⟩)
        · refine .inr (.inl ⟨?_, h1, ?_⟩)
          · unfold setR
            rw [if_neg (by rw [h1, h2]; simp; exact h3), if_pos (by omega)]
          · have := set_len l k v
            have := vld_few h1
            omega
      · exact .inl (if_pos (.inr (.inr (by omega))))
    · exact .inl (if_pos (.inr (.inl (by simpa using h2))))
  · exact .inl (if_pos (.inl (by simpa using h1)))
theorem str_is (s : ByteArray) : (⟨s.data.toList.toArray⟩ : ByteArray) = s := by simp
end Go.Proofs.Ytlknbjaippfemaa.Tg
