/- P3.7, GeomRoots: its walk. -/
import Derived.Test.YtcckdckikjbfdaaGmHead
namespace Go.Proofs.Ytcckdckikjbfdaa.Geo
open Go.RowKit Go.Sort
set_option maxRecDepth 100000 in
set_option maxHeartbeats 2000000 in
theorem roots_any (a b : Int) (a1 : -9223372036854775808 ≤ a) (a2 : a ≤ 9223372036854775807) (b1 : -9223372036854775808 ≤ b) (b2 : b ≤ 9223372036854775807) :
    Answers Try.prog 9 #[.int .i64 a, .int .i64 b] (.bool true) := by
  intro w
  go_enter Try.func9, Try.ntmps9
  go_wp2_with fail
  refine (head_any w).mono ?_
  rintro e w1 ⟨rfl, hb1⟩
  have HB1 := Lib.hid hb1
  clear hb1
  by_cases h1 : a < 0
  · go_wp2_with fail
    refine (rootv a 0 a1 a2 (.inl ⟨h1, rfl⟩) _).mono ?_
    rintro e w2 ⟨rfl, hb2⟩
    have HB2 := Lib.hid (HB1.out.trans (hb2.mono HB1.out.size))
    clear hb2
    go_wp2
    go_ret
    exact ⟨rfl, HB2.out⟩
  · have h1' : 0 ≤ a := by omega
    by_cases h2 : b < 0
    · go_wp2
      go_ret
      exact ⟨rfl, HB1.out⟩
    · by_cases h3 : 1073741824 < a
      · go_wp2
        go_ret
        exact ⟨rfl, HB1.out⟩
      · by_cases h4 : 1073741824 < b
        · go_wp2
          go_ret
          exact ⟨rfl, HB1.out⟩
        · have hsq := mul_bound (M := 1073741824) (x := a) (y := a) (by omega) (by omega) (by omega) (by omega)
          have hmod := Int.emod_nonneg b (show 2 * a + 1 ≠ 0 by omega)
          have hmod2 := Int.emod_lt_of_pos b (show 0 < 2 * a + 1 by omega)
          have e1 : wrap64 (a * a) = a * a := by
            generalize a * a = X at *
            unfold wrap64; omega
          have e2 : wrap64 (a * a + b % (2 * a + 1)) = a * a + b % (2 * a + 1) := by
            generalize a * a = X at *
            generalize b % (2 * a + 1) = Y at *
            unfold wrap64; omega
          have r1 := rootv (wrap64 (a * a)) a (by rw [e1]; generalize a * a = X at *; omega) (by rw [e1]; generalize a * a = X at *; omega) (by rw [e1]; have := root_square (a := a) (m := 0) h1' (by omega) (by omega); rwa [Int.add_zero] at this)
          have r2 := rootv (wrap64 (wrap64 (a * a) + b % (2 * a + 1))) a (by rw [e1, e2]; generalize a * a = X at *; generalize b % (2 * a + 1) = Y at *; omega) (by rw [e1, e2]; generalize a * a = X at *; generalize b % (2 * a + 1) = Y at *; omega)
            (by rw [e1, e2]; exact root_square h1' hmod (by omega))
          have R1 := Lib.hid r1
          have R2 := Lib.hid r2
          clear r1 r2 hsq hmod hmod2 e1 e2
          go_wp2_with fail
          refine (R1.out _).mono ?_
          rintro e w2 ⟨rfl, hb2⟩
          have HB2 := Lib.hid (HB1.out.trans (hb2.mono HB1.out.size))
          clear hb2
          go_wp2_with fail
          refine (R2.out _).mono ?_
          rintro e w3 ⟨rfl, hb3⟩
          have HB3 := Lib.hid (HB2.out.trans (hb3.mono HB2.out.size))
          clear hb3
          by_cases h5 : b < a
          · go_wp2
            go_ret
            exact ⟨rfl, HB3.out⟩
          · go_wp2_with fail
            refine (root_any a _ a1 a2).mono ?_
            rintro e w4 ⟨ra, rfl, ha, rfl⟩
            have HA := Lib.hid ha
            clear ha
            go_wp2_with fail
            refine (root_any b _ b1 b2).mono ?_
            rintro e w5 ⟨rb, rfl, hb, rfl⟩
            have hle := root_le HA.out hb (by omega)
            clear hb
            go_wp2
            go_ret
            exact ⟨rfl, HB3.out⟩
end Go.Proofs.Ytcckdckikjbfdaa.Geo
