/- The reference: the token that begins at an offset. -/
import Derived.Test.YtclkolllflcmcaaLxRefD
import Derived.Laws.ResultCell
namespace Go.Proofs.Ytclkolllflcmcaa.Lx
open Go.RowKit
theorem results_cell2 {fn : Func} {p u v : Tmp} {ty : TypeId} (h : fn.results = #[.cell p ty, .tmp u, .tmp v]) (tmps : Array Value) (P : Program) (w : World) :
    (results fn tmps).run P w =
      ((asAddr (tmps.getD p undef)).run P w).andThen fun a w1 => ((loadVar ty a).run P w1).andThen fun x w2 => .ok (.tuple #[x, tmps.getD u undef, tmps.getD v undef]) w2 := by
  simp only [results, h]
  simp [Sem.run_bind, Result.andThen]
theorem results_row3 {fn : Func} {p u v : Tmp} {ty : TypeId} (h : fn.results = #[.cell p ty, .tmp u, .tmp v]) (tmps : Array Value) (w : World) (g : Nat) (t : TypeId) (cs : Array Value) {fs : Array Field} (hp : tmps.getD p undef = .pointer (some ⟨g, 0, none⟩)) (hr : IsRow w g t cs)
    (hu : Try.prog.underlying ty = some (.struct fs)) (hi : (Try.prog.info? ty).map (·.size) = some cs.size) :
    (results fn tmps).run Try.prog w = .ok (.tuple #[.agg cs, tmps.getD u undef, tmps.getD v undef]) w := by
  have hl := run_loadVar_row (P := Try.prog) w g t ty cs (0, 0) _ hr hu rfl hi
  rw [results_cell2 h, hp]
  simp [asAddr, hl, Result.andThen]
/-- what next answers. -/
def NOut (w : World) (i : Nat) (o : Rd) (e : Ending) (w' : World) : Prop :=
  match o with
  | .tok k t n => e = .returned (.tuple #[vTok k t i, .int .i64 ((i : Int) + (n : Int)), .int .i64 0]) ∧ Below w.heap.size w w'
  | .bad x => e = .returned (.tuple #[vTok 0 [] 0, .int .i64 0, .int .i64 x]) ∧ Below w.heap.size w w'
theorem tok_made (w : World) : ∃ W, w.alloc (.cells #[.int .i64 0, .string ⟨#[]⟩, .int .i64 0] 31) = W ∧ Below w.heap.size w W ∧ IsRow W w.heap.size 31 #[.int .i64 0, .string ⟨#[]⟩, .int .i64 0] := ⟨_, rfl, alloc1 w _, IsRow.made w _ _⟩
set_option maxRecDepth 100000 in
set_option maxHeartbeats 1000000 in
theorem next_let (s : ByteArray) (i : Nat) (w : World) (hi : i < s.size) (hm : s.size ≤ 20000) (hlet : isLet s[i] = true) :
    Calls Try.prog 26 #[.string s, .int .i64 i] w fun e w' => NOut w i (nx (s.data.toList.drop i)) e w' := by
  obtain ⟨W, hW, B0, T0⟩ := tok_made w
  have HB := Lib.hid B0
  have HT := Lib.hid T0
  have HW := Lib.hid hW
  obtain ⟨d0, d1, d2, f0, f1, f2⟩ := facts3 T0
  have his : (i : Int) < (s.size : Int) := by omega
  have hd := drop_at s i hi
  clear B0 T0 hW
  have hnx := nx_let (l := s.data.toList.drop (i + 1)) hlet
  rw [← hd] at hnx
  obtain ⟨n, hn⟩ : ∃ n, run isWord (s.data.toList.drop i) = n := ⟨_, rfl⟩
  rw [hn] at hnx
  have HN : Hid (i + n = i + 1 + run isWord (s.data.toList.drop (i + 1))) := Lib.hid (by
    rw [← hn, hd, run_step (by unfold isWord; rw [hlet]; rfl)]; omega)
  have HE : Hid (s.extract i (i + n) = ⟨((s.data.toList.drop i).take n).toArray⟩) := Lib.hid (ext_run s i n)
  have KL := fun W => letter_any s[i] W
  rw [hlet] at KL
  clear hn hd hlet
  by_cases h24 : 24 < n
  · rw [if_pos h24] at hnx
    have HO := Lib.hid hnx
    clear hnx HE
    go_enter Try.func26, Try.ntmps26
    go_wp2_with fail
    rw [HW.out]
    go_wp2_with (first | ((with_reducible refine (KL _).mono ?_); rintro e w' ⟨rfl, rfl⟩))
    go_loop [7] (fun a => ∃ k : Nat, i + 1 ≤ k ∧ k ≤ s.size ∧ a = .int .i64 k ∧ Hid (i + n = k + run isWord (s.data.toList.drop k))) (fun a => s.size - (intOf a).toNat)
    case atStart => exact ⟨i + 1, Nat.le_refl _, by omega, by go_num, HN⟩
    case round =>
      obtain ⟨k, hik, hk, rfl, HK⟩ := hrel
      have hik2 : (i : Int) ≤ (k : Int) := by omega
      have hks2 : (k : Int) ≤ (s.size : Int) := by omega
      clear HN
      by_cases hlt : k < s.size
      · have hlt2 : (k : Int) < (s.size : Int) := by omega
        have KW := fun W => word_any s[k] W
        cases hw : isWord s[k] with
        | true =>
          rw [hw] at KW
          have HK2 : Hid (i + n = k + 1 + run isWord (s.data.toList.drop (k + 1))) := Lib.hid (by
            have h := HK.out
            rw [drop_at s k hlt, run_step hw] at h
            omega)
          clear hw HK
          go_wp2_with (first | ((with_reducible refine (KW _).mono ?_); rintro e w' ⟨rfl, rfl⟩))
          go_round
          case rel => exact ⟨k + 1, by omega, by omega, by go_num, HK2⟩
          case measure => simp [intOf]; omega
        | false =>
          rw [hw] at KW
          have hin : i + n = k := by
            have h := HK.out
            rw [drop_at s k hlt, run_none hw] at h
            omega
          clear HK
          have z1 : (24 : Int) < (k : Int) - (i : Int) := by omega
          go_wp2_with (first | ((with_reducible refine (KW _).mono ?_); rintro e w' ⟨rfl, rfl⟩))
          have hr := set3 HT.out (.int .i64 0) (.string ⟨#[]⟩) (.int .i64 0)
          have hg := below3 HB.out (Nat.le_refl w.heap.size) (.int .i64 0) (.string ⟨#[]⟩) (.int .i64 0)
          refine bodyPost_ret (results_row3 rfl _ _ w.heap.size _ _ rfl hr Try.underlying31 infoTok) rfl ?_
          rw [HO.out]
          exact ⟨rfl, hg⟩
      · obtain rfl : k = s.size := by omega
        have hin : i + n = s.size := by
          have h := HK.out
          rw [List.drop_of_length_le (by rw [len_data]; exact Nat.le_refl _)] at h
          exact h
        have HX2 : Hid (s.extract i s.size = s.extract i (i + n)) := Lib.hid (by rw [hin])
        clear HK
        have z1 : (24 : Int) < (s.size : Int) - (i : Int) := by omega
        go_wp2
        have hr := set3 HT.out (.int .i64 0) (.string ⟨#[]⟩) (.int .i64 0)
        have hg := below3 HB.out (Nat.le_refl w.heap.size) (.int .i64 0) (.string ⟨#[]⟩) (.int .i64 0)
        refine bodyPost_ret (results_row3 rfl _ _ w.heap.size _ _ rfl hr Try.underlying31 infoTok) rfl ?_
        rw [HO.out]
        exact ⟨rfl, hg⟩
  · rw [if_neg h24] at hnx
    have HO := Lib.hid hnx
    clear hnx
    go_enter Try.func26, Try.ntmps26
    go_wp2_with fail
    rw [HW.out]
    go_wp2_with (first | ((with_reducible refine (KL _).mono ?_); rintro e w' ⟨rfl, rfl⟩))
    go_loop [7] (fun a => ∃ k : Nat, i + 1 ≤ k ∧ k ≤ s.size ∧ a = .int .i64 k ∧ Hid (i + n = k + run isWord (s.data.toList.drop k))) (fun a => s.size - (intOf a).toNat)
    case atStart => exact ⟨i + 1, Nat.le_refl _, by omega, by go_num, HN⟩
    case round =>
      obtain ⟨k, hik, hk, rfl, HK⟩ := hrel
      have hik2 : (i : Int) ≤ (k : Int) := by omega
      have hks2 : (k : Int) ≤ (s.size : Int) := by omega
      clear HN
      by_cases hlt : k < s.size
      · have hlt2 : (k : Int) < (s.size : Int) := by omega
        have KW := fun W => word_any s[k] W
        cases hw : isWord s[k] with
        | true =>
          rw [hw] at KW
          have HK2 : Hid (i + n = k + 1 + run isWord (s.data.toList.drop (k + 1))) := Lib.hid (by
            have h := HK.out
            rw [drop_at s k hlt, run_step hw] at h
            omega)
          clear hw HK
          go_wp2_with (first | ((with_reducible refine (KW _).mono ?_); rintro e w' ⟨rfl, rfl⟩))
          go_round
          case rel => exact ⟨k + 1, by omega, by omega, by go_num, HK2⟩
          case measure => simp [intOf]; omega
        | false =>
          rw [hw] at KW
          have hin : i + n = k := by
            have h := HK.out
            rw [drop_at s k hlt, run_none hw] at h
            omega
          clear HK
          have z1 : ¬ (24 : Int) < (k : Int) - (i : Int) := by omega
          have z2 : (k : Int) - (i : Int) ≤ 24 := by omega
          have HX : Hid (s.extract i k = ⟨((s.data.toList.drop i).take n).toArray⟩) := Lib.hid (by rw [← hin]; exact HE.out)
          go_wp2_with (first | ((with_reducible refine (KW _).mono ?_); rintro e w' ⟨rfl, rfl⟩))
          have hr := set3 HT.out (.int .i64 1) (.string (s.extract i k)) (.int .i64 i)
          have hg := below3 HB.out (Nat.le_refl w.heap.size) (.int .i64 1) (.string (s.extract i k)) (.int .i64 i)
          refine bodyPost_ret (results_row3 rfl _ _ w.heap.size _ _ rfl hr Try.underlying31 infoTok) rfl ?_
          rw [HO.out]
          have e : Value.tuple #[.agg #[.int .i64 1, .string (s.extract i k), .int .i64 i], .int .i64 (k : Int), .int .i64 0] = .tuple #[vTok 1 ((s.data.toList.drop i).take n) i, .int .i64 ((i : Int) + (n : Int)), .int .i64 0] := by
            rw [HX.out, show (k : Int) = (i : Int) + (n : Int) by omega]; rfl
          exact ⟨congrArg Ending.returned e, hg⟩
      · obtain rfl : k = s.size := by omega
        have hin : i + n = s.size := by
          have h := HK.out
          rw [List.drop_of_length_le (by rw [len_data]; exact Nat.le_refl _)] at h
          exact h
        have HX2 : Hid (s.extract i s.size = s.extract i (i + n)) := Lib.hid (by rw [hin])
        clear HK
        have z1 : ¬ (24 : Int) < (s.size : Int) - (i : Int) := by omega
        have z2 : (s.size : Int) - (i : Int) ≤ 24 := by omega
        have HX : Hid (s.extract i s.size = ⟨((s.data.toList.drop i).take n).toArray⟩) := Lib.hid (HX2.out.trans HE.out)
        go_wp2
        have hr := set3 HT.out (.int .i64 1) (.string (s.extract i s.size)) (.int .i64 i)
        have hg := below3 HB.out (Nat.le_refl w.heap.size) (.int .i64 1) (.string (s.extract i s.size)) (.int .i64 i)
        refine bodyPost_ret (results_row3 rfl _ _ w.heap.size _ _ rfl hr Try.underlying31 infoTok) rfl ?_
        rw [HO.out]
        have e : Value.tuple #[.agg #[.int .i64 1, .string (s.extract i s.size), .int .i64 i], .int .i64 (s.size : Int), .int .i64 0] = .tuple #[vTok 1 ((s.data.toList.drop i).take n) i, .int .i64 ((i : Int) + (n : Int)), .int .i64 0] := by
          rw [HX.out, show (s.size : Int) = (i : Int) + (n : Int) by omega]; rfl
        exact ⟨congrArg Ending.returned e, hg⟩
set_option maxRecDepth 100000 in
set_option maxHeartbeats 1000000 in
theorem next_dig (s : ByteArray) (i : Nat) (w : World) (hi : i < s.size) (hm : s.size ≤ 20000) (hlet : isLet s[i] = false) (hdig : isDig s[i] = true) :
    Calls Try.prog 26 #[.string s, .int .i64 i] w fun e w' => NOut w i (nx (s.data.toList.drop i)) e w' := by
  obtain ⟨W, hW, B0, T0⟩ := tok_made w
  have HB := Lib.hid B0
  have HT := Lib.hid T0
  have HW := Lib.hid hW
  obtain ⟨d0, d1, d2, f0, f1, f2⟩ := facts3 T0
  have his : (i : Int) < (s.size : Int) := by omega
  have hd := drop_at s i hi
  clear B0 T0 hW
  have hnx := nx_dig (l := s.data.toList.drop (i + 1)) hlet hdig
  rw [← hd] at hnx
  obtain ⟨n, hn⟩ : ∃ n, run isDig (s.data.toList.drop i) = n := ⟨_, rfl⟩
  rw [hn, List.drop_drop] at hnx
  have HN : Hid (i + n = i + 1 + run isDig (s.data.toList.drop (i + 1))) := Lib.hid (by
    rw [← hn, hd, run_step hdig]; omega)
  have HE : Hid (s.extract i (i + n) = ⟨((s.data.toList.drop i).take n).toArray⟩) := Lib.hid (ext_run s i n)
  have KL := fun W => letter_any s[i] W
  have KG := fun W => digit_any s[i] W
  rw [hlet] at KL
  rw [hdig] at KG
  clear hn hd hlet hdig
  by_cases h7 : 7 < n
  · rw [if_pos (.inl h7)] at hnx
    have HO := Lib.hid hnx
    clear hnx HE
    go_enter Try.func26, Try.ntmps26
    go_wp2_with fail
    rw [HW.out]
    go_wp2_with (first | ((with_reducible refine (KL _).mono ?_); rintro e w' ⟨rfl, rfl⟩) | ((with_reducible refine (KG _).mono ?_); rintro e w' ⟨rfl, rfl⟩))
    go_loop [7] (fun a => ∃ k : Nat, i + 1 ≤ k ∧ k ≤ s.size ∧ a = .int .i64 k ∧ Hid (i + n = k + run isDig (s.data.toList.drop k))) (fun a => s.size - (intOf a).toNat)
    case atStart => exact ⟨i + 1, Nat.le_refl _, by omega, by go_num, HN⟩
    case round =>
      obtain ⟨k, hik, hk, rfl, HK⟩ := hrel
      have hik2 : (i : Int) ≤ (k : Int) := by omega
      have hks2 : (k : Int) ≤ (s.size : Int) := by omega
      clear HN
      by_cases hlt : k < s.size
      · have hlt2 : (k : Int) < (s.size : Int) := by omega
        have KW := fun W => digit_any s[k] W
        cases hw : isDig s[k] with
        | true =>
          rw [hw] at KW
          have HK2 : Hid (i + n = k + 1 + run isDig (s.data.toList.drop (k + 1))) := Lib.hid (by
            have h := HK.out
            rw [drop_at s k hlt, run_step hw] at h
            omega)
          clear hw HK
          go_wp2_with (first | ((with_reducible refine (KW _).mono ?_); rintro e w' ⟨rfl, rfl⟩))
          go_round
          case rel => exact ⟨k + 1, by omega, by omega, by go_num, HK2⟩
          case measure => simp [intOf]; omega
        | false =>
          rw [hw] at KW
          have hin : i + n = k := by
            have h := HK.out
            rw [drop_at s k hlt, run_none hw] at h
            omega
          clear HK
          have z1 : (7 : Int) < (k : Int) - (i : Int) := by omega
          have KV := fun W => word_any s[k] W
          go_wp2_with (first | ((with_reducible refine (KW _).mono ?_); rintro e w' ⟨rfl, rfl⟩) | ((with_reducible refine (KV _).mono ?_); rintro e w' ⟨rfl, rfl⟩))
          have hr := set3 HT.out (.int .i64 0) (.string ⟨#[]⟩) (.int .i64 0)
          have hg := below3 HB.out (Nat.le_refl w.heap.size) (.int .i64 0) (.string ⟨#[]⟩) (.int .i64 0)
          refine bodyPost_ret (results_row3 rfl _ _ w.heap.size _ _ rfl hr Try.underlying31 infoTok) rfl ?_
          rw [HO.out]
          exact ⟨rfl, hg⟩
      · obtain rfl : k = s.size := by omega
        have hin : i + n = s.size := by
          have h := HK.out
          rw [List.drop_of_length_le (by rw [len_data]; exact Nat.le_refl _)] at h
          exact h
        have HX2 : Hid (s.extract i s.size = s.extract i (i + n)) := Lib.hid (by rw [hin])
        clear HK
        have z1 : (7 : Int) < (s.size : Int) - (i : Int) := by omega
        go_wp2
        have hr := set3 HT.out (.int .i64 0) (.string ⟨#[]⟩) (.int .i64 0)
        have hg := below3 HB.out (Nat.le_refl w.heap.size) (.int .i64 0) (.string ⟨#[]⟩) (.int .i64 0)
        refine bodyPost_ret (results_row3 rfl _ _ w.heap.size _ _ rfl hr Try.underlying31 infoTok) rfl ?_
        rw [HO.out]
        exact ⟨rfl, hg⟩
  · by_cases hwd : hd isWord (s.data.toList.drop (i + n)) = true
    · rw [if_pos (.inr hwd)] at hnx
      have HO := Lib.hid hnx
      clear hnx HE
      go_enter Try.func26, Try.ntmps26
      go_wp2_with fail
      rw [HW.out]
      go_wp2_with (first | ((with_reducible refine (KL _).mono ?_); rintro e w' ⟨rfl, rfl⟩) | ((with_reducible refine (KG _).mono ?_); rintro e w' ⟨rfl, rfl⟩))
      go_loop [7] (fun a => ∃ k : Nat, i + 1 ≤ k ∧ k ≤ s.size ∧ a = .int .i64 k ∧ Hid (i + n = k + run isDig (s.data.toList.drop k))) (fun a => s.size - (intOf a).toNat)
      case atStart => exact ⟨i + 1, Nat.le_refl _, by omega, by go_num, HN⟩
      case round =>
        obtain ⟨k, hik, hk, rfl, HK⟩ := hrel
        have hik2 : (i : Int) ≤ (k : Int) := by omega
        have hks2 : (k : Int) ≤ (s.size : Int) := by omega
        clear HN
        by_cases hlt : k < s.size
        · have hlt2 : (k : Int) < (s.size : Int) := by omega
          have KW := fun W => digit_any s[k] W
          cases hw : isDig s[k] with
          | true =>
            rw [hw] at KW
            have HK2 : Hid (i + n = k + 1 + run isDig (s.data.toList.drop (k + 1))) := Lib.hid (by
              have h := HK.out
              rw [drop_at s k hlt, run_step hw] at h
              omega)
            clear hw HK
            go_wp2_with (first | ((with_reducible refine (KW _).mono ?_); rintro e w' ⟨rfl, rfl⟩))
            go_round
            case rel => exact ⟨k + 1, by omega, by omega, by go_num, HK2⟩
            case measure => simp [intOf]; omega
          | false =>
            rw [hw] at KW
            have hin : i + n = k := by
              have h := HK.out
              rw [drop_at s k hlt, run_none hw] at h
              omega
            clear HK
            have z1 : ¬ (7 : Int) < (k : Int) - (i : Int) := by omega
            have z2 : (k : Int) - (i : Int) ≤ 7 := by omega
            have KV := fun W => word_any s[k] W
            rw [hin, drop_at s k hlt] at hwd
            have hwd2 : isWord s[k] = true := by exact hwd
            rw [hwd2] at KV
            clear hwd2
            clear hwd
            go_wp2_with (first | ((with_reducible refine (KW _).mono ?_); rintro e w' ⟨rfl, rfl⟩) | ((with_reducible refine (KV _).mono ?_); rintro e w' ⟨rfl, rfl⟩))
            have hr := set3 HT.out (.int .i64 0) (.string ⟨#[]⟩) (.int .i64 0)
            have hg := below3 HB.out (Nat.le_refl w.heap.size) (.int .i64 0) (.string ⟨#[]⟩) (.int .i64 0)
            refine bodyPost_ret (results_row3 rfl _ _ w.heap.size _ _ rfl hr Try.underlying31 infoTok) rfl ?_
            rw [HO.out]
            exact ⟨rfl, hg⟩
        · obtain rfl : k = s.size := by omega
          have hin : i + n = s.size := by
            have h := HK.out
            rw [List.drop_of_length_le (by rw [len_data]; exact Nat.le_refl _)] at h
            exact h
          have HX2 : Hid (s.extract i s.size = s.extract i (i + n)) := Lib.hid (by rw [hin])
          clear HK
          have z1 : ¬ (7 : Int) < (s.size : Int) - (i : Int) := by omega
          have z2 : (s.size : Int) - (i : Int) ≤ 7 := by omega
          exfalso
          rw [hin, List.drop_of_length_le (by rw [len_data]; exact Nat.le_refl _)] at hwd
          cases hwd
    · rw [if_neg (fun h => h.elim h7 hwd)] at hnx
      have HO := Lib.hid hnx
      clear hnx
      go_enter Try.func26, Try.ntmps26
      go_wp2_with fail
      rw [HW.out]
      go_wp2_with (first | ((with_reducible refine (KL _).mono ?_); rintro e w' ⟨rfl, rfl⟩) | ((with_reducible refine (KG _).mono ?_); rintro e w' ⟨rfl, rfl⟩))
      go_loop [7] (fun a => ∃ k : Nat, i + 1 ≤ k ∧ k ≤ s.size ∧ a = .int .i64 k ∧ Hid (i + n = k + run isDig (s.data.toList.drop k))) (fun a => s.size - (intOf a).toNat)
      case atStart => exact ⟨i + 1, Nat.le_refl _, by omega, by go_num, HN⟩
      case round =>
        obtain ⟨k, hik, hk, rfl, HK⟩ := hrel
        have hik2 : (i : Int) ≤ (k : Int) := by omega
        have hks2 : (k : Int) ≤ (s.size : Int) := by omega
        clear HN
        by_cases hlt : k < s.size
        · have hlt2 : (k : Int) < (s.size : Int) := by omega
          have KW := fun W => digit_any s[k] W
          cases hw : isDig s[k] with
          | true =>
            rw [hw] at KW
            have HK2 : Hid (i + n = k + 1 + run isDig (s.data.toList.drop (k + 1))) := Lib.hid (by
              have h := HK.out
              rw [drop_at s k hlt, run_step hw] at h
              omega)
            clear hw HK
            go_wp2_with (first | ((with_reducible refine (KW _).mono ?_); rintro e w' ⟨rfl, rfl⟩))
            go_round
            case rel => exact ⟨k + 1, by omega, by omega, by go_num, HK2⟩
            case measure => simp [intOf]; omega
          | false =>
            rw [hw] at KW
            have hin : i + n = k := by
              have h := HK.out
              rw [drop_at s k hlt, run_none hw] at h
              omega
            clear HK
            have z1 : ¬ (7 : Int) < (k : Int) - (i : Int) := by omega
            have z2 : (k : Int) - (i : Int) ≤ 7 := by omega
            have KV := fun W => word_any s[k] W
            rw [hin, drop_at s k hlt] at hwd
            have hwd2 : isWord s[k] = false := by exact Bool.eq_false_iff.2 hwd
            rw [hwd2] at KV
            clear hwd2
            have HX : Hid (s.extract i k = ⟨((s.data.toList.drop i).take n).toArray⟩) := Lib.hid (by rw [← hin]; exact HE.out)
            clear hwd
            go_wp2_with (first | ((with_reducible refine (KW _).mono ?_); rintro e w' ⟨rfl, rfl⟩) | ((with_reducible refine (KV _).mono ?_); rintro e w' ⟨rfl, rfl⟩))
            have hr := set3 HT.out (.int .i64 2) (.string (s.extract i k)) (.int .i64 i)
            have hg := below3 HB.out (Nat.le_refl w.heap.size) (.int .i64 2) (.string (s.extract i k)) (.int .i64 i)
            refine bodyPost_ret (results_row3 rfl _ _ w.heap.size _ _ rfl hr Try.underlying31 infoTok) rfl ?_
            rw [HO.out]
            have e : Value.tuple #[.agg #[.int .i64 2, .string (s.extract i k), .int .i64 i], .int .i64 (k : Int), .int .i64 0] = .tuple #[vTok 2 ((s.data.toList.drop i).take n) i, .int .i64 ((i : Int) + (n : Int)), .int .i64 0] := by
              rw [HX.out, show (k : Int) = (i : Int) + (n : Int) by omega]; rfl
            exact ⟨congrArg Ending.returned e, hg⟩
        · obtain rfl : k = s.size := by omega
          have hin : i + n = s.size := by
            have h := HK.out
            rw [List.drop_of_length_le (by rw [len_data]; exact Nat.le_refl _)] at h
            exact h
          have HX2 : Hid (s.extract i s.size = s.extract i (i + n)) := Lib.hid (by rw [hin])
          clear HK
          have z1 : ¬ (7 : Int) < (s.size : Int) - (i : Int) := by omega
          have z2 : (s.size : Int) - (i : Int) ≤ 7 := by omega
          have HX : Hid (s.extract i s.size = ⟨((s.data.toList.drop i).take n).toArray⟩) := Lib.hid (HX2.out.trans HE.out)
          clear hwd
          go_wp2
          have hr := set3 HT.out (.int .i64 2) (.string (s.extract i s.size)) (.int .i64 i)
          have hg := below3 HB.out (Nat.le_refl w.heap.size) (.int .i64 2) (.string (s.extract i s.size)) (.int .i64 i)
          refine bodyPost_ret (results_row3 rfl _ _ w.heap.size _ _ rfl hr Try.underlying31 infoTok) rfl ?_
          rw [HO.out]
          have e : Value.tuple #[.agg #[.int .i64 2, .string (s.extract i s.size), .int .i64 i], .int .i64 (s.size : Int), .int .i64 0] = .tuple #[vTok 2 ((s.data.toList.drop i).take n) i, .int .i64 ((i : Int) + (n : Int)), .int .i64 0] := by
            rw [HX.out, show (s.size : Int) = (i : Int) + (n : Int) by omega]; rfl
          exact ⟨congrArg Ending.returned e, hg⟩
set_option maxRecDepth 100000 in
set_option maxHeartbeats 1000000 in
theorem next_quo (s : ByteArray) (i : Nat) (w : World) (hi : i < s.size) (hm : s.size ≤ 20000) (hlet : isLet s[i] = false) (hdig : isDig s[i] = false) (h34 : s[i] = 34) :
    Calls Try.prog 26 #[.string s, .int .i64 i] w fun e w' => NOut w i (nx (s.data.toList.drop i)) e w' := by
  obtain ⟨W, hW, B0, T0⟩ := tok_made w
  have HB := Lib.hid B0
  have HT := Lib.hid T0
  have HW := Lib.hid hW
  obtain ⟨d0, d1, d2, f0, f1, f2⟩ := facts3 T0
  have his : (i : Int) < (s.size : Int) := by omega
  have hd := drop_at s i hi
  clear B0 T0 hW
  have hnx : nx (34 :: s.data.toList.drop (i + 1)) = _ := nx_quo
  rw [← h34, ← hd] at hnx
  have KL := fun W => letter_any s[i] W
  have KG := fun W => digit_any s[i] W
  have KS := fun W => str_any s i W hi (by omega)
  rw [hlet] at KL
  rw [hdig] at KG
  have z1 : ((s[i].toNat : Int) == 34) = true := u8_t s[i] 34 (by decide) h34
  clear hd hlet hdig h34
  cases hst : st false (s.data.toList.drop (i + 1)) with
  | none =>
    rw [hst] at KS hnx
    have HO := Lib.hid hnx
    clear hst hnx
    dsimp only [strW] at KS
    go_enter Try.func26, Try.ntmps26
    go_wp2_with fail
    rw [HW.out]
    go_wp2_with (first | ((with_reducible refine (KL _).mono ?_); rintro e w' ⟨rfl, rfl⟩) | ((with_reducible refine (KG _).mono ?_); rintro e w' ⟨rfl, rfl⟩) | ((with_reducible refine (KS _).mono ?_); rintro e w' ⟨rfl, rfl⟩))
    have hr := set3 HT.out (.int .i64 0) (.string ⟨#[]⟩) (.int .i64 0)
    have hg := below3 HB.out (Nat.le_refl w.heap.size) (.int .i64 0) (.string ⟨#[]⟩) (.int .i64 0)
    refine bodyPost_ret (results_row3 rfl _ _ w.heap.size _ _ rfl hr Try.underlying31 infoTok) rfl ?_
    rw [HO.out]
    exact ⟨rfl, hg⟩
  | some r =>
    rw [hst] at KS hnx
    have HO := Lib.hid hnx
    clear hst hnx
    obtain ⟨t, n⟩ := r
    dsimp only [strW, List.nil_append] at KS
    go_enter Try.func26, Try.ntmps26
    go_wp2_with fail
    rw [HW.out]
    go_wp2_with (first | ((with_reducible refine (KL _).mono ?_); rintro e w' ⟨rfl, rfl⟩) | ((with_reducible refine (KG _).mono ?_); rintro e w' ⟨rfl, rfl⟩) | ((with_reducible refine (KS _).mono ?_); rintro e w' ⟨rfl, rfl⟩))
    have hr := set3 HT.out (.int .i64 3) (.string ⟨t.toArray⟩) (.int .i64 i)
    have hg := below3 HB.out (Nat.le_refl w.heap.size) (.int .i64 3) (.string ⟨t.toArray⟩) (.int .i64 i)
    refine bodyPost_ret (results_row3 rfl _ _ w.heap.size _ _ rfl hr Try.underlying31 infoTok) rfl ?_
    rw [HO.out]
    have e : Value.tuple #[.agg #[.int .i64 3, .string ⟨t.toArray⟩, .int .i64 i], .int .i64 ((i + 1 + n : Nat) : Int), .int .i64 0] = .tuple #[vTok 3 t i, .int .i64 ((i : Int) + ((n + 1 : Nat) : Int)), .int .i64 0] := by
      rw [show ((i + 1 + n : Nat) : Int) = (i : Int) + ((n + 1 : Nat) : Int) by omega]; rfl
    exact ⟨congrArg Ending.returned e, hg⟩
set_option maxRecDepth 100000 in
set_option maxHeartbeats 1000000 in
theorem next_sym (s : ByteArray) (i : Nat) (w : World) (hi : i < s.size) (hm : s.size ≤ 20000) (hlet : isLet s[i] = false) (hdig : isDig s[i] = false) (h34 : s[i] ≠ 34) :
    Calls Try.prog 26 #[.string s, .int .i64 i] w fun e w' => NOut w i (nx (s.data.toList.drop i)) e w' := by
  obtain ⟨W, hW, B0, T0⟩ := tok_made w
  have HB := Lib.hid B0
  have HT := Lib.hid T0
  have HW := Lib.hid hW
  obtain ⟨d0, d1, d2, f0, f1, f2⟩ := facts3 T0
  have his : (i : Int) < (s.size : Int) := by omega
  have hd := drop_at s i hi
  clear B0 T0 hW
  have hnx := nx_sym (l := s.data.toList.drop (i + 1)) hlet hdig h34
  rw [← hd] at hnx
  have KL := fun W => letter_any s[i] W
  have KG := fun W => digit_any s[i] W
  have KY := fun W => has_sym s[i] W
  rw [hlet] at KL
  rw [hdig] at KG
  have z1 : ((s[i].toNat : Int) == 34) = false := u8_f s[i] 34 (by decide) h34
  have HX : Hid (s.extract i (i + 1) = ⟨([s[i]] : B).toArray⟩) := Lib.hid (str_of (ext_one s i hi))
  clear hd hlet hdig h34
  cases hsy : isSym s[i] with
  | false =>
    rw [hsy, if_neg (by decide)] at hnx
    rw [hsy] at KY
    have HO := Lib.hid hnx
    clear hsy hnx
    go_enter Try.func26, Try.ntmps26
    go_wp2_with fail
    rw [HW.out]
    go_wp2_with (first | ((with_reducible refine (KL _).mono ?_); rintro e w' ⟨rfl, rfl⟩) | ((with_reducible refine (KG _).mono ?_); rintro e w' ⟨rfl, rfl⟩) | ((with_reducible refine (KY _).mono ?_); rintro e w' ⟨rfl, rfl⟩))
    have hr := set3 HT.out (.int .i64 0) (.string ⟨#[]⟩) (.int .i64 0)
    have hg := below3 HB.out (Nat.le_refl w.heap.size) (.int .i64 0) (.string ⟨#[]⟩) (.int .i64 0)
    refine bodyPost_ret (results_row3 rfl _ _ w.heap.size _ _ rfl hr Try.underlying31 infoTok) rfl ?_
    rw [HO.out]
    exact ⟨rfl, hg⟩
  | true =>
    rw [hsy, if_pos rfl] at hnx
    rw [hsy] at KY
    have HO := Lib.hid hnx
    clear hsy hnx
    go_enter Try.func26, Try.ntmps26
    go_wp2_with fail
    rw [HW.out]
    go_wp2_with (first | ((with_reducible refine (KL _).mono ?_); rintro e w' ⟨rfl, rfl⟩) | ((with_reducible refine (KG _).mono ?_); rintro e w' ⟨rfl, rfl⟩) | ((with_reducible refine (KY _).mono ?_); rintro e w' ⟨rfl, rfl⟩))
    have hr := set3 HT.out (.int .i64 4) (.string (s.extract i (i + 1))) (.int .i64 i)
    have hg := below3 HB.out (Nat.le_refl w.heap.size) (.int .i64 4) (.string (s.extract i (i + 1))) (.int .i64 i)
    refine bodyPost_ret (results_row3 rfl _ _ w.heap.size _ _ rfl hr Try.underlying31 infoTok) rfl ?_
    rw [HO.out]
    have e : Value.tuple #[.agg #[.int .i64 4, .string (s.extract i (i + 1)), .int .i64 i], .int .i64 ((i : Int) + 1), .int .i64 0] = .tuple #[vTok 4 [s[i]] i, .int .i64 ((i : Int) + ((1 : Nat) : Int)), .int .i64 0] := by
      rw [HX.out]; rfl
    exact ⟨congrArg Ending.returned e, hg⟩
theorem next_any (s : ByteArray) (i : Nat) (w : World) (hi : i < s.size) (hm : s.size ≤ 20000) :
    Calls Try.prog 26 #[.string s, .int .i64 i] w fun e w' => NOut w i (nx (s.data.toList.drop i)) e w' := by
  cases h1 : isLet s[i] with
  | true => exact next_let s i w hi hm h1
  | false =>
    cases h2 : isDig s[i] with
    | true => exact next_dig s i w hi hm h1 h2
    | false =>
      by_cases h3 : s[i] = 34
      · exact next_quo s i w hi hm h1 h2 h3
      · exact next_sym s i w hi hm h1 h2 h3
end Go.Proofs.Ytclkolllflcmcaa.Lx
