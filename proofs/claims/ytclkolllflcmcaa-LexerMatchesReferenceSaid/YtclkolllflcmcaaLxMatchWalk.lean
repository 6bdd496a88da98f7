/- LexerMatchesReference: the walk. -/
import Derived.Test.YtclkolllflcmcaaLxRefF
namespace Go.Proofs.Ytclkolllflcmcaa.Lx
open Go.RowKit
theorem scan_all {P : Tk → Prop} : ∀ (L : List (Tk × Int)) (acc : List Tk), (∀ t ∈ acc, P t) → (∀ x ∈ L, P x.1) → (∀ t ∈ (scan acc L).1, P t) ∧ (scan acc L).1.length ≤ acc.length + L.length
  | [], acc, h, _ => ⟨h, by simp [scan]⟩
  | (t, e) :: r, acc, h, hl => by
    rw [scan]
    by_cases h1 : e = 0 ∧ acc.length = 5000
    · rw [if_pos h1]; exact ⟨fun t ht => (by cases ht), Nat.zero_le _⟩
    · rw [if_neg h1]
      by_cases h2 : e ≠ 0
      · rw [if_pos h2]; exact ⟨fun t ht => (by cases ht), Nat.zero_le _⟩
      · rw [if_neg h2]
        have ih := scan_all r (acc ++ [t]) (fun x hx => by
          rcases List.mem_append.1 hx with hx | hx
          · exact h x hx
          · rw [List.mem_singleton] at hx; subst hx; exact hl _ (List.mem_cons_self ..)) (fun x hx => hl x (List.mem_cons_of_mem _ hx))
        refine ⟨ih.1, Nat.le_trans ih.2 ?_⟩
        simp; omega
theorem lexR_all (s : B) : (∀ t ∈ (lexR s).1, t.a ≤ 20000) ∧ (lexR s).1.length ≤ 20000 := by
  unfold lexR
  by_cases h : 20000 < s.length
  · rw [if_pos h]; exact ⟨fun t ht => (by cases ht), Nat.zero_le _⟩
  · rw [if_neg h]
    obtain ⟨ts, r, h1, _, h3⟩ := lx_any s.length 0 s (Nat.le_refl _)
    have h2 := evs_lx h1
    rw [Nat.zero_add] at h2
    have hA := lx_ats h1
    have h4 := scan_all (P := fun t => t.a ≤ 20000) (evL s) [] (fun t ht => (by cases ht)) (by
      unfold evL
      rw [h2]
      intro x hx
      rcases List.mem_append.1 hx with hx | hx
      · obtain ⟨t, ht, rfl⟩ := List.mem_map.1 hx
        have := hA t ht
        show t.a ≤ 20000
        omega
      · cases r with
        | none => cases hx
        | some ex =>
          obtain ⟨e, a⟩ := ex
          have h5 := h3 e a rfl
          rw [show tail (some (e, a)) = [(⟨0, [], a⟩, e)] from rfl, List.mem_singleton] at hx
          subst hx
          show a ≤ 20000
          omega)
    refine ⟨h4.1, ?_⟩
    have h6 := evs_len _ (gp false s) (s.drop (gp false s)) (Nat.le_refl _)
    have h7 := h4.2
    unfold evL at h7 ⊢
    rw [List.length_drop] at h6
    simp only [List.length_nil] at h7
    omega
set_option maxRecDepth 100000 in
set_option maxHeartbeats 1000000 in
theorem lexref_any (s : ByteArray) (w : World) : Calls Try.prog 13 #[.string s] w (LOut w (lexR s.data.toList)) := by
  unfold lexR
  rw [len_data]
  by_cases hm : 20000 < s.size
  · rw [if_pos hm]
    have hlt : (20000 : Int) < (s.size : Int) := by omega
    go_enter Try.func13, Try.ntmps13
    go_wp2
    go_ret3
    exact ⟨⟨_, rfl, ownK_nil _ _⟩, Below.refl _ _⟩
  · rw [if_neg hm]
    exact lexref_fit s w (by omega)
theorem lexref_n (s : ByteArray) (w : World) (ts : List Tk) (n : Nat) (e a : Int) (h : lexR s.data.toList = (ts, e, a)) (hn : ts.length = n) :
    Calls Try.prog 13 #[.string s] w fun x w' => (∃ ao cap, x = .returned (.tuple #[.slice ao n cap, .int .i64 e, .int .i64 a]) ∧ n ≤ cap ∧ Toks w' w'.heap.size ao ts) ∧ Below w.heap.size w w' := by
  subst hn
  refine (lexref_any s w).mono ?_
  rintro x w' ⟨⟨v, rfl, ho⟩, hb⟩
  rw [h] at ho ⊢
  obtain ⟨ao, cap, rfl, hc, ht⟩ := ho.toks
  exact ⟨⟨ao, cap, rfl, hc, ht⟩, hb⟩
set_option maxRecDepth 100000 in
set_option maxHeartbeats 2000000 in
theorem match_any (s : ByteArray) (w : World) (hms : s.size ≤ maxLen) : Calls Try.prog 3 #[.string s] w fun e w' => e = .returned (.bool true) ∧ Below w.heap.size w w' := by
  have KH := head_any w
  unfold maxLen at hms
  by_cases hbig : 21000 < s.size
  · have hz : (21000 : Int) < (s.size : Int) := by omega
    go_enter Try.func3, Try.ntmps3
    go_wp2_with ((with_reducible refine KH.mono ?_); rintro e w1 ⟨rfl, hb1⟩)
    go_ret
    exact ⟨rfl, hb1⟩
  · have hz : ¬ (21000 : Int) < (s.size : Int) := by omega
    have hz2 : (s.size : Int) ≤ 21000 := by omega
    obtain ⟨hA, hL⟩ := lexR_all s.data.toList
    obtain ⟨⟨ts, e0, a0⟩, hr⟩ : ∃ r, lexR s.data.toList = r := ⟨_, rfl⟩
    rw [hr] at hA hL
    dsimp only at hA hL
    obtain ⟨n, hn⟩ : ∃ n, ts.length = n := ⟨_, rfl⟩
    rw [hn] at hL
    have K1 := fun W => lex_n s W ts n e0 a0 hr hn
    have K2 := fun W => lexref_n s W ts n e0 a0 hr hn
    have KN := fun W => name_any s W (by omega)
    have KM := fun W => name_ref s W (by omega)
    have KQ := fun W => quote_any s W (by omega)
    have KR := fun W => quote_ref s W (by omega)
    generalize nmB s.data.toList = nb at *
    generalize quote s.data.toList = qb at *
    have HA := Lib.hid hA
    have HN := Lib.hid hn
    clear hr hA hn
    go_enter Try.func3, Try.ntmps3
    go_wp2_with fail
    refine KH.mono ?_
    rintro e w1 ⟨rfl, hb1⟩
    have B1 := Lib.hid hb1
    clear hb1
    go_wp2_with fail
    refine (K1 _).mono ?_
    rintro e w2 ⟨⟨ao1, cap1, rfl, hc1, t1⟩, hb2⟩
    have B2 := Lib.hid (B1.out.trans (hb2.mono B1.out.size))
    have T1 := Lib.hid t1
    clear hb2 t1
    go_wp2_with fail
    refine (K2 _).mono ?_
    rintro e w3 ⟨⟨ao2, cap2, rfl, hc2, t2⟩, hb3⟩
    have B3 := Lib.hid (B2.out.trans (hb3.mono B2.out.size))
    have T1b := Lib.hid ((T1.out.below hb3 (Nat.le_refl _)).more hb3.size)
    have T2 := Lib.hid (show Toks w3 w3.heap.size ao2 (ts.map (shT 0)) by rw [sh_zero]; exact t2)
    clear hb3 t2 T1
    have KS : Calls Try.prog 14 #[.slice ao1 n cap1, .int .i64 0, .slice ao2 n cap2] w3 fun e w' => e = .returned (.bool true) ∧ Below w3.heap.size w3 w' :=
      same_any ao1 ao2 n cap1 cap2 0 ts w3 HN.out T1b.out T2.out hc1 hc2 (by omega) (by omega) (fun t ht => Nat.le_trans (HA.out t ht) (by omega))
    have B3s := B3.out.size
    by_cases h3 : 3000 < s.size
    · have hy : (3000 : Int) < (s.size : Int) := by omega
      clear h3
      go_wp2_with (first
        | ((with_reducible refine KS.mono ?_); rintro e w4 ⟨rfl, hb4⟩)
        | ((with_reducible refine (KN _).mono ?_); rintro e w' ⟨rfl, rfl⟩)
        | ((with_reducible refine (KM _).mono ?_); rintro e w' ⟨rfl, rfl⟩))
      go_ret
      exact ⟨ret_bool (by simp), B3.out.trans (hb4.mono B3s)⟩
    · have hy : ¬ (3000 : Int) < (s.size : Int) := by omega
      have hy2 : (s.size : Int) ≤ 3000 := by omega
      clear h3
      go_wp2_with (first
        | ((with_reducible refine KS.mono ?_); rintro e w4 ⟨rfl, hb4⟩)
        | ((with_reducible refine (KN _).mono ?_); rintro e w' ⟨rfl, rfl⟩)
        | ((with_reducible refine (KM _).mono ?_); rintro e w' ⟨rfl, rfl⟩)
        | ((with_reducible refine (KQ _).mono ?_); rintro e w5 ⟨rfl, hb5⟩)
        | ((with_reducible refine (KR _).mono ?_); rintro e w' ⟨rfl, rfl⟩))
      go_ret
      exact ⟨ret_bool (by simp), B3.out.trans ((hb4.trans (hb5.mono hb4.size)).mono B3s)⟩
end Go.Proofs.Ytclkolllflcmcaa.Lx
