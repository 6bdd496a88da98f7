/- LexerNames: decimal digits; the walk. -/
import Derived.Test.YtclkolllflcmcaaLxHead
import Derived.Test.YtclkolllflcmcaaLxLaws2
namespace Go.Proofs.Ytclkolllflcmcaa.Lx
open Go.RowKit
/-- what is known of decimal digits. -/
structure Dec (z : Int) (d : B) : Prop where
  ne : d ≠ []
  dig : d.all isDig = true
  len : ∀ k : Nat, 0 < k → z < 10 ^ k → d.length ≤ k
theorem dec_one (n : Nat) (h : n < 10) : Dec n [UInt8.ofNat (48 + n)] :=
  ⟨by simp, (show ∀ n : Fin 10, ([UInt8.ofNat (48 + n.1)] : B).all isDig = true by decide +kernel) ⟨n, h⟩, fun k hk _ => hk⟩
set_option maxRecDepth 100000 in
theorem dec_leaf (n : Nat) (h : n < 10) (w : World) : Calls Try.prog 23 #[.int .i64 (n : Int)] w fun e w' => e = .returned (.string ⟨([UInt8.ofNat (48 + n)] : B).toArray⟩) ∧ w = w' := by
  have hn : n = 0 ∨ n = 1 ∨ n = 2 ∨ n = 3 ∨ n = 4 ∨ n = 5 ∨ n = 6 ∨ n = 7 ∨ n = 8 ∨ n = 9 := by omega
  rcases hn with rfl | rfl | rfl | rfl | rfl | rfl | rfl | rfl | rfl | rfl
  all_goals
    go_enter Try.func23, Try.ntmps23
    go_wp2
    go_ret
    exact ⟨rfl, rfl⟩
theorem dec_cat {n : Nat} {d1 d2 : B} (h10 : ¬ n < 10) (p1 : Dec (n / 10 : Nat) d1) (p2 : Dec (n % 10 : Nat) d2) : Dec n (d1 ++ d2) := by
  have l2 : d2.length ≤ 1 := p2.len 1 (by omega) (by omega)
  refine ⟨by simp [p1.ne], by rw [List.all_append, p1.dig, p2.dig]; rfl, fun k hk hp => ?_⟩
  cases k with
  | zero => omega
  | succ k =>
    by_cases hk0 : k = 0
    · subst hk0; omega
    · have : d1.length ≤ k := p1.len k (by omega) (by
        rw [Int.pow_succ] at hp
        omega)
      rw [List.length_append]; omega
set_option maxRecDepth 100000 in
set_option maxHeartbeats 1000000 in
theorem dec_step (n : Nat) (hm : n ≤ 9999999) (h10 : ¬ n < 10) (d1 d2 : B) (l1 : d1.length ≤ 7) (l2 : d2.length ≤ 1) (w : World)
    (K1 : ∀ W, Calls Try.prog 23 #[.int .i64 ((n : Int) / 10)] W fun e w' => e = .returned (.string ⟨d1.toArray⟩) ∧ W = w')
    (K2 : ∀ W, Calls Try.prog 23 #[.int .i64 ((n : Int) % 10)] W fun e w' => e = .returned (.string ⟨d2.toArray⟩) ∧ W = w') :
    Calls Try.prog 23 #[.int .i64 (n : Int)] w fun e w' => e = .returned (.string ⟨(d1 ++ d2).toArray⟩) ∧ w = w' := by
  have hz : ¬ (n : Int) < 10 := by omega
  have hz2 : (n : Int) ≤ 9999999 := by omega
  go_enter Try.func23, Try.ntmps23
  go_wp2_with (first
    | ((with_reducible refine (K1 _).mono ?_); rintro e w1 ⟨rfl, rfl⟩)
    | ((with_reducible refine (K2 _).mono ?_); rintro e w2 ⟨rfl, rfl⟩))
  go_ret
  exact ⟨ret_str (str_of (by rw [ByteArray.data_append]; simp)), rfl⟩
theorem dec_any (n : Nat) : n ≤ 9999999 → ∃ d, Dec n d ∧ ∀ w, Calls Try.prog 23 #[.int .i64 (n : Int)] w fun e w' => e = .returned (.string ⟨d.toArray⟩) ∧ w = w' := by
  induction n using Nat.strongRecOn with
  | ind n ih =>
    intro hm
    by_cases h10 : n < 10
    · exact ⟨_, dec_one n h10, dec_leaf n h10⟩
    · obtain ⟨d1, p1, K1⟩ := ih (n / 10) (by omega) (by omega)
      obtain ⟨d2, p2, K2⟩ := ih (n % 10) (by omega) (by omega)
      exact ⟨_, dec_cat h10 p1 p2, fun w => dec_step n hm h10 d1 d2 (p1.len 7 (by omega) (by omega)) (p2.len 1 (by omega) (by omega)) w K1 K2⟩
theorem sym_at (k : Nat) (h : k < 15) : ∃ c : UInt8, isSym c = true ∧ ByteArray.extract ⟨#[61, 59, 60, 62, 40, 41, 123, 125, 91, 93, 44, 46, 58, 47, 45]⟩ k (k + 1) = ⟨#[c]⟩ := by
  have hk : k = 0 ∨ k = 1 ∨ k = 2 ∨ k = 3 ∨ k = 4 ∨ k = 5 ∨ k = 6 ∨ k = 7 ∨ k = 8 ∨ k = 9 ∨ k = 10 ∨ k = 11 ∨ k = 12 ∨ k = 13 ∨ k = 14 := by omega
  rcases hk with rfl | rfl | rfl | rfl | rfl | rfl | rfl | rfl | rfl | rfl | rfl | rfl | rfl | rfl | rfl
  all_goals exact ⟨_, by decide +kernel, rfl⟩
set_option maxRecDepth 100000 in
set_option maxHeartbeats 1000000 in
theorem names_any (s : ByteArray) (n c : Int) (w : World) (hms : s.size ≤ maxLen) (hn : 0 ≤ n ∧ n ≤ 18446744073709551615) (hc : 0 ≤ c ∧ c ≤ 255) : Calls Try.prog 10 #[.string s, .int .u64 n, .int .u8 c] w fun e w' => e = .returned (.bool true) ∧ Below w.heap.size w w' := by
  have KH := head_any w
  unfold maxLen at hms
  obtain ⟨hn0, hn1⟩ := hn
  obtain ⟨hc0, hc1⟩ := hc
  by_cases hbig : 3000 < s.size
  · have hz : (3000 : Int) < (s.size : Int) := by omega
    go_enter Try.func10, Try.ntmps10
    go_wp2_with ((with_reducible refine KH.mono ?_); rintro e w1 ⟨rfl, hb1⟩)
    go_ret
    exact ⟨rfl, hb1⟩
  · have hz : ¬ (3000 : Int) < (s.size : Int) := by omega
    have hz2 : (s.size : Int) ≤ 3000 := by omega
    obtain ⟨l, hl⟩ : ∃ l, s.data.toList = l := ⟨_, rfl⟩
    obtain rfl := str_of hl
    have hsz : l.length ≤ 3000 := by have := str_size l; omega
    have KN := fun W => name_any ⟨l.toArray⟩ W (by rw [str_size]; omega)
    rw [str_eq] at KN
    by_cases hnm : nmB l = true
    · rw [hnm] at KN
      have K1 := fun W => lex_of ⟨l.toArray⟩ W [⟨1, l, 0⟩] 0 0 (by rw [str_eq]; exact name_lex hnm (by omega))
      dsimp only [List.length_cons, List.length_nil] at K1
      obtain ⟨q, hq⟩ : ∃ q : Nat, n % 10000000 = q := ⟨(n % 10000000).toNat, by omega⟩
      obtain ⟨d, pd, KD⟩ := dec_any q (by omega)
      have hd7 : d.length ≤ 7 := pd.len 7 (by omega) (by omega)
      rw [← hq] at KD
      obtain ⟨k, hk⟩ : ∃ k : Nat, c % 15 = k := ⟨(c % 15).toNat, by omega⟩
      obtain ⟨y, hy, hx⟩ := sym_at k (by omega)
      have K2 := fun W => lex_of (⟨l.toArray⟩ ++ ⟨#[y]⟩ ++ ⟨d.toArray⟩) W _ 0 0 (by
        rw [ByteArray.data_append, ByteArray.data_append]
        simp only [Array.toList_append]
        exact lex_three hnm hy pd.ne pd.dig hd7)
      dsimp only [List.length_cons, List.length_nil] at K2
      have q0 : 0 ≤ n % 10000000 := by omega
      have q1 : n % 10000000 < 10000000 := by omega
      have k0 : 0 ≤ c % 15 := by omega
      have k1 : c % 15 < 15 := by omega
      clear hq hnm pd
      go_enter Try.func10, Try.ntmps10
      go_wp2_with (first
        | ((with_reducible refine KH.mono ?_); rintro e w1 ⟨rfl, hb1⟩)
        | ((with_reducible refine (K1 _).mono ?_); rintro e w3 ⟨⟨ao, cap, rfl, hcap, ht⟩, hb3⟩; obtain ⟨g, off, rfl, hg, hcell⟩ := ht (by simp); obtain ⟨c0, c1, c2⟩ := hcell 0 _ rfl; have hcap' : (1 : Int) ≤ (cap : Int) := (by have : 1 ≤ cap := hcap; omega); clear hcell ht hcap; dsimp only at c0 c1 c2; simp only [Nat.zero_mul, Nat.add_zero] at c0 c1 c2)
        | ((with_reducible refine (KN _).mono ?_); rintro e w4 ⟨rfl, rfl⟩)
        | ((with_reducible refine (KD _).mono ?_); rintro e w5 ⟨rfl, rfl⟩)
        | ((with_reducible refine (K2 _).mono ?_); rintro e w6 ⟨⟨ao2, cap2, rfl, hcap2, ht2⟩, hb6⟩; obtain ⟨g2, off2, rfl, hg2, hcell2⟩ := ht2 (by simp); obtain ⟨d0, d1, d2⟩ := hcell2 0 _ rfl; obtain ⟨e0, e1, e2⟩ := hcell2 1 _ rfl; obtain ⟨f0, f1, f2⟩ := hcell2 2 _ rfl; have hcap2' : (3 : Int) ≤ (cap2 : Int) := (by have : 3 ≤ cap2 := hcap2; omega); clear hcell2 ht2 hcap2; dsimp only at d0 d1 d2 e0 e1 e2 f0 f1 f2; simp only [Nat.zero_mul, Nat.one_mul, Nat.add_zero, Nat.add_assoc, Nat.reduceMul, Nat.reduceAdd] at d0 d1 d2 e0 e1 e2 f0 f1 f2))
      go_ret
      exact ⟨ret_bool (by simp), hb1.trans ((hb3.trans (hb6.mono hb3.size)).mono hb1.size)⟩
    · have hnm' : nmB l = false := by simpa using hnm
      rw [hnm'] at KN
      clear hnm'
      rcases lex_cases l (by omega) with ⟨ts, h1, h2, _⟩ | ⟨ts, e0, x, h1, h2, h3, _⟩
      · have hno : ts ≠ [⟨1, l, 0⟩] := fun h => hnm (lex_name (l := l) (by omega) (by rw [h2, h]))
        have K1 := fun W => lex_of ⟨l.toArray⟩ W ts 0 0 (by rw [str_eq]; exact h2)
        clear h1 h2 hnm hl
        by_cases hlen : ts.length = 1
        · obtain ⟨t, rfl⟩ : ∃ t, ts = [t] := by
            match ts, hlen with
            | [t], _ => exact ⟨t, rfl⟩
          obtain ⟨tk, tt, ta⟩ := t
          have hno2 : ¬ (tk = 1 ∧ tt = l ∧ ta = 0) := by rintro ⟨rfl, rfl, rfl⟩; exact hno rfl
          clear hno hlen
          dsimp only [List.length_cons, List.length_nil] at K1
          go_enter Try.func10, Try.ntmps10
          go_wp2_with (first
            | ((with_reducible refine KH.mono ?_); rintro e w1 ⟨rfl, hb1⟩)
            | ((with_reducible refine (K1 _).mono ?_); rintro e w3 ⟨⟨ao, cap, rfl, hcap, ht⟩, hb3⟩; obtain ⟨g, off, rfl, hg, hcell⟩ := ht (by simp); obtain ⟨c0, c1, c2⟩ := hcell 0 _ rfl; have hcap' : (1 : Int) ≤ (cap : Int) := (by have : 1 ≤ cap := hcap; omega); clear hcell ht hcap; dsimp only at c0 c1 c2; simp only [Nat.zero_mul, Nat.add_zero] at c0 c1 c2)
            | ((with_reducible refine (KN _).mono ?_); rintro e w4 ⟨rfl, rfl⟩))
          all_goals first
            | (exfalso; exact hno2 ⟨by assumption, by assumption, by assumption⟩)
            | (go_ret; exact ⟨rfl, hb1.trans (hb3.mono hb1.size)⟩)
        · have hlen2 : ((ts.length : Int) == 1) = false := by rw [beq_eq_false_iff_ne]; omega
          go_enter Try.func10, Try.ntmps10
          go_wp2_with (first
            | ((with_reducible refine KH.mono ?_); rintro e w1 ⟨rfl, hb1⟩)
            | ((with_reducible refine (K1 _).mono ?_); rintro e w3 ⟨⟨ao, cap, rfl, hcap, ht⟩, hb3⟩)
            | ((with_reducible refine (KN _).mono ?_); rintro e w4 ⟨rfl, rfl⟩))
          go_ret
          exact ⟨rfl, hb1.trans (hb3.mono hb1.size)⟩
      · have K1 := fun W => lex_of ⟨l.toArray⟩ W [] e0 x (by rw [str_eq]; exact h2)
        have he1 : (e0 == 0) = false := by rw [beq_eq_false_iff_ne]; omega
        clear h1 h2 hnm hl h3
        go_enter Try.func10, Try.ntmps10
        go_wp2_with (first
          | ((with_reducible refine KH.mono ?_); rintro e w1 ⟨rfl, hb1⟩)
          | ((with_reducible refine (K1 _).mono ?_); rintro e w3 ⟨⟨ao, cap, rfl, hcap, ht⟩, hb3⟩)
          | ((with_reducible refine (KN _).mono ?_); rintro e w4 ⟨rfl, rfl⟩))
        go_ret
        exact ⟨rfl, hb1.trans (hb3.mono hb1.size)⟩
end Go.Proofs.Ytclkolllflcmcaa.Lx
