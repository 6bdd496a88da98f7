/- LexerBeginnings, LexerQuotes: the walks. -/
import Derived.Test.YtclkolllflcmcaaLxHead
import Derived.Test.YtclkolllflcmcaaLxLaws
namespace Go.Proofs.Ytclkolllflcmcaa.Lx
open Go.RowKit
theorem ext_zero (s : ByteArray) (b : Nat) : (s.extract 0 b).data.toList = s.data.toList.take b := by rw [ext_list, List.drop_zero, Nat.sub_zero]
set_option maxRecDepth 100000 in
set_option maxHeartbeats 1000000 in
theorem begins_any (s : ByteArray) (w : World) : Calls Try.prog 7 #[.string s] w fun e w' => e = .returned (.bool true) ∧ Below w.heap.size w w' := by
  have KH := head_any w
  by_cases hbig : 3000 < s.size
  · have hz : (3000 : Int) < (s.size : Int) := by omega
    go_enter Try.func7, Try.ntmps7
    go_wp2_with ((with_reducible refine KH.mono ?_); rintro e w1 ⟨rfl, hb1⟩)
    go_ret
    exact ⟨rfl, hb1⟩
  · have hz : ¬ (3000 : Int) < (s.size : Int) := by omega
    have hz2 : (s.size : Int) ≤ 3000 := by omega
    rcases lex_cases s.data.toList (by rw [len_data]; omega) with ⟨ts, hl, hr, _⟩ | ⟨ts, e0, x, hl, hr, he, hx⟩
    · have K1 := fun W => lex_of s W _ _ _ hr
      clear hr hl
      go_enter Try.func7, Try.ntmps7
      go_wp2_with (first
        | ((with_reducible refine KH.mono ?_); rintro e w1 ⟨rfl, hb1⟩)
        | ((with_reducible refine (K1 _).mono ?_); rintro e w2 ⟨⟨ao, cap, rfl, _, _⟩, hb2⟩))
      go_ret
      exact ⟨rfl, hb1.trans (hb2.mono hb1.size)⟩
    · rw [len_data] at hx
      obtain ⟨b1, b2⟩ := lex_begins hl (by rw [len_data]; omega)
      have K1 := fun W => lex_of s W _ _ _ hr
      have K2 := fun W => lex_of (s.extract 0 x) W ts 0 0 (by rw [ext_zero]; exact b1)
      have K3 := fun W => lex_of (s.extract x s.size) W [] e0 0 (by rw [ext_end]; exact b2)
      have he1 : (e0 == 0) = false := by rw [beq_eq_false_iff_ne]; omega
      have hx1 : (x : Int) < (s.size : Int) := by omega
      have hx2 : ¬ (s.size : Int) ≤ (x : Int) := by omega
      have hx3 : (x : Int) ≤ (s.size : Int) := by omega
      clear hr hl b1 b2 he
      go_enter Try.func7, Try.ntmps7
      go_wp2_with (first
        | ((with_reducible refine KH.mono ?_); rintro e w1 ⟨rfl, hb1⟩)
        | ((with_reducible refine (K1 _).mono ?_); rintro e w2 ⟨⟨ao, cap, rfl, _, _⟩, hb2⟩)
        | ((with_reducible refine (K2 _).mono ?_); rintro e w3 ⟨⟨ao2, cap2, rfl, _, _⟩, hb3⟩)
        | ((with_reducible refine (K3 _).mono ?_); rintro e w4 ⟨⟨ao3, cap3, rfl, _, _⟩, hb4⟩))
      go_ret
      exact ⟨ret_bool (by first | rfl | simp), hb1.trans ((hb2.trans ((hb3.trans (hb4.mono hb3.size)).mono hb2.size)).mono hb1.size)⟩
set_option maxRecDepth 100000 in
set_option maxHeartbeats 1000000 in
theorem quotes_any (s u : ByteArray) (w : World) (hms : s.size ≤ maxLen) (hmu : u.size ≤ maxLen) : Calls Try.prog 9 #[.string s, .string u] w fun e w' => e = .returned (.bool true) ∧ Below w.heap.size w w' := by
  have KH := head_any w
  unfold maxLen at hms hmu
  by_cases hbig : 2000 < s.size
  · have hz : (2000 : Int) < (s.size : Int) := by omega
    go_enter Try.func9, Try.ntmps9
    go_wp2_with ((with_reducible refine KH.mono ?_); rintro e w1 ⟨rfl, hb1⟩)
    go_ret
    exact ⟨rfl, hb1⟩
  · have hz : ¬ (2000 : Int) < (s.size : Int) := by omega
    have hz2 : (s.size : Int) ≤ 2000 := by omega
    by_cases hbig2 : 2000 < u.size
    · have hy : (2000 : Int) < (u.size : Int) := by omega
      go_enter Try.func9, Try.ntmps9
      go_wp2_with ((with_reducible refine KH.mono ?_); rintro e w1 ⟨rfl, hb1⟩)
      go_ret
      exact ⟨rfl, hb1⟩
    · have hy : ¬ (2000 : Int) < (u.size : Int) := by omega
      have hy2 : (u.size : Int) ≤ 2000 := by omega
      obtain ⟨l, hl⟩ : ∃ l, s.data.toList = l := ⟨_, rfl⟩
      obtain rfl := str_of hl
      obtain ⟨m, hm⟩ : ∃ m, u.data.toList = m := ⟨_, rfl⟩
      obtain rfl := str_of hm
      have hsz : l.length ≤ 2000 := by have := str_size l; omega
      have hsu : m.length ≤ 2000 := by have := str_size m; omega
      have K1 := fun W => quote_any ⟨l.toArray⟩ W (by rw [str_size]; omega)
      have K2 := fun W => quote_any ⟨m.toArray⟩ W (by rw [str_size]; omega)
      rw [str_eq] at K1 K2
      have K3 := fun W => lex_of ⟨(quote l).toArray⟩ W [⟨3, l, 0⟩] 0 0 (by rw [str_eq]; exact lex_quote l hsz)
      dsimp only [List.length_cons, List.length_nil] at K3
      have HQ : Hid ((quote l == quote m) = (l == m)) := Lib.hid (by
        rw [Bool.eq_iff_iff, beq_iff_eq, beq_iff_eq]
        exact ⟨quote_inj, fun e => by rw [e]⟩)
      clear hl hm
      go_enter Try.func9, Try.ntmps9
      go_wp2_with (first
        | ((with_reducible refine KH.mono ?_); rintro e w1 ⟨rfl, hb1⟩)
        | ((with_reducible refine (K1 _).mono ?_); rintro e w2 ⟨rfl, hb2⟩)
        | ((with_reducible refine (K3 _).mono ?_); rintro e w3 ⟨⟨ao, cap, rfl, hcap, ht⟩, hb3⟩; obtain ⟨g, off, rfl, hg, hcell⟩ := ht (by simp); obtain ⟨c0, c1, c2⟩ := hcell 0 _ rfl; have hcap' : (1 : Int) ≤ (cap : Int) := (by have : 1 ≤ cap := hcap; omega); clear hcell ht hcap; dsimp only at c0 c1 c2; simp only [Nat.zero_mul, Nat.add_zero] at c0 c1 c2)
        | ((with_reducible refine (K2 _).mono ?_); rintro e w4 ⟨rfl, hb4⟩))
      go_ret
      exact ⟨ret_bool (by rw [HQ.out]; simp), hb1.trans ((hb2.trans ((hb3.trans (hb4.mono hb3.size)).mono hb2.size)).mono hb1.size)⟩
end Go.Proofs.Ytclkolllflcmcaa.Lx
