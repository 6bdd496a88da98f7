/- LexerParts: the walk. -/
import Derived.Test.YtclkolllflcmcaaLxRefA
namespace Go.Proofs.Ytclkolllflcmcaa.Lx
open Go.RowKit
theorem app_list (a b : ByteArray) : (a ++ b).data.toList = a.data.toList ++ b.data.toList := by simp
theorem cat_line (a b : ByteArray) : (a ++ ⟨#[10]⟩ ++ b).data.toList = a.data.toList ++ 10 :: b.data.toList := by rw [app_list, app_list]; simp
theorem sh_zero (l : List Tk) : l.map (shT 0) = l := by
  have : (shT 0) = id := by funext t; cases t; rfl
  rw [this, List.map_id]
theorem lx_ats {a : Nat} {l : B} {ts : List Tk} {r : Option (Int × Nat)} (h : Lx a l ts r) : ∀ t ∈ ts, t.a ≤ a + l.length := by
  induction h with
  | done _ => intro t h; cases h
  | bad _ _ _ => intro t h; cases h
  | @tok a l m k t n ts r h h0 hn _ ih =>
    intro u hu
    have hg := gp_le false l
    rcases List.mem_cons.1 hu with rfl | hu
    · show a + gp false l ≤ _; omega
    · have := ih u hu
      have hw := nx_wr hn
      have hm : m.length = l.length - gp false l := by rw [← h, List.length_drop]
      rw [List.length_drop] at this
      omega
theorem Toks.left {w : World} {B : Nat} {ao : Option Addr} {l m : List Tk} (h : Toks w B ao (l ++ m)) : Toks w B ao l := fun h0 => by
  obtain ⟨g, off, e, hg, hc⟩ := h (by rw [List.length_append]; omega)
  refine ⟨g, off, e, hg, fun k t hk => hc k t ?_⟩
  rw [List.getElem?_append_left (List.getElem?_eq_some_iff.1 hk).1]; exact hk
theorem Toks.right {w : World} {B g off : Nat} {l m : List Tk} (h : Toks w B (some ⟨g, off, none⟩) (l ++ m)) : Toks w B (some ⟨g, off + l.length * 3, none⟩) m := fun h0 => by
  obtain ⟨g', off', e, hg, hc⟩ := h (by rw [List.length_append]; omega)
  injection e with e
  injection e with e1 e2 _
  subst e1 e2
  refine ⟨g, off + l.length * 3, rfl, hg, fun k t hk => ?_⟩
  have := hc (l.length + k) t (by rw [List.getElem?_append_right (by omega), Nat.add_sub_cancel_left]; exact hk)
  rw [show off + (l.length + k) * 3 = off + l.length * 3 + k * 3 by omega] at this
  exact this
theorem lex_n (s : ByteArray) (w : World) (ts : List Tk) (n : Nat) (e a : Int) (h : lexR s.data.toList = (ts, e, a)) (hn : ts.length = n) :
    Calls Try.prog 12 #[.string s] w fun x w' => (∃ ao cap, x = .returned (.tuple #[.slice ao n cap, .int .i64 e, .int .i64 a]) ∧ n ≤ cap ∧ Toks w' w'.heap.size ao ts) ∧ Below w.heap.size w w' := by
  subst hn
  exact lex_of s w ts e a h
theorem lex_s (s : ByteArray) (w : World) (ts : List Tk) (n : Nat) (e a : Int) (h : lexR s.data.toList = (ts, e, a)) (hn : ts.length = n) :
    Calls Try.prog 12 #[.string s] w fun x w' => (∃ ao cap, x = .returned (.tuple #[.slice ao n cap, .int .i64 e, .int .i64 a]) ∧ n ≤ cap ∧ Toks w' w'.heap.size ao ts ∧ ((ao = none ∧ n = 0 ∧ cap = 0) ∨ ∃ g, ao = some ⟨g, 0, none⟩)) ∧ Below w.heap.size w w' := by
  subst hn
  refine (lex_any s w).mono ?_
  rintro x w' ⟨⟨v, rfl, ho⟩, hb⟩
  rw [h] at ho ⊢
  have h2 := ho.2
  obtain ⟨ao, cap, rfl, hc, ht⟩ := ho.toks
  refine ⟨⟨ao, cap, rfl, hc, ht, ?_⟩, hb⟩
  rcases h2 with ⟨e, h0⟩ | ⟨g, cap', cur, e, _⟩
  · injection e with e1 e2 e3; exact .inl ⟨e1, e2, e3⟩
  · injection e with e1 e2 e3; exact .inr ⟨g, e1⟩
set_option maxRecDepth 100000 in
set_option maxHeartbeats 1000000 in
theorem parts_any (s u : ByteArray) (w : World) (hms : s.size ≤ maxLen) (hmu : u.size ≤ maxLen) : Calls Try.prog 6 #[.string s, .string u] w fun e w' => e = .returned (.bool true) ∧ Below w.heap.size w w' := by
  have KH := head_any w
  unfold maxLen at hms hmu
  by_cases hbig : 1500 < s.size
  · have hz : (1500 : Int) < (s.size : Int) := by omega
    go_enter Try.func6, Try.ntmps6
    go_wp2_with ((with_reducible refine KH.mono ?_); rintro e w1 ⟨rfl, hb1⟩)
    go_ret
    exact ⟨rfl, hb1⟩
  · have hz : ¬ (1500 : Int) < (s.size : Int) := by omega
    have hz2 : (s.size : Int) ≤ 1500 := by omega
    by_cases hbig2 : 1500 < u.size
    · have hy : (1500 : Int) < (u.size : Int) := by omega
      go_enter Try.func6, Try.ntmps6
      go_wp2_with ((with_reducible refine KH.mono ?_); rintro e w1 ⟨rfl, hb1⟩)
      go_ret
      exact ⟨rfl, hb1⟩
    · have hy : ¬ (1500 : Int) < (u.size : Int) := by omega
      have hy2 : (u.size : Int) ≤ 1500 := by omega
      obtain ⟨P1, P2, P3⟩ := lex_parts (one := s.data.toList) (two := u.data.toList) (by rw [len_data, len_data]; omega)
      rcases lex_cases s.data.toList (by rw [len_data]; omega) with ⟨ts, h1, r1, l1⟩ | ⟨ts, e0, x, h1, r1, he, hx⟩
      · rcases lex_cases u.data.toList (by rw [len_data]; omega) with ⟨us, h2, r2, l2⟩ | ⟨us, e2, x2, h2, r2, he2, hx2⟩
        · obtain ⟨n1, hn1⟩ : ∃ n, ts.length = n := ⟨_, rfl⟩
          obtain ⟨n2, hn2⟩ : ∃ n, us.length = n := ⟨_, rfl⟩
          obtain ⟨vs, hvs⟩ : ∃ vs, us.map (shT (s.data.toList.length + 1)) = vs := ⟨_, rfl⟩
          have K1 := fun W => lex_n s W ts n1 0 0 r1 hn1
          have K2 := fun W => lex_n u W us n2 0 0 r2 hn2
          have K3 := fun W => lex_s (s ++ ⟨#[10]⟩ ++ u) W (ts ++ vs) (n1 + n2) 0 0 (by rw [cat_line, ← hvs]; exact P1 ts us h1 h2) (by rw [List.length_append, ← hvs, List.length_map, hn1, hn2])
          have A1 := Lib.hid (lx_ats h1)
          have A2 := Lib.hid (lx_ats h2)
          have V := Lib.hid hvs
          rw [len_data, hn1] at l1
          rw [len_data, hn2] at l2
          have N1 := Lib.hid hn1
          have N2 := Lib.hid hn2
          clear P1 P2 P3 h1 h2 r1 r2 hn1 hn2 hvs
          go_enter Try.func6, Try.ntmps6
          go_wp2_with fail
          refine KH.mono ?_
          rintro e w1 ⟨rfl, hb1⟩
          have B1 := Lib.hid hb1
          clear hb1
          go_wp2_with fail
          refine (K1 _).mono ?_
          rintro e w2 ⟨⟨ao1, cap1, rfl, hc1, t1⟩, hb2⟩
          have B2 := Lib.hid (B1.out.trans (hb2.mono B1.out.size))
          have T1 := Lib.hid t1
          clear hb2 t1
          go_wp2_with fail
          refine (K2 _).mono ?_
          rintro e w3 ⟨⟨ao2, cap2, rfl, hc2, t2⟩, hb3⟩
          have B3 := Lib.hid (B2.out.trans (hb3.mono B2.out.size))
          have T1b := Lib.hid ((T1.out.below hb3 (Nat.le_refl _)).more hb3.size)
          have T2 := Lib.hid t2
          clear hb3 t2 T1
          go_wp2_with fail
          refine (K3 _).mono ?_
          rintro e w4 ⟨⟨ao3, cap3, rfl, hc3, t3, hsh⟩, hb4⟩
          have B4 := Lib.hid (B3.out.trans (hb4.mono B3.out.size))
          have T1c := Lib.hid ((T1b.out.below hb4 (Nat.le_refl _)).more hb4.size)
          have T2b := Lib.hid ((T2.out.below hb4 (Nat.le_refl _)).more hb4.size)
          have T3 := Lib.hid t3
          have hc3' : ((n1 : Int) + (n2 : Int)) ≤ (cap3 : Int) := by omega
          clear hb4 t3 T1b T2 B1 B2 B3
          have A1b := Lib.hid (show ∀ t ∈ ts, t.a ≤ 100000 from fun t ht => by have := A1.out t ht; rw [len_data] at this; omega)
          have A2b := Lib.hid (show ∀ t ∈ us, t.a ≤ 100000 from fun t ht => by have := A2.out t ht; rw [len_data] at this; omega)
          have S1 : ∀ ao3 cap3, n1 ≤ cap3 → Toks w4 w4.heap.size ao3 ts → Calls Try.prog 14 #[.slice ao1 n1 cap1, .int .i64 0, .slice ao3 n1 cap3] w4 fun e w' => e = .returned (.bool true) ∧ Below w4.heap.size w4 w' := fun ao3 cap3 hc t => same_any ao1 ao3 n1 cap1 cap3 0 ts w4 N1.out T1c.out (by rw [sh_zero]; exact t) hc1 hc (by omega) (by omega) A1b.out
          have S2 : ∀ w5 ao4 cap4, Below w4.heap.size w4 w5 → n2 ≤ cap4 → Toks w4 w4.heap.size ao4 vs → Calls Try.prog 14 #[.slice ao2 n2 cap2, .int .i64 ((s.size : Int) + 1), .slice ao4 n2 cap4] w5 fun e w' => e = .returned (.bool true) ∧ Below w5.heap.size w5 w' := fun w5 ao4 cap4 hb hc t => by
            have := same_any ao2 ao4 n2 cap2 cap4 (s.size + 1) us w5 N2.out ((T2b.out.below hb (Nat.le_refl _)).more hb.size) (by have h3 := V.out; rw [len_data] at h3; rw [h3]; exact (t.below hb (Nat.le_refl _)).more hb.size) hc2 hc (by omega) (by omega) A2b.out
            rw [show ((s.size + 1 : Nat) : Int) = (s.size : Int) + 1 by omega] at this
            exact this
          have SH := Lib.hid hsh
          clear hsh
          rcases SH.out with ⟨rfl, h0, rfl⟩ | ⟨g, rfl⟩
          · obtain rfl : n1 = 0 := by omega
            obtain rfl : n2 = 0 := by omega
            have E1 : vs = [] := List.eq_nil_of_length_eq_zero (by rw [← V.out, List.length_map, N2.out])
            have S1b := S1 none 0 (Nat.zero_le _) (fun h => by have := N1.out; omega)
            have S2b := fun w5 hb => S2 w5 none 0 hb (Nat.zero_le _) (fun h => by rw [E1] at h; simp at h)
            clear S1 S2 E1 SH h0
            go_wp2_with (first
              | ((with_reducible refine S1b.mono ?_); rintro e w5 ⟨rfl, hb5⟩)
              | ((with_reducible refine (S2b _ hb5).mono ?_); rintro e w6 ⟨rfl, hb6⟩))
            go_ret
            exact ⟨ret_bool (by first | rfl | simp), B4.out.trans ((hb5.trans (hb6.mono hb5.size)).mono B4.out.size)⟩
          · have S1b := S1 (some ⟨g, 0, none⟩) cap3 (by omega) T3.out.left
            by_cases hcap : cap3 = n1
            · obtain rfl : n2 = 0 := by omega
              have E1 : vs = [] := List.eq_nil_of_length_eq_zero (by rw [← V.out, List.length_map, N2.out])
              have S2b := fun w5 hb ao4 => S2 w5 ao4 0 hb (Nat.zero_le _) (fun h => by rw [E1] at h; simp at h)
              subst hcap
              clear S1 S2 E1 SH
              go_wp2_with (first
                | ((with_reducible refine S1b.mono ?_); rintro e w5 ⟨rfl, hb5⟩)
                | ((with_reducible refine (S2b _ hb5 _).mono ?_); rintro e w6 ⟨rfl, hb6⟩))
              go_ret
              exact ⟨ret_bool (by first | rfl | simp), B4.out.trans ((hb5.trans (hb6.mono hb5.size)).mono B4.out.size)⟩
            · have hlt : n1 < cap3 := by omega
              have S2b := fun w5 hb cap4 (hc : n2 ≤ cap4) => S2 w5 (some ⟨g, n1 * 3, none⟩) cap4 hb hc (by have := T3.out.right; rw [N1.out, Nat.zero_add] at this; exact this)
              clear S1 S2 SH
              go_wp2_with (first
                | ((with_reducible refine S1b.mono ?_); rintro e w5 ⟨rfl, hb5⟩)
                | ((with_reducible refine (S2b _ hb5 (cap3 - n1) (by omega)).mono ?_); rintro e w6 ⟨rfl, hb6⟩))
              go_ret
              exact ⟨ret_bool (by first | rfl | simp), B4.out.trans ((hb5.trans (hb6.mono hb5.size)).mono B4.out.size)⟩
        · have K1 := fun W => lex_of s W ts 0 0 r1
          have K2 := fun W => lex_of u W [] e2 x2 r2
          have K3 := fun W => lex_of (s ++ ⟨#[10]⟩ ++ u) W [] e2 ((x2 + (s.data.toList.length + 1) : Nat) : Int) (by rw [cat_line]; exact P2 ts us e2 x2 h1 h2)
          rw [len_data, show ((x2 + (s.size + 1) : Nat) : Int) = (x2 : Int) + (s.size : Int) + 1 by omega] at K3
          have he1 : (e2 == 0) = false := by rw [beq_eq_false_iff_ne]; omega
          have he3 : (e2 != 0) = true := by simp [bne, he1]
          rw [len_data] at hx2
          have hx3 : (x2 : Int) ≤ 1500 := by omega
          clear P1 P2 P3 h1 h2 r1 r2 l1 he2
          go_enter Try.func6, Try.ntmps6
          go_wp2_with (first
            | ((with_reducible refine KH.mono ?_); rintro e w1 ⟨rfl, hb1⟩)
            | ((with_reducible refine (K1 _).mono ?_); rintro e w2 ⟨⟨ao1, cap1, rfl, hc1, _⟩, hb2⟩)
            | ((with_reducible refine (K2 _).mono ?_); rintro e w3 ⟨⟨ao2, cap2, rfl, hc2, _⟩, hb3⟩)
            | ((with_reducible refine (K3 _).mono ?_); rintro e w4 ⟨⟨ao3, cap3, rfl, hc3, _⟩, hb4⟩))
          go_ret
          exact ⟨ret_bool (by first | rfl | simp), hb1.trans ((hb2.trans ((hb3.trans (hb4.mono hb3.size)).mono hb2.size)).mono hb1.size)⟩
      · have K1 := fun W => lex_of s W [] e0 x r1
        have K3 := fun W => lex_of (s ++ ⟨#[10]⟩ ++ u) W [] e0 x (by rw [cat_line]; exact P3 ts e0 x h1)
        have K2 := fun W => lex_any u W
        have he1 : (e0 == 0) = false := by rw [beq_eq_false_iff_ne]; omega
        have he3 : (e0 != 0) = true := by simp [bne, he1]
        generalize lexR u.data.toList = R at K2
        clear P1 P2 P3 h1 r1 he
        go_enter Try.func6, Try.ntmps6
        go_wp2_with (first
          | ((with_reducible refine KH.mono ?_); rintro e w1 ⟨rfl, hb1⟩)
          | ((with_reducible refine (K1 _).mono ?_); rintro e w2 ⟨⟨ao1, cap1, rfl, hc1, _⟩, hb2⟩)
          | ((with_reducible refine (K2 _).mono ?_); rintro e w3 ⟨⟨v3, rfl, _⟩, hb3⟩)
          | ((with_reducible refine (K3 _).mono ?_); rintro e w4 ⟨⟨ao3, cap3, rfl, hc3, _⟩, hb4⟩))
        go_ret
        exact ⟨ret_bool (by first | rfl | simp), hb1.trans ((hb2.trans ((hb3.trans (hb4.mono hb3.size)).mono hb2.size)).mono hb1.size)⟩
end Go.Proofs.Ytclkolllflcmcaa.Lx
