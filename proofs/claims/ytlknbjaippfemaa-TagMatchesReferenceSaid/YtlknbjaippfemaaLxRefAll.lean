/- Merged: LxBeginWalk, LxRefA, LxPartsWalk, LxRefB, LxRefC, LxRefD, LxRefE, LxRefF. -/
import Derived.Test.YtlknbjaippfemaaLxHead
import Derived.Test.YtlknbjaippfemaaLxLaws
import Derived.OwnWalk
import Derived.Laws.ResultCell
/- LexerBeginnings, LexerQuotes: the walks. -/
namespace Go.Proofs.Ytlknbjaippfemaa.Lx
open Go.RowKit
theorem ext_zero (s : ByteArray) (b : Nat) : (s.extract 0 b).data.toList = s.data.toList.take b := by rw [ext_list, List.drop_zero, Nat.sub_zero]
end Go.Proofs.Ytlknbjaippfemaa.Lx
/- The reference: Same, Alike, of lists that are so. -/
namespace Go.Proofs.Ytlknbjaippfemaa.Lx
open Go.RowKit
theorem Toks.at_ {w : World} {B : Nat} {ao : Option Addr} {l : List Tk} {k : Nat} (h : Toks w B ao l) (hk : k < l.length) : ∃ g off, ao = some ⟨g, off, none⟩ ∧ g < B ∧
    w.cell? ⟨g, off + k * 3, none⟩ = some (.int .i64 l[k].k) ∧ w.cell? ⟨g, off + k * 3 + 1, none⟩ = some (.string ⟨l[k].t.toArray⟩) ∧ w.cell? ⟨g, off + k * 3 + 2, none⟩ = some (.int .i64 (l[k].a : Int)) := by
  obtain ⟨g, off, e, hg, hc⟩ := h (by omega)
  exact ⟨g, off, e, hg, hc k _ (List.getElem?_eq_getElem hk)⟩
end Go.Proofs.Ytlknbjaippfemaa.Lx
/- LexerParts: the walk. -/
namespace Go.Proofs.Ytlknbjaippfemaa.Lx
open Go.RowKit
theorem app_list (a b : ByteArray) : (a ++ b).data.toList = a.data.toList ++ b.data.toList := by simp
theorem cat_line (a b : ByteArray) : (a ++ ⟨#[10]⟩ ++ b).data.toList = a.data.toList ++ 10 :: b.data.toList := by rw [app_list, app_list]; simp
theorem sh_zero (l : List Tk) : l.map (shT 0) = l := by
  have : (shT 0) = id := by funext t; cases t; rfl
  rw [this, List.map_id]
theorem lx_ats {a : Nat} {l : B} {ts : List Tk} {r : Option (Int × Nat)} (h : Lx a l ts r) : ∀ t ∈ ts, t.a ≤ a + l.length := by
  induction h with
  | done _ => intro t h; cases h
  | bad _ _ _ => intro t h; cases h
  | @tok a l m k t n ts r h h0 hn _ ih =>
    intro u hu
    have hg := gp_le false l
    rcases List.mem_cons.1 hu with rfl | hu
    · show a + gp false l ≤ _; omega
    · have := ih u hu
      have hw := nx_wr hn
      have hm : m.length = l.length - gp false l := by rw [← h, List.length_drop]
      rw [List.length_drop] at this
      omega
theorem Toks.left {w : World} {B : Nat} {ao : Option Addr} {l m : List Tk} (h : Toks w B ao (l ++ m)) : Toks w B ao l := fun h0 => by
  obtain ⟨g, off, e, hg, hc⟩ := h (by rw [List.length_append]; omega)
  refine ⟨g, off, e, hg, fun k t hk => hc k t ?_⟩
  rw [List.getElem?_append_left (List.getElem?_eq_some_iff.1 hk).1]; exact hk
theorem Toks.right {w : World} {B g off : Nat} {l m : List Tk} (h : Toks w B (some ⟨g, off, none⟩) (l ++ m)) : Toks w B (some ⟨g, off + l.length * 3, none⟩) m := fun h0 => by
  obtain ⟨g', off', e, hg, hc⟩ := h (by rw [List.length_append]; omega)
  injection e with e
  injection e with e1 e2 _
  subst e1 e2
  refine ⟨g, off + l.length * 3, rfl, hg, fun k t hk => ?_⟩
  have := hc (l.length + k) t (by rw [List.getElem?_append_right (by omega), Nat.add_sub_cancel_left]; exact hk)
  rw [show off + (l.length + k) * 3 = off + l.length * 3 + k * 3 by omega] at this
  exact this
theorem lex_n (s : ByteArray) (w : World) (ts : List Tk) (n : Nat) (e a : Int) (h : lexR s.data.toList = (ts, e, a)) (hn : ts.length = n) :
    Calls Try.prog 38 #[.string s] w fun x w' => (∃ ao cap, x = .returned (.tuple #[.slice ao n cap, .int .i64 e, .int .i64 a]) ∧ n ≤ cap ∧ Toks w' w'.heap.size ao ts) ∧ Below w.heap.size w w' := by
  subst hn
  exact lex_of s w ts e a h
theorem lex_s (s : ByteArray) (w : World) (ts : List Tk) (n : Nat) (e a : Int) (h : lexR s.data.toList = (ts, e, a)) (hn : ts.length = n) :
    Calls Try.prog 38 #[.string s] w fun x w' => (∃ ao cap, x = .returned (.tuple #[.slice ao n cap, .int .i64 e, .int .i64 a]) ∧ n ≤ cap ∧ Toks w' w'.heap.size ao ts ∧ ((ao = none ∧ n = 0 ∧ cap = 0) ∨ ∃ g, ao = some ⟨g, 0, none⟩)) ∧ Below w.heap.size w w' := by
  subst hn
  refine (lex_any s w).mono ?_
  rintro x w' ⟨⟨v, rfl, ho⟩, hb⟩
  rw [h] at ho ⊢
  have h2 := ho.2
  obtain ⟨ao, cap, rfl, hc, ht⟩ := ho.toks
  refine ⟨⟨ao, cap, rfl, hc, ht, ?_⟩, hb⟩
  rcases h2 with ⟨e, h0⟩ | ⟨g, cap', cur, e, _⟩
  · injection e with e1 e2 e3; exact .inl ⟨e1, e2, e3⟩
  · injection e with e1 e2 e3; exact .inr ⟨g, e1⟩
end Go.Proofs.Ytlknbjaippfemaa.Lx
/- The reference: has, gap, Gaps, Name. -/
namespace Go.Proofs.Ytlknbjaippfemaa.Lx
open Go.RowKit
def hasB (l : B) (c : UInt8) : Bool := l.any (· == c)
set_option maxRecDepth 100000 in
set_option maxHeartbeats 400000 in
theorem has_any (s : ByteArray) (c : UInt8) (w : World) (hm : s.size ≤ 1000) :
    Calls Try.prog 66 #[.string s, .int .u8 c.toNat] w fun e w' => e = .returned (.bool (hasB s.data.toList c)) ∧ w = w' := by
  go_enter Try.func66, Try.ntmps66
  go_wp2
  go_loop [5] (fun i => ∃ k : Nat, k ≤ s.size ∧ i = .int .i64 k ∧ Hid (hasB (s.data.toList.take k) c = false)) (fun i => s.size - (intOf i).toNat)
  case atStart => exact ⟨0, Nat.zero_le _, rfl, Lib.hid rfl⟩
  case round =>
    obtain ⟨k, hk, rfl, hall⟩ := hrel
    by_cases hlt : k < s.size
    · have ht := take_snoc s k hlt
      by_cases he : s[k] = c
      · have e1 : ((s[k].toNat : Int) == (c.toNat : Int)) = true := by rw [he]; simp
        have HF := Lib.hid (show hasB s.data.toList c = true by
          unfold hasB
          rw [List.any_eq_true]
          exact ⟨s[k], by have := List.getElem_mem (l := s.data.toList) (n := k) (by rw [len_data]; exact hlt); exact this, by rw [he]; simp⟩)
        clear he ht
        go_wp2
        go_ret
        exact ⟨ret_bool HF.out.symm, rfl⟩
      · have e1 : ((s[k].toNat : Int) == (c.toNat : Int)) = false := by
          rw [beq_eq_false_iff_ne]
          intro e
          exact he (UInt8.toNat_inj.mp (by omega))
        have HN := Lib.hid (show hasB (s.data.toList.take (k + 1)) c = false by
          have := hall.out
          unfold hasB at this ⊢
          rw [ht, List.any_append, this]
          simpa using he)
        clear he ht
        go_wp2
        go_round
        case rel => exact ⟨k + 1, by omega, by go_num, HN⟩
        case measure => simp [intOf]; omega
    · obtain rfl : k = s.size := by omega
      have HA := hall.out
      rw [List.take_of_length_le (by rw [len_data]; exact Nat.le_refl _)] at HA
      have HA2 := Lib.hid HA
      clear HA hall
      go_wp2
      go_ret
      exact ⟨ret_bool HA2.out.symm, rfl⟩
theorem has_blk (c : UInt8) (w : World) : Calls Try.prog 66 #[.string ⟨#[32, 9, 10]⟩, .int .u8 c.toNat] w fun e w' => e = .returned (.bool (isBlk c)) ∧ w = w' := by
  have h := has_any ⟨#[32, 9, 10]⟩ c w (by decide)
  have e : hasB (ByteArray.mk #[32, 9, 10]).data.toList c = isBlk c := (all_u8 (P := fun c => (([32, 9, 10] : B).any (· == c)) = isBlk c) (by decide +kernel)) c
  rw [e] at h
  exact h
theorem has_sym (c : UInt8) (w : World) : Calls Try.prog 66 #[.string ⟨#[59, 44, 46, 58, 40, 41, 123, 125, 91, 93, 61, 60, 62, 47, 45]⟩, .int .u8 c.toNat] w fun e w' => e = .returned (.bool (isSym c)) ∧ w = w' := by
  have h := has_any ⟨#[59, 44, 46, 58, 40, 41, 123, 125, 91, 93, 61, 60, 62, 47, 45]⟩ c w (by decide)
  have e : hasB (ByteArray.mk #[59, 44, 46, 58, 40, 41, 123, 125, 91, 93, 61, 60, 62, 47, 45]).data.toList c = isSym c := (all_u8 (P := fun c => (([59, 44, 46, 58, 40, 41, 123, 125, 91, 93, 61, 60, 62, 47, 45] : B).any (· == c)) = isSym c) (by decide +kernel)) c
  rw [e] at h
  exact h
theorem has_esc (c : UInt8) (w : World) : Calls Try.prog 66 #[.string ⟨#[92, 34, 110]⟩, .int .u8 c.toNat] w fun e w' => e = .returned (.bool (prk [c])) ∧ w = w' := by
  have h := has_any ⟨#[92, 34, 110]⟩ c w (by decide)
  have e : hasB (ByteArray.mk #[92, 34, 110]).data.toList c = prk [c] := (all_u8 (P := fun c => (([92, 34, 110] : B).any (· == c)) = prk [c]) (by decide +kernel)) c
  rw [e] at h
  exact h
theorem u8_t (c : UInt8) (k : Nat) (hk : k < 256) (h : c = UInt8.ofNat k) : ((c.toNat : Int) == (k : Int)) = true := by rw [u8_beq c k hk, h]; simp
theorem u8_f (c : UInt8) (k : Nat) (hk : k < 256) (h : c ≠ UInt8.ofNat k) : ((c.toNat : Int) == (k : Int)) = false := by rw [u8_beq c k hk, beq_eq_false_iff_ne]; exact h
set_option maxRecDepth 100000 in
set_option maxHeartbeats 1000000 in
theorem gap_any (s : ByteArray) (i : Nat) (w : World) (hi : i ≤ s.size) (hm : s.size ≤ 100000) :
    Calls Try.prog 54 #[.string s, .int .i64 i] w fun e w' => e = .returned (.int .i64 ((i + gp false (s.data.toList.drop i) : Nat) : Int)) ∧ w = w' := by
  obtain ⟨n, hn⟩ : ∃ n, i + gp false (s.data.toList.drop i) = n := ⟨_, rfl⟩
  rw [hn]
  have HN := Lib.hid hn
  clear hn
  go_enter Try.func54, Try.ntmps54
  go_wp2
  go_loop [1] (fun a => ∃ k : Nat, k ≤ s.size ∧ a = .int .i64 k ∧ Hid (k + gp false (s.data.toList.drop k) = n)) (fun a => s.size - (intOf a).toNat)
  case atStart => exact ⟨i, hi, rfl, HN⟩
  case round =>
    obtain ⟨k, hk, rfl, HK⟩ := hrel
    clear HN
    by_cases hlt : k < s.size
    · have hd := drop_at s k hlt
      have HK2 := HK.out
      rw [hd, gp] at HK2
      cases hb : isBlk s[k] with
      | true =>
        rw [if_pos hb] at HK2
        have HK3 := Lib.hid (show k + 1 + gp false (s.data.toList.drop (k + 1)) = n by omega)
        have KB := fun W => has_blk s[k] W
        rw [hb] at KB
        clear HK2 HK hd hb
        go_wp2_with ((with_reducible refine (KB _).mono ?_); rintro e w' ⟨rfl, rfl⟩)
        go_round
        case rel => exact ⟨k + 1, by omega, by go_num, HK3⟩
        case measure => simp [intOf]; omega
      | false =>
        rw [if_neg (by rw [hb]; decide)] at HK2
        have KB := fun W => has_blk s[k] W
        rw [hb] at KB
        by_cases h35 : s[k] = 35
        · rw [if_pos h35] at HK2
          have e1 : ((s[k].toNat : Int) == 35) = true := u8_t s[k] 35 (by decide) h35
          have HK3 : Hid (k + gp true (s.data.toList.drop k) = n) := Lib.hid (by
            rw [hd, gp, if_neg (by rw [h35]; decide)]; exact HK2)
          have H35 := Lib.hid h35
          clear HK2 HK hd hb h35
          go_wp2_with ((with_reducible refine (KB _).mono ?_); rintro e w' ⟨rfl, rfl⟩)
          clear e1 KB
          go_loop [1] (fun a => ∃ j : Nat, k ≤ j ∧ j ≤ s.size ∧ a = .int .i64 j ∧ Hid (j + gp true (s.data.toList.drop j) = n)) (fun a => s.size - (intOf a).toNat)
          case atStart => exact ⟨k, Nat.le_refl _, hk, rfl, HK3⟩
          case round =>
            obtain ⟨j, hkj, hj, rfl, HJ⟩ := hrel
            clear HK3
            by_cases hlj : j < s.size
            · have hdj := drop_at s j hlj
              by_cases h10 : s[j] = 10
              · have e2 : ((s[j].toNat : Int) == 10) = true := u8_t s[j] 10 (by decide) h10
                have e3 : ((s[j].toNat : Int) != 10) = false := by simp [bne, e2]
                have HJ2 := HJ.out
                have HJ3 : Hid (j + gp false (s.data.toList.drop j) = n) := Lib.hid (by
                  rw [hdj, gp, if_pos (by rw [h10]; decide)]
                  rw [hdj, gp, if_pos h10] at HJ2
                  exact HJ2)
                have hkj2 : k < j := by
                  refine Nat.lt_of_le_of_ne hkj fun e => ?_
                  subst e
                  have := H35.out
                  rw [h10] at this
                  exact absurd this (by decide)
                clear HJ2 HJ hdj h10
                go_wp2
                go_round
                case rel => exact ⟨j, by omega, rfl, HJ3⟩
                case measure => simp [intOf]; omega
              · have e2 : ((s[j].toNat : Int) == 10) = false := u8_f s[j] 10 (by decide) h10
                have e3 : ((s[j].toNat : Int) != 10) = true := by simp [bne, e2]
                have HJ2 := HJ.out
                have HJ3 : Hid (j + 1 + gp true (s.data.toList.drop (j + 1)) = n) := Lib.hid (by
                  rw [hdj, gp, if_neg h10] at HJ2
                  omega)
                clear HJ2 HJ hdj h10
                go_wp2
                go_round
                case rel => exact ⟨j + 1, by omega, by omega, by go_num, HJ3⟩
                case measure => simp [intOf]; omega
            · obtain rfl : j = s.size := by omega
              have HJ3 : Hid (s.size + gp false (s.data.toList.drop s.size) = n) := Lib.hid (by
                have := HJ.out
                rw [List.drop_of_length_le (by rw [len_data]; exact Nat.le_refl _)] at this ⊢
                exact this)
              clear HJ
              go_wp2
              go_round
              case rel => exact ⟨s.size, Nat.le_refl _, rfl, HJ3⟩
              case measure => simp [intOf]; omega
        · rw [if_neg h35] at HK2
          have e1 : ((s[k].toNat : Int) == 35) = false := u8_f s[k] 35 (by decide) h35
          obtain rfl : k = n := by omega
          clear HK2 HK hd hb h35
          go_wp2_with ((with_reducible refine (KB _).mono ?_); rintro e w' ⟨rfl, rfl⟩)
          go_ret
          exact ⟨rfl, rfl⟩
    · obtain rfl : k = s.size := by omega
      have HK2 := HK.out
      rw [List.drop_of_length_le (by rw [len_data]; exact Nat.le_refl _)] at HK2
      obtain rfl : s.size = n := HK2
      clear HK
      go_wp2
      go_ret
      exact ⟨rfl, rfl⟩
/-- are there only gaps. -/
def gpsB (l : B) : Bool := gp false l == l.length
end Go.Proofs.Ytlknbjaippfemaa.Lx
/- The reference: Name, Quote, Written; the laws' written. -/
namespace Go.Proofs.Ytlknbjaippfemaa.Lx
open Go.RowKit
set_option maxRecDepth 100000 in
set_option maxHeartbeats 1000000 in
theorem name_ref (s : ByteArray) (w : World) (hm : s.size ≤ 100000) :
    Calls Try.prog 26 #[.string s] w fun e w' => e = .returned (.bool (nmB s.data.toList)) ∧ w = w' := by
  go_enter Try.func26, Try.ntmps26
  go_wp2
  go_loop [3] (fun i => ∃ k : Nat, k ≤ s.size ∧ i = .int .i64 k ∧ Hid ((s.data.toList.take k).all isWord = true)) (fun i => s.size - (intOf i).toNat)
  case atStart => exact ⟨0, Nat.zero_le _, rfl, Lib.hid rfl⟩
  case round =>
    obtain ⟨k, hk, rfl, hall⟩ := hrel
    by_cases hlt : k < s.size
    · have KW := fun W => word_any s[k] W
      cases hw : isWord s[k] with
      | true =>
        have HN := Lib.hid (show (s.data.toList.take (k + 1)).all isWord = true by rw [all_take_succ (by rw [len_data]; exact hlt), hall.out, Bool.true_and]; exact hw)
        rw [hw] at KW
        clear hw
        go_wp2_with ((with_reducible refine (KW _).mono ?_); rintro e w' ⟨rfl, rfl⟩)
        go_round
        case rel => exact ⟨k + 1, by omega, by go_num, HN⟩
        case measure => simp [intOf]; omega
      | false =>
        have HF := Lib.hid (show nmB s.data.toList = false by unfold nmB; rw [all_false (p := isWord) (k := k) (by rw [len_data]; exact hlt) hw, Bool.and_false])
        rw [hw] at KW
        clear hw
        go_wp2_with ((with_reducible refine (KW _).mono ?_); rintro e w' ⟨rfl, rfl⟩)
        go_ret
        exact ⟨ret_bool HF.out.symm, rfl⟩
    · obtain rfl : k = s.size := by omega
      have HA := hall.out
      rw [List.take_of_length_le (by rw [len_data]; exact Nat.le_refl _)] at HA
      have HA2 := Lib.hid (show nmB s.data.toList = (hd isLet s.data.toList && decide (s.size ≤ 24)) by unfold nmB; rw [HA, Bool.and_true, len_data])
      clear HA hall
      by_cases h0 : 0 < s.size
      · have h1 := Lib.hid (hd_at s isLet h0)
        have KL := fun W => letter_any s[0] W
        have z0 : (0 : Int) < (s.size : Int) := by omega
        by_cases h24 : s.size ≤ 24
        · have z1 : (s.size : Int) ≤ 24 := by omega
          have HR := Lib.hid (show nmB s.data.toList = isLet s[0] by rw [HA2.out, h1.out, decide_eq_true h24, Bool.and_true])
          generalize isLet s[0] = q at *
          clear h24
          go_wp2_with ((with_reducible refine (KL _).mono ?_); rintro e w' ⟨rfl, rfl⟩)
          go_ret
          exact ⟨ret_bool (by rw [HR.out]), rfl⟩
        · have z1 : ¬ (s.size : Int) ≤ 24 := by omega
          have z2 : (24 : Int) < (s.size : Int) := by omega
          have HR := Lib.hid (show nmB s.data.toList = false by rw [HA2.out, decide_eq_false h24, Bool.and_false])
          clear h24
          go_wp2
          go_ret
          exact ⟨ret_bool (by rw [HR.out]), rfl⟩
      · have z0 : ¬ (0 : Int) < (s.size : Int) := by omega
        have HR := Lib.hid (show nmB s.data.toList = false by
          rw [HA2.out, show s.data.toList = [] from List.eq_nil_of_length_eq_zero (by rw [len_data]; omega)]; rfl)
        clear h0
        go_wp2
        go_ret
        exact ⟨ret_bool (by rw [HR.out]), rfl⟩
theorem ext_snoc (s : ByteArray) (f k : Nat) (hf : f ≤ k) (hk : k < s.size) : (s.data.toList.drop f).take (k + 1 - f) = (s.data.toList.drop f).take (k - f) ++ [s[k]] := by
  rw [show k + 1 - f = (k - f) + 1 by omega, List.take_succ_eq_append_getElem (by rw [List.length_drop, len_data]; omega), List.getElem_drop]
  congr 2
  have e : f + (k - f) = k := by omega
  simp only [e]
  rfl
set_option maxRecDepth 100000 in
set_option maxHeartbeats 1000000 in
theorem quote_ref (s : ByteArray) (w : World) (hm : s.size ≤ 100000) :
    Calls Try.prog 37 #[.string s] w fun e w' => e = .returned (.string ⟨(quote s.data.toList).toArray⟩) ∧ w = w' := by
  go_enter Try.func37, Try.ntmps37
  go_wp2
  go_loop [3, 4, 5] (fun o f i => ∃ (q : ByteArray) (k j : Nat), k ≤ s.size ∧ j ≤ k ∧ q.size ≤ 2 * k + 1 ∧ o = .string q ∧ f = .int .i64 j ∧ i = .int .i64 k ∧ Hid (q.data.toList ++ (s.data.toList.drop j).take (k - j) = 34 :: esc (s.data.toList.take k))) (fun _ _ i => s.size - (intOf i).toNat)
  case atStart => exact ⟨⟨#[34]⟩, 0, 0, Nat.zero_le _, Nat.le_refl _, by decide, rfl, rfl, rfl, Lib.hid rfl⟩
  case round =>
    obtain ⟨q, k, j, hk, hj, hq, rfl, rfl, rfl, HI⟩ := hrel
    have e1 : (s.extract j k).size = k - j := by rw [ByteArray.size_extract]; omega
    have hjk : (j : Int) ≤ (k : Int) := by omega
    by_cases hlt : k < s.size
    · have HT := Lib.hid (take_snoc s k hlt)
      have hks : (k : Int) ≤ (s.size : Int) := by omega
      by_cases h10 : s[k] = 10
      · have z1 : ((s[k].toNat : Int) == 10) = true := u8_t s[k] 10 (by decide) h10
        have HN : Hid ((q ++ s.extract j k ++ ⟨#[92, 110]⟩).data.toList ++ (s.data.toList.drop (k + 1)).take (k + 1 - (k + 1)) = 34 :: esc (s.data.toList.take (k + 1))) := Lib.hid (by
          rw [app_list, app_list, ext_list, HI.out, Nat.sub_self, List.take_zero, List.append_nil, HT.out, esc_app, h10]; rfl)
        have hq2 : (q ++ s.extract j k ++ ⟨#[92, 110]⟩).size ≤ 2 * (k + 1) + 1 := by
          have := congrArg List.length HN.out
          rw [List.length_append, len_data, List.length_cons] at this
          have h3 := esc_len (s.data.toList.take (k + 1))
          have h4 : (s.data.toList.take (k + 1)).length ≤ k + 1 := List.length_take_le _ _
          omega
        clear h10
        go_wp2
        go_round
        case rel => exact ⟨_, k + 1, k + 1, by omega, Nat.le_refl _, hq2, rfl, by go_num, by go_num, HN⟩
        case measure => simp [intOf]; omega
      · have z1 : ((s[k].toNat : Int) == 10) = false := u8_f s[k] 10 (by decide) h10
        by_cases h92 : s[k] = 92 ∨ s[k] = 34
        · have HN : Hid ((q ++ s.extract j k ++ ⟨#[92]⟩).data.toList ++ (s.data.toList.drop k).take (k + 1 - k) = 34 :: esc (s.data.toList.take (k + 1))) := Lib.hid (by
            rw [app_list, app_list, ext_list, HI.out, show k + 1 - k = 1 by omega, drop_at s k hlt, HT.out, esc_app, show esc [s[k]] = [92, s[k]] by rw [esc, if_pos h92]; rfl]; simp)
          have hq2 : (q ++ s.extract j k ++ ⟨#[92]⟩).size ≤ 2 * (k + 1) + 1 := by
            have := congrArg List.length HN.out
            rw [List.length_append, len_data, List.length_cons] at this
            have h3 := esc_len (s.data.toList.take (k + 1))
            have h4 : (s.data.toList.take (k + 1)).length ≤ k + 1 := List.length_take_le _ _
            omega
          by_cases h34 : s[k] = 34
          · have z2 : ((s[k].toNat : Int) == 34) = true := u8_t s[k] 34 (by decide) h34
            clear h10 h92 h34
            go_wp2
            go_round
            case rel => exact ⟨_, k + 1, k, by omega, by omega, hq2, rfl, rfl, by go_num, HN⟩
            case measure => simp [intOf]; omega
          · have z2 : ((s[k].toNat : Int) == 34) = false := u8_f s[k] 34 (by decide) h34
            have z3 : ((s[k].toNat : Int) == 92) = true := u8_t s[k] 92 (by decide) (h92.resolve_right h34)
            clear h10 h92 h34
            go_wp2
            go_round
            case rel => exact ⟨_, k + 1, k, by omega, by omega, hq2, rfl, rfl, by go_num, HN⟩
            case measure => simp [intOf]; omega
        · have z2 : ((s[k].toNat : Int) == 34) = false := u8_f s[k] 34 (by decide) (fun e => h92 (.inr e))
          have z3 : ((s[k].toNat : Int) == 92) = false := u8_f s[k] 92 (by decide) (fun e => h92 (.inl e))
          have HN : Hid (q.data.toList ++ (s.data.toList.drop j).take (k + 1 - j) = 34 :: esc (s.data.toList.take (k + 1))) := Lib.hid (by
            rw [ext_snoc s j k hj hlt, ← List.append_assoc, HI.out, HT.out, esc_app, show esc [s[k]] = [s[k]] by rw [esc, if_neg h92, if_neg h10]; rfl]; rfl)
          clear h10 h92
          go_wp2
          go_round
          case rel => exact ⟨q, k + 1, j, by omega, by omega, by omega, rfl, rfl, by go_num, HN⟩
          case measure => simp [intOf]; omega
    · obtain rfl : k = s.size := by omega
      have HF : Hid (q ++ s.extract j s.size ++ ⟨#[34]⟩ = ⟨(quote s.data.toList).toArray⟩) := Lib.hid (str_of (by
        rw [app_list, app_list, ext_list, HI.out, List.take_of_length_le (by rw [len_data]; exact Nat.le_refl _)]; rfl))
      go_wp2
      go_ret
      exact ⟨ret_str HF.out, rfl⟩
theorem written_app (a b : List Tk) : written (a ++ b) = written a ++ written b := by
  induction a with
  | nil => rfl
  | cons t a ih => show wr t.k t.t ++ 32 :: written (a ++ b) = _; rw [ih]; simp [written]
theorem written_take (l : List Tk) (k : Nat) : (written (l.take k)).length ≤ (written l).length := by
  have : written l = written (l.take k) ++ written (l.drop k) := by rw [← written_app, List.take_append_drop]
  rw [this, List.length_append]; omega
end Go.Proofs.Ytlknbjaippfemaa.Lx
/- The reference: the string that begins at an offset. -/
namespace Go.Proofs.Ytlknbjaippfemaa.Lx
open Go.RowKit
/-- what str answers: bytes so far, where it is, what comes. -/
def strW (q : B) (k : Nat) : Option (B × Nat) → Value
  | none => .tuple #[.string ⟨#[]⟩, .int .i64 0, .bool false]
  | some r => .tuple #[.string ⟨(q ++ r.1).toArray⟩, .int .i64 ((k + r.2 : Nat) : Int), .bool true]
theorem strW_map (q : B) (k : Nat) (c : UInt8) (o : Option (B × Nat)) (j : Nat) : strW q k (o.map fun r => (c :: r.1, r.2 + j)) = strW (q ++ [c]) (k + j) o := by
  cases o with
  | none => rfl
  | some r =>
    show Value.tuple #[.string ⟨(q ++ c :: r.1).toArray⟩, .int .i64 ((k + (r.2 + j) : Nat) : Int), .bool true] = Value.tuple #[.string ⟨(q ++ [c] ++ r.1).toArray⟩, .int .i64 ((k + j + r.2 : Nat) : Int), .bool true]
    rw [show q ++ [c] ++ r.1 = q ++ c :: r.1 by simp, show k + (r.2 + j) = k + j + r.2 by omega]
theorem map_map2 (c : UInt8) (o : Option (B × Nat)) : ((o.map fun r => (c :: r.1, r.2 + 1)).map fun r => (r.1, r.2 + 1)) = o.map fun r => (c :: r.1, r.2 + 2) := by cases o <;> rfl
theorem ext_one (s : ByteArray) (k : Nat) (h : k < s.size) : (s.extract k (k + 1)).data.toList = [s[k]] := by
  rw [ext_list, drop_at s k h, show k + 1 - k = 1 by omega]; rfl
theorem add_list (q : ByteArray) (s : ByteArray) (k : Nat) (h : k < s.size) : (q ++ s.extract k (k + 1)).data.toList = q.data.toList ++ [s[k]] := by rw [app_list, ext_one s k h]
theorem ret_val {a b : Value} (h : b = a) : Ending.returned a = .returned b := by rw [h]
set_option maxRecDepth 100000 in
set_option maxHeartbeats 1000000 in
theorem str_any (s : ByteArray) (i : Nat) (w : World) (hi : i < s.size) (hm : s.size ≤ 100000) :
    Calls Try.prog 67 #[.string s, .int .i64 i] w fun e w' => e = .returned (strW [] (i + 1) (st false (s.data.toList.drop (i + 1)))) ∧ w = w' := by
  obtain ⟨V, hV⟩ : ∃ V, strW [] (i + 1) (st false (s.data.toList.drop (i + 1))) = V := ⟨_, rfl⟩
  rw [hV]
  have HV := Lib.hid hV
  clear hV
  go_enter Try.func67, Try.ntmps67
  go_wp2
  go_loop [7, 8] (fun o j => ∃ (q : ByteArray) (k : Nat), k ≤ s.size ∧ q.size ≤ k ∧ o = .string q ∧ j = .int .i64 k ∧ Hid (strW q.data.toList k (st false (s.data.toList.drop k)) = V)) (fun _ j => s.size - (intOf j).toNat)
  case atStart => exact ⟨⟨#[]⟩, i + 1, by omega, Nat.zero_le _, rfl, rfl, HV⟩
  case round =>
    obtain ⟨q, k, hk, hq, rfl, rfl, HI⟩ := hrel
    clear HV
    by_cases hlt : k < s.size
    · have hks : (k : Int) < (s.size : Int) := by omega
      have HI2 := HI.out
      have hd := drop_at s k hlt
      rw [hd, st] at HI2
      by_cases h34 : s[k] = 34
      · rw [if_pos h34] at HI2
        have z1 : ((s[k].toNat : Int) == 34) = true := u8_t s[k] 34 (by decide) h34
        have HF := Lib.hid (show V = .tuple #[.string q, .int .i64 ((k : Int) + 1), .bool true] by
          rw [← HI2]
          show Value.tuple #[.string ⟨(q.data.toList ++ []).toArray⟩, .int .i64 ((k + 1 : Nat) : Int), .bool true] = _
          rw [List.append_nil, str_self]; rfl)
        clear HI HI2 hd h34
        go_wp2
        go_ret3
        exact ⟨ret_val HF.out, rfl⟩
      · rw [if_neg h34] at HI2
        have z1 : ((s[k].toNat : Int) == 34) = false := u8_f s[k] 34 (by decide) h34
        by_cases h10 : s[k] = 10
        · rw [if_pos h10] at HI2
          have z2 : ((s[k].toNat : Int) == 10) = true := u8_t s[k] 10 (by decide) h10
          have HF := Lib.hid (show V = .tuple #[.string ⟨#[]⟩, .int .i64 0, .bool false] from HI2.symm)
          clear HI HI2 hd h34 h10
          go_wp2
          go_ret3
          exact ⟨ret_val HF.out, rfl⟩
        · rw [if_neg h10] at HI2
          have z2 : ((s[k].toNat : Int) == 10) = false := u8_f s[k] 10 (by decide) h10
          by_cases h92 : s[k] = 92
          · rw [if_pos h92] at HI2
            have z3 : ((s[k].toNat : Int) == 92) = true := u8_t s[k] 92 (by decide) h92
            have z4 : ((s[k].toNat : Int) != 92) = false := by simp [bne, z3]
            clear HI hd h34 h10 h92
            by_cases hlt2 : k + 1 < s.size
            · have hd2 := drop_at s (k + 1) hlt2
              rw [hd2, st] at HI2
              have KE := fun W => has_esc s[k + 1] W
              by_cases hq3 : s[k + 1] = 92 ∨ s[k + 1] = 34
              · rw [if_pos hq3, map_map2, strW_map] at HI2
                have hn : prk [s[k + 1]] = true := by rcases hq3 with e | e <;> (rw [e]; decide)
                have z5 : ((s[k + 1].toNat : Int) == 110) = false := u8_f s[k + 1] 110 (by decide) (by rcases hq3 with e | e <;> (rw [e]; decide))
                rw [hn] at KE
                have HN := Lib.hid (show strW (q ++ s.extract (k + 1) (k + 1 + 1)).data.toList (k + 1 + 1) (st false (s.data.toList.drop (k + 1 + 1))) = V by rw [add_list q s (k + 1) hlt2]; exact HI2)
                clear HI2 hd2 hq3 hn
                go_wp2_with ((with_reducible refine (KE _).mono ?_); rintro e w' ⟨rfl, rfl⟩)
                go_round
                case rel => exact ⟨_, k + 1 + 1, by omega, by rw [ByteArray.size_append, ByteArray.size_extract]; omega, rfl, by go_num, HN⟩
                case measure => simp [intOf]; omega
              · rw [if_neg hq3] at HI2
                by_cases h110 : s[k + 1] = 110
                · rw [if_pos h110, map_map2, strW_map] at HI2
                  have hn : prk [s[k + 1]] = true := by rw [h110]; decide
                  have z5 : ((s[k + 1].toNat : Int) == 110) = true := u8_t s[k + 1] 110 (by decide) h110
                  rw [hn] at KE
                  have HN := Lib.hid (show strW (q ++ ⟨#[10]⟩).data.toList (k + 1 + 1) (st false (s.data.toList.drop (k + 1 + 1))) = V by rw [app_list]; exact HI2)
                  clear HI2 hd2 hq3 hn h110
                  go_wp2_with ((with_reducible refine (KE _).mono ?_); rintro e w' ⟨rfl, rfl⟩)
                  go_round
                  case rel => exact ⟨_, k + 1 + 1, by omega, by rw [ByteArray.size_append]; show q.size + 1 ≤ _; omega, rfl, by go_num, HN⟩
                  case measure => simp [intOf]; omega
                · rw [if_neg h110] at HI2
                  have hn : prk [s[k + 1]] = false := (all_u8 (P := fun c => ¬ (c = 92 ∨ c = 34) → c ≠ 110 → prk [c] = false) (by decide +kernel)) s[k + 1] hq3 h110
                  rw [hn] at KE
                  have HF := Lib.hid (show V = .tuple #[.string ⟨#[]⟩, .int .i64 0, .bool false] from HI2.symm)
                  clear HI2 hd2 hq3 hn h110
                  go_wp2_with ((with_reducible refine (KE _).mono ?_); rintro e w' ⟨rfl, rfl⟩)
                  go_ret3
                  exact ⟨ret_val HF.out, rfl⟩
            · rw [List.drop_of_length_le (by rw [len_data]; omega)] at HI2
              have HF := Lib.hid (show V = .tuple #[.string ⟨#[]⟩, .int .i64 0, .bool false] from HI2.symm)
              clear HI2
              go_wp2
              go_ret3
              exact ⟨ret_val HF.out, rfl⟩
          · rw [if_neg h92, strW_map] at HI2
            have z3 : ((s[k].toNat : Int) == 92) = false := u8_f s[k] 92 (by decide) h92
            have z4 : ((s[k].toNat : Int) != 92) = true := by simp [bne, z3]
            have HN := Lib.hid (show strW (q ++ s.extract k (k + 1)).data.toList (k + 1) (st false (s.data.toList.drop (k + 1))) = V by rw [add_list q s k hlt]; exact HI2)
            clear HI HI2 hd h34 h10 h92
            go_wp2
            go_round
            case rel => exact ⟨_, k + 1, by omega, by rw [ByteArray.size_append, ByteArray.size_extract]; omega, rfl, by go_num, HN⟩
            case measure => simp [intOf]; omega
    · obtain rfl : k = s.size := by omega
      have HI2 := HI.out
      rw [List.drop_of_length_le (by rw [len_data]; exact Nat.le_refl _)] at HI2
      have HF := Lib.hid (show V = .tuple #[.string ⟨#[]⟩, .int .i64 0, .bool false] from HI2.symm)
      clear HI HI2
      go_wp2
      go_ret3
      exact ⟨ret_val HF.out, rfl⟩
end Go.Proofs.Ytlknbjaippfemaa.Lx
/- The reference: the token that begins at an offset. -/
namespace Go.Proofs.Ytlknbjaippfemaa.Lx
open Go.RowKit
theorem results_cell2 {fn : Func} {p u v : Tmp} {ty : TypeId} (h : fn.results = #[.cell p ty, .tmp u, .tmp v]) (tmps : Array Value) (P : Program) (w : World) :
    (results fn tmps).run P w =
      ((asAddr (tmps.getD p undef)).run P w).andThen fun a w1 => ((loadVar ty a).run P w1).andThen fun x w2 => .ok (.tuple #[x, tmps.getD u undef, tmps.getD v undef]) w2 := by
  simp only [results, h]
  simp [Sem.run_bind, Result.andThen]
theorem results_row3 {fn : Func} {p u v : Tmp} {ty : TypeId} (h : fn.results = #[.cell p ty, .tmp u, .tmp v]) (tmps : Array Value) (w : World) (g : Nat) (t : TypeId) (cs : Array Value) {fs : Array Field} (hp : tmps.getD p undef = .pointer (some ⟨g, 0, none⟩)) (hr : IsRow w g t cs)
    (hu : Try.prog.underlying ty = some (.struct fs)) (hi : (Try.prog.info? ty).map (·.size) = some cs.size) :
    (results fn tmps).run Try.prog w = .ok (.tuple #[.agg cs, tmps.getD u undef, tmps.getD v undef]) w := by
  have hl := run_loadVar_row (P := Try.prog) w g t ty cs (0, 0) _ hr hu rfl hi
  rw [results_cell2 h, hp]
  simp [asAddr, hl, Result.andThen]
/-- what next answers. -/
def NOut (w : World) (i : Nat) (o : Rd) (e : Ending) (w' : World) : Prop :=
  match o with
  | .tok k t n => e = .returned (.tuple #[vTok k t i, .int .i64 ((i : Int) + (n : Int)), .int .i64 0]) ∧ Below w.heap.size w w'
  | .bad x => e = .returned (.tuple #[vTok 0 [] 0, .int .i64 0, .int .i64 x]) ∧ Below w.heap.size w w'
theorem tok_made (w : World) : ∃ W, w.alloc (.cells #[.int .i64 0, .string ⟨#[]⟩, .int .i64 0] 75) = W ∧ Below w.heap.size w W ∧ IsRow W w.heap.size 75 #[.int .i64 0, .string ⟨#[]⟩, .int .i64 0] := ⟨_, rfl, alloc1 w _, IsRow.made w _ _⟩
set_option maxRecDepth 100000 in
set_option maxHeartbeats 1000000 in
theorem next_let (s : ByteArray) (i : Nat) (w : World) (hi : i < s.size) (hm : s.size ≤ 20000) (hlet : isLet s[i] = true) :
    Calls Try.prog 55 #[.string s, .int .i64 i] w fun e w' => NOut w i (nx (s.data.toList.drop i)) e w' := by
  obtain ⟨W, hW, B0, T0⟩ := tok_made w
  have HB := Lib.hid B0
  have HT := Lib.hid T0
  have HW := Lib.hid hW
  obtain ⟨d0, d1, d2, f0, f1, f2⟩ := facts3 T0
  have his : (i : Int) < (s.size : Int) := by omega
  have hd := drop_at s i hi
  clear B0 T0 hW
  have hnx := nx_let (l := s.data.toList.drop (i + 1)) hlet
  rw [← hd] at hnx
  obtain ⟨n, hn⟩ : ∃ n, run isWord (s.data.toList.drop i) = n := ⟨_, rfl⟩
  rw [hn] at hnx
  have HN : Hid (i + n = i + 1 + run isWord (s.data.toList.drop (i + 1))) := Lib.hid (by
    rw [← hn, hd, run_step (by unfold isWord; rw [hlet]; rfl)]; omega)
  have HE : Hid (s.extract i (i + n) = ⟨((s.data.toList.drop i).take n).toArray⟩) := Lib.hid (ext_run s i n)
  have KL := fun W => letter_any s[i] W
  rw [hlet] at KL
  clear hn hd hlet
  by_cases h24 : 24 < n
  · rw [if_pos h24] at hnx
    have HO := Lib.hid hnx
    clear hnx HE
    go_enter Try.func55, Try.ntmps55
    go_wp2_with fail
    rw [HW.out]
    go_wp2_with (first | ((with_reducible refine (KL _).mono ?_); rintro e w' ⟨rfl, rfl⟩))
    go_loop [7] (fun a => ∃ k : Nat, i + 1 ≤ k ∧ k ≤ s.size ∧ a = .int .i64 k ∧ Hid (i + n = k + run isWord (s.data.toList.drop k))) (fun a => s.size - (intOf a).toNat)
    case atStart => exact ⟨i + 1, Nat.le_refl _, by omega, by go_num, HN⟩
    case round =>
      obtain ⟨k, hik, hk, rfl, HK⟩ := hrel
      have hik2 : (i : Int) ≤ (k : Int) := by omega
      have hks2 : (k : Int) ≤ (s.size : Int) := by omega
      clear HN
      by_cases hlt : k < s.size
      · have hlt2 : (k : Int) < (s.size : Int) := by omega
        have KW := fun W => word_any s[k] W
        cases hw : isWord s[k] with
        | true =>
          rw [hw] at KW
          have HK2 : Hid (i + n = k + 1 + run isWord (s.data.toList.drop (k + 1))) := Lib.hid (by
            have h := HK.out
            rw [drop_at s k hlt, run_step hw] at h
            omega)
          clear hw HK
          go_wp2_with (first | ((with_reducible refine (KW _).mono ?_); rintro e w' ⟨rfl, rfl⟩))
          go_round
          case rel => exact ⟨k + 1, by omega, by omega, by go_num, HK2⟩
          case measure => simp [intOf]; omega
        | false =>
          rw [hw] at KW
          have hin : i + n = k := by
            have h := HK.out
            rw [drop_at s k hlt, run_none hw] at h
            omega
          clear HK
          have z1 : (24 : Int) < (k : Int) - (i : Int) := by omega
          go_wp2_with (first | ((with_reducible refine (KW _).mono ?_); rintro e w' ⟨rfl, rfl⟩))
          have hr := set3 HT.out (.int .i64 0) (.string ⟨#[]⟩) (.int .i64 0)
          have hg := below3 HB.out (Nat.le_refl w.heap.size) (.int .i64 0) (.string ⟨#[]⟩) (.int .i64 0)
          refine bodyPost_ret (results_row3 rfl _ _ w.heap.size _ _ rfl hr Try.underlying75 infoTok) rfl ?_
          rw [HO.out]
          exact ⟨rfl, hg⟩
      · obtain rfl : k = s.size := by omega
        have hin : i + n = s.size := by
          have h := HK.out
          rw [List.drop_of_length_le (by rw [len_data]; exact Nat.le_refl _)] at h
          exact h
        have HX2 : Hid (s.extract i s.size = s.extract i (i + n)) := Lib.hid (by rw [hin])
        clear HK
        have z1 : (24 : Int) < (s.size : Int) - (i : Int) := by omega
        go_wp2
        have hr := set3 HT.out (.int .i64 0) (.string ⟨#[]⟩) (.int .i64 0)
        have hg := below3 HB.out (Nat.le_refl w.heap.size) (.int .i64 0) (.string ⟨#[]⟩) (.int .i64 0)
        refine bodyPost_ret (results_row3 rfl _ _ w.heap.size _ _ rfl hr Try.underlying75 infoTok) rfl ?_
        rw [HO.out]
        exact ⟨rfl, hg⟩
  · rw [if_neg h24] at hnx
    have HO := Lib.hid hnx
    clear hnx
    go_enter Try.func55, Try.ntmps55
    go_wp2_with fail
    rw [HW.out]
    go_wp2_with (first | ((with_reducible refine (KL _).mono ?_); rintro e w' ⟨rfl, rfl⟩))
    go_loop [7] (fun a => ∃ k : Nat, i + 1 ≤ k ∧ k ≤ s.size ∧ a = .int .i64 k ∧ Hid (i + n = k + run isWord (s.data.toList.drop k))) (fun a => s.size - (intOf a).toNat)
    case atStart => exact ⟨i + 1, Nat.le_refl _, by omega, by go_num, HN⟩
    case round =>
      obtain ⟨k, hik, hk, rfl, HK⟩ := hrel
      have hik2 : (i : Int) ≤ (k : Int) := by omega
      have hks2 : (k : Int) ≤ (s.size : Int) := by omega
      clear HN
      by_cases hlt : k < s.size
      · have hlt2 : (k : Int) < (s.size : Int) := by omega
        have KW := fun W => word_any s[k] W
        cases hw : isWord s[k] with
        | true =>
          rw [hw] at KW
          have HK2 : Hid (i + n = k + 1 + run isWord (s.data.toList.drop (k + 1))) := Lib.hid (by
            have h := HK.out
            rw [drop_at s k hlt, run_step hw] at h
            omega)
          clear hw HK
          go_wp2_with (first | ((with_reducible refine (KW _).mono ?_); rintro e w' ⟨rfl, rfl⟩))
          go_round
          case rel => exact ⟨k + 1, by omega, by omega, by go_num, HK2⟩
          case measure => simp [intOf]; omega
        | false =>
          rw [hw] at KW
          have hin : i + n = k := by
            have h := HK.out
            rw [drop_at s k hlt, run_none hw] at h
            omega
          clear HK
          have z1 : ¬ (24 : Int) < (k : Int) - (i : Int) := by omega
          have z2 : (k : Int) - (i : Int) ≤ 24 := by omega
          have HX : Hid (s.extract i k = ⟨((s.data.toList.drop i).take n).toArray⟩) := Lib.hid (by rw [← hin]; exact HE.out)
          go_wp2_with (first | ((with_reducible refine (KW _).mono ?_); rintro e w' ⟨rfl, rfl⟩))
          have hr := set3 HT.out (.int .i64 1) (.string (s.extract i k)) (.int .i64 i)
          have hg := below3 HB.out (Nat.le_refl w.heap.size) (.int .i64 1) (.string (s.extract i k)) (.int .i64 i)
          refine bodyPost_ret (results_row3 rfl _ _ w.heap.size _ _ rfl hr Try.underlying75 infoTok) rfl ?_
          rw [HO.out]
          have e : Value.tuple #[.agg #[.int .i64 1, .string (s.extract i k), .int .i64 i], .int .i64 (k : Int), .int .i64 0] = .tuple #[vTok 1 ((s.data.toList.drop i).take n) i, .int .i64 ((i : Int) + (n : Int)), .int .i64 0] := by
            rw [HX.out, show (k : Int) = (i : Int) + (n : Int) by omega]; rfl
          exact ⟨congrArg Ending.returned e, hg⟩
      · obtain rfl : k = s.size := by omega
        have hin : i + n = s.size := by
          have h := HK.out
          rw [List.drop_of_length_le (by rw [len_data]; exact Nat.le_refl _)] at h
          exact h
        have HX2 : Hid (s.extract i s.size = s.extract i (i + n)) := Lib.hid (by rw [hin])
        clear HK
        have z1 : ¬ (24 : Int) < (s.size : Int) - (i : Int) := by omega
        have z2 : (s.size : Int) - (i : Int) ≤ 24 := by omega
        have HX : Hid (s.extract i s.size = ⟨((s.data.toList.drop i).take n).toArray⟩) := Lib.hid (HX2.out.trans HE.out)
        go_wp2
        have hr := set3 HT.out (.int .i64 1) (.string (s.extract i s.size)) (.int .i64 i)
        have hg := below3 HB.out (Nat.le_refl w.heap.size) (.int .i64 1) (.string (s.extract i s.size)) (.int .i64 i)
        refine bodyPost_ret (results_row3 rfl _ _ w.heap.size _ _ rfl hr Try.underlying75 infoTok) rfl ?_
        rw [HO.out]
        have e : Value.tuple #[.agg #[.int .i64 1, .string (s.extract i s.size), .int .i64 i], .int .i64 (s.size : Int), .int .i64 0] = .tuple #[vTok 1 ((s.data.toList.drop i).take n) i, .int .i64 ((i : Int) + (n : Int)), .int .i64 0] := by
          rw [HX.out, show (s.size : Int) = (i : Int) + (n : Int) by omega]; rfl
        exact ⟨congrArg Ending.returned e, hg⟩
set_option maxRecDepth 100000 in
set_option maxHeartbeats 1000000 in
theorem next_dig (s : ByteArray) (i : Nat) (w : World) (hi : i < s.size) (hm : s.size ≤ 20000) (hlet : isLet s[i] = false) (hdig : isDig s[i] = true) :
    Calls Try.prog 55 #[.string s, .int .i64 i] w fun e w' => NOut w i (nx (s.data.toList.drop i)) e w' := by
  obtain ⟨W, hW, B0, T0⟩ := tok_made w
  have HB := Lib.hid B0
  have HT := Lib.hid T0
  have HW := Lib.hid hW
  obtain ⟨d0, d1, d2, f0, f1, f2⟩ := facts3 T0
  have his : (i : Int) < (s.size : Int) := by omega
  have hd := drop_at s i hi
  clear B0 T0 hW
  have hnx := nx_dig (l := s.data.toList.drop (i + 1)) hlet hdig
  rw [← hd] at hnx
  obtain ⟨n, hn⟩ : ∃ n, run isDig (s.data.toList.drop i) = n := ⟨_, rfl⟩
  rw [hn, List.drop_drop] at hnx
  have HN : Hid (i + n = i + 1 + run isDig (s.data.toList.drop (i + 1))) := Lib.hid (by
    rw [← hn, hd, run_step hdig]; omega)
  have HE : Hid (s.extract i (i + n) = ⟨((s.data.toList.drop i).take n).toArray⟩) := Lib.hid (ext_run s i n)
  have KL := fun W => letter_any s[i] W
  have KG := fun W => digit_any s[i] W
  rw [hlet] at KL
  rw [hdig] at KG
  clear hn hd hlet hdig
  by_cases h7 : 7 < n
  · rw [if_pos (.inl h7)] at hnx
    have HO := Lib.hid hnx
    clear hnx HE
    go_enter Try.func55, Try.ntmps55
    go_wp2_with fail
    rw [HW.out]
    go_wp2_with (first | ((with_reducible refine (KL _).mono ?_); rintro e w' ⟨rfl, rfl⟩) | ((with_reducible refine (KG _).mono ?_); rintro e w' ⟨rfl, rfl⟩))
    go_loop [7] (fun a => ∃ k : Nat, i + 1 ≤ k ∧ k ≤ s.size ∧ a = .int .i64 k ∧ Hid (i + n = k + run isDig (s.data.toList.drop k))) (fun a => s.size - (intOf a).toNat)
    case atStart => exact ⟨i + 1, Nat.le_refl _, by omega, by go_num, HN⟩
    case round =>
      obtain ⟨k, hik, hk, rfl, HK⟩ := hrel
      have hik2 : (i : Int) ≤ (k : Int) := by omega
      have hks2 : (k : Int) ≤ (s.size : Int) := by omega
      clear HN
      by_cases hlt : k < s.size
      · have hlt2 : (k : Int) < (s.size : Int) := by omega
        have KW := fun W => digit_any s[k] W
        cases hw : isDig s[k] with
        | true =>
          rw [hw] at KW
          have HK2 : Hid (i + n = k + 1 + run isDig (s.data.toList.drop (k + 1))) := Lib.hid (by
            have h := HK.out
            rw [drop_at s k hlt, run_step hw] at h
            omega)
          clear hw HK
          go_wp2_with (first | ((with_reducible refine (KW _).mono ?_); rintro e w' ⟨rfl, rfl⟩))
          go_round
          case rel => exact ⟨k + 1, by omega, by omega, by go_num, HK2⟩
          case measure => simp [intOf]; omega
        | false =>
          rw [hw] at KW
          have hin : i + n = k := by
            have h := HK.out
            rw [drop_at s k hlt, run_none hw] at h
            omega
          clear HK
          have z1 : (7 : Int) < (k : Int) - (i : Int) := by omega
          have KV := fun W => word_any s[k] W
          go_wp2_with (first | ((with_reducible refine (KW _).mono ?_); rintro e w' ⟨rfl, rfl⟩) | ((with_reducible refine (KV _).mono ?_); rintro e w' ⟨rfl, rfl⟩))
          have hr := set3 HT.out (.int .i64 0) (.string ⟨#[]⟩) (.int .i64 0)
          have hg := below3 HB.out (Nat.le_refl w.heap.size) (.int .i64 0) (.string ⟨#[]⟩) (.int .i64 0)
          refine bodyPost_ret (results_row3 rfl _ _ w.heap.size _ _ rfl hr Try.underlying75 infoTok) rfl ?_
          rw [HO.out]
          exact ⟨rfl, hg⟩
      · obtain rfl : k = s.size := by omega
        have hin : i + n = s.size := by
          have h := HK.out
          rw [List.drop_of_length_le (by rw [len_data]; exact Nat.le_refl _)] at h
          exact h
        have HX2 : Hid (s.extract i s.size = s.extract i (i + n)) := Lib.hid (by rw [hin])
        clear HK
        have z1 : (7 : Int) < (s.size : Int) - (i : Int) := by omega
        go_wp2
        have hr := set3 HT.out (.int .i64 0) (.string ⟨#[]⟩) (.int .i64 0)
        have hg := below3 HB.out (Nat.le_refl w.heap.size) (.int .i64 0) (.string ⟨#[]⟩) (.int .i64 0)
        refine bodyPost_ret (results_row3 rfl _ _ w.heap.size _ _ rfl hr Try.underlying75 infoTok) rfl ?_
        rw [HO.out]
        exact ⟨rfl, hg⟩
  · by_cases hwd : hd isWord (s.data.toList.drop (i + n)) = true
    · rw [if_pos (.inr hwd)] at hnx
      have HO := Lib.hid hnx
      clear hnx HE
      go_enter Try.func55, Try.ntmps55
      go_wp2_with fail
      rw [HW.out]
      go_wp2_with (first | ((with_reducible refine (KL _).mono ?_); rintro e w' ⟨rfl, rfl⟩) | ((with_reducible refine (KG _).mono ?_); rintro e w' ⟨rfl, rfl⟩))
      go_loop [7] (fun a => ∃ k : Nat, i + 1 ≤ k ∧ k ≤ s.size ∧ a = .int .i64 k ∧ Hid (i + n = k + run isDig (s.data.toList.drop k))) (fun a => s.size - (intOf a).toNat)
      case atStart => exact ⟨i + 1, Nat.le_refl _, by omega, by go_num, HN⟩
      case round =>
        obtain ⟨k, hik, hk, rfl, HK⟩ := hrel
        have hik2 : (i : Int) ≤ (k : Int) := by omega
        have hks2 : (k : Int) ≤ (s.size : Int) := by omega
        clear HN
        by_cases hlt : k < s.size
        · have hlt2 : (k : Int) < (s.size : Int) := by omega
          have KW := fun W => digit_any s[k] W
          cases hw : isDig s[k] with
          | true =>
            rw [hw] at KW
            have HK2 : Hid (i + n = k + 1 + run isDig (s.data.toList.drop (k + 1))) := Lib.hid (by
              have h := HK.out
              rw [drop_at s k hlt, run_step hw] at h
              omega)
            clear hw HK
            go_wp2_with (first | ((with_reducible refine (KW _).mono ?_); rintro e w' ⟨rfl, rfl⟩))
            go_round
            case rel => exact ⟨k + 1, by omega, by omega, by go_num, HK2⟩
            case measure => simp [intOf]; omega
          | false =>
            rw [hw] at KW
            have hin : i + n = k := by
              have h := HK.out
              rw [drop_at s k hlt, run_none hw] at h
              omega
            clear HK
            have z1 : ¬ (7 : Int) < (k : Int) - (i : Int) := by omega
            have z2 : (k : Int) - (i : Int) ≤ 7 := by omega
            have KV := fun W => word_any s[k] W
            rw [hin, drop_at s k hlt] at hwd
            have hwd2 : isWord s[k] = true := by exact hwd
            rw [hwd2] at KV
            clear hwd2
            clear hwd
            go_wp2_with (first | ((with_reducible refine (KW _).mono ?_); rintro e w' ⟨rfl, rfl⟩) | ((with_reducible refine (KV _).mono ?_); rintro e w' ⟨rfl, rfl⟩))
            have hr := set3 HT.out (.int .i64 0) (.string ⟨#[]⟩) (.int .i64 0)
            have hg := below3 HB.out (Nat.le_refl w.heap.size) (.int .i64 0) (.string ⟨#[]⟩) (.int .i64 0)
            refine bodyPost_ret (results_row3 rfl _ _ w.heap.size _ _ rfl hr Try.underlying75 infoTok) rfl ?_
            rw [HO.out]
            exact ⟨rfl, hg⟩
        · obtain rfl : k = s.size := by omega
          have hin : i + n = s.size := by
            have h := HK.out
            rw [List.drop_of_length_le (by rw [len_data]; exact Nat.le_refl _)] at h
            exact h
          have HX2 : Hid (s.extract i s.size = s.extract i (i + n)) := Lib.hid (by rw [hin])
          clear HK
          have z1 : ¬ (7 : Int) < (s.size : Int) - (i : Int) := by omega
          have z2 : (s.size : Int) - (i : Int) ≤ 7 := by omega
          exfalso
          rw [hin, List.drop_of_length_le (by rw [len_data]; exact Nat.le_refl _)] at hwd
          cases hwd
    · rw [if_neg (fun h => h.elim h7 hwd)] at hnx
      have HO := Lib.hid hnx
      clear hnx
      go_enter Try.func55, Try.ntmps55
      go_wp2_with fail
      rw [HW.out]
      go_wp2_with (first | ((with_reducible refine (KL _).mono ?_); rintro e w' ⟨rfl, rfl⟩) | ((with_reducible refine (KG _).mono ?_); rintro e w' ⟨rfl, rfl⟩))
      go_loop [7] (fun a => ∃ k : Nat, i + 1 ≤ k ∧ k ≤ s.size ∧ a = .int .i64 k ∧ Hid (i + n = k + run isDig (s.data.toList.drop k))) (fun a => s.size - (intOf a).toNat)
      case atStart => exact ⟨i + 1, Nat.le_refl _, by omega, by go_num, HN⟩
      case round =>
        obtain ⟨k, hik, hk, rfl, HK⟩ := hrel
        have hik2 : (i : Int) ≤ (k : Int) := by omega
        have hks2 : (k : Int) ≤ (s.size : Int) := by omega
        clear HN
        by_cases hlt : k < s.size
        · have hlt2 : (k : Int) < (s.size : Int) := by omega
          have KW := fun W => digit_any s[k] W
          cases hw : isDig s[k] with
          | true =>
            rw [hw] at KW
            have HK2 : Hid (i + n = k + 1 + run isDig (s.data.toList.drop (k + 1))) := Lib.hid (by
              have h := HK.out
              rw [drop_at s k hlt, run_step hw] at h
              omega)
            clear hw HK
            go_wp2_with (first | ((with_reducible refine (KW _).mono ?_); rintro e w' ⟨rfl, rfl⟩))
            go_round
            case rel => exact ⟨k + 1, by omega, by omega, by go_num, HK2⟩
            case measure => simp [intOf]; omega
          | false =>
            rw [hw] at KW
            have hin : i + n = k := by
              have h := HK.out
              rw [drop_at s k hlt, run_none hw] at h
              omega
            clear HK
            have z1 : ¬ (7 : Int) < (k : Int) - (i : Int) := by omega
            have z2 : (k : Int) - (i : Int) ≤ 7 := by omega
            have KV := fun W => word_any s[k] W
            rw [hin, drop_at s k hlt] at hwd
            have hwd2 : isWord s[k] = false := by exact Bool.eq_false_iff.2 hwd
            rw [hwd2] at KV
            clear hwd2
            have HX : Hid (s.extract i k = ⟨((s.data.toList.drop i).take n).toArray⟩) := Lib.hid (by rw [← hin]; exact HE.out)
            clear hwd
            go_wp2_with (first | ((with_reducible refine (KW _).mono ?_); rintro e w' ⟨rfl, rfl⟩) | ((with_reducible refine (KV _).mono ?_); rintro e w' ⟨rfl, rfl⟩))
            have hr := set3 HT.out (.int .i64 2) (.string (s.extract i k)) (.int .i64 i)
            have hg := below3 HB.out (Nat.le_refl w.heap.size) (.int .i64 2) (.string (s.extract i k)) (.int .i64 i)
            refine bodyPost_ret (results_row3 rfl _ _ w.heap.size _ _ rfl hr Try.underlying75 infoTok) rfl ?_
            rw [HO.out]
            have e : Value.tuple #[.agg #[.int .i64 2, .string (s.extract i k), .int .i64 i], .int .i64 (k : Int), .int .i64 0] = .tuple #[vTok 2 ((s.data.toList.drop i).take n) i, .int .i64 ((i : Int) + (n : Int)), .int .i64 0] := by
              rw [HX.out, show (k : Int) = (i : Int) + (n : Int) by omega]; rfl
            exact ⟨congrArg Ending.returned e, hg⟩
        · obtain rfl : k = s.size := by omega
          have hin : i + n = s.size := by
            have h := HK.out
            rw [List.drop_of_length_le (by rw [len_data]; exact Nat.le_refl _)] at h
            exact h
          have HX2 : Hid (s.extract i s.size = s.extract i (i + n)) := Lib.hid (by rw [hin])
          clear HK
          have z1 : ¬ (7 : Int) < (s.size : Int) - (i : Int) := by omega
          have z2 : (s.size : Int) - (i : Int) ≤ 7 := by omega
          have HX : Hid (s.extract i s.size = ⟨((s.data.toList.drop i).take n).toArray⟩) := Lib.hid (HX2.out.trans HE.out)
          clear hwd
          go_wp2
          have hr := set3 HT.out (.int .i64 2) (.string (s.extract i s.size)) (.int .i64 i)
          have hg := below3 HB.out (Nat.le_refl w.heap.size) (.int .i64 2) (.string (s.extract i s.size)) (.int .i64 i)
          refine bodyPost_ret (results_row3 rfl _ _ w.heap.size _ _ rfl hr Try.underlying75 infoTok) rfl ?_
          rw [HO.out]
          have e : Value.tuple #[.agg #[.int .i64 2, .string (s.extract i s.size), .int .i64 i], .int .i64 (s.size : Int), .int .i64 0] = .tuple #[vTok 2 ((s.data.toList.drop i).take n) i, .int .i64 ((i : Int) + (n : Int)), .int .i64 0] := by
            rw [HX.out, show (s.size : Int) = (i : Int) + (n : Int) by omega]; rfl
          exact ⟨congrArg Ending.returned e, hg⟩
set_option maxRecDepth 100000 in
set_option maxHeartbeats 1000000 in
theorem next_quo (s : ByteArray) (i : Nat) (w : World) (hi : i < s.size) (hm : s.size ≤ 20000) (hlet : isLet s[i] = false) (hdig : isDig s[i] = false) (h34 : s[i] = 34) :
    Calls Try.prog 55 #[.string s, .int .i64 i] w fun e w' => NOut w i (nx (s.data.toList.drop i)) e w' := by
  obtain ⟨W, hW, B0, T0⟩ := tok_made w
  have HB := Lib.hid B0
  have HT := Lib.hid T0
  have HW := Lib.hid hW
  obtain ⟨d0, d1, d2, f0, f1, f2⟩ := facts3 T0
  have his : (i : Int) < (s.size : Int) := by omega
  have hd := drop_at s i hi
  clear B0 T0 hW
  have hnx : nx (34 :: s.data.toList.drop (i + 1)) = _ := nx_quo
  rw [← h34, ← hd] at hnx
  have KL := fun W => letter_any s[i] W
  have KG := fun W => digit_any s[i] W
  have KS := fun W => str_any s i W hi (by omega)
  rw [hlet] at KL
  rw [hdig] at KG
  have z1 : ((s[i].toNat : Int) == 34) = true := u8_t s[i] 34 (by decide) h34
  clear hd hlet hdig h34
  cases hst : st false (s.data.toList.drop (i + 1)) with
  | none =>
    rw [hst] at KS hnx
    have HO := Lib.hid hnx
    clear hst hnx
    dsimp only [strW] at KS
    go_enter Try.func55, Try.ntmps55
    go_wp2_with fail
    rw [HW.out]
    go_wp2_with (first | ((with_reducible refine (KL _).mono ?_); rintro e w' ⟨rfl, rfl⟩) | ((with_reducible refine (KG _).mono ?_); rintro e w' ⟨rfl, rfl⟩) | ((with_reducible refine (KS _).mono ?_); rintro e w' ⟨rfl, rfl⟩))
    have hr := set3 HT.out (.int .i64 0) (.string ⟨#[]⟩) (.int .i64 0)
    have hg := below3 HB.out (Nat.le_refl w.heap.size) (.int .i64 0) (.string ⟨#[]⟩) (.int .i64 0)
    refine bodyPost_ret (results_row3 rfl _ _ w.heap.size _ _ rfl hr Try.underlying75 infoTok) rfl ?_
    rw [HO.out]
    exact ⟨rfl, hg⟩
  | some r =>
    rw [hst] at KS hnx
    have HO := Lib.hid hnx
    clear hst hnx
    obtain ⟨t, n⟩ := r
    dsimp only [strW, List.nil_append] at KS
    go_enter Try.func55, Try.ntmps55
    go_wp2_with fail
    rw [HW.out]
    go_wp2_with (first | ((with_reducible refine (KL _).mono ?_); rintro e w' ⟨rfl, rfl⟩) | ((with_reducible refine (KG _).mono ?_); rintro e w' ⟨rfl, rfl⟩) | ((with_reducible refine (KS _).mono ?_); rintro e w' ⟨rfl, rfl⟩))
    have hr := set3 HT.out (.int .i64 3) (.string ⟨t.toArray⟩) (.int .i64 i)
    have hg := below3 HB.out (Nat.le_refl w.heap.size) (.int .i64 3) (.string ⟨t.toArray⟩) (.int .i64 i)
    refine bodyPost_ret (results_row3 rfl _ _ w.heap.size _ _ rfl hr Try.underlying75 infoTok) rfl ?_
    rw [HO.out]
    have e : Value.tuple #[.agg #[.int .i64 3, .string ⟨t.toArray⟩, .int .i64 i], .int .i64 ((i + 1 + n : Nat) : Int), .int .i64 0] = .tuple #[vTok 3 t i, .int .i64 ((i : Int) + ((n + 1 : Nat) : Int)), .int .i64 0] := by
      rw [show ((i + 1 + n : Nat) : Int) = (i : Int) + ((n + 1 : Nat) : Int) by omega]; rfl
    exact ⟨congrArg Ending.returned e, hg⟩
set_option maxRecDepth 100000 in
set_option maxHeartbeats 1000000 in
theorem next_sym (s : ByteArray) (i : Nat) (w : World) (hi : i < s.size) (hm : s.size ≤ 20000) (hlet : isLet s[i] = false) (hdig : isDig s[i] = false) (h34 : s[i] ≠ 34) :
    Calls Try.prog 55 #[.string s, .int .i64 i] w fun e w' => NOut w i (nx (s.data.toList.drop i)) e w' := by
  obtain ⟨W, hW, B0, T0⟩ := tok_made w
  have HB := Lib.hid B0
  have HT := Lib.hid T0
  have HW := Lib.hid hW
  obtain ⟨d0, d1, d2, f0, f1, f2⟩ := facts3 T0
  have his : (i : Int) < (s.size : Int) := by omega
  have hd := drop_at s i hi
  clear B0 T0 hW
  have hnx := nx_sym (l := s.data.toList.drop (i + 1)) hlet hdig h34
  rw [← hd] at hnx
  have KL := fun W => letter_any s[i] W
  have KG := fun W => digit_any s[i] W
  have KY := fun W => has_sym s[i] W
  rw [hlet] at KL
  rw [hdig] at KG
  have z1 : ((s[i].toNat : Int) == 34) = false := u8_f s[i] 34 (by decide) h34
  have HX : Hid (s.extract i (i + 1) = ⟨([s[i]] : B).toArray⟩) := Lib.hid (str_of (ext_one s i hi))
  clear hd hlet hdig h34
  cases hsy : isSym s[i] with
  | false =>
    rw [hsy, if_neg (by decide)] at hnx
    rw [hsy] at KY
    have HO := Lib.hid hnx
    clear hsy hnx
    go_enter Try.func55, Try.ntmps55
    go_wp2_with fail
    rw [HW.out]
    go_wp2_with (first | ((with_reducible refine (KL _).mono ?_); rintro e w' ⟨rfl, rfl⟩) | ((with_reducible refine (KG _).mono ?_); rintro e w' ⟨rfl, rfl⟩) | ((with_reducible refine (KY _).mono ?_); rintro e w' ⟨rfl, rfl⟩))
    have hr := set3 HT.out (.int .i64 0) (.string ⟨#[]⟩) (.int .i64 0)
    have hg := below3 HB.out (Nat.le_refl w.heap.size) (.int .i64 0) (.string ⟨#[]⟩) (.int .i64 0)
    refine bodyPost_ret (results_row3 rfl _ _ w.heap.size _ _ rfl hr Try.underlying75 infoTok) rfl ?_
    rw [HO.out]
    exact ⟨rfl, hg⟩
  | true =>
    rw [hsy, if_pos rfl] at hnx
    rw [hsy] at KY
    have HO := Lib.hid hnx
    clear hsy hnx
    go_enter Try.func55, Try.ntmps55
    go_wp2_with fail
    rw [HW.out]
    go_wp2_with (first | ((with_reducible refine (KL _).mono ?_); rintro e w' ⟨rfl, rfl⟩) | ((with_reducible refine (KG _).mono ?_); rintro e w' ⟨rfl, rfl⟩) | ((with_reducible refine (KY _).mono ?_); rintro e w' ⟨rfl, rfl⟩))
    have hr := set3 HT.out (.int .i64 4) (.string (s.extract i (i + 1))) (.int .i64 i)
    have hg := below3 HB.out (Nat.le_refl w.heap.size) (.int .i64 4) (.string (s.extract i (i + 1))) (.int .i64 i)
    refine bodyPost_ret (results_row3 rfl _ _ w.heap.size _ _ rfl hr Try.underlying75 infoTok) rfl ?_
    rw [HO.out]
    have e : Value.tuple #[.agg #[.int .i64 4, .string (s.extract i (i + 1)), .int .i64 i], .int .i64 ((i : Int) + 1), .int .i64 0] = .tuple #[vTok 4 [s[i]] i, .int .i64 ((i : Int) + ((1 : Nat) : Int)), .int .i64 0] := by
      rw [HX.out]; rfl
    exact ⟨congrArg Ending.returned e, hg⟩
theorem next_any (s : ByteArray) (i : Nat) (w : World) (hi : i < s.size) (hm : s.size ≤ 20000) :
    Calls Try.prog 55 #[.string s, .int .i64 i] w fun e w' => NOut w i (nx (s.data.toList.drop i)) e w' := by
  cases h1 : isLet s[i] with
  | true => exact next_let s i w hi hm h1
  | false =>
    cases h2 : isDig s[i] with
    | true => exact next_dig s i w hi hm h1 h2
    | false =>
      by_cases h3 : s[i] = 34
      · exact next_quo s i w hi hm h1 h2 h3
      · exact next_sym s i w hi hm h1 h2 h3
end Go.Proofs.Ytlknbjaippfemaa.Lx
/- The reference: Lex. -/
namespace Go.Proofs.Ytlknbjaippfemaa.Lx
open Go.RowKit Go.Sort Go.Shelf
theorem evs_end (s : ByteArray) (k : Nat) (h : s.size ≤ k) (pre : List Tk) : scan pre (evs k (s.data.toList.drop k)) = (pre, 0, 0) := by
  rw [List.drop_of_length_le (by rw [len_data]; exact h)]; rfl
set_option maxRecDepth 100000 in
set_option maxHeartbeats 2000000 in
theorem lexref_fit (s : ByteArray) (w : World) (hm : s.size ≤ 20000) : Calls Try.prog 40 #[.string s] w (LOut w (scan [] (evL s.data.toList))) := by
  obtain ⟨R, hR⟩ : ∃ R, scan [] (evL s.data.toList) = R := ⟨_, rfl⟩
  rw [hR]
  have hz : ¬ (20000 : Int) < (s.size : Int) := by omega
  have hz2 : (s.size : Int) ≤ 20000 := by omega
  have hg0 := gp_le false s.data.toList
  rw [len_data] at hg0
  unfold evL at hR
  have KG0 : ∀ W, Calls Try.prog 54 #[.string s, .int .i64 0] W fun e w' => e = .returned (.int .i64 ((0 + gp false (s.data.toList.drop 0) : Nat) : Int)) ∧ W = w' := fun W => gap_any s 0 W (Nat.zero_le _) (by omega)
  rw [List.drop_zero, Nat.zero_add] at KG0
  obtain ⟨q0, hq0⟩ : ∃ q, gp false s.data.toList = q := ⟨_, rfl⟩
  rw [hq0] at hR hg0 KG0
  have HR := Lib.hid hR
  clear hR hq0
  obtain ⟨i0, hi0, hs0', hb0', hz0'⟩ := info_of tok_info
  have HT := Lib.hid (And.intro hi0 (And.intro hs0' (And.intro hb0' hz0')))
  clear hi0 hs0' hb0' hz0'
  obtain ⟨base, hbase⟩ : ∃ b, w.heap.size = b := ⟨_, rfl⟩
  have HBase := Lib.hid hbase
  go_enter Try.func40, Try.ntmps40
  go_wp2_with ((with_reducible refine (KG0 _).mono ?_); rintro e w' ⟨rfl, rfl⟩)
  clear KG0
  go_loopw [5, 6] (fun o a wr => ∃ (pre : List Tk) (k : Nat) (ao : Option Addr) (cap : Nat), k ≤ s.size ∧ pre.length ≤ 5000 ∧ o = .slice ao pre.length cap ∧ a = .int .i64 k ∧ Hid (OwnK wr base (.slice ao pre.length cap) pre) ∧ Hid (Below base w wr) ∧ Hid (scan pre (evs k (s.data.toList.drop k)) = R)) (fun _ a _ => s.size - (intOf a).toNat)
  case atStart => exact ⟨[], q0, none, 0, hg0, by simp, rfl, rfl, Lib.hid (ownK_nil _ _), Lib.hid (Below.refl _ _), HR⟩
  case round =>
    clear HR
    obtain ⟨pre, k, ao, cap, hk, hpl, rfl, rfl, HO, HB, HS⟩ := hrel
    have hbw : base ≤ wr.heap.size := by have := HB.out.size; omega
    by_cases hlt : k < s.size
    · have hlt2 : (k : Int) < (s.size : Int) := by omega
      have KN := fun W => next_any s k W hlt hm
      have hne : s.data.toList.drop k ≠ [] := fun e => by
        have := congrArg List.length e
        rw [List.length_drop, len_data, List.length_nil] at this; omega
      cases hn : nx (s.data.toList.drop k) with
      | bad x =>
        rw [hn] at KN
        dsimp only [NOut, vTok] at KN
        have he := nx_err hne hn
        have hF := HS.out
        rw [evs_bad hne hn] at hF
        have hF2 : R = ([], x, (k : Int)) := by
          rw [← hF]; show (if _ then _ else _) = _
          rw [if_neg (by omega), if_pos (by omega)]
        subst hF2
        have e1 : (x == 0) = false := by rw [beq_eq_false_iff_ne]; omega
        have e2 : (x != 0) = true := by simp [bne, e1]
        clear hF HS hn hne he
        go_wp2_with ((with_reducible refine (KN _).mono ?_); rintro e w1 ⟨rfl, hb1⟩)
        go_ret3
        exact ⟨⟨_, rfl, ownK_nil _ _⟩, by rw [HBase.out]; exact HB.out.trans ((hb1.trans ((alloc1 w1 _).mono hb1.size)).mono hbw)⟩
      | tok kk t n =>
        rw [hn] at KN
        dsimp only [NOut, vTok] at KN
        have hw := nx_wr hn
        have hF := HS.out
        rw [evs_tok hn] at hF
        by_cases h5 : pre.length = 5000
        · have hF2 : R = ([], 2, (k : Int)) := by
            rw [← hF]; show (if _ then _ else _) = _
            rw [if_pos ⟨rfl, h5⟩]
          subst hF2
          have hl5 : ((pre.length : Int) == 5000) = true := by rw [h5]; rfl
          clear hF HS hn hne hw h5
          go_wp2_with ((with_reducible refine (KN _).mono ?_); rintro e w1 ⟨rfl, hb1⟩)
          go_ret3
          exact ⟨⟨_, rfl, ownK_nil _ _⟩, by rw [HBase.out]; exact HB.out.trans ((hb1.trans ((alloc1 w1 _).mono hb1.size)).mono hbw)⟩
        · have hl5 : ((pre.length : Int) == 5000) = false := by rw [beq_eq_false_iff_ne]; omega
          have hl6 : pre.length < 5000 := by omega
          have hF2 : scan (pre ++ [⟨kk, t, k⟩]) (evs (k + n + gp false ((s.data.toList.drop k).drop n)) (((s.data.toList.drop k).drop n).drop (gp false ((s.data.toList.drop k).drop n)))) = R := by
            rw [← hF]; symm; show (if _ then _ else _) = _
            rw [if_neg (fun h => h5 h.2), if_neg (fun h => h rfl)]
          have hkn : k + n ≤ s.size := by
            have := hw.2.1
            rw [List.length_drop, len_data] at this; omega
          have KG : ∀ W, Calls Try.prog 54 #[.string s, .int .i64 ((k : Int) + (n : Int))] W fun e w' => e = .returned (.int .i64 ((k + n + gp false (s.data.toList.drop (k + n)) : Nat) : Int)) ∧ W = w' := fun W => gap_any s (k + n) W hkn (by omega)
          have hgn := gp_le false (s.data.toList.drop (k + n))
          rw [List.length_drop, len_data] at hgn
          rw [List.drop_drop, List.drop_drop] at hF2
          obtain ⟨q, hq⟩ : ∃ q, k + n + gp false (s.data.toList.drop (k + n)) = q := ⟨_, rfl⟩
          rw [hq] at hF2 KG
          have hqk : k < q ∧ q ≤ s.size := by have := hw.1; omega
          have HF := Lib.hid hF2
          have hn1 := hw.1
          have hkn2 : (k : Int) + (n : Int) ≤ 20000 := by omega
          clear hF HS hn hne hw h5 hF2 hq hgn
          obtain ⟨hqk1, hqk2⟩ := hqk
          go_upto_region 7 with ((with_reducible refine (KN _).mono ?_); rintro e w1 ⟨rfl, hb1⟩)
          have b2 := alloc1 w1 (.cells #[.int .i64 kk, .string ⟨t.toArray⟩, .int .i64 (k : Int)] 75)
          have rx := IsRow.made w1 75 #[.int .i64 kk, .string ⟨t.toArray⟩, .int .i64 (k : Int)]
          obtain ⟨W2, hW2⟩ : ∃ V, w1.alloc (.cells #[.int .i64 kk, .string ⟨t.toArray⟩, .int .i64 (k : Int)] 75) = V := ⟨_, rfl⟩
          rw [hW2] at b2 rx
          rw [hW2]
          clear hW2
          obtain ⟨d0, d1, d2, _, _, _⟩ := facts3 rx
          have bx : Below wr.heap.size wr W2 := hb1.trans (b2.mono hb1.size)
          have hbW := Nat.le_trans hbw bx.size
          have HO2 := Lib.hid (HO.out.below bx)
          have HB2 := Lib.hid (HB.out.trans (bx.mono hbw))
          have b3 := alloc1 W2 (.cells #[.int .i64 kk, .string ⟨t.toArray⟩, .int .i64 (k : Int)] 75)
          have HO3 := Lib.hid (HO2.out.below b3)
          have HB3 := Lib.hid (HB2.out.trans (b3.mono (Nat.le_trans hbw bx.size)))
          have hown := HO3.out
          unfold OwnK at hown
          have hs3 := Lib.hid (Nat.le_trans (Nat.le_trans hbw bx.size) b3.size)
          clear rx bx b2 b3 HO HB
          go_wp2_with (first
            | ((with_reducible refine (KG _).mono ?_); rintro e w' ⟨rfl, rfl⟩)
            | (at_builtin; go_loud (refine wpList_append_own _ rfl _ _ 68 rfl base 75 i0 _ 3 32 Try.underlying68 HT.out.1 HT.out.2.2.2 HT.out.2.1 HT.out.2.2.1 (by decide) (by decide) (.slice ao pre.length cap) pre.length (flatK pre) rfl hown ⟨W2.heap.size, 0, none⟩ 1 1 [.int .i64 kk, .string ⟨t.toArray⟩, .int .i64 (k : Int)] rfl rfl (World.news_of_block (heap_alloc_new W2 _)) (encK_one ⟨kk, t, k⟩) (by unfold maxLen; omega) (by omega) (by simp; omega) ?_; intro v' w9 hown' hgrow _; obtain ⟨g', cap', hv'⟩ := ownsRow_succ hown'; subst hv')))
          have O5 := ownK_snoc (s := ⟨kk, t, k⟩) (L := pre) hown'
          have B5 := Lib.hid (HB3.out.grown hgrow hs3.out (fun k e => (HO3.out.row k e).1))
          go_roundw
          case rel => exact ⟨pre ++ [⟨kk, t, k⟩], q, _, _, by omega, by rw [List.length_append]; simp; omega, by rw [List.length_append]; rfl, rfl, Lib.hid (by rw [List.length_append]; exact O5), B5, HF⟩
          case measure => simp [intOf]; omega
    · obtain rfl : k = s.size := by omega
      have hF := HS.out
      rw [evs_end s s.size (Nat.le_refl _)] at hF
      subst hF
      clear HS
      go_wp2
      go_ret3
      exact ⟨⟨_, rfl, by rw [HBase.out]; exact HO.out⟩, by rw [HBase.out]; exact HB.out⟩
end Go.Proofs.Ytlknbjaippfemaa.Lx
