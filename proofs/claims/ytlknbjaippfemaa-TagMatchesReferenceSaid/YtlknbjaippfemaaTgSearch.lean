/- tag: strings.Compare at keys; slices.BinarySearchFunc. -/
import Derived.Test.YtlknbjaippfemaaTgKeys
import Derived.Test.YtlknbjaippfemaaTgOwn
namespace Go.Proofs.Ytlknbjaippfemaa.Tg
open Go.RowKit
open Lx (IsRow alloc1)
theorem cmp_lt : ∀ {a b : B}, Lib.compareBytes a b < 0 ↔ a < b
  | [], [] => by simp [Lib.compareBytes]
  | [], _ :: _ => by simp [Lib.compareBytes]
  | _ :: _, [] => by simp [Lib.compareBytes]
  | x :: a, y :: b => by
    unfold Lib.compareBytes
    rw [List.cons_lt_cons_iff]
    split
    · rename_i h; simp [h]
    · split
      · rename_i h1 h2
        constructor
        · intro h; omega
        · rintro (h | ⟨rfl, _⟩)
          · exact absurd h h1
          · exact absurd h2 h1
      · rename_i h1 h2
        have e : x = y := UInt8.le_antisymm (UInt8.not_lt.1 h2) (UInt8.not_lt.1 h1)
        rw [cmp_lt (a := a)]
        simp [e]
theorem cmp_zero : ∀ {a b : B}, Lib.compareBytes a b = 0 ↔ a = b
  | [], [] => by simp [Lib.compareBytes]
  | [], _ :: _ => by simp [Lib.compareBytes]
  | _ :: _, [] => by simp [Lib.compareBytes]
  | x :: a, y :: b => by
    unfold Lib.compareBytes
    split
    · rename_i h
      simp
      rintro rfl
      exact absurd h (UInt8.lt_irrefl _)
    · split
      · rename_i h1 h2
        simp
        rintro rfl
        exact absurd h2 (UInt8.lt_irrefl _)
      · rename_i h1 h2
        have e : x = y := UInt8.le_antisymm (UInt8.not_lt.1 h2) (UInt8.not_lt.1 h1)
        rw [cmp_zero (a := a)]
        simp [e]
theorem cmp_any (t : T) (key : B) (w : World) : Calls Try.prog 44 #[.agg #[.string ⟨t.1.toArray⟩, .string ⟨t.2.toArray⟩], .string ⟨key.toArray⟩] w fun e w' => e = .returned (.int .i64 (Lib.compareBytes t.1 key)) ∧ Below w.heap.size w w' := by
  obtain ⟨w1, e1, b1, r1⟩ := tag_made w (.string ⟨t.1.toArray⟩) (.string ⟨t.2.toArray⟩)
  have HW := Lib.hid e1
  have B1 := Lib.hid b1
  obtain ⟨y0, y1, _, _⟩ := facts2 r1
  have KC := Lib.hid (Try.strings_Compare ⟨t.1.toArray⟩ ⟨key.toArray⟩ w1)
  rw [Lx.str_eq, Lx.str_eq] at KC
  clear e1 b1 r1
  go_enter Try.func44, Try.ntmps44
  go_upto_region 1 with fail
  rw [HW.out]
  go_wp2_with (refine KC.out.mono ?_; rintro e w2 ⟨rfl, rfl⟩)
  go_ret
  exact ⟨rfl, B1.out⟩
/-- i parts the keys. -/
def Cut (l : List T) (key : B) (i : Nat) : Prop := i ≤ l.length ∧ (∀ t ∈ l.take i, t.1 < key) ∧ ∀ t ∈ l.drop i, ¬ t.1 < key
theorem Cut.low {l : List T} {key : B} {i : Nat} (h : Cut l key i) : lowT l key = l.take i := by
  unfold lowT
  conv => lhs; rw [← List.take_append_drop i l]
  rw [List.filter_append, List.filter_eq_self.2 (fun t ht => decide_eq_true (h.2.1 t ht)), List.filter_eq_nil_iff.2 (fun t ht => by simpa using h.2.2 t ht), List.append_nil]
theorem Cut.up_found {l : List T} {key : B} {i : Nat} (h : Cut l key i) (hl : Inc l) (hi : i < l.length) (he : l[i].1 = key) : upT l key = l.drop (i + 1) := by
  unfold upT
  conv => lhs; rw [← List.take_append_drop (i + 1) l]
  rw [List.filter_append, List.filter_eq_nil_iff.2 ?_, List.filter_eq_self.2 ?_, List.nil_append]
  · intro t ht
    have h2 := hl.sublist (List.drop_sublist i l)
    rw [List.drop_eq_getElem_cons hi] at h2
    have := (List.pairwise_cons.1 h2).1 t ht
    rw [he] at this
    simpa using this
  · intro t ht
    rw [List.take_succ_eq_append_getElem hi] at ht
    rcases List.mem_append.1 ht with ht | ht
    · simpa using b_not (h.2.1 t ht)
    · rw [List.mem_singleton] at ht
      rw [ht, he]
      simp
theorem Cut.up_none {l : List T} {key : B} {i : Nat} (h : Cut l key i) (hl : Inc l) (he : ∀ hi : i < l.length, l[i].1 ≠ key) : upT l key = l.drop i := by
  unfold upT
  conv => lhs; rw [← List.take_append_drop i l]
  rw [List.filter_append, List.filter_eq_nil_iff.2 ?_, List.filter_eq_self.2 ?_, List.nil_append]
  · intro t ht
    have h2 := h.2.2 t ht
    by_cases hi : i < l.length
    · rw [List.drop_eq_getElem_cons hi] at ht
      have h3 : key < l[i].1 := by
        have h4 := h.2.2 l[i] (by rw [List.drop_eq_getElem_cons hi]; exact List.mem_cons_self ..)
        rcases b_lt_or key l[i].1 with g | g | g
        · exact g
        · exact absurd g.symm (he hi)
        · exact absurd g h4
      rcases List.mem_cons.1 ht with rfl | ht
      · simpa using h3
      · have h5 := hl.sublist (List.drop_sublist i l)
        rw [List.drop_eq_getElem_cons hi] at h5
        simpa using List.lt_trans h3 ((List.pairwise_cons.1 h5).1 t ht)
    · rw [List.drop_eq_nil_of_le (by omega)] at ht
      cases ht
  · intro t ht
    simpa using b_not (h.2.1 t ht)
theorem half_int (i j : Nat) (h : i + j ≤ 1000000) : IntKind.i64.wrap (((((i + j : Nat) : Int)) / 2)) = (((i + j) / 2 : Nat) : Int) := by
  rw [IntWalk.i64_in _ (by omega)]
  omega
set_option maxRecDepth 100000 in
set_option maxHeartbeats 4000000 in
theorem search_any (ao : Option Addr) (n cap : Nat) (l : List T) (key : B) (w : World) (hn : l.length = n) (ha : TagsT w w.heap.size ao l) (hc : n ≤ cap) (hm : n ≤ 100000) (hl : Inc l) :
    Calls Try.prog 43 #[.slice ao n cap, .string ⟨key.toArray⟩, .func (.func 44) #[] #[]] w fun e w' => (∃ i : Nat, ∃ f : Bool, e = .returned (.tuple #[.int .i64 i, .bool f]) ∧ Cut l key i ∧ (f = true → ∃ hi : i < l.length, l[i].1 = key) ∧ (f = false → ∀ hi : i < l.length, l[i].1 ≠ key)) ∧ Below w.heap.size w w' := by
  have HA := Lib.hid ha
  have HN := Lib.hid hn
  have HI := Lib.hid hl
  have hc' : (n : Int) ≤ (cap : Int) := by omega
  have hm' : (n : Int) ≤ 100000 := by omega
  clear hn ha hl
  go_enter Try.func43, Try.ntmps43
  go_wp2
  go_loopw [9, 10] (fun i j wr => ∃ a b : Nat, a ≤ b ∧ b ≤ n ∧ i = .int .i64 a ∧ j = .int .i64 b ∧ Hid (∀ t ∈ l.take a, t.1 < key) ∧ Hid (∀ t ∈ l.drop b, ¬ t.1 < key) ∧ Hid (Below w.heap.size w wr)) (fun i j _ => (Lx.intOf j - Lx.intOf i).toNat)
  case atStart => exact ⟨0, n, by omega, by omega, rfl, rfl, Lib.hid (fun t h => by simp at h), Lib.hid (fun t h => by rw [← HN.out, List.drop_length] at h; cases h), Lib.hid (Below.refl _ _)⟩
  case round =>
    obtain ⟨a, b, hab, hbn, rfl, rfl, HL, HU, HK⟩ := hrel
    by_cases hlt : a < b
    · have hlt2 : (a : Int) < (b : Int) := by omega
      go_upto_region 5 with fail
      obtain ⟨h, hh⟩ : ∃ h : Nat, h = (a + b) / 2 := ⟨_, rfl⟩
      have hq : ((a : Int) + (b : Int)) / 2 = (h : Int) := by omega
      rw [hq]
      have ha1 : a ≤ h := by omega
      have hb1 : h < b := by omega
      have hkl : h < l.length := by rw [HN.out]; omega
      have hn1 : (h : Int) < (n : Int) := by omega
      obtain ⟨g, off, rfl, hg, x0, x1⟩ := (HA.out.below HK.out (Nat.le_refl _)).at_ hkl
      have KC := Lib.hid (fun w' => cmp_any l[h] key w')
      have HG := Lib.hid (show l[h].1 < key → ∀ t ∈ l.take (h + 1), t.1 < key from fun hne t ht => by
        rw [List.take_succ_eq_append_getElem hkl] at ht
        rcases List.mem_append.1 ht with q | q
        · have q2 := HI.out.sublist (List.take_sublist (h + 1) l)
          rw [List.take_succ_eq_append_getElem hkl] at q2
          exact List.lt_trans ((List.pairwise_append.1 q2).2.2 t q _ (List.mem_singleton.2 rfl)) hne
        · rw [List.mem_singleton] at q
          rw [q]; exact hne)
      have HG2 := Lib.hid (show ¬ l[h].1 < key → ∀ t ∈ l.drop h, ¬ t.1 < key from fun hne t ht => by
        rw [List.drop_eq_getElem_cons hkl] at ht
        have q2 := HI.out.sublist (List.drop_sublist h l)
        rw [List.drop_eq_getElem_cons hkl] at q2
        rcases List.mem_cons.1 ht with rfl | q
        · exact hne
        · exact fun q3 => hne (List.lt_trans ((List.pairwise_cons.1 q2).1 t q) q3))
      generalize l[h] = tg at *
      obtain ⟨ky, val⟩ := tg
      dsimp only at x0 x1 HG HG2 KC
      clear hkl hq hh
      by_cases hk : ky < key
      · have GG := Lib.hid (HG.out hk)
        have hcmp := cmp_lt.2 hk
        clear HG HG2
        go_wp2_with (with_reducible refine (KC.out _).mono ?_; rintro e w2 ⟨rfl, B2⟩)
        have H1 := Lib.hid (HK.out.trans (B2.mono HK.out.size))
        go_roundw
        case rel => exact ⟨h + 1, b, by omega, hbn, by go_num, rfl, GG, HU, H1⟩
        case measure => simp [Lx.intOf]; omega
      · have GG := Lib.hid (HG2.out hk)
        have hcmp : ¬ Lib.compareBytes ky key < 0 := fun q => hk (cmp_lt.1 q)
        clear HG HG2
        go_wp2_with (with_reducible refine (KC.out _).mono ?_; rintro e w2 ⟨rfl, B2⟩)
        have H1 := Lib.hid (HK.out.trans (B2.mono HK.out.size))
        go_roundw
        case rel => exact ⟨a, h, ha1, by omega, rfl, by go_num, HL, GG, H1⟩
        case measure => simp [Lx.intOf]; omega
    · obtain rfl : a = b := by omega
      by_cases hlt2 : a < n
      · have hn1 : (a : Int) < (n : Int) := by omega
        have hkl : a < l.length := by rw [HN.out]; exact hlt2
        obtain ⟨g, off, rfl, hg, x0, x1⟩ := (HA.out.below HK.out (Nat.le_refl _)).at_ hkl
        have KC := Lib.hid (fun w' => cmp_any l[a] key w')
        have F := Lib.hid (show (Lib.compareBytes l[a].1 key = 0 → ∃ hi : a < l.length, l[a].1 = key) ∧ (¬ Lib.compareBytes l[a].1 key = 0 → ∀ hi : a < l.length, l[a].1 ≠ key) from
          ⟨fun q => ⟨hkl, cmp_zero.1 q⟩, fun q _ q2 => q (cmp_zero.2 q2)⟩)
        generalize hc : Lib.compareBytes l[a].1 key = c at *
        generalize l[a] = tg at *
        obtain ⟨ky, val⟩ := tg
        dsimp only at x0 x1 KC
        subst hc
        have F1 := Lib.hid (show ((Lib.compareBytes ky key == 0) = true → ∃ hi : a < l.length, l[a].1 = key) ∧ ((Lib.compareBytes ky key == 0) = false → ∀ hi : a < l.length, l[a].1 ≠ key) from
          ⟨fun q => F.out.1 (by simpa using q), fun q => F.out.2 (by simpa using q)⟩)
        clear F
        go_wp2_with (with_reducible refine (KC.out _).mono ?_; rintro e w2 ⟨rfl, B2⟩)
        have H1 := Lib.hid (HK.out.trans (B2.mono HK.out.size))
        go_ret2
        exact ⟨⟨a, _, rfl, ⟨by rw [HN.out]; omega, HL.out, HU.out⟩, F1.out.1, F1.out.2⟩, H1.out⟩
      · obtain rfl : a = n := by omega
        have F := Lib.hid (show ∀ hi : a < l.length, l[a].1 ≠ key from fun hi => absurd hi (by rw [HN.out]; omega))
        go_wp2_with fail
        go_ret2
        exact ⟨⟨a, false, rfl, ⟨by rw [HN.out]; omega, HL.out, HU.out⟩, (fun q => nomatch q), fun _ => F.out⟩, HK.out⟩
end Go.Proofs.Ytlknbjaippfemaa.Tg
