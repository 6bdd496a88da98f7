/- tag: tags in memory; Valid, Get; the reference's Same, Strings, Few. -/
import Derived.Test.YtlknbjaippfemaaTgMath
import Derived.Test.YtlknbjaippfemaaLxHead
import Derived.Sort.Walk0
namespace Go.Proofs.Ytlknbjaippfemaa.Tg
open Go.RowKit
open Lx hiding intOf
/-- a slice of tags in memory below Z. -/
def TagsT (w : World) (Z : Nat) (ao : Option Addr) (l : List T) : Prop := 0 < l.length → ∃ g off, ao = some ⟨g, off, none⟩ ∧ g < Z ∧ ∀ (k : Nat) (t : T), l[k]? = some t →
  w.cell? ⟨g, off + k * 2, none⟩ = some (.string ⟨t.1.toArray⟩) ∧ w.cell? ⟨g, off + k * 2 + 1, none⟩ = some (.string ⟨t.2.toArray⟩)
theorem TagsT.below {w w' : World} {Z Z' : Nat} {ao : Option Addr} {l : List T} (h : TagsT w Z ao l) (hb : Below Z' w w') (hZ : Z ≤ Z') : TagsT w' Z ao l := fun h0 => by
  obtain ⟨g, off, e, hg, hc⟩ := h h0
  exact ⟨g, off, e, hg, fun k t hk => by
    obtain ⟨c0, c1⟩ := hc k t hk
    exact ⟨(hb.cell (p := ⟨g, _, none⟩) (Nat.lt_of_lt_of_le hg hZ)).trans c0, (hb.cell (p := ⟨g, _, none⟩) (Nat.lt_of_lt_of_le hg hZ)).trans c1⟩⟩
theorem TagsT.more {w : World} {Z Z' : Nat} {ao : Option Addr} {l : List T} (h : TagsT w Z ao l) (hZ : Z ≤ Z') : TagsT w Z' ao l := fun h0 => by
  obtain ⟨g, off, e, hg, hc⟩ := h h0
  exact ⟨g, off, e, Nat.lt_of_lt_of_le hg hZ, hc⟩
theorem TagsT.later {w w' : World} {ao : Option Addr} {l : List T} (h : TagsT w w.heap.size ao l) (hb : Below w.heap.size w w') : TagsT w' w'.heap.size ao l := (h.below hb (Nat.le_refl _)).more hb.size
theorem TagsT.at_ {w : World} {Z : Nat} {ao : Option Addr} {l : List T} {k : Nat} (h : TagsT w Z ao l) (hk : k < l.length) : ∃ g off, ao = some ⟨g, off, none⟩ ∧ g < Z ∧
    w.cell? ⟨g, off + k * 2, none⟩ = some (.string ⟨l[k].1.toArray⟩) ∧ w.cell? ⟨g, off + k * 2 + 1, none⟩ = some (.string ⟨l[k].2.toArray⟩) := by
  obtain ⟨g, off, e, hg, hc⟩ := h (by omega)
  exact ⟨g, off, e, hg, hc k _ (List.getElem?_eq_getElem hk)⟩
theorem TagsT.nil {w : World} {Z : Nat} {ao : Option Addr} : TagsT w Z ao [] := fun h => by cases h
/-- keys and values are of a size. -/
def Siz (l : List T) : Prop := ∀ t ∈ l, t.1.length ≤ 100000 ∧ t.2.length ≤ 100000
theorem facts2 {w : World} {g : Nat} {t : TypeId} {a b : Value} (h : IsRow w g t #[a, b]) :
    w.cell? ⟨g, 0, none⟩ = some a ∧ w.cell? ⟨g, 1, none⟩ = some b ∧ w.frozen? ⟨g, 0, none⟩ = false ∧ w.frozen? ⟨g, 1, none⟩ = false := ⟨h.get 0, h.get 1, h.open_ 0, h.open_ 1⟩
theorem tag_made (w : World) (a b : Value) : ∃ w', w.alloc (.cells #[a, b] 43) = w' ∧ Below w.heap.size w w' ∧ IsRow w' w.heap.size 43 #[a, b] := ⟨_, rfl, alloc1 _ _, IsRow.made _ _ _⟩
theorem chk_bad {l : List T} {k : Nat} (h : chk (l.take k) = false) : vld l = false := by
  unfold vld
  cases hc : chk l with
  | false => rw [Bool.and_false]
  | true => rw [chk_take hc k] at h; cases h
theorem mk_iff (a b : B) : (ByteArray.mk a.toArray = ByteArray.mk b.toArray) ↔ a = b := ⟨fun h => by simpa using congrArg (fun s => s.data.toList) h, fun h => by rw [h]⟩
set_option maxRecDepth 100000 in
set_option maxHeartbeats 4000000 in
theorem valid_any (ao : Option Addr) (n cap : Nat) (l : List T) (w : World) (hn : l.length = n) (ha : TagsT w w.heap.size ao l) (hc : n ≤ cap) (hS : Siz l) :
    Calls Try.prog 20 #[.slice ao n cap] w fun e w' => e = .returned (.bool (vld l)) ∧ Below w.heap.size w w' := by
  have HA := Lib.hid ha
  have HN := Lib.hid hn
  have HS := Lib.hid hS
  have hc' : (n : Int) ≤ (cap : Int) := by omega
  obtain ⟨R, hR⟩ : ∃ R, vld l = R := ⟨_, rfl⟩
  rw [hR]
  have HR := Lib.hid hR
  by_cases h60 : n ≤ 60
  rotate_left
  · have hz : (60 : Int) < (n : Int) := by omega
    have e : R = false := by rw [← hR]; unfold vld; rw [hn, decide_eq_false h60, Bool.false_and]
    subst e
    clear hR hn ha
    go_enter Try.func20, Try.ntmps20
    go_wp2
    go_ret
    exact ⟨rfl, Below.refl _ _⟩
  have hz : ¬ (60 : Int) < (n : Int) := by omega
  have HV := Lib.hid (show chk l = R by rw [← hR]; unfold vld; rw [hn, decide_eq_true h60, Bool.true_and])
  have hn60 : (n : Int) ≤ 60 := by omega
  clear hR hn ha hS
  go_enter Try.func20, Try.ntmps20
  go_wp2
  go_loopw [10] (fun i wr => ∃ k : Nat, k ≤ n ∧ i = .int .i64 k ∧ Hid (chk (l.take k) = true) ∧ Hid (Below w.heap.size w wr)) (fun i _ => n - (intOf i).toNat)
  case atStart => exact ⟨0, by omega, rfl, Lib.hid rfl, Lib.hid (Below.refl _ _)⟩
  case round =>
    obtain ⟨k, hk, rfl, HC, HK⟩ := hrel
    by_cases hlt : k < n
    · have hkl : k < l.length := by rw [HN.out]; exact hlt
      have hlt2 : (k : Int) < (n : Int) := by omega
      have hA := HA.out.below HK.out (Nat.le_refl _)
      obtain ⟨g, off, rfl, hg, x0, x1⟩ := hA.at_ hkl
      have hsz := HS.out _ (List.getElem_mem hkl)
      have hst := chk_step hkl
      rw [HC.out, Bool.true_and] at hst
      have PRE := Lib.hid (show 0 < k → ∃ p : B, wr.cell? ⟨g, off + (k - 1) * 2, none⟩ = some (.string ⟨p.toArray⟩) ∧ chk (l.take (k + 1)) = (okT l[k] && decide (p < l[k].1)) from fun h0 => by
        obtain ⟨g2, o2, e2, hg2, x2, _⟩ := hA.at_ (k := k - 1) (by omega)
        injection e2 with e2
        injection e2 with e3 e4
        exact ⟨(l[k - 1]'(by omega)).1, by rw [e3, e4]; exact x2, by rw [hst, decide_eq_false (by omega), Bool.false_or]⟩)
      have FST := Lib.hid (show k = 0 → chk (l.take (k + 1)) = okT l[k] from fun h0 => by rw [hst, decide_eq_true h0, Bool.true_or, Bool.and_true])
      have ALL := Lib.hid (show okT l[k] = false → chk (l.take (k + 1)) = false from fun h0 => by rw [hst, h0, Bool.false_and])
      have END := Lib.hid (show chk (l.take (k + 1)) = false → R = false from fun h => by
        have := chk_bad h
        rw [HR.out] at this
        exact this)
      obtain ⟨c2, hc2⟩ : ∃ c, chk (l.take (k + 1)) = c := ⟨_, rfl⟩
      rw [hc2] at PRE FST ALL END
      have C2 := Lib.hid hc2
      have hkk : l[k] = (l[k].1, l[k].2) := rfl
      generalize l[k].1 = key at *
      generalize l[k].2 = val at *
      rw [hkk] at PRE FST ALL
      have NM := Lib.hid (fun W => name_any ⟨key.toArray⟩ W (by rw [str_size]; exact hsz.1))
      obtain ⟨nm, hnm⟩ : ∃ b, nmB key = b := ⟨_, rfl⟩
      rw [str_eq] at NM
      rw [hnm] at NM
      have OK := Lib.hid (show okT (key, val) = (nm && decide (0 < val.length) && decide (val.length ≤ 200)) by unfold okT; rw [hnm])
      clear hc2 hkk hst hsz hA hnm HC hkl
      go_wp2_with fail
      go_upto_region 6 with fail
      obtain ⟨w1, hw1, b1, r1⟩ := tag_made wr (.string ⟨key.toArray⟩) (.string ⟨val.toArray⟩)
      rw [hw1]
      obtain ⟨y0, y1, _, _⟩ := facts2 r1
      have H1 := Lib.hid (HK.out.trans (b1.mono HK.out.size))
      have LT := Lib.hid (show ∀ i v, wr.cell? ⟨g, i, none⟩ = some v → w1.cell? ⟨g, i, none⟩ = some v from fun i v h => (b1.cell (p := ⟨g, _, none⟩) (Nat.lt_of_lt_of_le hg HK.out.size)).trans h)
      clear hw1 b1 r1 x0 x1
      have NM1 := Lib.hid (NM.out w1)
      go_wp2_with fail
      refine NM1.out.mono ?_
      rintro e w' ⟨rfl, rfl⟩
      clear NM NM1
      cases nm with
      | false =>
        obtain rfl := END.out (ALL.out (by rw [OK.out]; rfl))
        go_wp2
        go_ret
        exact ⟨rfl, H1.out⟩
      | true =>
        by_cases v0 : val = []
        · obtain rfl := END.out (ALL.out (by rw [OK.out, v0]; rfl))
          subst v0
          go_wp2
          go_ret
          exact ⟨rfl, H1.out⟩
        · have hpos : 0 < val.length := by cases val with | nil => exact absurd rfl v0 | cons => simp
          have e1 : (val == []) = false := by
            rw [beq_eq_false_iff_ne]
            exact v0
          have e2 : val.isEmpty = false := by
            cases val with | nil => exact absurd rfl v0 | cons => rfl
          by_cases v200 : val.length ≤ 200
          · have hl5 : ¬ (200 : Int) < (val.length : Int) := by omega
            have OK2 := Lib.hid (show okT (key, val) = true by rw [OK.out, decide_eq_true hpos, decide_eq_true v200]; rfl)
            clear v0 v200 hpos ALL
            by_cases h0 : 0 < k
            · obtain ⟨p, xp, hp⟩ := PRE.out h0
              have xp1 := LT.out _ _ xp
              have hd : decide ((0 : Int) < (k : Int)) = true := decide_eq_true (by omega)
              have hk1 : IntKind.i64.wrap ((k : Int) - 1) = ((k - 1 : Nat) : Int) := by
                rw [IntWalk.i64_in _ (by omega)]
                omega
              have hk2 : ((k - 1 : Nat) : Int) < (n : Int) := by omega
              have HP := Lib.hid (show c2 = Op.bytesLess p key by rw [hp, OK2.out, Bool.true_and, bytesLess_eq])
              clear PRE FST hp xp LT
              cases c2 with
              | false =>
                have hlt3 : Op.bytesLess p key = false := HP.out.symm
                obtain rfl := END.out (by first | rfl | trivial)
                go_upto_region 8 with fail
                go_quiet (fail)
                have H12 := Lib.hid (fun j => (show Below w1.heap.size w1 (w1.drewN j) from ⟨rfl, rfl, rfl, Nat.le_refl _, fun _ _ => rfl⟩))
                go_wp2
                go_ret
                exact ⟨rfl, H1.out.trans ((H12.out _).mono H1.out.size)⟩
              | true =>
                have hlt3 : Op.bytesLess p key = true := HP.out.symm
                go_upto_region 8 with fail
                go_quiet (fail)
                have H12 := Lib.hid (fun j => (show Below w1.heap.size w1 (w1.drewN j) from ⟨rfl, rfl, rfl, Nat.le_refl _, fun _ _ => rfl⟩))
                go_wp2
                go_roundw
                case rel => exact ⟨k + 1, by omega, by go_num, C2, Lib.hid (H1.out.trans ((H12.out _).mono H1.out.size))⟩
                case measure => simp [intOf]; omega
            · have hd : decide ((0 : Int) < (k : Int)) = false := decide_eq_false (by omega)
              have HT := Lib.hid (show chk (l.take (k + 1)) = true by rw [C2.out, FST.out (by omega), OK2.out])
              clear PRE FST LT
              go_upto_region 8 with fail
              go_quiet (fail)
              have H12 := Lib.hid (fun j => (show Below w1.heap.size w1 (w1.drewN j) from ⟨rfl, rfl, rfl, Nat.le_refl _, fun _ _ => rfl⟩))
              go_wp2
              go_roundw
              case rel => exact ⟨k + 1, by omega, by go_num, HT, Lib.hid (H1.out.trans ((H12.out _).mono H1.out.size))⟩
              case measure => simp [intOf]; omega
          · obtain rfl := END.out (ALL.out (by rw [OK.out, decide_eq_false v200, Bool.and_false]))
            have hl5 : (200 : Int) < (val.length : Int) := by omega
            clear v0 v200
            go_wp2
            go_ret
            exact ⟨rfl, H1.out⟩
    · obtain rfl : n = k := by omega
      obtain rfl : true = R := by
        have := HC.out
        rw [← HN.out, List.take_length, HV.out] at this
        exact this.symm
      go_wp2
      go_ret
      exact ⟨rfl, HK.out⟩
end Go.Proofs.Ytlknbjaippfemaa.Tg
