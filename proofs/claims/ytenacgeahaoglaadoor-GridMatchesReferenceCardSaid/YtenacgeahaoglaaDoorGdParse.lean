/- grid: Text, Parse. -/
import Derived.Test.YtenacgeahaoglaaDoorGdPix
import Derived.Test.YtenacgeahaoglaaDoorGdText
import Derived.Test.YtenacgeahaoglaaDoorGdShelf
import Derived.WalkSmall
import Derived.Lib.AtoiErrMem
namespace Go.Proofs.YtenacgeahaoglaaDoor.Gd
open Go.RowKit Go.Sort
/-- the library's table of powers of ten lies as it was laid. -/
def Tab (w : World) : Prop := Lib.TabIs Tryd.prog w "internal/strconv.uint64pow10" .u64 Lib.pow10Tab
theorem tab_at : Tryd.prog.globalNamed "internal/strconv.uint64pow10" = some 4 := by kernel_rfl
theorem Tab.inside {w : World} (h : Tab w) : 4 < w.heap.size := by
  refine Nat.lt_of_not_le fun hge => ?_
  unfold Tab Lib.TabIs World.var? at h
  rw [tab_at] at h
  simp [Array.getElem?_eq_none hge] at h
theorem Tab.below {w w' : World} (h : Tab w) {B : Nat} (hb : Below B w w') (hB : w.heap.size ≤ B) : Tab w' := var?_below hb tab_at (Nat.lt_of_lt_of_le h.inside hB) h
/-- a variable holds an error or none. -/
def ErrAt (w : World) (g : Nat) : Prop := ∃ ev, w.cell? ⟨g, 0, none⟩ = some ev ∧ (ev = .nilIface ∨ ∃ te pe, ev = .iface te pe)
/-- what the walks ask of the package-level variables. -/
structure Gw (w : World) : Prop where
  sides : Sides w
  tab : Tab w
  maxl : ∃ m, w.cell? ⟨1, 0, none⟩ = some (.int .i64 m)
  esyn : ErrAt w 2
  erng : ErrAt w 3
theorem cell_later {w w' : World} {p : Addr} {v : Value} {B : Nat} (h : w.cell? p = some v) (hb : Below B w w') (hB : w.heap.size ≤ B) : w'.cell? p = some v :=
  (hb.cell (Nat.lt_of_lt_of_le (World.block_lt_of_cell? _ _ h) hB)).trans h
theorem ErrAt.below {w w' : World} {g : Nat} (h : ErrAt w g) {B : Nat} (hb : Below B w w') (hB : w.heap.size ≤ B) : ErrAt w' g := by
  obtain ⟨ev, h1, h2⟩ := h
  exact ⟨ev, cell_later h1 hb hB, h2⟩
theorem Gw.below {w w' : World} (h : Gw w) (hb : Below w.heap.size w w') : Gw w' :=
  ⟨h.sides.below hb (Nat.le_refl _), h.tab.below hb (Nat.le_refl _), by obtain ⟨m, hm⟩ := h.maxl; exact ⟨m, cell_later hm hb (Nat.le_refl _)⟩, h.esyn.below hb (Nat.le_refl _), h.erng.below hb (Nat.le_refl _)⟩
/-- the same where a block that the call made itself has turned. -/
theorem Gw.from_ {w w1 w' : World} (h : Gw w) {B : Nat} (h1 : Below w.heap.size w w1) (hb : Below B w1 w') (hB : w.heap.size ≤ B) : Gw w' := h.below (h1.trans (hb.mono hB))
/-- A call that answers v in whatever world holds the variables. -/
def AnsG (P : Program) (f : FuncId) (args : Array Value) (v : Value) : Prop := ∀ w, Gw w → Calls P f args w fun e w' => e = .returned v ∧ Below w.heap.size w w'
theorem AnsG.to {P : Program} {f : FuncId} {args : Array Value} {v u : Value} (h : AnsG P f args v) (e : v = u) : AnsG P f args u := e ▸ h
theorem AnsS.g {P : Program} {f : FuncId} {args : Array Value} {v : Value} (h : AnsS P f args v) : AnsG P f args v := fun w hw => h w hw.sides
theorem Answers.g {P : Program} {f : FuncId} {args : Array Value} {v : Value} (h : Answers P f args v) : AnsG P f args v := fun w _ => h w
theorem str_eq (l : List UInt8) : (ByteArray.mk l.toArray).data.toList = l := by simp
theorem str_size (l : List UInt8) : (ByteArray.mk l.toArray).size = l.length := by simp [ByteArray.size]
theorem grow_below (w : World) (k : Nat) (os : Array Obj) : Below w.heap.size w (grow (w.drewN k) os) := ⟨rfl, rfl, rfl, by simp [Sort.grow], fun i hi => by simp [Sort.grow, World.drewN, Array.getElem?_append, hi]⟩
theorem drewN_below (w : World) (k : Nat) : Below w.heap.size w (w.drewN k) := ⟨rfl, rfl, rfl, Nat.le_refl _, fun _ _ => rfl⟩
theorem itoa_any (n : Int) (h0 : -9223372036854775808 ≤ n) (h1 : n ≤ 9223372036854775807) : AnsG Tryd.prog 44 #[.int .i64 n] (.string ⟨(Lib.itoa n).toArray⟩) := fun w hw => by
  refine (Tryd.strconv_Itoa n h0 h1 w hw.tab).mono ?_
  rintro e w' ⟨rfl, k, os, rfl⟩
  exact ⟨rfl, grow_below w k os⟩
theorem cut_any (l : List UInt8) (hl : l.length ≤ 1000) (w : World) (hw : Gw w) :
    Calls Tryd.prog 47 #[.string ⟨l.toArray⟩, .string ⟨#[47]⟩] w fun e w' => e = .returned (.tuple #[.string ⟨(Lib.cut l [47]).1.toArray⟩, .string ⟨(Lib.cut l [47]).2.1.toArray⟩, .bool (Lib.cut l [47]).2.2]) ∧ Below w.heap.size w w' := by
  obtain ⟨m, hm⟩ := hw.maxl
  refine (Tryd.strings_Cut ⟨l.toArray⟩ ⟨#[47]⟩ m w (by rw [str_size]; omega) hm).mono ?_
  rintro e w' ⟨rfl, k, rfl⟩
  exact ⟨by rw [str_eq], drewN_below w k⟩
theorem atoi_any (l : List UInt8) (hl : l.length ≤ 1000) (w : World) (hw : Gw w) :
    Calls Tryd.prog 48 #[.string ⟨l.toArray⟩] w fun e w' => ∃ x, e = .returned (.tuple #[.int .i64 (nv l), x]) ∧ Below w.heap.size w w' := by
  cases h : Lib.atoiAll l
  · rename_i v
    refine (Tryd.strconv_Atoi_ok ⟨l.toArray⟩ (by rw [str_size]; omega) v (by rw [str_eq]; exact h) w).mono ?_
    rintro e w' ⟨rfl, rfl | ⟨t, rfl⟩⟩
    · exact ⟨_, by unfold nv; rw [h], Below.refl _ _⟩
    · refine ⟨_, by unfold nv; rw [h], ?_⟩
      exact Lib.bytesWorld_below _ _ _
  · obtain ⟨ev, h1, h2⟩ := hw.esyn
    refine (Any.strconv_Atoi_syntax Tryd.laysC172 ⟨l.toArray⟩ (by rw [str_size]; omega) (by rw [str_eq]; exact h) ev w h1 h2).mono ?_
    rintro e w' ⟨N, rfl, _, _, hb⟩
    exact ⟨_, by unfold nv; rw [h], hb⟩
  · obtain ⟨ev, h1, h2⟩ := hw.erng
    refine (Tryd.strconv_Atoi_range ⟨l.toArray⟩ (by rw [str_size]; omega) (by rw [str_eq]; exact h) ev w h1 h2).mono ?_
    rintro e w' ⟨N, rfl, _, _, hb⟩
    exact ⟨_, by unfold nv; rw [h, str_eq], hb⟩
theorem txt_bytes (a b c : Nat) : ByteArray.mk (txtN ⟨a, b, c⟩).toArray = ByteArray.mk (Lib.decDigits a).toArray ++ ByteArray.mk #[47] ++ ByteArray.mk (Lib.decDigits b).toArray ++ ByteArray.mk #[47] ++ ByteArray.mk (Lib.decDigits c).toArray := by
  rw [txt_nat]
  apply ByteArray.ext
  simp only [ByteArray.data_append]
  apply Array.ext'
  simp
theorem held3 {w w' : World} {b : Nat} {z x y : Int} (R : IsRow w b 25 #[.int .i64 z, .int .i64 x, .int .i64 y]) (hb : Below w.heap.size w w') :
    w'.cell? ⟨b, 0, none⟩ = some (.int .i64 z) ∧ w'.cell? ⟨b, 1, none⟩ = some (.int .i64 x) ∧ w'.cell? ⟨b, 2, none⟩ = some (.int .i64 y) := by
  have R' := R.below hb R.inside
  exact ⟨R'.get 0, R'.get 1, R'.get 2⟩
set_option maxRecDepth 100000 in
set_option maxHeartbeats 1000000 in
theorem text_any (t : Tl) : AnsG Tryd.prog 23 #[vT t] (vR (.string ⟨(textR t).1.toArray⟩) (textR t).2) := by
  intro w hS
  obtain ⟨V, hV⟩ : ∃ V, decide (okT t) = V := ⟨_, rfl⟩
  have K1 := ((isValid_any t).to (congrArg Value.bool hV)).g
  obtain ⟨R, hR⟩ : ∃ R, textR t = R := ⟨_, rfl⟩
  have HR := Lib.hid hR
  rw [hR]
  obtain ⟨W, hW⟩ : ∃ W, w.alloc (.cells #[.int .i64 t.z, .int .i64 t.x, .int .i64 t.y] 25) = W := ⟨_, rfl⟩
  have HB := Lib.hid (show Below w.heap.size w W from hW ▸ alloc1 _ _)
  have HP := Lib.hid (show IsRow W w.heap.size 25 #[.int .i64 t.z, .int .i64 t.x, .int .i64 t.y] from hW ▸ IsRow.made _ _ _)
  have HS := Lib.hid (hS.below HB.out)
  obtain ⟨c0, c1, c2, _, _, _⟩ := facts3 HP.out
  have HW := Lib.hid hW
  have HV := Lib.hid hV
  have K1 := K1 W HS.out
  clear hW hV hR hS
  unfold vT vR at *
  go_enter Tryd.func23, Tryd.ntmps23
  go_wp2_with fail
  rw [HW.out]
  refine K1.mono ?_
  rintro e w1 ⟨rfl, b1⟩
  have B1 := Lib.hid (HB.out.trans (b1.mono HB.out.size))
  have P1 := Lib.hid (HP.out.below b1 HP.out.inside)
  have S1 := Lib.hid (HS.out.below b1)
  clear b1 K1 HB HP HW HS c0 c1 c2
  obtain ⟨c0, c1, c2, _, _, _⟩ := facts3 P1.out
  cases V with
  | false =>
    obtain rfl : R = ([], 1) := by rw [← HR.out]; unfold textR; rw [if_neg (of_decide_eq_false HV.out)]
    go_wp2
    go_ret2
    exact ⟨rfl, B1.out⟩
  | true =>
    have ht := of_decide_eq_true HV.out
    obtain rfl : R = (txtN t, 0) := by rw [← HR.out]; unfold textR; rw [if_pos ht]
    obtain ⟨a, b, c, rfl, h1, h2, h3⟩ := okT_nats ht
    dsimp only at *
    have I1 := itoa_any a (by omega) (by omega) w1.drew (S1.out.below (drew_below _))
    have I2 := itoa_any b (by omega) (by omega)
    have I3 := itoa_any c (by omega) (by omega)
    have la := dec_len (n := a) (by omega)
    have lb := dec_len (n := b) (by omega)
    have lc := dec_len (n := c) (by omega)
    have HX := Lib.hid (txt_bytes a b c)
    rw [Lib.itoa_nonneg] at I1 I2 I3
    have za := str_size (Lib.decDigits a)
    have zb := str_size (Lib.decDigits b)
    have zc := str_size (Lib.decDigits c)
    generalize (ByteArray.mk (Lib.decDigits a).toArray) = sa at *
    generalize (ByteArray.mk (Lib.decDigits b).toArray) = sb at *
    generalize (ByteArray.mk (Lib.decDigits c).toArray) = sc at *
    have n1 : ¬ 9223372036854775807 < sa.size + 1 := by omega
    have n2 : ¬ 9223372036854775807 < sa.size + 1 + sb.size := by omega
    have n3 : ¬ 9223372036854775807 < sa.size + 1 + sb.size + 1 := by omega
    have n4 : ¬ 9223372036854775807 < sa.size + 1 + sb.size + 1 + sc.size := by omega
    clear la lb lc za zb zc
    have KG := Lib.hid (fun w' hb => held3 (w' := w') P1.out hb)
    go_upto_region 3 with fail
    go_region_held3 (fun w' => w'.cell? ⟨w.heap.size, 0, none⟩ = some (.int .i64 (a : Nat)) ∧ w'.cell? ⟨w.heap.size, 1, none⟩ = some (.int .i64 (b : Nat)) ∧ w'.cell? ⟨w.heap.size, 2, none⟩ = some (.int .i64 (c : Nat))) (first | exact KS | go_keep)
      (first
        | (go_at_call 44; (with_reducible refine I1.mono ?_); rintro e w4 ⟨rfl, hb4⟩; have G4 := Lib.hid ((drew_below w1).trans hb4); have KS := KG.out w4 G4.out; have J2 := I2 w4 (S1.out.below G4.out); clear I1)
        | (go_at_call 44; (with_reducible refine J2.mono ?_); rintro e w5 ⟨rfl, hb5⟩; have G5 := Lib.hid (G4.out.trans (hb5.mono G4.out.size)); have KS := KG.out w5 G5.out; have J3 := I3 w5 (S1.out.below G5.out); clear J2)
        | (go_at_call 44; (with_reducible refine J3.mono ?_); rintro e w6 ⟨rfl, hb6⟩; have G6 := Lib.hid (G5.out.trans (hb6.mono G5.out.size)); have KS := KG.out w6 G6.out; clear J3))
    go_wp2
    go_ret2
    exact ⟨by rw [HX.out]; rfl, B1.out.trans (G6.out.mono B1.out.size)⟩
end Go.Proofs.YtenacgeahaoglaaDoor.Gd
