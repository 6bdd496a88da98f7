/- P4.4, RingOrder: its walk. -/
import Derived.Test.YtlgmlgogpohgoaaRgLawTurn
import Derived.Test.YtlgmlgogpohgoaaRgLike
import Derived.Deep.RegionHeld3
namespace Go.Proofs.Ytlgmlgogpohgoaa.Rg
open Go.RowKit Go.Sort Go.Shelf
open Go.Proofs.Ytlgmlgogpohgoaa.Geo hiding intOf Apart
theorem like_refl (l : List Pt) : Like l l := ⟨rfl, fun _ => Iff.rfl, fun _ => rfl, fun _ => rfl⟩
def turnL (l : List Pt) (q : Nat) : List Pt := l.drop (q % l.length) ++ l.take (q % l.length)
theorem like_turn (l : List Pt) (q : Nat) : Like l (turnL l q) := by
  unfold turnL
  by_cases h0 : l.length = 0
  · rw [List.eq_nil_of_length_eq_zero h0]; simp; exact like_refl _
  · have hk : q % l.length ≤ l.length := Nat.le_of_lt (Nat.mod_lt _ (by omega))
    rw [← Pl.rotN_drop l _ hk]
    exact like_rotN l _ hk
theorem turnL_len (l : List Pt) (q : Nat) : (turnL l q).length = l.length := by
  unfold turnL
  rw [List.length_append, List.length_drop, List.length_take]; omega
theorem turned_of (a : Option Addr) (n cap q : Nat) (l : List Pt) (w : World) (hl : Pts w w.heap.size a l) (hn : n = l.length) (hc : n ≤ cap) (h5 : n ≤ 1000) (hq : q < 256) :
    Calls Try.prog 25 #[.slice a n cap, .int .u8 q] w fun e w' => (∃ a' c', e = .returned (.slice a' n c') ∧ n ≤ c' ∧ c' ≤ maxLen ∧ Pts w' w'.heap.size a' (turnL l q)) ∧ Below w.heap.size w w' :=
  (lawTurned_of a n cap q l w hl hn hc h5 hq).mono fun _ _ ⟨⟨a', c', h1, h2, h3, h4, _⟩, hb⟩ => ⟨⟨a', c', h1, h2, h3, by rw [hn] at h4; exact h4⟩, hb⟩
theorem back_of' (a : Option Addr) (n cap : Nat) (l : List Pt) (w : World) (hl : Pts w w.heap.size a l) (hn : n = l.length) (h5 : n ≤ 1000) :
    Calls Try.prog 24 #[.slice a n cap] w fun e w' => (∃ a' c', e = .returned (.slice a' n c') ∧ n ≤ c' ∧ c' ≤ maxLen ∧ Pts w' w'.heap.size a' l.reverse) ∧ Below w.heap.size w w' :=
  (back_of a n cap l w hl hn h5).mono fun _ _ ⟨⟨a', c', h1, h2, h3, h4, _⟩, hb⟩ => ⟨⟨a', c', h1, h2, h3, h4⟩, hb⟩
set_option maxRecDepth 100000 in
set_option maxHeartbeats 16000000 in
theorem order_any (a1 a2 : Option Addr) (n1 c1 n2 c2 q1 q2 : Nat) (l m : List Pt) (p : Pt) (w : World) (hl : Pts w w.heap.size a1 l) (hm : Pts w w.heap.size a2 m) (e1 : n1 = l.length) (e2 : n2 = m.length) (hc1 : n1 ≤ c1) (hc2 : n2 ≤ c2)
    (hx1 : c1 ≤ maxLen) (hx2 : c2 ≤ maxLen) (hq1 : q1 < 256) (hq2 : q2 < 256) :
    Calls Try.prog 6 #[.slice a1 n1 c1, .slice a2 n2 c2, .agg #[.int .i64 p.x, .int .i64 p.y], .int .u8 q1, .int .u8 q2] w fun e w' => e = .returned (.bool true) ∧ Below w.heap.size w w' := by
  obtain ⟨W, hW⟩ : ∃ W, w.alloc (.cells #[.int .i64 p.x, .int .i64 p.y] 24) = W := ⟨_, rfl⟩
  have B0 := Lib.hid (show Below w.heap.size w W from hW ▸ alloc1 _ _)
  have R0 := Lib.hid (show IsRow W w.heap.size 24 #[.int .i64 p.x, .int .i64 p.y] from hW ▸ IsRow.made _ _ _)
  have HW := Lib.hid hW
  have L0 := Lib.hid hl
  have M0 := Lib.hid hm
  have E1 := Lib.hid e1
  have E2 := Lib.hid e2
  have X1 := Lib.hid hx1
  have X2 := Lib.hid hx2
  clear hW hl hm e1 e2 hx1 hx2
  go_enter Try.func6, Try.ntmps6
  go_wp2_with fail
  rw [HW.out]
  refine (head_any W).mono ?_
  rintro e w0 ⟨rfl, hb0⟩
  have B1 := Lib.hid (B0.out.trans (hb0.mono B0.out.size))
  have R1 := Lib.hid (R0.out.below hb0 R0.out.inside)
  have L1 := Lib.hid (L0.out.later B1.out)
  have M1 := Lib.hid (M0.out.later B1.out)
  clear hb0 B0 R0 HW L0 M0
  by_cases hg1 : n1 ≤ 40
  · by_cases hg2 : n2 ≤ 40
    · have i1 : ¬ (40 : Int) < (n1 : Int) := by omega
      have i2 : ¬ (40 : Int) < (n2 : Int) := by omega
      have N1 := Lib.hid (show n1 ≤ 1000 by omega)
      have N2 := Lib.hid (show n2 ≤ 1000 by omega)
      clear hg1 hg2
      go_wp2_with fail
      refine (turned_of a1 n1 c1 q1 l w0 L1.out E1.out hc1 N1.out hq1).mono ?_
      rintro e w1 ⟨⟨a3, c3, rfl, h31, h32, hp3⟩, b1⟩
      have B2 := Lib.hid (B1.out.trans (b1.mono B1.out.size))
      have R2 := Lib.hid (R1.out.below b1 R1.out.inside)
      have L2 := Lib.hid (L1.out.later b1)
      have M2 := Lib.hid (M1.out.later b1)
      have P3 := Lib.hid hp3
      have F1 := Lib.hid (show n1 = (turnL l q1).length by rw [turnL_len]; exact E1.out)
      clear b1 B1 R1 L1 M1 hp3
      go_wp2_with fail
      refine (back_of' a3 n1 c3 (turnL l q1) w1 P3.out F1.out N1.out).mono ?_
      rintro e w2 ⟨⟨a4, c4, rfl, h41, h42, hp4⟩, b2⟩
      have B3 := Lib.hid (B2.out.trans (b2.mono B2.out.size))
      have R3 := Lib.hid (R2.out.below b2 R2.out.inside)
      have L3 := Lib.hid (L2.out.later b2)
      have M3 := Lib.hid (M2.out.later b2)
      have P4 := Lib.hid hp4
      clear b2 B2 R2 L2 M2 hp4 P3 h31 h32
      go_wp2_with fail
      refine (turned_of a2 n2 c2 q2 m w2 M3.out E2.out hc2 N2.out hq2).mono ?_
      rintro e w3 ⟨⟨a5, c5, rfl, h51, h52, hp5⟩, b3⟩
      have B4 := Lib.hid (B3.out.trans (b3.mono B3.out.size))
      have R4 := Lib.hid (R3.out.below b3 R3.out.inside)
      have L4 := Lib.hid (L3.out.later b3)
      have M4 := Lib.hid (M3.out.later b3)
      have P5 := Lib.hid (P4.out.later b3)
      have Q5 := Lib.hid hp5
      have F2 := Lib.hid (show n1 = (turnL l q1).reverse.length by rw [List.length_reverse]; exact F1.out)
      have F3 := Lib.hid (show n2 = (turnL m q2).length by rw [turnL_len]; exact E2.out)
      clear b3 B3 R3 L3 M3 hp5 P4
      have kA := (like_turn l q1).trans (like_reverse _)
      have kB := like_turn m q2
      have kC := like_turn l q2
      have kD := like_reverse m
      obtain ⟨sv, hsv⟩ : ∃ v, simpleN l = v := ⟨_, rfl⟩
      obtain ⟨pv, hpv⟩ : ∃ v, sideQ l p = v := ⟨_, rfl⟩
      obtain ⟨rv, hrv⟩ : ∃ v, relN l m = v := ⟨_, rfl⟩
      have S1 := Lib.hid (kA.sim.trans hsv)
      have S2 := Lib.hid hsv
      have V1 := Lib.hid ((kA.side p).trans hpv)
      have V2 := Lib.hid hpv
      have Z1 := Lib.hid ((kA.rel kB).trans hrv)
      have Z2 := Lib.hid hrv
      have Z3 := Lib.hid ((kC.rel kD).trans hrv)
      have F4 := Lib.hid (show n1 = (turnL l q2).length by rw [turnL_len]; exact E1.out)
      have F5 := Lib.hid (show n2 = m.reverse.length by rw [List.length_reverse]; exact E2.out)
      have KG := Lib.hid (fun (wy : World) (h : Below w3.heap.size w3 wy) => (⟨(R4.out.below h R4.out.inside).get 0, (R4.out.below h R4.out.inside).get 1⟩ : wy.cell? ⟨w.heap.size, 0, none⟩ = some (.int .i64 p.x) ∧ wy.cell? ⟨w.heap.size, 1, none⟩ = some (.int .i64 p.y)))
      have G0 := Lib.hid (drew_below w3)
      have r0 := (KG.out w3 (Below.refl _ _)).1
      have r1 := (KG.out w3 (Below.refl _ _)).2
      clear kA kB kC kD hsv hpv hrv
      go_upto_region 6 with fail
      go_region_held3 (fun w' => w'.cell? ⟨w.heap.size, 0, none⟩ = some (.int .i64 p.x) ∧ w'.cell? ⟨w.heap.size, 1, none⟩ = some (.int .i64 p.y)) (first | go_keep | exact KS)
        (first
          | (go_at_call 22; (with_reducible refine (rl_is a1 a2 n1 c1 n2 c2 _ _ _ Z2.out (L4.out.later G9.out) (M4.out.later G9.out) E1.out E2.out hc1 hc2 X1.out X2.out).mono ?_); rintro e v10 ⟨rfl, hb⟩; have G10 := Lib.hid (G9.out.trans (hb.mono G9.out.size)); have KS := KG.out v10 G10.out)
          | (go_at_call 22; (with_reducible refine (rl_is a6 a7 n1 c6 n2 c7 _ _ _ Z3.out hp6' hp7 F4.out F5.out h61 h71 h62 h72).mono ?_); rintro e v9 ⟨rfl, hb⟩; have G9 := Lib.hid (G8.out.trans (hb.mono G8.out.size)); have KS := KG.out v9 G9.out)
          | (go_at_call 24; (with_reducible refine (back_of' a2 n2 c2 m _ (M4.out.later G7.out) E2.out N2.out).mono ?_); rintro e v8 ⟨⟨a7, c7, rfl, h71, h72, hp7⟩, hb⟩; have hp6' := Pts.later hp6 hb; have G8 := Lib.hid (G7.out.trans (hb.mono G7.out.size)); have KS := KG.out v8 G8.out)
          | (go_at_call 25; (with_reducible refine (turned_of a1 n1 c1 q2 l _ (L4.out.later G6.out) E1.out hc1 N1.out hq2).mono ?_); rintro e v7 ⟨⟨a6, c6, rfl, h61, h62, hp6⟩, hb⟩; have G7 := Lib.hid (G6.out.trans (hb.mono G6.out.size)); have KS := KG.out v7 G7.out)
          | (go_at_call 22; (with_reducible refine (rl_is a1 a2 n1 c1 n2 c2 _ _ _ Z2.out (L4.out.later G5.out) (M4.out.later G5.out) E1.out E2.out hc1 hc2 X1.out X2.out).mono ?_); rintro e v6 ⟨rfl, hb⟩; have G6 := Lib.hid (G5.out.trans (hb.mono G5.out.size)); have KS := KG.out v6 G6.out)
          | (go_at_call 22; (with_reducible refine (rl_is a4 a5 n1 c4 n2 c5 _ _ _ Z1.out (P5.out.later G4.out) (Q5.out.later G4.out) F2.out F3.out h41 h51 h42 h52).mono ?_); rintro e v5 ⟨rfl, hb⟩; have G5 := Lib.hid (G4.out.trans (hb.mono G4.out.size)); have KS := KG.out v5 G5.out)
          | (go_at_call 20; (with_reducible refine (sd_is a1 n1 c1 _ p _ V2.out (L4.out.later G3.out) E1.out hc1 X1.out).mono ?_); rintro e v4 ⟨rfl, hb⟩; have G4 := Lib.hid (G3.out.trans (hb.mono G3.out.size)); have KS := KG.out v4 G4.out)
          | (go_at_call 20; (with_reducible refine (sd_is a4 n1 c4 _ p _ V1.out (P5.out.later G2.out) F2.out h41 h42).mono ?_); rintro e v3 ⟨rfl, hb⟩; have G3 := Lib.hid (G2.out.trans (hb.mono G2.out.size)); have KS := KG.out v3 G3.out)
          | (go_at_call 18; (with_reducible refine (sm_is a1 n1 c1 _ _ S2.out (L4.out.later G1.out) E1.out hc1 X1.out).mono ?_); rintro e v2 ⟨rfl, hb⟩; have G2 := Lib.hid (G1.out.trans (hb.mono G1.out.size)); have KS := KG.out v2 G2.out)
          | (go_at_call 18; (with_reducible refine (sm_is a4 n1 c4 _ _ S1.out (P5.out.later G0.out) F2.out h41 h42).mono ?_); rintro e v1 ⟨rfl, hb⟩; have G1 := Lib.hid (G0.out.trans (hb.mono G0.out.size)); have KS := KG.out v1 G1.out))
      go_wp2
      go_ret
      exact ⟨rfl, B4.out.trans (G10.out.mono B4.out.size)⟩
    · have i1 : ¬ (40 : Int) < (n1 : Int) := by omega
      have i2 : (40 : Int) < (n2 : Int) := by omega
      go_wp2
      go_ret
      exact ⟨rfl, B1.out⟩
  · have i1 : (40 : Int) < (n1 : Int) := by omega
    go_wp2
    go_ret
    exact ⟨rfl, B1.out⟩
theorem order_u8 (a1 a2 : Option Addr) (n1 c1 n2 c2 : Nat) (l m : List Pt) (p : Pt) (x y : Int) (w : World) (hl : Pts w w.heap.size a1 l) (hm : Pts w w.heap.size a2 m) (e1 : n1 = l.length) (e2 : n2 = m.length) (hc1 : n1 ≤ c1) (hc2 : n2 ≤ c2)
    (hx1 : c1 ≤ maxLen) (hx2 : c2 ≤ maxLen) (hx : 0 ≤ x ∧ x ≤ 255) (hy : 0 ≤ y ∧ y ≤ 255) :
    Calls Try.prog 6 #[.slice a1 n1 c1, .slice a2 n2 c2, .agg #[.int .i64 p.x, .int .i64 p.y], .int .u8 x, .int .u8 y] w fun e w' => e = .returned (.bool true) ∧ Below w.heap.size w w' := by
  obtain ⟨q1, rfl⟩ : ∃ q : Nat, x = (q : Int) := ⟨x.toNat, by omega⟩
  obtain ⟨q2, rfl⟩ : ∃ q : Nat, y = (q : Int) := ⟨y.toNat, by omega⟩
  exact order_any a1 a2 n1 c1 n2 c2 q1 q2 l m p w hl hm e1 e2 hc1 hc2 hx1 hx2 (by omega) (by omega)
end Go.Proofs.Ytlgmlgogpohgoaa.Rg
