/- index: the answers of no index; the laws' head. -/
import Derived.Test.YteghhfkllclghaaIxBox
import Derived.Test.YteghhfkllclghaaIxMk
import Derived.Deep.RegionHeld3
import Derived.Deep.CutRange
namespace Go.Proofs.Yteghhfkllclghaa.Ix
open Go.RowKit Go.Sort
set_option maxRecDepth 100000 in
set_option maxHeartbeats 1000000 in
theorem put_nil (w : World) (i : Id) (b : Bx) : Calls Try.prog 29 #[nilP, .string ⟨i.toArray⟩, vB b] w fun e w' => e = .returned (.int .i64 1) ∧ Below w.heap.size w w' := by
  have hb := Lib.hid (alloc1 w (.cells #[.int .i64 b.a, .int .i64 b.b, .int .i64 b.c, .int .i64 b.d] 26))
  unfold nilP vB
  go_enter Try.func29, Try.ntmps29
  go_wp2
  go_ret
  exact ⟨rfl, hb.out⟩
set_option maxRecDepth 100000 in
set_option maxHeartbeats 1000000 in
theorem drop_nil (w : World) (i : Id) : Calls Try.prog 30 #[nilP, .string ⟨i.toArray⟩] w fun e w' => e = .returned (.int .i64 1) ∧ Below w.heap.size w w' := by
  unfold nilP
  go_enter Try.func30, Try.ntmps30
  go_wp2
  go_ret
  exact ⟨rfl, Below.refl _ _⟩
set_option maxRecDepth 100000 in
set_option maxHeartbeats 1000000 in
theorem in_nil (w : World) (b : Bx) : Calls Try.prog 19 #[nilP, vB b] w fun e w' => e = .returned (.slice none 0 0) ∧ Below w.heap.size w w' := by
  have hb := Lib.hid (alloc1 w (.cells #[.int .i64 b.a, .int .i64 b.b, .int .i64 b.c, .int .i64 b.d] 26))
  unfold nilP vB
  go_enter Try.func19, Try.ntmps19
  go_wp2
  go_ret
  exact ⟨rfl, hb.out⟩
set_option maxRecDepth 100000 in
set_option maxHeartbeats 1000000 in
theorem near_nil (w : World) (px py k : Int) : Calls Try.prog 21 #[nilP, vP px py, .int .i64 k] w fun e w' => e = .returned (.slice none 0 0) ∧ Below w.heap.size w w' := by
  have hb := Lib.hid (alloc1 w (.cells #[.int .i64 px, .int .i64 py] 24))
  unfold nilP vP
  go_enter Try.func21, Try.ntmps21
  go_wp2
  go_ret
  exact ⟨rfl, hb.out⟩
set_option maxRecDepth 100000 in
set_option maxHeartbeats 1000000 in
theorem box_nil (w : World) (i : Id) : Calls Try.prog 16 #[nilP, .string ⟨i.toArray⟩] w fun e w' => e = .returned (.tuple #[vB zB, .bool false]) ∧ Below w.heap.size w w' := by
  obtain ⟨W, hW⟩ : ∃ W, w.alloc (.cells #[.int .i64 0, .int .i64 0, .int .i64 0, .int .i64 0] 26) = W := ⟨_, rfl⟩
  have B0 := Lib.hid (show Below w.heap.size w W from hW ▸ alloc1 _ _)
  have R0 := Lib.hid (show IsRow W w.heap.size 26 #[.int .i64 0, .int .i64 0, .int .i64 0, .int .i64 0] from hW ▸ IsRow.made _ _ _)
  have HW := Lib.hid hW
  obtain ⟨d0, d1, d2, d3, f0, f1, f2, f3⟩ := row_facts R0.out
  clear hW
  unfold nilP
  go_enter Try.func16, Try.ntmps16
  go_upto_region 1 with fail
  rw [HW.out]
  go_wp2
  have hr := set4 R0.out (.int .i64 0) (.int .i64 0) (.int .i64 0) (.int .i64 0)
  have hb := below4 B0.out (Nat.le_refl w.heap.size) (.int .i64 0) (.int .i64 0) (.int .i64 0) (.int .i64 0)
  refine bodyPost_ret (results_box rfl _ _ w.heap.size rfl hr) rfl ?_
  exact ⟨rfl, hb⟩
end Go.Proofs.Yteghhfkllclghaa.Ix
namespace Go.Proofs.Yteghhfkllclghaa.Ix
open Go.RowKit Go.Sort
theorem putA' {w : World} {b0 x n : Nat} {S : List It} (h : IxA w b0 x n S) (i : Id) (b : Bx) (e0 : Int) (S' : List It) (hE : putE i b S = e0) (hR : putR i b S = S') (hi : i.length ≤ 1000) (hn : n < 100000) :
    Calls Try.prog 29 #[ptr x, .string ⟨i.toArray⟩, vB b] w fun e w' => e = .returned (.int .i64 e0) ∧ IxA w' b0 x (n + 1) S' ∧ Below b0 w w' := by
  subst hE hR
  exact putA h i b hi hn
theorem dropA' {w : World} {b0 x n : Nat} {S : List It} (h : IxA w b0 x n S) (i : Id) (e0 : Int) (S' : List It) (hE : dropE i S = e0) (hR : dropS i S = S') (hi : i.length ≤ 1000) (hn : n < 100000) :
    Calls Try.prog 30 #[ptr x, .string ⟨i.toArray⟩] w fun e w' => e = .returned (.int .i64 e0) ∧ IxA w' b0 x (n + 1) S' ∧ Below b0 w w' := by
  subst hE hR
  exact dropA h i hi hn
theorem boxA' {w : World} {b0 x n : Nat} {S : List It} (h : IxA w b0 x n S) (i : Id) (b : Bx) (hb : boxS i S = some b) (hi : i.length ≤ 1000) :
    Calls Try.prog 16 #[ptr x, .string ⟨i.toArray⟩] w fun e w' => e = .returned (.tuple #[.agg #[.int .i64 b.a, .int .i64 b.b, .int .i64 b.c, .int .i64 b.d], .bool true]) ∧ Below w.heap.size w w' := by
  have := boxA h i hi
  rw [hb] at this
  exact this
def h1 : List It := [([97], ⟨0, 0, 2, 2⟩)]
def h2 : List It := [([97], ⟨0, 0, 2, 2⟩), ([98], ⟨2, 2, 5, 3⟩)]
def h3 : List It := [([97], ⟨0, 0, 2, 2⟩), ([98], ⟨2, 2, 5, 3⟩), ([99], ⟨9, 0, 9, 0⟩)]
instance : DecidableEq Bx := fun p q => decidable_of_iff (p.a = q.a ∧ p.b = q.b ∧ p.c = q.c ∧ p.d = q.d) ⟨fun ⟨e1, e2, e3, e4⟩ => by cases p; cases q; simp_all, fun h => by subst h; exact ⟨rfl, rfl, rfl, rfl⟩⟩
theorem hp1 : putE [97] ⟨0, 0, 2, 2⟩ [] = 0 ∧ putR [97] ⟨0, 0, 2, 2⟩ [] = h1 := by decide +kernel
theorem hp2 : putE [98] ⟨2, 2, 5, 3⟩ h1 = 0 ∧ putR [98] ⟨2, 2, 5, 3⟩ h1 = h2 := by decide +kernel
theorem hp3 : putE [99] ⟨9, 0, 9, 0⟩ h2 = 0 ∧ putR [99] ⟨9, 0, 9, 0⟩ h2 = h3 := by decide +kernel
theorem hp4 : putE [97] ⟨0, 0, 0, 0⟩ h3 = 9 ∧ putR [97] ⟨0, 0, 0, 0⟩ h3 = h3 := by decide +kernel
theorem hp5 : putE [100] ⟨1, 0, 0, 0⟩ h3 = 1 ∧ putR [100] ⟨1, 0, 0, 0⟩ h3 = h3 := by decide +kernel
theorem hp6 : dropE [100] h3 = 11 ∧ dropS [100] h3 = h3 := by decide +kernel
theorem hp7 : boxS [98] h3 = some ⟨2, 2, 5, 3⟩ := by decide +kernel
theorem hp8 : inA ⟨1, 1, 2, 2⟩ h3 = [[97], [98]] := by decide +kernel
theorem hp9 : dropE [99] h3 = 0 ∧ dropS [99] h3 = h2 := by decide +kernel
theorem hn2 : nearR 8 2 2 h3 = [[99], [98]] := by
  have e1 : nearA 8 2 h3 = ([99], ⟨9, 0, 9, 0⟩) :: nearA 8 2 h2 := near_step (x := 8) (y := 2) (m := ([99], ⟨9, 0, 9, 0⟩)) (R := h2) (List.perm_append_comm (l₁ := h2)) (by decide +kernel) (by decide +kernel)
  have e2 : nearA 8 2 h2 = ([98], ⟨2, 2, 5, 3⟩) :: nearA 8 2 [([97], ⟨0, 0, 2, 2⟩)] := near_step (List.Perm.swap _ _ _) (by decide +kernel) (by decide +kernel)
  unfold nearR
  rw [if_pos (by decide +kernel)]
  unfold nearS
  rw [e1, e2]
  rfl
theorem hn9 : (nearR 0 0 9 h2).length = 2 := by
  unfold nearR
  rw [if_pos (by decide +kernel)]
  unfold nearS
  rw [List.length_map, List.length_take, near_len]
  decide
/-- a literal of two strings. -/
def two (y z : Id) : Obj := .cells #[.string ⟨y.toArray⟩, .string ⟨z.toArray⟩] 9
theorem same_lit {w : World} (ao : Option Addr) (cap : Nat) (y z : Id) (g : Nat) (hA : IdsT w w.heap.size ao [y, z]) (hc : 2 ≤ cap) (hg : IsRow w g 9 #[.string ⟨y.toArray⟩, .string ⟨z.toArray⟩]) :
    Calls Try.prog 18 #[.slice ao 2 cap, .slice (some ⟨g, 0, none⟩) 2 2] w fun e w' => e = .returned (.bool true) ∧ Below w.heap.size w w' :=
  same_any ao _ 2 cap 2 [y, z] w rfl hA (fun _ => ⟨g, 0, rfl, hg.inside, fun k u hk => by
    rcases k with _ | _ | k
    · injection hk with hk; subst hk; exact hg.get 0
    · injection hk with hk; subst hk; exact hg.get 1
    · cases hk⟩) hc (Nat.le_refl _) (by decide)
theorem IdsT.alloc {w : World} {ao : Option Addr} {l : List Id} (h : IdsT w w.heap.size ao l) (o : Obj) : IdsT (w.alloc o) (w.alloc o).heap.size ao l := (h.below (alloc1 w o) (Nat.le_refl _)).more (alloc1 w o).size
set_option maxRecDepth 100000 in
set_option maxHeartbeats 16000000 in
theorem head_any (w : World) : Calls Try.prog 9 #[] w fun e w' => e = .returned (.bool true) ∧ Below w.heap.size w w' := by
  go_enter Try.func9, Try.ntmps9
  go_upto_region 3 with (first
    | ((with_reducible refine (newA _).mono ?_); rintro e w1 ⟨x, rfl, hx', BB'⟩; have hx := Lib.hid hx'; have BB := Lib.hid BB'; clear hx' BB')
    | ((with_reducible refine (mkbox_any _ _ _ _ _).mono ?_); rintro e wz ⟨rfl, bz⟩; replace hx := Lib.hid (hx.out.below bz); replace BB := Lib.hid (BB.out.trans (bz.mono BB.out.size)); clear bz)
    | ((with_reducible refine (putA' hx.out [97] ⟨0, 0, 2, 2⟩ 0 h1 hp1.1 hp1.2 (by decide) (by decide)).mono ?_); rintro e wz ⟨rfl, hz, bz⟩; replace hx := Lib.hid hz; replace BB := Lib.hid (BB.out.trans bz); clear hz bz)
    | ((with_reducible refine (putA' hx.out [98] ⟨2, 2, 5, 3⟩ 0 h2 hp2.1 hp2.2 (by decide) (by decide)).mono ?_); rintro e wz ⟨rfl, hz, bz⟩; replace hx := Lib.hid hz; replace BB := Lib.hid (BB.out.trans bz); clear hz bz)
    | ((with_reducible refine (putA' hx.out [99] ⟨9, 0, 9, 0⟩ 0 h3 hp3.1 hp3.2 (by decide) (by decide)).mono ?_); rintro e wz ⟨rfl, hz, bz⟩; replace hx := Lib.hid hz; replace BB := Lib.hid (BB.out.trans bz); clear hz bz)
    | ((with_reducible refine (putA' hx.out [97] ⟨0, 0, 0, 0⟩ 9 h3 hp4.1 hp4.2 (by decide) (by decide)).mono ?_); rintro e wz ⟨rfl, hz, bz⟩; replace hx := Lib.hid hz; replace BB := Lib.hid (BB.out.trans bz); clear hz bz)
    | ((with_reducible refine (putA' hx.out [100] ⟨1, 0, 0, 0⟩ 1 h3 hp5.1 hp5.2 (by decide) (by decide)).mono ?_); rintro e wz ⟨rfl, hz, bz⟩; replace hx := Lib.hid hz; replace BB := Lib.hid (BB.out.trans bz); clear hz bz)
    | ((with_reducible refine (dropA' hx.out [100] 11 h3 hp6.1 hp6.2 (by decide) (by decide)).mono ?_); rintro e wz ⟨rfl, hz, bz⟩; replace hx := Lib.hid hz; replace BB := Lib.hid (BB.out.trans bz); clear hz bz))
  go_upto_region 5 with ((with_reducible refine (boxA' hx.out [98] ⟨2, 2, 5, 3⟩ hp7 (by decide)).mono ?_); rintro e wz ⟨rfl, bz⟩; replace hx := Lib.hid (hx.out.below bz); replace BB := Lib.hid (BB.out.trans (bz.mono BB.out.size)); clear bz)
  obtain ⟨W, hW, hbW, rW⟩ : ∃ W, wz.alloc (.cells #[.int .i64 2, .int .i64 2, .int .i64 5, .int .i64 3] 26) = W ∧ Below wz.heap.size wz W ∧ IsRow W wz.heap.size 26 (cB ⟨2, 2, 5, 3⟩) := ⟨_, rfl, alloc1 _ _, IsRow.made _ _ _⟩
  rw [hW]
  have hxW := Lib.hid (hx.out.below hbW)
  have BBW := Lib.hid (BB.out.trans (hbW.mono BB.out.size))
  have RW := Lib.hid rW
  clear hx BB hW hbW rW
  have KI := fun (w' : World) (hb : Below W.heap.size W w') => inA_any (hxW.out.below hb) ⟨1, 1, 2, 2⟩ (by decide)
  rw [hp8] at KI
  have KN := fun (w' : World) (hb : Below W.heap.size W w') => nearA_any (hxW.out.below hb) 8 2 2 (by decide)
  rw [hn2] at KN
  unfold ptr at KI
  unfold ptr vP at KN
  have KB3 : ∀ w', Calls Try.prog 31 #[.int .i64 2, .int .i64 2, .int .i64 5, .int .i64 3] w' fun e w'' => e = .returned (.agg #[.int .i64 2, .int .i64 2, .int .i64 5, .int .i64 3]) ∧ Below w'.heap.size w' w'' := fun w' => mkbox_any 2 2 5 3 w'
  simp only [List.length_cons, List.length_nil, Nat.reduceAdd] at KI KN
  have KG := Lib.hid (fun (w' : World) (hb : Below W.heap.size W w') => (show (w'.cell? ⟨wz.heap.size, 0, none⟩ = some (.int .i64 2) ∧ w'.cell? ⟨wz.heap.size, 1, none⟩ = some (.int .i64 2) ∧ w'.cell? ⟨wz.heap.size, 2, none⟩ = some (.int .i64 5) ∧ w'.cell? ⟨wz.heap.size, 3, none⟩ = some (.int .i64 3)) from box_facts (RW.out.below hb RW.out.inside)))
  have D0 := Lib.hid (drew_below W)
  have D1 := Lib.hid (show Below W.heap.size W (W.alloc (.cells #[.string ⟨#[97]⟩, .string ⟨#[98]⟩] 9)).drew from (alloc1 W _).trans ((drew_below _).mono (by simp)))
  have RW1 := Lib.hid (show IsRow (W.alloc (.cells #[.string ⟨#[97]⟩, .string ⟨#[98]⟩] 9)).drew W.heap.size 9 #[.string ⟨#[97]⟩, .string ⟨#[98]⟩] from IsRow.made W _ _)
  have KS := KG.out W.drew D0.out
  obtain ⟨x0, x1, x2, x3⟩ := KG.out W (Below.refl _ _)
  unfold ptr
  go_cut [6] from 46 to 65 (fun s6 wx => s6 = .bool true ∧ Hid (Below W.heap.size W wx))
  case first =>
    go_region_held3 (fun w' => w'.cell? ⟨wz.heap.size, 0, none⟩ = some (.int .i64 2) ∧ w'.cell? ⟨wz.heap.size, 1, none⟩ = some (.int .i64 2) ∧ w'.cell? ⟨wz.heap.size, 2, none⟩ = some (.int .i64 5) ∧ w'.cell? ⟨wz.heap.size, 3, none⟩ = some (.int .i64 3)) (first | with_reducible exact KS | (with_reducible refine KG.out _ ?_; (repeat' (first | with_reducible exact D0.out | with_reducible exact D1.out | with_reducible exact B7.out | with_reducible exact B6.out | with_reducible exact B5.out | with_reducible exact B4.out | with_reducible exact B3.out | with_reducible refine Below.alloc ?_ ?_ _)) <;> (first | omega | (simp; done) | (simp; omega))) | go_keep)
      (first
        | (go_at_call 18; (with_reducible refine (same_lit _ _ [99] [98] _ j6.out hc6 RV6.out).mono ?_); rintro e w7 ⟨rfl, b7⟩; have B7 := Lib.hid (B6.out.trans (b7.mono B6.out.size)); have z7 := B7.out.size; have KS := KG.out w7 B7.out)
        | (go_at_call 18; (with_reducible refine (same_lit _ _ [99] [98] _ (j6.out.alloc _) hc6 (IsRow.made w6 _ _)).mono ?_); rintro e w7 ⟨rfl, b7⟩; have B7 := Lib.hid ((B6.out.alloc B6.out.size _).trans (b7.mono (B6.out.alloc B6.out.size _).size)); have z7 := B7.out.size; have KS := KG.out w7 B7.out)
        | (go_at_call 21; (with_reducible refine (KN _ (B5.out.alloc B5.out.size _)).mono ?_); rintro e w6 ⟨⟨ao6, c6, rfl, hc6, j6'⟩, b6⟩; have j6 := Lib.hid j6'; clear j6'; have RV6 := Lib.hid ((IsRow.made w5 _ _).below b6 (by simp)); have B6 := Lib.hid ((B5.out.alloc B5.out.size _).trans (b6.mono (B5.out.alloc B5.out.size _).size)); have z6 := B6.out.size; have KS := KG.out w6 B6.out)
        | (go_at_call 21; (with_reducible refine (KN w5 B5.out).mono ?_); rintro e w6 ⟨⟨ao6, c6, rfl, hc6, j6'⟩, b6⟩; have j6 := Lib.hid j6'; clear j6'; have B6 := Lib.hid (B5.out.trans (b6.mono B5.out.size)); have z6 := B6.out.size; have KS := KG.out w6 B6.out)
        | (go_at_call 18; (with_reducible refine (same_lit _ _ [97] [98] _ i4.out hc4 RW4.out).mono ?_); rintro e w5 ⟨rfl, b5⟩; have B5 := Lib.hid (B4.out.trans (b5.mono B4.out.size)); have z5 := B5.out.size; have KS := KG.out w5 B5.out)
        | (go_at_call 18; (with_reducible refine (same_lit _ _ [97] [98] _ (i4.out.alloc _) hc4 (IsRow.made w4 _ _)).mono ?_); rintro e w5 ⟨rfl, b5⟩; have B5 := Lib.hid ((B4.out.alloc B4.out.size _).trans (b5.mono (B4.out.alloc B4.out.size _).size)); have z5 := B5.out.size; have KS := KG.out w5 B5.out)
        | (go_at_call 19; (with_reducible refine (KI w3 B3.out).mono ?_); rintro e w4 ⟨⟨ao4, c4, rfl, hc4, i4'⟩, b4⟩; have i4 := Lib.hid i4'; clear i4'; have RW4 := Lib.hid (RW3.out.below b4 RW3.out.inside); have B4 := Lib.hid (B3.out.trans (b4.mono B3.out.size)); have z4 := B4.out.size; have KS := KG.out w4 B4.out)
        | (go_at_call 19; (with_reducible refine (KI _ (B3.out.alloc B3.out.size _)).mono ?_); rintro e w4 ⟨⟨ao4, c4, rfl, hc4, i4'⟩, b4⟩; have i4 := Lib.hid i4'; clear i4'; have RW4 := Lib.hid ((IsRow.made w3 _ _).below b4 (by simp)); have B4 := Lib.hid ((B3.out.alloc B3.out.size _).trans (b4.mono (B3.out.alloc B3.out.size _).size)); have z4 := B4.out.size; have KS := KG.out w4 B4.out)
        | (go_at_call 19; (with_reducible refine (KI w3 B3.out).mono ?_); rintro e w4 ⟨⟨ao4, c4, rfl, hc4, i4'⟩, b4⟩; have i4 := Lib.hid i4'; clear i4'; have B4 := Lib.hid (B3.out.trans (b4.mono B3.out.size)); have z4 := B4.out.size; have KS := KG.out w4 B4.out)
        | (go_at_call 31; (with_reducible refine (KB3 w7).mono ?_); rintro e w8 ⟨rfl, b8⟩; have B8 := Lib.hid (B7.out.trans (b8.mono B7.out.size)); have z8 := B8.out.size; have KS := KG.out w8 B8.out)
        | (go_at_call 31; (with_reducible refine (mkbox_any 1 1 2 2 W.drew).mono ?_); rintro e w3 ⟨rfl, b3⟩; have B3 := Lib.hid (D0.out.trans (b3.mono D0.out.size)); have z3 := B3.out.size; have KS := KG.out w3 B3.out)
        | (go_at_call 31; (with_reducible refine (mkbox_any 1 1 2 2 (W.alloc (.cells #[.string ⟨#[97]⟩, .string ⟨#[98]⟩] 9)).drew).mono ?_); rintro e w3 ⟨rfl, b3⟩; have RW3 := Lib.hid (RW1.out.below b3 RW1.out.inside); have B3 := Lib.hid (D1.out.trans (b3.mono D1.out.size)); have z3 := B3.out.size; have KS := KG.out w3 B3.out))
    all_goals
      go_wp2_with fail
      go_meet
      exact ⟨rfl, B8⟩
  case rest =>
    obtain ⟨rfl, hbc⟩ := hcut
    have hx := Lib.hid (hxW.out.below hbc.out)
    have BB := Lib.hid (BBW.out.trans (hbc.out.mono BBW.out.size))
    clear hxW BBW RW KI KN KB3 KG D0 D1 RW1 KS x0 x1 x2 x3 hbc
    have KPn : ∀ w', Calls Try.prog 29 #[.pointer none, .string ⟨#[97]⟩, vB ⟨0, 0, 1, 1⟩] w' fun e w'' => e = .returned (.int .i64 1) ∧ Below w'.heap.size w' w'' := fun w' => put_nil w' [97] ⟨0, 0, 1, 1⟩
    have KIn : ∀ w', Calls Try.prog 19 #[.pointer none, vB ⟨0, 0, 1, 1⟩] w' fun e w'' => e = .returned (.slice none 0 0) ∧ Below w'.heap.size w' w'' := fun w' => in_nil w' ⟨0, 0, 1, 1⟩
    have KD : ∀ {v : World} {k : Nat}, IxA v w.heap.size x k h3 → k < 100000 → Calls Try.prog 30 #[.pointer (some ⟨x, 0, none⟩), .string ⟨#[99]⟩] v fun e w' => e = .returned (.int .i64 0) ∧ IxA w' w.heap.size x (k + 1) h2 ∧ Below w.heap.size v w' := fun h hk => dropA' h [99] 0 h2 hp9.1 hp9.2 (by decide) hk
    have KN : ∀ {v : World} {k : Nat}, IxA v w.heap.size x k h2 → k ≤ 10000 → Calls Try.prog 21 #[.pointer (some ⟨x, 0, none⟩), .agg #[.int .i64 0, .int .i64 0], .int .i64 9] v fun e w' => (∃ ao cap, e = .returned (.slice ao 2 cap) ∧ 2 ≤ cap) ∧ Below v.heap.size v w' := fun h hk => (nearA_any h 0 0 9 hk).mono fun e w' ⟨⟨ao, cap, he, hc, _⟩, hb⟩ => by
      rw [hn9] at he hc
      exact ⟨⟨ao, cap, he, hc⟩, hb⟩
    go_wp2_with (first
      | ((with_reducible refine (mkbox_any _ _ _ _ _).mono ?_); rintro e wz ⟨rfl, bz⟩; replace hx := Lib.hid (hx.out.below bz); replace BB := Lib.hid (BB.out.trans (bz.mono BB.out.size)); clear bz)
      | ((with_reducible refine (KPn _).mono ?_); rintro e wz ⟨rfl, bz⟩; replace hx := Lib.hid (hx.out.below bz); replace BB := Lib.hid (BB.out.trans (bz.mono BB.out.size)); clear bz)
      | ((with_reducible refine (KIn _).mono ?_); rintro e wz ⟨rfl, bz⟩; replace hx := Lib.hid (hx.out.below bz); replace BB := Lib.hid (BB.out.trans (bz.mono BB.out.size)); clear bz)
      | ((with_reducible refine (KD hx.out (by decide)).mono ?_); rintro e wz ⟨rfl, hz, bz⟩; replace hx := Lib.hid hz; replace BB := Lib.hid (BB.out.trans bz); clear hz bz)
      | ((with_reducible refine (KN hx.out (by decide)).mono ?_); rintro e wz ⟨⟨aoz, capz, rfl, hcz⟩, bz⟩; replace BB := Lib.hid (BB.out.trans (bz.mono BB.out.size)); clear bz))
    go_ret
    exact ⟨rfl, BB.out⟩
end Go.Proofs.Yteghhfkllclghaa.Ix
