/- Merged: HrTextW, HrTextA. -/
import Derived.Test.YtgbkjdpjilldmaaGreatDoorHz16
import Derived.Test.YtgbkjdpjilldmaaGreatDoorHz12
import Derived.Test.YtgbkjdpjilldmaaGreatDoorHz19
import Derived.Test.YtgbkjdpjilldmaaGreatDoorHjShelf
/- hours: Text. -/
namespace Go.Proofs.YtgbkjdpjilldmaaGreatDoor.Hr
open Go.RowKit Go.Sort Go.Shelf
open Lx (IsRow alloc1 drew_below keeps_of_below keeps_grown str_size str_eq B)
open St (Sp encS encS_len encS_one)
attribute [local go_sem] Oper.semAt_some
theorem timesL_succ {l : List Sq} {k : Nat} (hk : k < l.length) : timesL (l.take (k + 1)) = timesL (l.take k) ++ timesS l[k] := by
  rw [List.take_succ_eq_append_getElem hk]
  unfold timesL
  rw [List.flatMap_append]
  simp
/-- what stands between two spans of Text. -/
structure OutP (w : World) (b Lb : Nat) (l : List Sq) (k : Nat) (Ds : List Nat) (W : World) : Prop where
  list : ∃ v, IsRow W Lb 44 #[v] ∧ OwnT W b v (timesL (l.take k))
  lo : Below b w W
  mks : Mks b Ds W
/-- what stands between two days of a span of Text. -/
structure InP (w : World) (N0 b Lb : Nat) (L : List B) (f t : Nat) (Ds : List Nat) {q : Nat} (pre : List (Fin q)) (W : World) : Prop where
  list : ∃ v, IsRow W Lb 44 #[v] ∧ OwnT W b v (L ++ pre.map fun k => partT f t k.val)
  lo : Below b w W
  mks : Mks b Ds W
  sz : N0 ≤ W.heap.size
theorem InP.away {w : World} {N0 b Lb : Nat} {L : List B} {f t : Nat} {Ds : List Nat} {q : Nat} (hb : b ≤ N0) (hD : ∀ D ∈ Ds, D < N0) (pre : List (Fin q)) (W W' : World) (h : InP w N0 b Lb L f t Ds pre W) (ha : AwayH N0 W W') : InP w N0 b Lb L f t Ds pre W' := by
  obtain ⟨⟨v, h1, h2⟩, h3, h4, h5⟩ := h
  refine ⟨⟨v, row_awayH h1 ha, ownT_awayH h2 ha⟩, below_awayH h3 (Nat.le_trans hb h5) hb ha, mks_awayH h4 hD ha, ?_⟩
  obtain ⟨row, hg, _⟩ := ha
  exact Nat.le_trans h5 hg.size
theorem InP.fin {w W U w1 : World} {N0 b Lb : Nat} {L : List B} {f t : Nat} {Ds : List Nat} {q : Nat} {pre : List (Fin q)} {x : Fin q} {v v' : Value} (hi : InP w N0 b Lb L f t Ds pre W) (hv : IsRow W Lb 44 #[v]) (ho : OwnT W b v (L ++ pre.map fun k => partT f t k.val)) (hb : b ≤ Lb) (hbN : b ≤ N0)
    (hbU : Below W.heap.size W U) (hgrow : U.grownBy w1 v.ownBlock) (hlt : ∀ k, v.ownBlock = some k → b ≤ k) (hown : OwnT w1 b v' ((L ++ pre.map fun k => partT f t k.val) ++ [partT f t x.val])) :
    KeepsFrom N0 W (w1.setCell ⟨Lb, 0, none⟩ v') ∧ KpS W (w1.setCell ⟨Lb, 0, none⟩ v') ∧ InP w N0 b Lb L f t Ds (pre ++ [x]) (w1.setCell ⟨Lb, 0, none⟩ v') := by
  have oU : OwnT U b v (L ++ pre.map fun k => partT f t k.val) := Own.below ho hbU
  have hr : ∀ k, v.ownBlock = some k → ∃ cs t, t ≠ 54 ∧ IsRow U k t cs := OwnT.row oU
  have vU := hv.below hbU hv.inside
  have r1 : IsRow w1 Lb 44 #[v] := vU.grown hgrow (OwnT.ne oU vU (by decide))
  have b1 : Below b w w1 := (hi.lo.trans (hbU.mono (Nat.le_trans hbN hi.sz))).grown hgrow (Nat.le_trans (Nat.le_trans hbN hi.sz) hbU.size) hlt
  have m1 : Mks b Ds w1 := (hi.mks.below hbU).rows hgrow (fun k e => by obtain ⟨cs, t, _, h⟩ := hr k e; exact ⟨cs, t, h⟩)
  refine ⟨((keeps_of_below _ hbU).trans (keeps_grown _ hgrow (fun k e => by obtain ⟨cs, t, _, h⟩ := hr k e; exact ⟨cs, _, h⟩))).trans ((KeepsOthers.setCell _ _ _).from _), ((KpS.of_below hbU).trans (KpS.grown hgrow hr)).trans ?_, ?_⟩
  · exact KpS.grown (Lx.grown_put w1 Lb 0 v') (fun k e => by injection e with e; subst e; exact ⟨_, _, by decide, r1⟩)
  · refine ⟨⟨v', r1.put 0 _, ?_⟩, b1.setCell (p := ⟨Lb, 0, none⟩) hb _, m1.rows (Lx.grown_put w1 Lb 0 v') (fun k e => by injection e with e; subst e; exact ⟨_, _, r1⟩), ?_⟩
    · rw [List.map_append, ← List.append_assoc]
      exact Own.kept hown (Lx.grown_put w1 Lb 0 v') (.inr (OwnT.ne hown r1 (by decide)))
    · have := Nat.le_trans (Nat.le_trans hi.sz hbU.size) hgrow.size
      simpa using this
theorem timesL_len : ∀ {l : List Sq}, (∀ s ∈ l, okS s) → (timesL l).length ≤ 7 * l.length
  | [], _ => Nat.le_refl _
  | s :: l, h => by
    have h1 := timesL_len (l := l) (fun u hu => h u (List.mem_cons_of_mem _ hu))
    have h2 := h s (by simp)
    unfold okS at h2
    unfold timesL at h1 ⊢
    rw [List.flatMap_cons, List.length_append, List.length_cons]
    have h3 : (timesS s).length ≤ 7 := by
      unfold timesS nD
      rw [List.length_map, List.length_range]
      omega
    omega
theorem lens_le (c : Nat) : ∀ (l : List B), (∀ y ∈ l, y.length ≤ c) → Lib.lens l ≤ c * l.length
  | [], _ => by simp [Lib.lens]
  | y :: l, h => by
    have h1 := lens_le c l (fun u hu => h u (List.mem_cons_of_mem _ hu))
    have h2 := h y (by simp)
    have e : Lib.lens (y :: l) = y.length + Lib.lens l := by simp [Lib.lens]
    rw [e, List.length_cons, Nat.mul_add]
    omega
theorem join_len_le (c : Nat) {l : List B} (h : ∀ y ∈ l, y.length ≤ c) : (Lib.join l [44, 32]).length ≤ (c + 2) * l.length := by
  cases l with
  | nil => simp [Lib.join_nil]
  | cons x r =>
    rw [Lib.join_length]
    have := lens_le c (x :: r) h
    simp only [List.length_cons, List.length_nil] at this ⊢
    have e : (c + 2) * (r.length + 1) = c * (r.length + 1) + 2 * (r.length + 1) := Nat.add_mul _ _ _
    omega
theorem dayB_len (d : Nat) : (dayB d).length = 2 := by unfold dayB; split <;> rfl
theorem partT_len (f t k : Nat) : (partT f t k).length ≤ 14 := by
  unfold partT part1
  have h1 := ckD_len (loN f t k)
  have h2 := ckD_len (hiN f t k)
  have h3 := dayB_len (dyN f k)
  simp only [List.length_append, List.length_cons]
  omega
theorem timesL_short {l : List Sq} : ∀ y ∈ timesL l, y.length ≤ 14 := by
  intro y hy
  unfold timesL at hy
  obtain ⟨s, _, hs⟩ := List.mem_flatMap.1 hy
  unfold timesS at hs
  obtain ⟨k, _, rfl⟩ := List.mem_map.1 hs
  exact partT_len _ _ _
theorem join_any (v : Value) (l : List B) (base : Nat) (w : World) (h : OwnT w base v l) (h14 : ∀ y ∈ l, y.length ≤ 14) (h5 : l.length ≤ 100000) :
    Calls Tryz.prog 42 #[v, .string ⟨#[44, 32]⟩] w fun e w' => e = .returned (.string ⟨(Lib.join l [44, 32]).toArray⟩) ∧ Below w.heap.size w w' := by
  have hl := join_len_le 14 h14
  obtain ⟨a, cap, rfl, h1, h2, h3⟩ := Own.shape h
  rcases h3 with ⟨rfl, rfl, rfl⟩ | ⟨g, rfl, hb, hg⟩
  · refine (Tryz.strings_Join_none none 0 _ w).mono ?_
    rintro e w' ⟨rfl, rfl⟩
    exact ⟨rfl, Below.refl _ _⟩
  · have e1 : (l.map fun y => ByteArray.mk y.toArray).map (·.data.toList) = l := by
      rw [List.map_map]
      exact List.map_id l
    have K := Tryz.strings_Join g 0 cap (l.map fun y => ByteArray.mk y.toArray) ⟨#[44, 32]⟩ w (fun j x hj => by
      rw [List.getElem?_map] at hj
      cases hy : l[j]? with
      | none => rw [hy] at hj; cases hj
      | some y =>
        rw [hy] at hj
        injection hj with hj
        subst hj
        have := Own.cells h encT_len (j := 0) hy (by decide)
        rw [Nat.zero_add]
        simpa [encT] using this) hg (by rw [List.length_map]; omega) (by rw [List.length_map]; exact h1) (by
          rw [e1]
          show (Lib.join l [44, 32]).length ≤ _
          have : (14 + 2) * l.length ≤ 16 * 100000 := Nat.mul_le_mul_left 16 h5
          omega)
    rw [e1, List.length_map] at K
    exact K
theorem timesS_fin (f t q : Nat) (hq : nD f t = q) : timesS ((f : Int), (t : Int)) = (List.finRange q).map fun k => partT f t k.val := by
  unfold timesS
  dsimp only
  rw [Int.toNat_natCast, Int.toNat_natCast, hq]
  refine List.ext_getElem (by simp) fun i h1 h2 => by simp
set_option maxRecDepth 100000 in
set_option maxHeartbeats 8000000 in
theorem text_any_long (ao : Option Addr) (n cap : Nat) (l : List Sp) (w : World) (hn : l.length = n) (ha : SpT w w.heap.size ao l) (hc : n ≤ cap) (hd : Dn w.heap.size w) (hv : Val l) (h0 : 0 < n) (h60 : n ≤ 60) (ho : ∀ h : 0 < l.length, l[0].2 - l[0].1 ≠ 10080) :
    Calls Tryz.prog 11 #[.slice ao n cap] w fun e w' => e = .returned (.tuple #[.string ⟨(textL l).toArray⟩, .int .i64 0]) ∧ Below w.heap.size w w' := by
  have KV := Lib.hid (valid_any ao n cap l w hn ha hc (by omega))
  rw [vld_val.2 hv] at KV
  have hc' : (n : Int) ≤ (cap : Int) := by omega
  have n60 : (n : Int) ≤ 60 := by omega
  have n0 : (0 : Int) < (n : Int) := by omega
  have q1 : ¬ (60 : Int) < (n : Int) := by omega
  have q2 : ((n : Int) == 0) = false := by rw [beq_eq_false_iff_ne]; omega
  have HA := Lib.hid ha
  have HD := Lib.hid hd
  have HV := Lib.hid hv
  obtain ⟨g, off, rfl, hg, x0, x1⟩ := ha.at_ (k := 0) (by omega)
  have q3 : (l[0].2 - l[0].1 == 10080) = false := by rw [beq_eq_false_iff_ne]; exact ho (by omega)
  have os := hv.1 l[0] (List.getElem_mem _)
  generalize l[0] = s0 at *
  obtain ⟨s1, s2⟩ := s0
  simp only [Nat.zero_mul, Nat.add_zero] at x0 x1
  dsimp only [okS] at x0 x1 q3 os
  obtain ⟨o1, o2, o3⟩ := os
  have X0 := Lib.hid x0
  have X1 := Lib.hid x1
  have HN := Lib.hid hn
  clear ha hd hv ho x0 x1 hn
  refine (callsIn_wide (n := 6)).1 ?_
  refine callsIn_of_wp_marks Tryz.func11 rfl trivial ?_ rfl
  simp only [Tryz.ntmps11, List.size_toArray, List.length_cons, List.length_nil, Nat.reduceAdd, Nat.reduceSub, Array.replicate_succ, Array.replicate_zero, List.push_toArray, List.append_toArray, List.nil_append, List.cons_append]
  gi_wp2_with fail
  refine ⟨trivial, ?_⟩
  refine (callsIn_wide.2 KV.out).mono ?_
  rintro e w1 ⟨rfl, b1⟩
  have B1 := Lib.hid b1
  have c0 := (b1.cell (p := ⟨g, off, none⟩) hg).trans X0.out
  have c1 := (b1.cell (p := ⟨g, off + 1, none⟩) hg).trans X1.out
  clear b1 KV X0 X1
  gi_wp2_with fail
  gi_region
  clear c0 c1 q3
  gi_wp2_with fail
  have r0 : IsRow (w1.alloc (.cells #[.slice none 0 0] 44)).drew w1.heap.size 44 #[.slice none 0 0] := (IsRow.made w1 44 #[.slice none 0 0]).drew
  have bb : Below w.heap.size w (w1.alloc (.cells #[.slice none 0 0] 44)).drew := B1.out.trans (((alloc1 w1 _).trans ((drew_below _).mono (by simp))).mono B1.out.size)
  obtain ⟨b, hb⟩ : ∃ b, w.heap.size = b := ⟨_, rfl⟩
  have hL : b ≤ w1.heap.size := hb ▸ B1.out.size
  obtain ⟨Lb, hLb⟩ : ∃ Lb, w1.heap.size = Lb := ⟨_, rfl⟩
  generalize World.drew _ = W0 at *
  rw [hb] at bb HA HD hg
  rw [hLb] at r0 hL ⊢
  have S0 := Lib.hid (show OutP w b Lb l 0 [] W0 from ⟨⟨_, r0, OwnT.nil _ _⟩, bb, Mks.nil _ _⟩)
  have HB := Lib.hid hb
  clear r0 bb hb hLb B1
  refine wpIn_loop (fun a W => ∃ (k : Nat) (Ds : List Nat) (u6 u35 u36 u37 u38 u39 u58 : Value), k ≤ n ∧ Hid (OutP w b Lb l k Ds W) ∧ a = { tmps := #[.slice (some ⟨g, off, none⟩) n cap, undef, .string ⟨#[]⟩, .int .i64 0, .pointer (some ⟨Lb, 0, none⟩), undef, u6, undef, undef, .bool false, .slice (some ⟨g, off, none⟩) n cap, .bool true, .bool false, .bool (decide ((60 : Int) < (n : Int))), .slice (some ⟨g, off, none⟩) n cap, .int .i64 (n : Int), .bool (decide ((60 : Int) < (n : Int))), .bool false, .slice (some ⟨g, off, none⟩) n cap, .int .i64 (n : Int), .bool false, .bool false, .slice (some ⟨g, off, none⟩) n cap, .pointer (some ⟨g, off, none⟩), .pointer (some ⟨g, off + 1, none⟩), .int .i64 s2, .slice (some ⟨g, off, none⟩) n cap, .pointer (some ⟨g, off, none⟩), .pointer (some ⟨g, off, none⟩), .int .i64 s1, .int .i64 (s2 - s1), .bool false, .slice (some ⟨g, off, none⟩) n cap, .int .i64 (n : Int), .int .i64 (k : Int), u35, u36, u37, u38, u39, undef, undef, undef, undef, undef, undef, undef, undef, undef, undef, undef, undef, undef, undef, undef, undef, undef, undef, u58, undef, undef], defers := Ds.map mk }) (fun a _ => n - (Lx.intOf (a.tmps.getD 34 undef)).toNat) ⟨0, [], undef, undef, undef, undef, undef, undef, undef, by omega, S0, rfl⟩ ?_
  clear S0
  rintro a W ⟨k, Ds, u6, u35, u36, u37, u38, u39, u58, hk, HO, rfl⟩
  by_cases hlt : k < n
  · have hkl : k < l.length := by rw [HN.out]; exact hlt
    have hlt2 : (k : Int) < (n : Int) := by omega
    obtain ⟨g', off', e, hg', x0, x1⟩ := (HA.out.below HO.out.lo (Nat.le_refl _)).at_ hkl
    injection e with e
    injection e with e1 e2
    subst e1 e2
    have os := HV.out.1 l[k] (List.getElem_mem hkl)
    have HT := Lib.hid (timesL_succ hkl)
    generalize l[k] = s at *
    obtain ⟨z1, z2⟩ := s
    dsimp only [okS] at x0 x1 os
    obtain ⟨p1, p2, p3⟩ := os
    obtain ⟨f, rfl⟩ := Int.eq_ofNat_of_zero_le p1
    obtain ⟨t, rfl⟩ := Int.eq_ofNat_of_zero_le (show 0 ≤ z2 by omega)
    have hfT : (f : Int) < (t : Int) := p2
    have hT : (t : Int) ≤ 10080 := p3
    have c0 := x0
    have c1 := x1
    clear p1 p2 p3 hkl x0 x1
    gi_wp2_with fail
    refine ⟨trivial, ?_⟩
    refine (callsIn_wide.2 (byday_any f t _)).mono ?_
    rintro e W2 ⟨rfl, hW2⟩
    have y1 := alloc1 W (.cells #[.int .i64 (f : Int), .int .i64 (t : Int)] 54)
    obtain ⟨W1, hW1⟩ : ∃ V, W.alloc (.cells #[.int .i64 (f : Int), .int .i64 (t : Int)] 54) = V := ⟨_, rfl⟩
    rw [hW1] at y1 hW2 ⊢
    have y2 := alloc1 W1 (.cells #[.int .i64 (f : Int), .int .i64 (t : Int)] 54)
    have r2 := IsRow.made W1 54 #[.int .i64 (f : Int), .int .i64 (t : Int)]
    rw [hW2] at y2 r2
    have BW := y1.trans (y2.mono y1.size)
    obtain ⟨Z, hZ⟩ : ∃ Z, W1.heap.size = Z := ⟨_, rfl⟩
    obtain ⟨Zs, hZs⟩ : ∃ Z, W.heap.size = Z := ⟨_, rfl⟩
    rw [hZ] at r2 ⊢
    rw [hZs] at BW ⊢
    have hbW : b ≤ Zs := by
      obtain ⟨⟨v, hv, _⟩, _, _⟩ := HO.out
      have := hv.inside
      omega
    have O2 : OutP w b Lb l k Ds W2 := by
      obtain ⟨⟨v, hv, hov⟩, hlo, hm⟩ := HO.out
      rw [← hZs] at BW hbW
      exact ⟨⟨v, hv.below BW hv.inside, Own.below hov BW⟩, hlo.trans (BW.mono hbW), hm.below BW⟩
    have hsz : Zs ≤ W2.heap.size := by rw [← hZs]; exact BW.size
    obtain ⟨q, hq⟩ : ∃ q, nD f t = q := ⟨_, rfl⟩
    have HQ := Lib.hid hq
    have R2 := Lib.hid r2
    have hDs := Lib.hid O2.mks.lt
    have I0 := Lib.hid (show InP w W2.heap.size b Lb (timesL (l.take k)) f t Ds ([] : List (Fin q)) W2 from ⟨by
      obtain ⟨v, hv, hov⟩ := O2.list
      exact ⟨v, hv, by rw [List.map_nil, List.append_nil]; exact hov⟩, O2.lo, O2.mks, Nat.le_refl _⟩)
    clear y1 y2 hW1 hW2 r2 BW hZ hZs O2 hq HO c0 c1
    gi_wp2
    refine wpIn_rangeFunc_ownH rfl (by omega) (gf := 72) (lb := #[.pointer (some ⟨Z, 0, none⟩)]) rfl trivial (enters_of Tryz.func72 (by kernel_rfl) rfl)
      (byday_stops 5 (by omega) Z f t q HQ.out W2 R2.out (by omega) (by omega)) KpS.trans (fun W l o o' h1 h2 h3 h4 => kpS_b (w := W2) W l o o' h1 h2 h3 h4) (Below.refl _ _) (fun _ => rfl)
      (fun pre V => InP w W2.heap.size b Lb (timesL (l.take k)) f t Ds pre V)
      (fun _ _ _ => False)
      (own_awayH (InP.away (Nat.le_trans hbW hsz) hDs.out))
      (fun _ _ _ _ _ hs _ _ => hs)
      I0.out
      (fun x a' V => ∃ h, Hid (IsRow V h 54 #[.int .i64 (loN f t x.val : Int), .int .i64 (hiN f t x.val : Int)]) ∧ a' = { tmps := #[.slice (some ⟨g, off, none⟩) n cap, undef, .string ⟨#[]⟩, .int .i64 0, .pointer (some ⟨Lb, 0, none⟩), undef, .pointer (some ⟨Zs, 0, none⟩), .int .i64 (dyN f x.val : Int), .pointer (some ⟨h, 0, none⟩), .bool false, .slice (some ⟨g, off, none⟩) n cap, .bool true, .bool false, .bool (decide ((60 : Int) < (n : Int))), .slice (some ⟨g, off, none⟩) n cap, .int .i64 (n : Int), .bool (decide ((60 : Int) < (n : Int))), .bool false, .slice (some ⟨g, off, none⟩) n cap, .int .i64 (n : Int), .bool false, .bool false, .slice (some ⟨g, off, none⟩) n cap, .pointer (some ⟨g, off, none⟩), .pointer (some ⟨g, off + 1, none⟩), .int .i64 s2, .slice (some ⟨g, off, none⟩) n cap, .pointer (some ⟨g, off, none⟩), .pointer (some ⟨g, off, none⟩), .int .i64 s1, .int .i64 (s2 - s1), .bool false, .slice (some ⟨g, off, none⟩) n cap, .int .i64 (n : Int), .int .i64 (k : Int), .bool true, .pointer (some ⟨g, off + k * 2, none⟩), .agg #[.int .i64 (f : Int), .int .i64 (t : Int)], .agg #[.int .i64 (f : Int), .int .i64 (t : Int)], .func (.func 72) #[] #[.pointer (some ⟨Z, 0, none⟩)], .int .i64 (dyN f x.val : Int), .agg #[.int .i64 (loN f t x.val : Int), .int .i64 (hiN f t x.val : Int)], undef, undef, undef, undef, undef, undef, undef, undef, undef, undef, undef, undef, undef, undef, undef, undef, u58, undef, undef], defers := [] })
      (fun x a' => own_awayH (fun _ X Y hs ha => by obtain ⟨h, hr, he⟩ := hs; exact ⟨h, Lib.hid (row_awayH hr.out ha), he⟩)) ?assign ?body ?done ?stop
    case assign =>
      rintro y pre x V K hi hK
      gi_wp2
      have BV := alloc1 V (.cells #[.int .i64 (loN f t x.val : Int), .int .i64 (hiN f t x.val : Int)] 54)
      refine hK _ _ (keeps_of_below _ BV) (KpS.of_below BV) ?_ ⟨V.heap.size, Lib.hid (IsRow.made V _ _), rfl⟩
      obtain ⟨⟨v, hv, hov⟩, hlo, hm, hz⟩ := hi
      exact ⟨⟨v, hv.below BV hv.inside, Own.below hov BV⟩, hlo.trans (BV.mono (Nat.le_trans (Nat.le_trans hbW hsz) hz)), hm.below BV, Nat.le_trans hz BV.size⟩
    case body =>
      rintro y pre ⟨x, hx⟩ a' V - - hi ⟨h, hrow, rfl⟩ hlt
      obtain ⟨⟨v, hv, hov⟩, hlo, hm, hz⟩ := id hi
      obtain ⟨va, vc, hve, _⟩ := Own.shape hov
      obtain ⟨m, hmm⟩ : ∃ m, (timesL (l.take k) ++ pre.map fun k => partT f t k.val).length = m := ⟨_, rfl⟩
      rw [hmm] at hve
      subst hve
      have q0 := hv.get 0
      have p0 := hv.open_ 0
      have c0 := hrow.out.get 0
      have c1 := hrow.out.get 1
      obtain ⟨k1, k2, k3, _, _⟩ := day_ok (show f < t by omega) (show t ≤ 10080 by omega) (HQ.out ▸ hx)
      have PT : partT f t x = part1 (dyN f x) (loN f t x) (hiN f t x) := rfl
      dsimp only at c0 c1 q0 ⊢
      obtain ⟨d, hd⟩ : ∃ d, dyN f x = d := ⟨_, rfl⟩
      obtain ⟨lo, hlo2⟩ : ∃ d, loN f t x = d := ⟨_, rfl⟩
      obtain ⟨hi2, hhi⟩ : ∃ d, hiN f t x = d := ⟨_, rfl⟩
      rw [hd, hlo2, hhi] at PT
      rw [hlo2, hhi] at k2
      rw [hd] at k1
      rw [hhi] at k3
      rw [hlo2, hhi] at hrow
      rw [hlo2] at c0
      rw [hhi] at c1
      rw [hd, hlo2, hhi]
      have n0 := (HD.out.below hlo).2 d k1
      obtain ⟨bd, hbd⟩ : ∃ bd, ByteArray.mk (dayB d).toArray = bd := ⟨_, rfl⟩
      rw [hbd] at n0
      have zb : bd.size ≤ 2 := by rw [← hbd, str_size]; unfold dayB; split <;> simp
      have z1 : (bd ++ ⟨#[32]⟩).size = bd.size + 1 := by rw [ByteArray.size_append]; rfl
      have d7 : (d : Int) < 7 := by omega
      have HI := Lib.hid hi
      have HV2 := Lib.hid hv
      have HO2 := Lib.hid hov
      have HM2 := Lib.hid hmm
      have HR2 := Lib.hid hrow.out
      obtain ⟨t1, ht1⟩ : ∃ x, ByteArray.mk (ckD lo).toArray = x := ⟨_, rfl⟩
      obtain ⟨t2, ht2⟩ : ∃ x, ByteArray.mk (ckD hi2).toArray = x := ⟨_, rfl⟩
      have s1z : t1.size ≤ 5 := by rw [← ht1, str_size]; exact ckD_len lo
      have s2z : t2.size ≤ 5 := by rw [← ht2, str_size]; exact ckD_len hi2
      have z2 : (bd ++ ⟨#[32]⟩ ++ t1).size = bd.size + 1 + t1.size := by rw [ByteArray.size_append, z1]
      have z3 : (bd ++ ⟨#[32]⟩ ++ t1 ++ ⟨#[45]⟩).size = bd.size + 1 + t1.size + 1 := by rw [ByteArray.size_append, z2]; rfl
      have EQ := Lib.hid (show bd ++ ⟨#[32]⟩ ++ t1 ++ ⟨#[45]⟩ ++ t2 = ⟨(partT f t x).toArray⟩ from by
        apply ByteArray.ext
        rw [PT, part1, ← hbd, ← ht1, ← ht2]
        simp [ByteArray.data_append])
      have CK1 := Lib.hid (fun w => ckT_any lo (by omega) w)
      have CK2 := Lib.hid (fun w => ckT_any hi2 (by omega) w)
      rw [ckT_eq lo (by omega), ht1] at CK1
      rw [ckT_eq hi2 (by omega), ht2] at CK2
      have hmL : m ≤ 100000 := by
        have e1 := timesL_len (l := l.take k) (fun s hs => HV.out.1 s (List.mem_of_mem_take hs))
        have e2 : (l.take k).length ≤ k := by rw [List.length_take]; omega
        rw [List.length_append, List.length_map] at hmm
        have e3 := HQ.out
        unfold nD at e3
        omega
      have HML := Lib.hid hmL
      clear ht1 ht2 hbd hmL
      clear hi hv hov hmm hrow hm hd hlo2 hhi PT k2 hlo
      gi_wp2_with fail
      have SS : V.drew.cell? ⟨Lb, 0, none⟩ = some (.slice va m vc) ∧ V.drew.cell? ⟨h, 0, none⟩ = some (.int .i64 (lo : Int)) ∧ V.drew.cell? ⟨h, 1, none⟩ = some (.int .i64 (hi2 : Int)) ∧ V.drew.cell? ⟨0, d, none⟩ = some (.string bd) := ⟨q0, c0, c1, n0⟩
      refine Round.wpIn_region_round (fun w' => w'.cell? ⟨Lb, 0, none⟩ = some (.slice va m vc) ∧ w'.cell? ⟨h, 0, none⟩ = some (.int .i64 (lo : Int)) ∧ w'.cell? ⟨h, 1, none⟩ = some (.int .i64 (hi2 : Int)) ∧ w'.cell? ⟨0, d, none⟩ = some (.string bd)) 16 (by kernel_rfl) (by kernel_rfl) (fun ⟨_, _, h⟩ => h) ?_
      refine Round.E_take 0 (.slice va m vc) rfl (by kernel_rfl) (by kernel_rfl) (by kernel_rfl) (by kernel_rfl) (fun _ _ _ h => h) (Or.inl ⟨by rfl, fun w hSw => by (try dsimp only at hSw); go_simp⟩) SS ?_
      try simp only [Act.put, List.setIfInBounds_toArray]
      refine Round.E_take 1 (.int .i64 (d : Int)) rfl (by kernel_rfl) (by kernel_rfl) (by kernel_rfl) (by kernel_rfl) (fun _ _ _ h => h) (Or.inl ⟨by rfl, fun w hSw => by (try dsimp only at hSw); go_simp⟩) SS ?_
      try simp only [Act.put]
      refine Round.E_take 2 (.pointer (some ⟨0, d, none⟩)) rfl (by kernel_rfl) (by kernel_rfl) (by kernel_rfl) (by kernel_rfl) (fun _ _ _ h => h) (Or.inl ⟨by rfl, fun w hSw => by (try dsimp only at hSw); go_simp⟩) SS ?_
      try simp only [Act.put]
      refine Round.E_take 3 (.string bd) rfl (by kernel_rfl) (by kernel_rfl) (by kernel_rfl) (by kernel_rfl) (fun _ _ _ h => h) (Or.inl ⟨by rfl, fun w hSw => by (try dsimp only at hSw); go_simp⟩) SS ?_
      try simp only [Act.put]
      refine Round.E_take 4 (.string (bd ++ ⟨#[32]⟩)) rfl (by kernel_rfl) (by kernel_rfl) (by kernel_rfl) (by kernel_rfl) (fun _ _ _ h => h) (Or.inl ⟨by rfl, fun w hSw => by (try dsimp only at hSw); go_simp; omega⟩) SS ?_
      try simp only [Act.put]
      refine Round.E_take 5 (.pointer (some ⟨h, 0, none⟩)) rfl (by kernel_rfl) (by kernel_rfl) (by kernel_rfl) (by kernel_rfl) (fun _ _ _ h => h) (Or.inl ⟨by rfl, fun w hSw => by (try dsimp only at hSw); go_simp⟩) SS ?_
      try simp only [Act.put]
      refine Round.E_take 6 (.int .i64 (lo : Int)) rfl (by kernel_rfl) (by kernel_rfl) (by kernel_rfl) (by kernel_rfl) (fun _ _ _ h => h) (Or.inl ⟨by rfl, fun w hSw => by (try dsimp only at hSw); go_simp⟩) SS ?_
      try simp only [Act.put]
      refine Round.E_take 10 (.pointer (some ⟨h, 1, none⟩)) rfl (by kernel_rfl) (by kernel_rfl) (by kernel_rfl) (by kernel_rfl) (fun _ _ _ h => h) (Or.inl ⟨by rfl, fun w hSw => by (try dsimp only at hSw); go_simp⟩) SS ?_
      try simp only [Act.put]
      refine Round.E_take 11 (.int .i64 (hi2 : Int)) rfl (by kernel_rfl) (by kernel_rfl) (by kernel_rfl) (by kernel_rfl) (fun _ _ _ h => h) (Or.inl ⟨by rfl, fun w hSw => by (try dsimp only at hSw); go_simp⟩) SS ?_
      try simp only [Act.put]
      refine Round.E_one 7 (by kernel_rfl) rfl (fun K hK => ?_)
      go_simp
      refine (CK1.out _).mono ?_
      rintro e w' ⟨rfl, rfl⟩
      refine hK.out _ _ (fun _ => SS) ?_
      clear hK K
      try simp only [Act.put, List.setIfInBounds_toArray, List.set_cons_zero, List.set_cons_succ]
      refine Round.E_take 8 (.string (bd ++ ⟨#[32]⟩ ++ t1)) rfl (by kernel_rfl) (by kernel_rfl) (by kernel_rfl) (by kernel_rfl) (fun _ _ _ h => h) (Or.inl ⟨by rfl, fun w hSw => by (try dsimp only at hSw); go_simp; omega⟩) SS ?_
      try simp only [Act.put]
      refine Round.E_take 9 (.string (bd ++ ⟨#[32]⟩ ++ t1 ++ ⟨#[45]⟩)) rfl (by kernel_rfl) (by kernel_rfl) (by kernel_rfl) (by kernel_rfl) (fun _ _ _ h => h) (Or.inl ⟨by rfl, fun w hSw => by (try dsimp only at hSw); go_simp; omega⟩) SS ?_
      try simp only [Act.put]
      refine Round.E_one 12 (by kernel_rfl) rfl (fun K hK => ?_)
      go_simp
      refine (CK2.out _).mono ?_
      rintro e w' ⟨rfl, rfl⟩
      refine hK.out _ _ (fun _ => SS) ?_
      clear hK K
      try simp only [Act.put, List.setIfInBounds_toArray, List.set_cons_zero, List.set_cons_succ]
      refine Round.E_take 13 (.string (bd ++ ⟨#[32]⟩ ++ t1 ++ ⟨#[45]⟩ ++ t2)) rfl (by kernel_rfl) (by kernel_rfl) (by kernel_rfl) (by kernel_rfl) (fun _ _ _ h => h) (Or.inl ⟨by rfl, fun w hSw => by (try dsimp only at hSw); go_simp; omega⟩) SS ?_
      try simp only [Act.put]
      rw [EQ.out]
      refine Round.E_one 14 (by kernel_rfl) rfl (fun K hK => ?_)
      go_simp
      obtain ⟨U, hU⟩ : ∃ U, (V.alloc (.cells #[.string ⟨(partT f t x).toArray⟩] 9)).drew = U := ⟨_, rfl⟩
      have hbU : Below V.heap.size V U := hU ▸ (alloc1 V _).trans ((drew_below _).mono (by simp))
      have rU : U.heap[V.heap.size]? = some (.cells (encT (partT f t x)).toArray 9 (0, 0)) := hU ▸ (IsRow.made V _ _).drew
      rw [hU]
      have u0 := (hbU.cell (World.block_lt_of_cell? _ _ q0)).trans q0
      have u3 := (hbU.cell (World.block_lt_of_cell? _ _ n0)).trans n0
      have vU := HV2.out.below hbU HV2.out.inside
      have oU : OwnT U b (.slice va m vc) (timesL (l.take k) ++ pre.map fun k => partT f t k.val) := Own.below HO2.out hbU
      have h2U := HR2.out.below hbU HR2.out.inside
      refine hK.out _ _ (fun _ => ⟨u0, h2U.get 0, h2U.get 1, u3⟩) ?_
      clear hK K hU SS q0 p0 c0 c1 n0
      try simp only [Act.put, List.setIfInBounds_toArray, List.set_cons_zero, List.set_cons_succ]
      refine Round.E_one 15 (by kernel_rfl) rfl (fun K hK => ?_)
      refine step_appT (by rfl) _ _ (by rfl) b (.slice va m vc) (timesL (l.take k) ++ pre.map fun k => partT f t k.val) (partT f t x) V.heap.size (by rfl) oU (by rfl) rU (by rw [HM2.out]; exact HML.out) (Nat.le_trans (Nat.le_trans (Nat.le_trans hbW hsz) HI.out.sz) hbU.size) ?_
      intro g' cap' w3 ho3 hg3 hlt3
      have r3' : IsRow w3 Lb 44 #[.slice va m vc] := vU.grown hg3 (OwnT.ne oU vU (by decide))
      have h3' := h2U.grown hg3 (OwnT.ne oU h2U (by decide))
      have q3 := r3'.get 0
      have p3 := r3'.open_ 0
      have n3 := hg3.cell u3 (fun e => by
        have h1 := (hlt3 _ e.symm).1
        have h2 := HD.out.1
        exact absurd h2 (by show ¬ 0 < b; have h1 : b ≤ 0 := h1; omega))
      refine hK.out _ _ (fun _ => ⟨q3, h3'.get 0, h3'.get 1, n3⟩) ?_
      clear hK K u0 u3
      try simp only [Act.put, List.setIfInBounds_toArray]
      refine Round.E_one 16 (by kernel_rfl) rfl (fun K hK => ?_)
      go_simp
      refine hK.out _ _ (fun h => absurd rfl h) ?_
      clear hK K
      refine Round.E_done (by kernel_rfl) ?_ _
      exact InP.fin (x := ⟨x, hx⟩) HI.out HV2.out HO2.out hL (Nat.le_trans hbW hsz) hbU hg3 (fun k e => (hlt3 k e).1) (by simpa using ho3)
    case done =>
      rintro D ys V hD rfl hi hK
      obtain ⟨⟨v, hv, hov⟩, hlo, hm, hz⟩ := hi
      have HO9 := Lib.hid (show OutP w b Lb l (k + 1) (D :: Ds) V from ⟨⟨v, hv, by rw [HT.out, timesS_fin f t q HQ.out]; exact hov⟩, hlo, hm.cons (by omega) hK (fun D' h' => by have := hDs.out D' h'; omega)⟩)
      clear hv hov hlo hm hz hK hDs HT
      gi_wp2
      refine ⟨⟨k + 1, D :: Ds, _, _, _, _, _, _, _, by omega, HO9, rfl⟩, ?_⟩
      simp [Lx.intOf]
      omega
    case stop =>
      rintro D c pre W _ _ h _
      exact h.elim
  · obtain rfl : k = n := by omega
    have hlt2 : ¬ (k : Int) < (k : Int) := by omega
    obtain ⟨⟨v, hv, hov⟩, hlo, hm⟩ := HO.out
    rw [List.take_of_length_le (by rw [HN.out]; exact Nat.le_refl _)] at hov
    have q0 := hv.get 0
    have KJ := Lib.hid (join_any v (timesL l) b W hov timesL_short (by have := timesL_len HV.out.1; have := HN.out; omega))
    have HLO := Lib.hid hlo
    have HM := Lib.hid hm
    have hbW : b ≤ W.heap.size := by have := hv.inside; omega
    clear hov hlo hm HO hv
    gi_wp2_with fail
    refine ⟨trivial, ?_⟩
    refine (callsIn_wide.2 KJ.out).mono ?_
    rintro e w9 ⟨rfl, b9⟩
    have L9 := Lib.hid (HLO.out.trans (b9.mono hbW))
    have M9 := Lib.hid (HM.out.below b9)
    have hs9 := b9.size
    clear b9 KJ HLO HM q0
    gi_wp2_with fail
    refine leaves_marks (J := fun V => Below b w V ∧ b ≤ V.heap.size) (Z := b) (fun V D hV hZ hD => ⟨hV.1.grown (grownBy_putObj' V D _) hV.2 (fun k e => by injection e with e; omega), Nat.le_trans hV.2 (grownBy_putObj' V D _).size⟩) (fun V hV => ⟨_, results_tmp2 rfl _ _ _, rfl, by rw [HB.out]; exact hV.1⟩) Ds w9 M9.out ⟨L9.out, ?_⟩
    exact Nat.le_trans hbW hs9
end Go.Proofs.YtgbkjdpjilldmaaGreatDoor.Hr
/- hours: Text of any list. -/
namespace Go.Proofs.YtgbkjdpjilldmaaGreatDoor.Hr
open Go.RowKit Go.Sort Go.Shelf
open Lx (IsRow alloc1 drew_below B)
open St (Sp encS encS_len encS_one)
set_option maxRecDepth 100000 in
set_option maxHeartbeats 4000000 in
/-- what Text answers. -/
theorem text_no (ao : Option Addr) (n cap : Nat) (l : List Sp) (w : World) (hn : l.length = n) (ha : SpT w w.heap.size ao l) (hc : n ≤ cap) (hm : n ≤ 1000000) (h : ¬ (Val l ∧ 0 < n ∧ n ≤ 60)) :
    Calls Tryz.prog 11 #[.slice ao n cap] w fun e w' => e = .returned (.tuple #[.string ⟨(textW l).1.toArray⟩, .int .i64 (textW l).2]) ∧ Below w.heap.size w w' := by
  have KV := Lib.hid (valid_any ao n cap l w hn ha hc hm)
  obtain ⟨R, hR⟩ : ∃ R, textW l = R := ⟨_, rfl⟩
  rw [hR]
  unfold textW at hR
  cases hv : vldS l with
  | false =>
    rw [hv] at KV hR
    rw [if_neg (by simp)] at hR
    subst hR
    clear h hv ha
    go_enter Tryz.func11, Tryz.ntmps11
    go_wp2_with fail
    refine KV.out.mono ?_
    rintro e w1 ⟨rfl, b1⟩
    go_wp2
    go_ret2
    exact ⟨rfl, b1⟩
  | true =>
    rw [hv] at KV hR
    rw [if_pos rfl] at hR
    by_cases h60 : 60 < n
    · rw [if_pos (by rw [hn]; exact h60)] at hR
      subst hR
      have h1 : (60 : Int) < (n : Int) := by omega
      clear h hv ha
      go_enter Tryz.func11, Tryz.ntmps11
      go_wp2_with fail
      refine KV.out.mono ?_
      rintro e w1 ⟨rfl, b1⟩
      go_wp2
      go_ret2
      exact ⟨rfl, b1⟩
    · obtain rfl : n = 0 := Decidable.byContradiction fun q => h ⟨vld_val.1 hv, by omega, by omega⟩
      obtain rfl : l = [] := List.eq_nil_of_length_eq_zero hn
      rw [if_neg (by simp), if_pos rfl] at hR
      subst hR
      clear h hv ha
      go_enter Tryz.func11, Tryz.ntmps11
      go_wp2_with fail
      refine KV.out.mono ?_
      rintro e w1 ⟨rfl, b1⟩
      go_wp2
      go_ret2
      exact ⟨rfl, b1⟩
set_option maxRecDepth 100000 in
set_option maxHeartbeats 4000000 in
theorem text_all (ao : Option Addr) (n cap : Nat) (l : List Sp) (w : World) (hn : l.length = n) (ha : SpT w w.heap.size ao l) (hc : n ≤ cap) (hv : Val l) (h0 : 0 < n) (h60 : n ≤ 60) (ho : ∀ h : 0 < l.length, l[0].2 - l[0].1 = 10080) :
    Calls Tryz.prog 11 #[.slice ao n cap] w fun e w' => e = .returned (.tuple #[.string ⟨alwaysB.toArray⟩, .int .i64 0]) ∧ Below w.heap.size w w' := by
  have KV := Lib.hid (valid_any ao n cap l w hn ha hc (by omega))
  rw [vld_val.2 hv] at KV
  have hc' : (n : Int) ≤ (cap : Int) := by omega
  have n0 : (0 : Int) < (n : Int) := by omega
  have q1 : ¬ (60 : Int) < (n : Int) := by omega
  have q2 : ((n : Int) == 0) = false := by rw [beq_eq_false_iff_ne]; omega
  obtain ⟨g, off, rfl, hg, x0, x1⟩ := ha.at_ (k := 0) (by omega)
  have q3 : (l[0].2 - l[0].1 == 10080) = true := by rw [beq_iff_eq]; exact ho (by omega)
  have os := hv.1 l[0] (List.getElem_mem _)
  generalize l[0] = s0 at *
  obtain ⟨s1, s2⟩ := s0
  simp only [Nat.zero_mul, Nat.add_zero] at x0 x1
  dsimp only [okS] at x0 x1 q3 os
  obtain ⟨o1, o2, o3⟩ := os
  have X0 := Lib.hid x0
  have X1 := Lib.hid x1
  clear ha hv ho x0 x1 hn
  go_enter Tryz.func11, Tryz.ntmps11
  go_wp2_with fail
  refine KV.out.mono ?_
  rintro e w1 ⟨rfl, b1⟩
  have B1 := Lib.hid b1
  have c0 := (b1.cell (p := ⟨g, off, none⟩) hg).trans X0.out
  have c1 := (b1.cell (p := ⟨g, off + 1, none⟩) hg).trans X1.out
  clear b1 KV X0 X1
  go_wp2_with fail
  go_region
  clear c0 c1
  go_wp2
  go_ret2
  exact ⟨rfl, B1.out.trans ((drew_below _).mono B1.out.size)⟩
theorem htext_any (ao : Option Addr) (n cap : Nat) (l : List Sp) (w : World) (hn : l.length = n) (ha : SpT w w.heap.size ao l) (hc : n ≤ cap) (hd : Dn w.heap.size w) (hm : n ≤ 1000000) :
    Calls Tryz.prog 11 #[.slice ao n cap] w fun e w' => e = .returned (.tuple #[.string ⟨(textW l).1.toArray⟩, .int .i64 (textW l).2]) ∧ Below w.heap.size w w' := by
  by_cases h : Val l ∧ 0 < n ∧ n ≤ 60
  · obtain ⟨h1, h2, h3⟩ := h
    have e0 : l ≠ [] := fun q => by subst q; simp at hn; omega
    have hh : l.headD (0, 0) = l[0]'(by omega) := by
      cases l with
      | nil => exact absurd rfl e0
      | cons a r => rfl
    have e : textW l = if (l[0]'(by omega)).2 - (l[0]'(by omega)).1 = 10080 then (alwaysB, 0) else (textL l, 0) := by
      unfold textW
      rw [if_pos (vld_val.2 h1), if_neg (by omega), if_neg e0, hh]
    by_cases hw : (l[0]'(by omega)).2 - (l[0]'(by omega)).1 = 10080
    · rw [e, if_pos hw]
      exact text_all ao n cap l w hn ha hc h1 h2 h3 (fun _ => hw)
    · rw [e, if_neg hw]
      exact text_any_long ao n cap l w hn ha hc hd h1 h2 h3 (fun _ => hw)
  · exact text_no ao n cap l w hn ha hc hm h
end Go.Proofs.YtgbkjdpjilldmaaGreatDoor.Hr
