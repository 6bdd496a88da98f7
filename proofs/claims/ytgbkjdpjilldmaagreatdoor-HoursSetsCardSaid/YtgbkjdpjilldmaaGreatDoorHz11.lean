/- Merged: HrJoin, HrSets, HrLeafM. -/
import Derived.Test.YtgbkjdpjilldmaaGreatDoorHz10
/- hours: joined. -/
namespace Go.Proofs.YtgbkjdpjilldmaaGreatDoor.Hr
open Go.RowKit Go.Sort Go.Shelf
open Lx (IsRow alloc1 drew_below)
open St (Sp encS encS_len encS_one)
theorem flat_set2 : ∀ (l : List Sp) (k : Nat) (x : Int) (h : k < l.length), (l.flatMap encS).set (k * 2 + 1) (.int .i64 x) = (l.set k (l[k].1, x)).flatMap encS
  | [], k, x, h => by simp at h
  | y :: l, 0, x, h => rfl
  | y :: l, k + 1, x, h => by
    have := flat_set2 l k x (by simpa using h)
    rw [show (k + 1) * 2 + 1 = (k * 2 + 1) + 1 + 1 by omega]
    simp only [List.flatMap_cons, List.set_cons_succ, List.getElem_cons_succ, ← this]
    rfl
theorem OwnS.set2 {w : World} {base g m cap : Nat} {A : List Sp} {u : Sp} (h : OwnS w base (.slice (some ⟨g, 0, none⟩) m cap) (A ++ [u])) (hm : m = A.length + 1) (x : Int) :
    OwnS (w.setCell ⟨g, (m - 1) * 2 + 1, none⟩ (.int .i64 x)) base (.slice (some ⟨g, 0, none⟩) m cap) (A ++ [(u.1, x)]) ∧ w.grownBy (w.setCell ⟨g, (m - 1) * 2 + 1, none⟩ (.int .i64 x)) (some g) := by
  have hl : (A ++ [u]).length = m := by simp [hm]
  obtain ⟨s1, s2⟩ := World.ownsRow.stored (hl ▸ h) ((m - 1) * 2 + 1) (.int .i64 x)
  refine ⟨?_, s2⟩
  have e : ((A ++ [u]).flatMap encS).set ((m - 1) * 2 + 1) (.int .i64 x) = (A ++ [(u.1, x)]).flatMap encS := by
    rw [flat_set2 _ (m - 1) x (by rw [hl]; omega)]
    subst hm
    simp
  rw [e] at s1
  show World.ownsRow _ _ _ _ _ (A ++ [(u.1, x)]).length _
  rw [show (A ++ [(u.1, x)]).length = (A ++ [u]).length by simp]
  exact hl ▸ s1
theorem last_cells {w : World} {base g m cap : Nat} {A : List Sp} {u : Sp} (h : OwnS w base (.slice (some ⟨g, 0, none⟩) m cap) (A ++ [u])) (hm : m = A.length + 1) :
    w.cell? ⟨g, (m - 1) * 2, none⟩ = some (.int .i64 u.1) ∧ w.cell? ⟨g, (m - 1) * 2 + 1, none⟩ = some (.int .i64 u.2) := by
  have hk : (A ++ [u])[m - 1]? = some u := by subst hm; simp
  exact ⟨Own.cells h encS_len (j := 0) hk (by decide), Own.cells h encS_len (j := 1) hk (by decide)⟩
set_option maxRecDepth 100000 in
set_option maxHeartbeats 4000000 in
theorem joined_any (ao : Option Addr) (n cap : Nat) (l : List Sp) (w : World) (hn : l.length = n) (ha : SpT w w.heap.size ao l) (hm : n ≤ 90000) :
    Calls Tryz.prog 32 #[.slice ao n cap] w fun e w' => (∃ v l2, e = .returned v ∧ l2.Perm l ∧ Asc l2 ∧ OwnS w' w.heap.size v (joinL l2)) ∧ Below w.heap.size w w' := by
  have KS := Lib.hid (sorted_any ao n cap l w hn ha (by omega))
  have HN := Lib.hid hn
  have HM := Lib.hid hm
  clear hn ha hm
  go_enter Tryz.func32, Tryz.ntmps32
  go_wp2_with fail
  refine KS.out.mono ?_
  rintro e w2 ⟨⟨v2, l2, rfl, q1, q2, q3⟩, b2⟩
  obtain ⟨aS, cS, hv, hc, _, _, tS⟩ := spt_of q3
  have hl2 : l2.length = n := by rw [q1.length_eq, HN.out]
  rw [hl2] at hv hc
  subst hv
  obtain ⟨b, hb⟩ : ∃ b, w2.heap.size = b := ⟨_, rfl⟩
  have Q1 := Lib.hid q1
  have Q2 := Lib.hid q2
  have B2 := Lib.hid b2
  have L2 := Lib.hid hl2
  have TS := Lib.hid (show SpT w2 b aS l2 from hb ▸ tS)
  have ZB := Lib.hid (show b ≤ w2.heap.size from Nat.le_of_eq hb.symm)
  have BZ := Lib.hid (show w.heap.size ≤ b from hb ▸ b2.size)
  have hc' : (n : Int) ≤ (cS : Int) := by omega
  have hm' : (n : Int) ≤ 90000 := by have := HM.out; omega
  clear q1 q2 q3 b2 hl2 hb tS hc KS
  go_wp2
  go_loopw [10, 3] (fun i v wr => ∃ k : Nat, k ≤ n ∧ i = .int .i64 k ∧ Hid (OwnS wr b v (joinL (l2.take k))) ∧ Hid (Below b w2 wr)) (fun i _ _ => n - (Lx.intOf i).toNat)
  case atStart => exact ⟨0, by omega, rfl, Lib.hid (OwnS.nil _ _), Lib.hid (Below.refl _ _)⟩
  case round =>
    obtain ⟨k, hk, rfl, HO, HK⟩ := hrel
    by_cases hlt : k < n
    · have hkl : k < l2.length := by rw [L2.out]; exact hlt
      have hlt2 : (k : Int) < (n : Int) := by omega
      obtain ⟨g0, o0, rfl, hg0, x0, x1⟩ := (TS.out.below HK.out (Nat.le_refl _)).at_ hkl
      have HST := Lib.hid (show joinL (l2.take (k + 1)) = stepJ (joinL (l2.take k)) l2[k] from by rw [List.take_succ_eq_append_getElem hkl, join_snoc])
      have hlen : (joinL (l2.take k)).length ≤ 90000 := Nat.le_trans (join_len l2 k) (by omega)
      obtain ⟨L, hL⟩ : ∃ L, joinL (l2.take k) = L := ⟨_, rfl⟩
      rw [hL] at HO HST hlen
      generalize l2[k] = s at *
      obtain ⟨f, t⟩ := s
      dsimp only at x0 x1
      clear hL hkl
      have ZW := Lib.hid (show b ≤ wr.heap.size from Nat.le_trans ZB.out HK.out.size)
      obtain ⟨w3, hw3, b3, r3⟩ := span_made wr f t
      have O3 := Lib.hid (Own.below HO.out b3)
      have B3 := Lib.hid (HK.out.trans (b3.mono ZW.out))
      have HW3 := Lib.hid hw3
      have Z3 := Lib.hid (show b ≤ w3.heap.size from Nat.le_trans ZW.out b3.size)
      clear hw3 b3 HO HK
      go_upto_region 5 with fail
      rw [HW3.out]
      obtain ⟨pb, hpb⟩ : ∃ p, wr.heap.size = p := ⟨_, rfl⟩
      rw [hpb] at r3 ⊢
      obtain ⟨y0, y1, z0, z1⟩ := facts2 r3
      have R3 := Lib.hid r3
      clear x0 x1 r3 HW3 ZW
      rcases List.eq_nil_or_concat L with rfl | ⟨A, u, rfl⟩
      · obtain ⟨aL, cL, rfl, _, _⟩ := O3.out.shape
        have HE := Lib.hid (show stepJ [] (f, t) = [] ++ [(f, t)] from rfl)
        have z00 : ([] : List Sp).length = 0 := rfl
        rw [z00]
        clear z00
        go_upto_region 6 with fail
        go_quiet (fail)
        have H12 := Lib.hid (fun j => (show Below w3.heap.size w3 (w3.drewN j) from ⟨rfl, rfl, rfl, Nat.le_refl _, fun _ _ => rfl⟩))
        have O4 := Lib.hid (fun j => O3.out.below (H12.out j))
        have B4 := Lib.hid (fun j => B3.out.trans ((H12.out j).mono Z3.out))
        have Y0 := Lib.hid (fun j => ((H12.out j).cell (p := ⟨pb, 0, none⟩) R3.out.inside).trans y0)
        have Y1 := Lib.hid (fun j => ((H12.out j).cell (p := ⟨pb, 1, none⟩) R3.out.inside).trans y1)
        have O5 := Lib.hid (O4.out nq)
        have B5 := Lib.hid (B4.out nq)
        have y0' := Y0.out nq
        have y1' := Y1.out nq
        have Z5 := Lib.hid (show b ≤ (w3.drewN nq).heap.size from Z3.out)
        clear y0 y1 O4 B4 Y0 Y1 H12 R3 O3 B3 z0 z1
        generalize w3.drewN nq = w5 at *
        have ow := O5.out.below (alloc1 w5 (.cells #[.int .i64 f, .int .i64 t] 54))
        have tg := sps_one w5 f t
        have hz := Nat.le_trans Z5.out (alloc1 w5 (.cells #[.int .i64 f, .int .i64 t] 54)).size
        go_wp2_with (at_builtin; refine wpList_appS rfl _ _ (by rfl) b _ [] [(f, t)] (some ⟨w5.heap.size, 0, none⟩) 1 1 (by rfl) ow (by rfl) tg rfl (by omega) hz ?_; intro v7 w7 ho7 hg7 hlt7)
        have O7 := Lib.hid ho7
        have B7 := Lib.hid ((B5.out.trans ((alloc1 w5 _).mono Z5.out)).grown hg7 hz (fun k hk => (hlt7 k hk).1))
        clear ow tg hz ho7 hg7 hlt7
        go_wp2
        go_roundw
        case rel => exact ⟨k + 1, by omega, by go_num, Lib.hid (by rw [HST.out, HE.out]; exact O7.out), B7⟩
        case measure => simp [Lx.intOf]; omega
      · rw [List.concat_eq_append] at *
        have hne : 0 < (A ++ [u]).length := by simp
        obtain ⟨m, hm1⟩ : ∃ m, (A ++ [u]).length = m := ⟨_, rfl⟩
        have hmA : m = A.length + 1 := by rw [← hm1]; simp
        obtain ⟨aL, cL, hvL, hcL, _, h3L⟩ := O3.out.shape
        obtain ⟨gL, rfl, hgL, hgL2⟩ : ∃ g, aL = some ⟨g, 0, none⟩ ∧ b ≤ g ∧ g < w3.heap.size := by
          rcases h3L with ⟨_, _, h⟩ | h
          · simp at h
          · exact h
        rw [hm1] at hvL hcL hlen
        subst hvL
        have HMA := Lib.hid hmA
        have HM1 := Lib.hid hm1
        obtain ⟨c0, c1⟩ := last_cells O3.out hmA
        have hd1 : (0 : Int) < (m : Int) := by omega
        have hd2 : decide ((0 : Int) < (m : Int)) = true := decide_eq_true hd1
        have hd3 : 0 < m := by omega
        have hd4 : decide (0 < m) = true := decide_eq_true hd3
        have hk1 : IntKind.i64.wrap ((m : Int) - 1) = ((m - 1 : Nat) : Int) := by
          rw [IntWalk.i64_in _ (by omega)]
          omega
        have hk2 : ((m - 1 : Nat) : Int) < (m : Int) := by omega
        have hcL' : (m : Int) ≤ (cL : Int) := by omega
        have HST2 := Lib.hid (step_snoc A u (f, t))
        obtain ⟨u1, u2⟩ := u
        dsimp only at c0 c1 HST2
        clear hm1 hmA hne h3L hcL
        by_cases hle : f ≤ u2
        · have hle2 : decide (f ≤ u2) = true := decide_eq_true hle
          have HE := Lib.hid (show stepJ (A ++ [(u1, u2)]) (f, t) = A ++ [(u1, mx u2 t)] from by rw [HST2.out, if_pos hle])
          go_upto_region 6 with fail
          go_quiet (fail)
          have H12 := Lib.hid (fun j => (show Below w3.heap.size w3 (w3.drewN j) from ⟨rfl, rfl, rfl, Nat.le_refl _, fun _ _ => rfl⟩))
          have O4 := Lib.hid (fun j => O3.out.below (H12.out j))
          have B4 := Lib.hid (fun j => B3.out.trans ((H12.out j).mono Z3.out))
          have O5 := Lib.hid (O4.out nq)
          have B5 := Lib.hid (B4.out nq)
          have y1' := ((H12.out nq).cell (p := ⟨pb, 1, none⟩) R3.out.inside).trans y1
          have e1' := ((H12.out nq).cell (p := ⟨gL, (m - 1) * 2 + 1, none⟩) hgL2).trans c1
          have Z5 := Lib.hid (show b ≤ (w3.drewN nq).heap.size from Z3.out)
          have GL5 : gL < (w3.drewN nq).heap.size := hgL2
          clear y0 y1 O4 B4 H12 R3 O3 B3 c0 c1 z0 z1 hgL2 HST2
          generalize w3.drewN nq = w5 at *
          have fz := Own.open_ O5.out ((m - 1) * 2 + 1)
          have FIN := Lib.hid (fun w9 (h9 : w9 = (w5.setCell ⟨gL, (m - 1) * 2 + 1, none⟩ (.int .i64 (max u2 t))).drew) => (show OwnS w9 b (.slice (some ⟨gL, 0, none⟩) m cL) (A ++ [(u1, mx u2 t)]) ∧ Below b w2 w9 from by
            subst h9
            obtain ⟨s1, s2⟩ := OwnS.set2 O5.out HMA.out (mx u2 t)
            exact ⟨s1.below (drew_below _), (B5.out.grown s2 Z5.out (fun k hk => by injection hk with hk; omega)).trans ((drew_below _).mono (Nat.le_trans Z5.out s2.size))⟩))
          have hk3 : (m : Int) - 1 = ((m - 1 : Nat) : Int) := by omega
          go_wp2_with fail
          go_region
          all_goals
            clear y1' e1' fz
            have F9 := Lib.hid (FIN.out _ rfl)
            go_wp2
            go_roundw
            case rel => exact ⟨k + 1, by omega, by go_num, Lib.hid (by rw [HST.out, HE.out]; exact F9.out.1), Lib.hid F9.out.2⟩
            case measure => simp [Lx.intOf]; omega
        · have hle2 : decide (f ≤ u2) = false := decide_eq_false hle
          have HE := Lib.hid (show stepJ (A ++ [(u1, u2)]) (f, t) = A ++ [(u1, u2)] ++ [(f, t)] from by rw [HST2.out, if_neg hle])
          have hlen2 : (A ++ [(u1, u2)]).length ≤ 90000 := by have := HM1.out; simp at this ⊢; omega
          go_upto_region 6 with fail
          go_quiet (fail)
          have H12 := Lib.hid (fun j => (show Below w3.heap.size w3 (w3.drewN j) from ⟨rfl, rfl, rfl, Nat.le_refl _, fun _ _ => rfl⟩))
          have O4 := Lib.hid (fun j => O3.out.below (H12.out j))
          have B4 := Lib.hid (fun j => B3.out.trans ((H12.out j).mono Z3.out))
          have O5 := Lib.hid (O4.out nq)
          have B5 := Lib.hid (B4.out nq)
          have y0' := ((H12.out nq).cell (p := ⟨pb, 0, none⟩) R3.out.inside).trans y0
          have y1' := ((H12.out nq).cell (p := ⟨pb, 1, none⟩) R3.out.inside).trans y1
          have Z5 := Lib.hid (show b ≤ (w3.drewN nq).heap.size from Z3.out)
          clear y0 y1 O4 B4 H12 R3 O3 B3 c0 c1 z0 z1 HST2 hk1 hk2
          generalize w3.drewN nq = w5 at *
          have ow := O5.out.below (alloc1 w5 (.cells #[.int .i64 f, .int .i64 t] 54))
          have tg := sps_one w5 f t
          have hz := Nat.le_trans Z5.out (alloc1 w5 (.cells #[.int .i64 f, .int .i64 t] 54)).size
          go_wp2_with (at_builtin; refine wpList_appS rfl _ _ (by rfl) b _ (A ++ [(u1, u2)]) [(f, t)] (some ⟨w5.heap.size, 0, none⟩) 1 1 (by rfl) ow (by rfl) tg rfl (by omega) hz ?_; intro v7 w7 ho7 hg7 hlt7)
          have O7 := Lib.hid ho7
          have B7 := Lib.hid ((B5.out.trans ((alloc1 w5 _).mono Z5.out)).grown hg7 hz (fun k hk => (hlt7 k hk).1))
          clear ow tg hz ho7 hg7 hlt7
          go_wp2
          go_roundw
          case rel => exact ⟨k + 1, by omega, by go_num, Lib.hid (by rw [HST.out, HE.out]; exact O7.out), B7⟩
          case measure => simp [Lx.intOf]; omega
    · obtain rfl : k = n := by omega
      have HF := Lib.hid (show OwnS wr w.heap.size _ (joinL l2) from by
        have := HO.out
        rw [← L2.out, List.take_length] at this
        exact Own.base_le this BZ.out)
      go_wp2
      go_ret
      exact ⟨⟨_, l2, rfl, Q1.out, Q2.out, HF.out⟩, B2.out.trans (HK.out.mono BZ.out)⟩
end Go.Proofs.YtgbkjdpjilldmaaGreatDoor.Hr
/- Plain mathematics of opening hours: valid lists, their minutes, the list of a set of minutes. -/
namespace Go.Proofs.YtgbkjdpjilldmaaGreatDoor.Hr
def okS (s : Sq) : Prop := 0 ≤ s.1 ∧ s.1 < s.2 ∧ s.2 ≤ 10080
instance (s : Sq) : Decidable (okS s) := by unfold okS; infer_instance
def ascS : List Sq → Bool
  | [] => true
  | [_] => true
  | a :: b :: l => decide (a.2 < b.1) && ascS (b :: l)
def vldS (l : List Sq) : Bool := l.all (fun s => decide (okS s)) && ascS l
abbrev Apart (l : List Sq) : Prop := l.Pairwise fun a b => a.2 < b.1
def Val (l : List Sq) : Prop := (∀ s ∈ l, okS s) ∧ Apart l
theorem asc_apart : ∀ {l : List Sq}, (∀ s ∈ l, okS s) → (ascS l = true ↔ Apart l)
  | [], _ => by simp [ascS]
  | [_], _ => by simp [ascS]
  | a :: b :: l, h => by
    have hb := h b (by simp)
    rw [ascS, Bool.and_eq_true, decide_eq_true_iff, asc_apart (fun s hs => h s (List.mem_cons_of_mem _ hs))]
    constructor
    · rintro ⟨h1, h2⟩
      refine List.pairwise_cons.2 ⟨fun c hc => ?_, h2⟩
      rcases List.mem_cons.1 hc with rfl | hc
      · exact h1
      · have := List.rel_of_pairwise_cons h2 hc
        have := hb.2.1
        omega
    · intro h1
      exact ⟨List.rel_of_pairwise_cons h1 (by simp), (List.pairwise_cons.1 h1).2⟩
theorem vld_val {l : List Sq} : vldS l = true ↔ Val l := by
  unfold vldS Val
  rw [Bool.and_eq_true, List.all_eq_true]
  constructor
  · rintro ⟨h1, h2⟩
    have h3 : ∀ s ∈ l, okS s := fun s hs => of_decide_eq_true (h1 s hs)
    exact ⟨h3, (asc_apart h3).1 h2⟩
  · rintro ⟨h1, h2⟩
    exact ⟨fun s hs => decide_eq_true (h1 s hs), (asc_apart h1).2 h2⟩
/-- a minute of the week is among a list's. -/
def On (m : Int) (l : List Sq) : Prop := ∃ s ∈ l, s.1 ≤ m ∧ m < s.2
theorem on_nil (m : Int) : ¬ On m [] := fun ⟨_, h, _⟩ => by cases h
theorem on_cons {m : Int} {s : Sq} {l : List Sq} : On m (s :: l) ↔ (s.1 ≤ m ∧ m < s.2) ∨ On m l := by
  constructor
  · rintro ⟨u, hu, h⟩
    rcases List.mem_cons.1 hu with rfl | hu
    · exact .inl h
    · exact .inr ⟨u, hu, h⟩
  · rintro (h | ⟨u, hu, h⟩)
    · exact ⟨s, by simp, h⟩
    · exact ⟨u, List.mem_cons_of_mem _ hu, h⟩
theorem on_app {m : Int} {l k : List Sq} : On m (l ++ k) ↔ On m l ∨ On m k := by
  constructor
  · rintro ⟨u, hu, h⟩
    rcases List.mem_append.1 hu with hu | hu
    · exact .inl ⟨u, hu, h⟩
    · exact .inr ⟨u, hu, h⟩
  · rintro (⟨u, hu, h⟩ | ⟨u, hu, h⟩)
    · exact ⟨u, List.mem_append_left _ hu, h⟩
    · exact ⟨u, List.mem_append_right _ hu, h⟩
theorem on_perm {m : Int} {l k : List Sq} (h : l.Perm k) : On m l ↔ On m k := ⟨fun ⟨u, hu, g⟩ => ⟨u, h.mem_iff.1 hu, g⟩, fun ⟨u, hu, g⟩ => ⟨u, h.mem_iff.2 hu, g⟩⟩
theorem Val.tail {s : Sq} {l : List Sq} (h : Val (s :: l)) : Val l := ⟨fun u hu => h.1 u (List.mem_cons_of_mem _ hu), (List.pairwise_cons.1 h.2).2⟩
theorem Val.head {s : Sq} {l : List Sq} (h : Val (s :: l)) : okS s ∧ ∀ u ∈ l, s.2 < u.1 := ⟨h.1 s (by simp), (List.pairwise_cons.1 h.2).1⟩
theorem on_after {s : Sq} {l : List Sq} (h : Val (s :: l)) {m : Int} (hm : On m l) : s.2 < m := by
  obtain ⟨u, hu, h1, _⟩ := hm
  have := h.head.2 u hu
  omega
/-- a set of minutes has one valid list. -/
theorem val_ext : ∀ {l k : List Sq}, Val l → Val k → (∀ m, On m l ↔ On m k) → l = k
  | [], [], _, _, _ => rfl
  | [], t :: k, _, hk, h => absurd ((h t.1).2 ⟨t, by simp, Int.le_refl _, hk.head.1.2.1⟩) (on_nil _)
  | s :: l, [], hl, _, h => absurd ((h s.1).1 ⟨s, by simp, Int.le_refl _, hl.head.1.2.1⟩) (on_nil _)
  | s :: l, t :: k, hl, hk, h => by
    have os := hl.head.1
    have ot := hk.head.1
    have key : ∀ {s t : Sq} {l k : List Sq}, Val (s :: l) → Val (t :: k) → (∀ m, On m (s :: l) ↔ On m (t :: k)) → t.1 ≤ s.1 := by
      intro s t l k hl hk h
      rcases on_cons.1 ((h s.1).1 ⟨s, by simp, Int.le_refl _, hl.head.1.2.1⟩) with g | g
      · exact g.1
      · have := on_after hk g
        have := hk.head.1.2.1
        omega
    have h1 : s.1 = t.1 := Int.le_antisymm (key hk hl (fun m => (h m).symm)) (key hl hk h)
    have key2 : ∀ {s t : Sq} {l k : List Sq}, Val (s :: l) → Val (t :: k) → (∀ m, On m (s :: l) ↔ On m (t :: k)) → s.1 = t.1 → s.2 ≤ t.2 := by
      intro s t l k hl hk h e
      refine Int.not_lt.1 fun g => ?_
      have o2 := hk.head.1.2.1
      rcases on_cons.1 ((h t.2).1 ⟨s, by simp, by omega, g⟩) with q | q
      · omega
      · have := on_after hk q
        omega
    have h2 : s.2 = t.2 := Int.le_antisymm (key2 hl hk h h1) (key2 hk hl (fun m => (h m).symm) h1.symm)
    have e : s = t := Prod.ext h1 h2
    subst e
    congr 1
    refine val_ext hl.tail hk.tail fun m => ?_
    constructor
    · intro g
      rcases on_cons.1 ((h m).1 (on_cons.2 (.inr g))) with q | q
      · have := on_after hl g
        omega
      · exact q
    · intro g
      rcases on_cons.1 ((h m).2 (on_cons.2 (.inr g))) with q | q
      · have := on_after hk g
        omega
      · exact q
/-- joining lists in order. -/
theorem join_spec : ∀ (l : List Sq) (acc : List Sq), (∀ s ∈ l, okS s) → (l.Pairwise fun a b => a.1 ≤ b.1) → Val acc → (∀ u ∈ acc, ∀ s ∈ l, u.1 ≤ s.1) →
    Val (l.foldl stepJ acc) ∧ ∀ m, On m (l.foldl stepJ acc) ↔ On m acc ∨ On m l
  | [], acc, _, _, hv, _ => ⟨hv, fun m => ⟨.inl, fun h => h.elim id fun h => absurd h (on_nil m)⟩⟩
  | s :: l, acc, hok, hp, hv, hb => by
    have os := hok s (by simp)
    have hp2 := List.pairwise_cons.1 hp
    have hb0 : ∀ u ∈ acc, u.1 ≤ s.1 := fun u hu => hb u hu s (by simp)
    have step : Val (stepJ acc s) ∧ (∀ u ∈ stepJ acc s, u.1 ≤ s.1) ∧ ∀ m, On m (stepJ acc s) ↔ On m acc ∨ (s.1 ≤ m ∧ m < s.2) := by
      rcases List.eq_nil_or_concat acc with rfl | ⟨A, u, rfl⟩
      · rw [step_nil]
        refine ⟨⟨fun v hv => by simp at hv; subst hv; exact os, List.pairwise_singleton _ _⟩, fun v hv => by simp at hv; subst hv; exact Int.le_refl _, fun m => ?_⟩
        rw [on_cons]
        constructor
        · rintro (h | h)
          · exact .inr h
          · exact .inl h
        · rintro (h | h)
          · exact .inr h
          · exact .inl h
      · rw [List.concat_eq_append] at *
        have ou := hv.1 u (by simp)
        have hu := hb0 u (by simp)
        obtain ⟨pA, _, pu⟩ := List.pairwise_append.1 hv.2
        rw [step_snoc]
        by_cases h : s.1 ≤ u.2
        · rw [if_pos h]
          refine ⟨⟨fun v hv2 => ?_, List.pairwise_append.2 ⟨pA, List.pairwise_singleton _ _, fun a ha b hb2 => ?_⟩⟩, fun v hv2 => ?_, fun m => ?_⟩
          · rcases List.mem_append.1 hv2 with h2 | h2
            · exact hv.1 v (List.mem_append_left _ h2)
            · simp at h2
              subst h2
              unfold okS at *
              show 0 ≤ u.1 ∧ u.1 < max u.2 s.2 ∧ max u.2 s.2 ≤ 10080
              omega
          · simp at hb2
            subst hb2
            exact pu a ha u (by simp)
          · rcases List.mem_append.1 hv2 with h2 | h2
            · exact hb0 v (List.mem_append_left _ h2)
            · simp at h2; subst h2; exact hu
          · rw [on_app, on_app, on_cons, on_cons]
            have n1 : ¬ On m [] := on_nil m
            simp only [n1, or_false]
            constructor
            · rintro (h2 | ⟨h2, h3⟩)
              · exact .inl (.inl h2)
              · by_cases h4 : m < u.2
                · exact .inl (.inr ⟨h2, h4⟩)
                · refine .inr ?_
                  have : m < max u.2 s.2 := h3
                  omega
            · rintro ((h2 | h2) | h2)
              · exact .inl h2
              · refine .inr ⟨h2.1, ?_⟩
                show m < max u.2 s.2
                omega
              · refine .inr ⟨by show u.1 ≤ m; omega, ?_⟩
                show m < max u.2 s.2
                omega
        · rw [if_neg h]
          refine ⟨⟨fun v hv2 => ?_, List.pairwise_append.2 ⟨hv.2, List.pairwise_singleton _ _, fun a ha b hb2 => ?_⟩⟩, fun v hv2 => ?_, fun m => ?_⟩
          · rcases List.mem_append.1 hv2 with h2 | h2
            · exact hv.1 v h2
            · simp at h2; subst h2; exact os
          · simp at hb2
            subst hb2
            rcases List.mem_append.1 ha with h2 | h2
            · have := pu a h2 u (by simp)
              have := ou.2.1
              omega
            · simp at h2; subst h2; omega
          · rcases List.mem_append.1 hv2 with h2 | h2
            · exact hb0 v h2
            · simp at h2; subst h2; exact Int.le_refl _
          · rw [on_app, on_cons (l := [])]
            have n1 : ¬ On m [] := on_nil m
            simp only [n1, or_false]
    obtain ⟨v1, v2, v3⟩ := step
    obtain ⟨r1, r2⟩ := join_spec l (stepJ acc s) (fun t ht => hok t (List.mem_cons_of_mem _ ht)) hp2.2 v1 (fun u hu t ht => Int.le_trans (v2 u hu) (hp2.1 t ht))
    refine ⟨r1, fun m => ?_⟩
    rw [List.foldl_cons, r2, v3, on_cons, or_assoc]
theorem join_val {l : List Sq} (h : ∀ s ∈ l, okS s) (hp : l.Pairwise fun a b => a.1 ≤ b.1) : Val (joinL l) ∧ ∀ m, On m (joinL l) ↔ On m l := by
  obtain ⟨h1, h2⟩ := join_spec l [] h hp ⟨fun s hs => (by cases hs), List.Pairwise.nil⟩ (fun u hu => by cases hu)
  refine ⟨h1, fun m => ?_⟩
  unfold joinL
  rw [h2]
  have := on_nil m
  simp [this]
/-- a sort that computes. -/
def insB (s : Sq) : List Sq → List Sq
  | [] => [s]
  | t :: l => if s.1 ≤ t.1 then s :: t :: l else t :: insB s l
def srtB (l : List Sq) : List Sq := l.foldr insB []
theorem insB_perm (s : Sq) : ∀ l, (insB s l).Perm (s :: l)
  | [] => List.Perm.refl _
  | t :: l => by
    rw [insB]
    split
    · exact List.Perm.refl _
    · exact ((insB_perm s l).cons t).trans (List.Perm.swap s t l)
theorem insB_asc (s : Sq) : ∀ {l : List Sq}, (l.Pairwise fun a b => a.1 ≤ b.1) → (insB s l).Pairwise fun a b => a.1 ≤ b.1
  | [], _ => List.pairwise_singleton _ _
  | t :: l, h => by
    obtain ⟨h1, h2⟩ := List.pairwise_cons.1 h
    rw [insB]
    split
    · rename_i g
      exact List.pairwise_cons.2 ⟨fun u hu => (List.mem_cons.1 hu).elim (fun e => e ▸ g) (fun hu => Int.le_trans g (h1 u hu)), h⟩
    · rename_i g
      refine List.pairwise_cons.2 ⟨fun u hu => ?_, insB_asc s h2⟩
      rcases List.mem_cons.1 ((insB_perm s l).mem_iff.1 hu) with rfl | hu
      · omega
      · exact h1 u hu
theorem srtB_perm : ∀ l : List Sq, (srtB l).Perm l
  | [] => List.Perm.refl _
  | s :: l => (insB_perm s (srtB l)).trans ((srtB_perm l).cons s)
theorem srtB_asc : ∀ l : List Sq, (srtB l).Pairwise fun a b => a.1 ≤ b.1
  | [] => List.Pairwise.nil
  | s :: l => insB_asc s (srtB_asc l)
/-- the valid list of the minutes of spans in any order. -/
def uni (l : List Sq) : List Sq := joinL (srtB l)
theorem uni_val {l : List Sq} (h : ∀ s ∈ l, okS s) : Val (uni l) ∧ ∀ m, On m (uni l) ↔ On m l := by
  obtain ⟨h1, h2⟩ := join_val (l := srtB l) (fun s hs => h s ((srtB_perm l).mem_iff.1 hs)) (srtB_asc l)
  exact ⟨h1, fun m => (h2 m).trans (on_perm (srtB_perm l))⟩
theorem join_uni {l k : List Sq} (h : ∀ s ∈ l, okS s) (hp : k.Perm l) (ha : k.Pairwise fun a b => a.1 ≤ b.1) : joinL k = uni l := by
  obtain ⟨h1, h2⟩ := join_val (l := k) (fun s hs => h s (hp.mem_iff.1 hs)) ha
  obtain ⟨h3, h4⟩ := uni_val h
  exact val_ext h1 h3 fun m => (h2 m).trans ((on_perm hp).trans (h4 m).symm)
theorem uni_self {l : List Sq} (h : Val l) : uni l = l := val_ext (uni_val h.1).1 h (uni_val h.1).2
/-- what a list does not have. -/
def notF (from_ : Int) : List Sq → List Sq
  | [] => if from_ < 10080 then [(from_, 10080)] else []
  | s :: l => (if from_ < s.1 then [(from_, s.1)] else []) ++ notF s.2 l
def notL (l : List Sq) : List Sq := notF 0 l
theorem not_spec : ∀ (l : List Sq) (a : Int), Val l → 0 ≤ a → a ≤ 10080 → (∀ s ∈ l, a ≤ s.1) → (∀ s, l.head? = some s → a = 0 ∨ a < s.1) →
    Val (notF a l) ∧ (∀ m, On m (notF a l) ↔ a ≤ m ∧ m < 10080 ∧ ¬ On m l) ∧ ∀ s ∈ notF a l, a ≤ s.1
  | [], a, _, h0, h1, _, _ => by
    rw [notF]
    split
    · rename_i h
      refine ⟨⟨fun s hs => by simp at hs; subst hs; exact ⟨h0, h, Int.le_refl _⟩, List.pairwise_singleton _ _⟩, fun m => ?_, fun s hs => by simp at hs; subst hs; exact Int.le_refl _⟩
      rw [on_cons]
      have := on_nil m
      constructor
      · rintro (g | g)
        · exact ⟨g.1, g.2, this⟩
        · exact absurd g this
      · rintro ⟨g1, g2, _⟩
        exact .inl ⟨g1, g2⟩
    · refine ⟨⟨fun s hs => (by cases hs), List.Pairwise.nil⟩, fun m => ?_, fun s hs => (by cases hs)⟩
      constructor
      · intro g; exact absurd g (on_nil m)
      · rintro ⟨g1, g2, _⟩; omega
  | s :: l, a, hv, h0, h1, hb, hh => by
    have os := hv.head.1
    have hl := hv.head.2
    unfold okS at os
    obtain ⟨r1, r2, r3⟩ := not_spec l s.2 hv.tail (by omega) os.2.2 (fun t ht => Int.le_of_lt (hl t ht)) (fun t ht => .inr (hl t (List.mem_of_mem_head? (by rw [ht]; simp))))
    have ha := hb s (by simp)
    have off : ∀ m, On m l → s.2 < m := fun m hm => on_after hv hm
    rw [notF]
    by_cases h : a < s.1
    · rw [if_pos h]
      refine ⟨⟨fun t ht => ?_, List.pairwise_append.2 ⟨List.pairwise_singleton _ _, r1.2, fun x hx y hy => ?_⟩⟩, fun m => ?_, fun t ht => ?_⟩
      · rcases List.mem_append.1 ht with g | g
        · simp at g; subst g; exact (show 0 ≤ a ∧ a < s.1 ∧ s.1 ≤ 10080 from ⟨h0, h, by omega⟩)
        · exact r1.1 t g
      · simp at hx
        subst hx
        have := r3 y hy
        show s.1 < y.1
        omega
      · rw [on_app, r2, on_cons (l := []), on_cons (l := l)]
        have n1 := on_nil m
        constructor
        · rintro ((g | g) | ⟨g1, g2, g3⟩)
          · refine ⟨g.1, by have := g.2; dsimp only at this; omega, fun q => ?_⟩
            have g2 : m < s.1 := g.2
            rcases q with q | q
            · omega
            · have := off m q; omega
          · exact absurd g n1
          · exact ⟨by omega, g2, fun q => q.elim (fun q => by omega) g3⟩
        · rintro ⟨g1, g2, g3⟩
          by_cases g4 : m < s.1
          · exact .inl (.inl ⟨g1, g4⟩)
          · refine .inr ⟨?_, g2, fun q => g3 (.inr q)⟩
            exact Int.not_lt.1 fun q => g3 (.inl ⟨by omega, q⟩)
      · rcases List.mem_append.1 ht with g | g
        · simp at g; subst g; exact Int.le_refl _
        · have := r3 t g; omega
    · rw [if_neg h, List.nil_append]
      refine ⟨r1, fun m => ?_, fun t ht => by have := r3 t ht; omega⟩
      rw [r2, on_cons]
      constructor
      · rintro ⟨g1, g2, g3⟩
        exact ⟨by omega, g2, fun q => q.elim (fun q => by omega) g3⟩
      · rintro ⟨g1, g2, g3⟩
        refine ⟨?_, g2, fun q => g3 (.inr q)⟩
        exact Int.not_lt.1 fun q => g3 (.inl ⟨by omega, q⟩)
theorem not_val {l : List Sq} (h : Val l) : Val (notL l) ∧ ∀ m, On m (notL l) ↔ 0 ≤ m ∧ m < 10080 ∧ ¬ On m l := by
  obtain ⟨h1, h2, _⟩ := not_spec l 0 h (Int.le_refl _) (by omega) (fun s hs => (h.1 s hs).1) (fun s _ => .inl rfl)
  exact ⟨h1, h2⟩
theorem on_range {l : List Sq} (h : ∀ s ∈ l, okS s) {m : Int} (hm : On m l) : 0 ≤ m ∧ m < 10080 := by
  obtain ⟨s, hs, h1, h2⟩ := hm
  have := h s hs
  unfold okS at this
  omega
def orL (a b : List Sq) : List Sq := uni (a ++ b)
def andL (a b : List Sq) : List Sq := notL (orL (notL a) (notL b))
theorem ok_app {a b : List Sq} (ha : ∀ s ∈ a, okS s) (hb : ∀ s ∈ b, okS s) : ∀ s ∈ a ++ b, okS s := fun s hs => (List.mem_append.1 hs).elim (ha s) (hb s)
theorem or_val {a b : List Sq} (ha : Val a) (hb : Val b) : Val (orL a b) ∧ ∀ m, On m (orL a b) ↔ On m a ∨ On m b := by
  obtain ⟨h1, h2⟩ := uni_val (ok_app ha.1 hb.1)
  exact ⟨h1, fun m => (h2 m).trans on_app⟩
theorem and_val {a b : List Sq} (ha : Val a) (hb : Val b) : Val (andL a b) ∧ ∀ m, On m (andL a b) ↔ On m a ∧ On m b := by
  obtain ⟨n1, n2⟩ := not_val ha
  obtain ⟨k1, k2⟩ := not_val hb
  obtain ⟨o1, o2⟩ := or_val n1 k1
  obtain ⟨r1, r2⟩ := not_val o1
  refine ⟨r1, fun m => ?_⟩
  unfold andL
  rw [r2, o2, n2, k2]
  constructor
  · rintro ⟨g1, g2, g3⟩
    exact ⟨Classical.byContradiction fun q => g3 (.inl ⟨g1, g2, q⟩), Classical.byContradiction fun q => g3 (.inr ⟨g1, g2, q⟩)⟩
  · rintro ⟨g1, g2⟩
    obtain ⟨q1, q2⟩ := on_range ha.1 g1
    exact ⟨q1, q2, fun h => h.elim (fun h => h.2.2 g1) (fun h => h.2.2 g2)⟩
end Go.Proofs.YtgbkjdpjilldmaaGreatDoor.Hr
/- Plain facts on valid lists, element by element. -/
namespace Go.Proofs.YtgbkjdpjilldmaaGreatDoor.Hr
theorem val_step {l : List Sq} {k : Nat} (hk : k < l.length) (h : Val (l.take k)) (ok : okS l[k]) (hp : ∀ h0 : 0 < k, (l[k - 1]'(by omega)).2 < l[k].1) : Val (l.take (k + 1)) := by
  rw [List.take_succ_eq_append_getElem hk]
  refine ⟨fun s hs => ?_, List.pairwise_append.2 ⟨h.2, List.pairwise_singleton _ _, fun a ha b hb => ?_⟩⟩
  · rcases List.mem_append.1 hs with g | g
    · exact h.1 s g
    · simp at g; subst g; exact ok
  · simp at hb
    subst hb
    obtain ⟨j, hj, rfl⟩ := List.mem_iff_getElem.1 ha
    rw [List.length_take] at hj
    have hjk : j < k := by omega
    have h0 : 0 < k := by omega
    have h1 := hp h0
    by_cases e : j = k - 1
    · subst e
      rw [List.getElem_take]
      exact h1
    · have h2 := List.pairwise_iff_getElem.1 h.2 j (k - 1) (by rw [List.length_take]; omega) (by rw [List.length_take]; omega) (by omega)
      rw [List.getElem_take, List.getElem_take] at h2
      have h3 := h.1 (l[k - 1]'(by omega)) (by
        have := List.getElem_mem (l := l.take k) (n := k - 1) (by rw [List.length_take]; omega)
        rwa [List.getElem_take] at this)
      unfold okS at h3
      rw [List.getElem_take]
      omega
theorem val_bad1 {l : List Sq} {k : Nat} (hk : k < l.length) (h : ¬ okS l[k]) : ¬ Val l := fun hv => h (hv.1 _ (List.getElem_mem hk))
theorem val_bad2 {l : List Sq} {k : Nat} (hk : k < l.length) (h0 : 0 < k) (h : ¬ (l[k - 1]'(by omega)).2 < l[k].1) : ¬ Val l := fun hv => h (List.pairwise_iff_getElem.1 hv.2 (k - 1) k (by omega) hk (by omega))
theorem vld_false {l : List Sq} (h : ¬ Val l) : vldS l = false := by
  cases hv : vldS l with
  | false => rfl
  | true => exact absurd (vld_val.1 hv) h
/-- the first span that ends behind a minute of the week. -/
def nxt (m : Int) : List Sq → Option Sq
  | [] => none
  | s :: l => if m < s.2 then some s else nxt m l
theorem nxt_snoc (m : Int) (s : Sq) : ∀ (l : List Sq), nxt m l = none → nxt m (l ++ [s]) = if m < s.2 then some s else none
  | [], _ => rfl
  | u :: l, h => by
    rw [nxt] at h
    rw [List.cons_append, nxt]
    split at h
    · cases h
    · rename_i hu
      rw [if_neg hu]
      exact nxt_snoc m s l h
theorem nxt_more (m : Int) (k : List Sq) (s : Sq) : ∀ (l : List Sq), nxt m l = some s → nxt m (l ++ k) = some s
  | [], h => by cases h
  | u :: l, h => by
    rw [nxt] at h
    rw [List.cons_append, nxt]
    split at h
    · rename_i hu
      rw [if_pos hu]
      exact h
    · rename_i hu
      rw [if_neg hu]
      exact nxt_more m k s l h
/-- Next: the minute and whether there is one. -/
def nextR (l : List Sq) (m : Int) : Int × Bool :=
  if vldS l = true ∧ l ≠ [] ∧ 0 ≤ m ∧ m ≤ 1000000000 then
    match nxt (m % 10080) l with
    | some s => (m - m % 10080 + max (m % 10080) s.1, true)
    | none => (m - m % 10080 + 10080 + (l.headD (0, 0)).1, true)
  else (0, false)
def openR (l : List Sq) (m : Int) : Bool := (nextR l m).2 && decide ((nextR l m).1 = m)
end Go.Proofs.YtgbkjdpjilldmaaGreatDoor.Hr
