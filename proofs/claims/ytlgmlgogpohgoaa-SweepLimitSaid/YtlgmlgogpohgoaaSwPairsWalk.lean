/- P5.2, SweepPairs: its walk. -/
import Derived.Test.YtlgmlgogpohgoaaSwHead2
namespace Go.Proofs.Ytlgmlgogpohgoaa.Sw
open Go.RowKit Go.Sort Go.Shelf
open Go.Proofs.Ytlgmlgogpohgoaa.Geo hiding intOf
/-- the pairs whose first index is less than i; and those of i whose second one is less than j. -/
def toN (l : List Sg) (i : Nat) : List Met := (List.range i).flatMap fun i => rowN l i (List.range' (i + 1) (l.length - (i + 1)))
def toN2 (l : List Sg) (i j : Nat) : List Met := toN l i ++ rowN l i (List.range' (i + 1) (j - (i + 1)))
theorem toN_all (l : List Sg) : toN l l.length = ansN l := rfl
theorem toN_next (l : List Sg) (i : Nat) : toN l (i + 1) = toN2 l i l.length := by unfold toN2 toN; simp [List.range_succ]
theorem toN2_start (l : List Sg) (i : Nat) : toN2 l i (i + 1) = toN l i := by unfold toN2 rowN; simp
theorem toN2_next {l : List Sg} {i j : Nat} (h : i < j) : toN2 l i (j + 1) = toN2 l i j ++ (if kindN l i j = 0 then [] else [⟨i, j, kindN l i j⟩]) := by
  unfold toN2
  rw [show j + 1 - (i + 1) = (j - (i + 1)) + 1 by omega, List.range'_1_concat, show i + 1 + (j - (i + 1)) = j by omega]
  unfold rowN
  rw [List.filterMap_append, List.append_assoc]
  congr 2
  by_cases g : kindN l i j = 0
  · simp [g]
  · simp [g]
theorem toN2_rest {l : List Sg} {i j : Nat} (hi : i < l.length) (hij : i < j) (hj : j ≤ l.length) : ∃ r, ansN l = toN2 l i j ++ r := by
  have h1 : ∃ r, rowN l i (List.range' (i + 1) (l.length - (i + 1))) = rowN l i (List.range' (i + 1) (j - (i + 1))) ++ r := by
    refine ⟨rowN l i (List.range' j (l.length - j)), ?_⟩
    have e : List.range' (i + 1) (l.length - (i + 1)) = List.range' (i + 1) (j - (i + 1)) ++ List.range' j (l.length - j) := by
      have := List.range'_append_1 (s := i + 1) (m := j - (i + 1)) (n := l.length - j)
      rw [show i + 1 + (j - (i + 1)) = j by omega, show j - (i + 1) + (l.length - j) = l.length - (i + 1) by omega] at this
      exact this.symm
    rw [e]
    unfold rowN
    rw [List.filterMap_append]
  have h2 : ∃ r, ansN l = toN l (i + 1) ++ r := by
    refine ⟨(List.range' (i + 1) (l.length - (i + 1))).flatMap fun i => rowN l i (List.range' (i + 1) (l.length - (i + 1))), ?_⟩
    have e : List.range l.length = List.range (i + 1) ++ List.range' (i + 1) (l.length - (i + 1)) := by
      have := List.range'_append_1 (s := 0) (m := i + 1) (n := l.length - (i + 1))
      rw [Nat.zero_add, show i + 1 + (l.length - (i + 1)) = l.length by omega, ← List.range_eq_range', ← List.range_eq_range'] at this
      exact this.symm
    unfold ansN toN
    rw [e, List.flatMap_append]
  obtain ⟨r1, h1⟩ := h1
  obtain ⟨r2, h2⟩ := h2
  refine ⟨r1 ++ r2, ?_⟩
  rw [h2, toN_next]
  unfold toN2
  rw [h1]
  simp
theorem meet_kind {l : List Sg} {i j : Nat} {k : Int} (h : kindN l i j = k) : Answers Try.prog 31 #[.agg #[.int .i64 (sgAt l i).a.x, .int .i64 (sgAt l i).a.y, .int .i64 (sgAt l i).b.x, .int .i64 (sgAt l i).b.y], .agg #[.int .i64 (sgAt l j).a.x, .int .i64 (sgAt l j).a.y, .int .i64 (sgAt l j).b.x, .int .i64 (sgAt l j).b.y]] (.int .i64 k) :=
  (meets_any _ _ _ _).to (by rw [← h]; rfl)
theorem ans_len (l : List Sg) : (ansN l).length ≤ l.length * l.length := by
  unfold ansN
  have h1 : ∀ i, (rowN l i (List.range' (i + 1) (l.length - (i + 1)))).length ≤ l.length := fun i => by
    refine Nat.le_trans (List.length_filterMap_le _ _) ?_
    rw [List.length_range']
    omega
  suffices H : ∀ m, ((List.range m).flatMap fun i => rowN l i (List.range' (i + 1) (l.length - (i + 1)))).length ≤ m * l.length from H _
  intro m
  induction m with
  | zero => simp
  | succ m ih =>
    rw [List.range_succ, List.flatMap_append, List.length_append, Nat.add_mul, Nat.one_mul]
    have := h1 m
    simp only [List.flatMap_cons, List.flatMap_nil, List.append_nil]
    omega
theorem at_pre {L P r : List Met} (h : L = P ++ r) : P.length ≤ L.length := by rw [h]; simp
theorem next_pre {L P r : List Met} {m : Met} (h : L = P ++ m :: r) : L[P.length]? = some m := by rw [h]; simp
theorem kind_step {l : List Sg} {i j : Nat} (hij : i < j) (hj : j < l.length) (hk : kindN l i j ≠ 0) : (ansN l)[(toN2 l i j).length]? = some ⟨i, j, kindN l i j⟩ := by
  obtain ⟨r, h⟩ := toN2_rest (l := l) (i := i) (j := j + 1) (by omega) (by omega) hj
  rw [toN2_next hij, if_neg hk, List.append_assoc] at h
  exact next_pre h
set_option maxRecDepth 100000 in
set_option maxHeartbeats 8000000 in
theorem pairs_any (a : Option Addr) (n cap : Nat) (l : List Sg) (W : World) (hl : Segs W W.heap.size a l) (hn : n = l.length) (hm : n ≤ maxLen) :
    Calls Try.prog 10 #[.slice a n cap] W fun e w' => e = .returned (.bool true) ∧ Below W.heap.size W w' := by
  subst hn
  have HL := Lib.hid hl
  unfold maxLen at hm
  clear hl
  by_cases h40 : 40 < l.length
  · have h1 : (40 : Int) < (l.length : Int) := by omega
    go_enter Try.func10, Try.ntmps10
    go_wp2_with fail
    refine (head_any _).mono ?_
    rintro e w1 ⟨rfl, b1⟩
    go_wp2
    go_ret
    exact ⟨rfl, b1⟩
  · have h1 : ¬ (40 : Int) < (l.length : Int) := by omega
    go_enter Try.func10, Try.ntmps10
    go_wp2_with fail
    refine (head_any _).mono ?_
    rintro e w1 ⟨rfl, b1⟩
    have L1 := Lib.hid (HL.out.later b1)
    have B1 := Lib.hid b1
    clear b1 HL
    go_wp2_with fail
    refine (all_any a _ cap l w1 L1.out rfl (by omega)).mono ?_
    rintro e w2 ⟨⟨v, rfl, ho⟩, b2⟩
    have L2 := Lib.hid (L1.out.later b2)
    have B2 := Lib.hid (B1.out.trans (b2.mono B1.out.size))
    obtain ⟨am, cm, rfl, hmet⟩ := mets_at ho
    have HM := Lib.hid hmet
    have hal := ans_len l
    have hll : l.length * l.length ≤ 40 * 40 := Nat.mul_le_mul (by omega) (by omega)
    clear b2 ho hmet L1 B1
    go_wp2_with fail
    go_loopw [6, 7] (fun s i wr => ∃ k : Nat, k ≤ l.length ∧ i = .int .i64 k ∧ s = .int .i64 (toN l k).length ∧ Hid (Below w2.heap.size w2 wr)) (fun _ i _ => l.length - (intOf i).toNat)
    case atStart => exact ⟨0, by omega, rfl, rfl, Lib.hid (Below.refl _ _)⟩
    case round =>
      obtain ⟨i, hi, rfl, rfl, hb⟩ := hrel
      by_cases hil : i < l.length
      · have HT := Lib.hid (toN2_start l i)
        go_wp2_with fail
        go_loopw [6, 8] (fun s j wr2 => ∃ m : Nat, i < m ∧ m ≤ l.length ∧ j = .int .i64 m ∧ s = .int .i64 (toN2 l i m).length ∧ Hid (Below w2.heap.size w2 wr2)) (fun _ j _ => l.length - (intOf j).toNat)
        case atStart => exact ⟨i + 1, by omega, by omega, by go_num, by rw [HT.out], hb⟩
        case round =>
          obtain ⟨j, hij, hj, rfl, rfl, hb2⟩ := hrel
          clear hb
          by_cases hjl : j < l.length
          · obtain ⟨b, off, rfl, hbN, s0, s1, s2, s3⟩ := (L2.out.below hb2.out).at_ hil
            obtain ⟨b', off', he, _, t0, t1, t2, t3⟩ := (L2.out.below hb2.out).at_ hjl
            injection he with he
            injection he with e1 e2 _
            subst e1 e2
            obtain ⟨k, hk⟩ : ∃ k, kindN l i j = k := ⟨_, rfl⟩
            have c2 := fun d os => (meet_kind hk).quiet wr d os
            have HK := Lib.hid hk
            have S0 := cell_regrown s0
            have S1 := cell_regrown s1
            have S2 := cell_regrown s2
            have S3 := cell_regrown s3
            have T0 := cell_regrown t0
            have T1 := cell_regrown t1
            have T2 := cell_regrown t2
            have T3 := cell_regrown t3
            clear hk
            go_upto_region 14 with fail
            refine wp_region_quiet_below (by kernel_rfl) (by kernel_rfl) ?_
            repeat (quiet_step (first | with_reducible exact c2 _ _))
            refine wpQuiet_nil ?_
            intro _ hw'
            obtain ⟨⟨dq, osq⟩, hw''⟩ := hw'
            subst hw''
            have hb3 := Lib.hid (hb2.out.trans ((below_regrown wr dq osq).mono hb2.out.size))
            obtain ⟨W3, hW3⟩ : ∃ W3, grow (redrawn wr dq) osq = W3 := ⟨_, rfl⟩
            dsimp only
            rw [hW3] at hb3 ⊢
            clear hW3 S0 S1 S2 S3 T0 T1 T2 T3 s0 s1 s2 s3 t0 t1 t2 t3 c2 hb2
            by_cases hk0 : k = 0
            · have z0 : (k == 0) = true := by simp [hk0]
              have HN := Lib.hid (show (toN2 l i (j + 1)).length = (toN2 l i j).length by rw [toN2_next hij, if_pos (HK.out.trans hk0), List.append_nil])
              clear hk0
              go_wp2
              go_roundw
              case rel => exact ⟨j + 1, by omega, by omega, by go_num, by rw [HN.out], hb3⟩
              case measure => simp [intOf]; omega
            · have z0 : (k == 0) = false := by simp [hk0]
              have hkl : kindN l i j ≠ 0 := by rw [HK.out]; exact hk0
              have hks := kind_step hij hjl hkl
              obtain ⟨g, rfl, hg, x0, x1, x2⟩ := HM.out _ _ hks
              rw [HK.out] at x2
              have p0 := (hb3.out.cell (p := ⟨g, (toN2 l i j).length * 3, none⟩) hg).trans x0
              have p1 := (hb3.out.cell (p := ⟨g, (toN2 l i j).length * 3 + 1, none⟩) hg).trans x1
              have p2 := (hb3.out.cell (p := ⟨g, (toN2 l i j).length * 3 + 2, none⟩) hg).trans x2
              have hlt := (List.getElem?_eq_some_iff.1 hks).1
              have HN := Lib.hid (show (toN2 l i (j + 1)).length = (toN2 l i j).length + 1 by rw [toN2_next hij, if_neg hkl]; simp)
              clear hk0 hkl hks x0 x1 x2
              obtain ⟨q, hq⟩ : ∃ q, (toN2 l i j).length = q := ⟨_, rfl⟩
              rw [hq] at HN p0 p1 p2 hlt ⊢
              have z1 : decide ((q : Int) ≥ ((ansN l).length : Int)) = false := by simp; omega
              dsimp only at p0 p1
              go_wp2_with fail
              go_roundw
              case rel => exact ⟨j + 1, by omega, by omega, by go_num, by rw [HN.out]; go_num, hb3⟩
              case measure => simp [intOf]; omega
          · obtain rfl : j = l.length := by omega
            have HN := Lib.hid (toN_next l i)
            go_wp2_with fail
            go_roundw
            case rel => exact ⟨i + 1, by omega, by go_num, by rw [HN.out], hb2⟩
            case measure => simp [intOf]; omega
      · obtain rfl : i = l.length := by omega
        have HE := Lib.hid (toN_all l)
        have z2 : (((toN l l.length).length : Int) == ((ansN l).length : Int)) = true := by rw [HE.out]; simp
        have HB := Lib.hid (B2.out.trans (hb.out.mono B2.out.size))
        clear hb
        go_wp2_with fail
        go_ret
        exact ⟨rfl, HB.out⟩
end Go.Proofs.Ytlgmlgogpohgoaa.Sw
