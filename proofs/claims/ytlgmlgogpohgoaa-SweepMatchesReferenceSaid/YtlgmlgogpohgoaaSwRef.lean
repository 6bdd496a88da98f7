/- The reference's All and Kind. -/
import Derived.Test.YtlgmlgogpohgoaaSwPairsWalk
import Derived.Test.YtlgmlgogpohgoaaGmRefMeets
namespace Go.Proofs.Ytlgmlgogpohgoaa.Sw
open Go.RowKit Go.Sort Go.Shelf
open Go.Proofs.Ytlgmlgogpohgoaa.Geo hiding intOf
theorem refmeet_kind {l : List Sg} {i j : Nat} {k : Int} (h : kindN l i j = k) : Answers Try.prog 44 #[.agg #[.int .i64 (sgAt l i).a.x, .int .i64 (sgAt l i).a.y, .int .i64 (sgAt l i).b.x, .int .i64 (sgAt l i).b.y], .agg #[.int .i64 (sgAt l j).a.x, .int .i64 (sgAt l j).a.y, .int .i64 (sgAt l j).b.x, .int .i64 (sgAt l j).b.y]] (.int .i64 k) :=
  (refmeets_any _ _ _ _).to (by rw [← h]; rfl)
theorem toN2_len {l : List Sg} {i j : Nat} (hi : i < l.length) (hij : i < j) (hj : j ≤ l.length) : (toN2 l i j).length ≤ l.length * l.length := by
  obtain ⟨r, h⟩ := toN2_rest hi hij hj
  have := ans_len l
  rw [h, List.length_append] at this
  omega
set_option maxRecDepth 100000 in
set_option maxHeartbeats 8000000 in
theorem refall_any (a : Option Addr) (n cap : Nat) (l : List Sg) (w : World) (hl : Segs w w.heap.size a l) (hn : n = l.length) (h2 : n ≤ 20000) :
    Calls Try.prog 29 #[.slice a n cap] w fun e w' => (∃ v, e = .returned (.tuple #[v, .int .i64 0]) ∧ OwnM w' w.heap.size v (ansN l)) ∧ Below w.heap.size w w' := by
  subst hn
  have HL := Lib.hid hl
  have hgt : ¬ (20000 : Int) < (l.length : Int) := by omega
  have hll : l.length * l.length ≤ 20000 * 20000 := Nat.mul_le_mul (by omega) (by omega)
  clear hl
  go_enter Try.func29, Try.ntmps29
  go_wp2_with fail
  go_loopw [4, 5] (fun s i wr => ∃ k : Nat, k ≤ l.length ∧ i = .int .i64 k ∧ Hid (OwnM wr w.heap.size s (toN l k)) ∧ Hid (Below w.heap.size w wr)) (fun _ i _ => l.length - (intOf i).toNat)
  case atStart => exact ⟨0, by omega, rfl, Lib.hid (own_nil _ _), Lib.hid (Below.refl _ _)⟩
  case round =>
    obtain ⟨i, hi, rfl, ho, hb⟩ := hrel
    by_cases hil : i < l.length
    · have HT := Lib.hid (toN2_start l i)
      have hz := toN2_start l i
      rw [← hz] at ho
      clear hz
      go_wp2_with fail
      go_loopw [4, 6] (fun s j wr2 => ∃ m : Nat, i < m ∧ m ≤ l.length ∧ j = .int .i64 m ∧ Hid (OwnM wr2 w.heap.size s (toN2 l i m)) ∧ Hid (Below w.heap.size w wr2)) (fun _ j _ => l.length - (intOf j).toNat)
      case atStart => exact ⟨i + 1, by omega, by omega, by go_num, ho, hb⟩
      case round =>
        obtain ⟨j, hij, hj, rfl, ho2, hb2⟩ := hrel
        clear hb ho
        by_cases hjl : j < l.length
        · obtain ⟨b, off, rfl, hbN, s0, s1, s2, s3⟩ := (HL.out.below hb2.out).at_ hil
          obtain ⟨b', off', he, _, t0, t1, t2, t3⟩ := (HL.out.below hb2.out).at_ hjl
          injection he with he
          injection he with e1 e2 _
          subst e1 e2
          obtain ⟨k, hk⟩ : ∃ k, kindN l i j = k := ⟨_, rfl⟩
          have c2 := fun d os => (refmeet_kind hk).quiet wr d os
          have HK := Lib.hid hk
          have S0 := cell_regrown s0
          have S1 := cell_regrown s1
          have S2 := cell_regrown s2
          have S3 := cell_regrown s3
          have T0 := cell_regrown t0
          have T1 := cell_regrown t1
          have T2 := cell_regrown t2
          have T3 := cell_regrown t3
          clear hk
          go_upto_region 10 with fail
          refine wp_region_quiet_below (by kernel_rfl) (by kernel_rfl) ?_
          repeat (quiet_step (first | with_reducible exact c2 _ _))
          refine wpQuiet_nil ?_
          intro _ hw'
          obtain ⟨⟨dq, osq⟩, hw''⟩ := hw'
          subst hw''
          have hbr := below_regrown wr dq osq
          have hb3 := Lib.hid (hb2.out.trans (hbr.mono hb2.out.size))
          have ho3 := Lib.hid (Own.below ho2.out hbr)
          obtain ⟨W3, hW3⟩ : ∃ W3, grow (redrawn wr dq) osq = W3 := ⟨_, rfl⟩
          dsimp only
          rw [hW3] at hb3 ho3 ⊢
          clear hW3 hbr S0 S1 S2 S3 T0 T1 T2 T3 s0 s1 s2 s3 t0 t1 t2 t3 c2 hb2 ho2
          by_cases hk0 : k = 0
          · have z0 : (k != 0) = false := by simp [hk0]
            have HN := Lib.hid (show toN2 l i (j + 1) = toN2 l i j by rw [toN2_next hij, if_pos (HK.out.trans hk0), List.append_nil])
            clear hk0
            go_wp2
            go_roundw
            case rel => exact ⟨j + 1, by omega, by omega, by go_num, by rw [HN.out]; exact ho3, hb3⟩
            case measure => simp [intOf]; omega
          · have z0 : (k != 0) = true := by simp [hk0]
            have HN := Lib.hid (show toN2 l i j ++ [⟨i, j, k⟩] = toN2 l i (j + 1) by rw [toN2_next hij, if_neg (by rw [HK.out]; exact hk0), HK.out])
            have O2 := Lib.hid (Own.below ho3.out (alloc1 W3 (.cells (encM ⟨i, j, k⟩).toArray 48)))
            have R2 := Lib.hid (IsRow.made W3 48 (encM ⟨i, j, k⟩).toArray)
            have hlen := toN2_len hil hij hj
            have hsz := hb3.out.size
            clear hk0
            go_wp2_with (refine wpList_appM rfl _ _ rfl w.heap.size _ (toN2 l i j) ⟨i, j, k⟩ W3.heap.size rfl O2.out rfl R2.out (by omega) (by simp; omega) ?_; intro v2 w2 hown hgrow)
            have hb4 : Hid (Below w.heap.size w w2) := (hb3.out.trans ((alloc1 _ _).mono hsz)).grown hgrow (by simp; omega) (fun k e => (Own.row O2.out k e).1)
            rw [HN.out] at hown
            have ho4 := Lib.hid hown
            clear hown hgrow O2 R2 hb3 ho3 hlen
            go_wp2
            go_roundw
            case rel => exact ⟨j + 1, by omega, by omega, by go_num, ho4, hb4⟩
            case measure => simp [intOf]; omega
        · obtain rfl : j = l.length := by omega
          have hz := toN_next l i
          rw [← hz] at ho2
          clear hz
          go_wp2_with fail
          go_roundw
          case rel => exact ⟨i + 1, by omega, by go_num, ho2, hb2⟩
          case measure => simp [intOf]; omega
    · obtain rfl : i = l.length := by omega
      rw [toN_all] at ho
      go_wp2_with fail
      go_ret2
      exact ⟨⟨_, rfl, ho.out⟩, hb.out⟩
end Go.Proofs.Ytlgmlgogpohgoaa.Sw
