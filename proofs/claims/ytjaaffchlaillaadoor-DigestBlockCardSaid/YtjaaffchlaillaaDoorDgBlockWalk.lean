/- P1.4, DigestBlock: its walk. -/
import Derived.Test.YtjaaffchlaillaaDoorDgHead
import Derived.Test.YtjaaffchlaillaaDoorDgMin
import Derived.Lib.QuietBelow
import Derived.Deep.QuietTactic
namespace Go.Proofs.YtjaaffchlaillaaDoor.Dg
open Go.RowKit Go.Sort
theorem getD_three {t p r : List UInt8} (i : Nat) : ((t ++ p) ++ r).getD i 0 = if i < t.length then t.getD i 0 else if i < t.length + p.length then p.getD (i - t.length) 0 else r.getD (i - t.length - p.length) 0 := by
  simp only [List.getD_eq_getElem?_getD]
  by_cases h1 : i < t.length
  · rw [if_pos h1, List.getElem?_append_left (by simp; omega), List.getElem?_append_left h1]
  · rw [if_neg h1]
    by_cases h2 : i < t.length + p.length
    · rw [if_pos h2, List.getElem?_append_left (by simp; omega), List.getElem?_append_right (by omega)]
    · rw [if_neg h2, List.getElem?_append_right (by simp; omega)]
      simp [Nat.sub_add_eq]
theorem block_ne {T p q R : ByteArray} {k : Nat} (hT : T.size = 8 * k) (hp : p.size ≤ 8) (hpq : p.size = q.size) (hX : ((T ++ p) ++ R).size < M) (hne : ¬ p = q) :
    (dsum ((T ++ p) ++ R).data.toList == dsum ((T ++ q) ++ R).data.toList) = false := by
  rw [beq_eq_false_iff_ne]
  intro h
  have e : ∀ z : ByteArray, ((T ++ z) ++ R).data.toList = (T.data.toList ++ z.data.toList) ++ R.data.toList := fun z => by simp
  rw [e, e] at h
  have hlen : ∀ z : ByteArray, ((T.data.toList ++ z.data.toList) ++ R.data.toList).length = T.size + z.size + R.size := fun z => by simp only [List.length_append, len_data]
  have hX' : T.size + p.size + R.size < M := by rw [ByteArray.size_append, ByteArray.size_append] at hX; exact hX
  have h1 := dsum_block k (by rw [hlen, hlen, hpq]) (by rw [hlen]; exact hX') (fun i hi => by
    rw [getD_three, getD_three, len_data, len_data, len_data, hT, ← hpq]
    by_cases h1 : i < 8 * k
    · rw [if_pos h1, if_pos h1]
    · rw [if_neg h1, if_neg h1, if_neg (by omega), if_neg (by omega)]) h
  rw [List.append_left_inj, List.append_right_inj] at h1
  exact hne (ByteArray.ext (Array.ext' h1))
set_option maxHeartbeats 1000000 in
theorem block_any (text a b : ByteArray) (x : UInt8) (w : World) (hs : text.size ≤ maxLen) (ht : Tab w) :
    Calls Tryd.prog 6 #[.string text, .int .u8 x.toNat, .string a, .string b] w fun e w' => e = .returned (.bool true) ∧ Below w.heap.size w w' := by
  unfold maxLen at hs
  have hx := x.toNat_lt
  go_enter Tryd.func6, Tryd.ntmps6
  go_wp2_with fail
  refine (head_any w ht).mono ?_
  rintro e w1 ⟨rfl, hb1⟩
  have H1 := Lib.hid hb1
  clear hb1 ht
  generalize x.toNat = k at *
  obtain ⟨m, hm, hm8, hma, hmb⟩ := min3 a.size b.size 8
  have hmin : ∀ (ts : Array TypeId) (t : TypeId) (w : World), (Builtin.min_ ts t #[.int .i64 a.size, .int .i64 b.size, .int .i64 8]).run Tryd.prog w = .ok (.int .i64 m) w := run_min3 Tryd.prog a.size b.size 8 m hm
  clear hm
  by_cases hr : text.size ≤ 2000 ∧ 8 * k ≤ text.size
  · obtain ⟨h2000, hat⟩ := hr
    have hp1 : (a.extract 0 m).size = m := by rw [ByteArray.size_extract]; omega
    have hp2 : (b.extract 0 m).size = m := by rw [ByteArray.size_extract]; omega
    go_wp2_with fail
    have hr1 : (text.extract (min (8 * (k : Int) + (m : Int)) (text.size : Int)).toNat text.size).size ≤ 2000 := by rw [ByteArray.size_extract]; omega
    have hr2 : (text.extract 0 (8 * k)).size = 8 * k := by rw [ByteArray.size_extract]; omega
    generalize text.extract (min (8 * (k : Int) + (m : Int)) (text.size : Int)).toNat text.size = R at *
    have P1 := Lib.hid hp1
    have P2 := Lib.hid hp2
    have R2 := Lib.hid hr2
    generalize a.extract 0 m = p at *
    generalize b.extract 0 m = q at *
    clear hp1 hp2 hr2 hmin
    have i1 : (8 : Int) * (k : Int) ≤ (text.size : Int) := by omega
    have i2 : (8 * (k : Int)).toNat = 8 * k := by omega
    have i3 : (0 : Int) ≤ 8 * (k : Int) := by omega
    have s1 : p.size ≤ 8 := by have := P1.out; omega
    have s2 : q.size ≤ 8 := by have := P2.out; omega
    have n1 : ¬ 9223372036854775807 < 8 * k + p.size := by omega
    have n2 : ¬ 9223372036854775807 < 8 * k + q.size := by omega
    have n3 : ¬ 9223372036854775807 < 8 * k + p.size + R.size := by omega
    have n4 : ¬ 9223372036854775807 < 8 * k + q.size + R.size := by omega
    have sum : ∀ (X : ByteArray) (_ : X.size ≤ maxLen) (d : Nat) (os : Array Obj), Calls Tryd.prog 10 #[.string X] (grow (redrawn w1 d) os) fun e w'' => e = .returned (.string ⟨(dsum X.data.toList).toArray⟩) ∧ ∃ p : Regrown, w'' = grow (redrawn w1 p.d) p.os :=
      fun X h1 d os => Calls.regrown_of (sum_any X _ h1)
    have zX : ((text.extract 0 (8 * k) ++ p) ++ R).size ≤ maxLen := by rw [ByteArray.size_append, ByteArray.size_append, R2.out]; unfold maxLen; omega
    have zY : ((text.extract 0 (8 * k) ++ q) ++ R).size ≤ maxLen := by rw [ByteArray.size_append, ByteArray.size_append, R2.out]; unfold maxLen; omega
    have cX := sum _ zX
    have cY := sum _ zY
    clear sum zY
    by_cases e : p = q
    · subst e
      clear cY
      have cY := cX
      generalize dsum ((text.extract 0 (8 * k) ++ p) ++ R).data.toList = D1 at *
      refine wp_region_quiet_below (by kernel_rfl) (by kernel_rfl) ?_
      repeat (quiet_step (first | with_reducible exact cX _ _ | with_reducible exact cY _ _))
      refine wpQuiet_nil ?_
      intro _ hw'
      obtain ⟨⟨dq, osq⟩, hw''⟩ := hw'
      subst hw''
      go_wp2
      go_ret
      exact ⟨rfl, H1.out.trans ((below_regrown w1 dq osq).mono H1.out.size)⟩
    · have f1 : (dsum ((text.extract 0 (8 * k) ++ p) ++ R).data.toList == dsum ((text.extract 0 (8 * k) ++ q) ++ R).data.toList) = false := block_ne R2.out s1 (P1.out.trans P2.out.symm) (by unfold maxLen at zX; unfold M; omega) e
      have f2 : (p.toList == q.toList) = false := by
        rw [Lib.toList_data, Lib.toList_data, beq_eq_false_iff_ne]
        exact fun h => e (ByteArray.ext (Array.ext' h))
      clear e zX
      generalize dsum ((text.extract 0 (8 * k) ++ p) ++ R).data.toList = D1 at *
      generalize dsum ((text.extract 0 (8 * k) ++ q) ++ R).data.toList = D2 at *
      refine wp_region_quiet_below (by kernel_rfl) (by kernel_rfl) ?_
      repeat (quiet_step (first | with_reducible exact cX _ _ | with_reducible exact cY _ _))
      refine wpQuiet_nil ?_
      intro _ hw'
      obtain ⟨⟨dq, osq⟩, hw''⟩ := hw'
      subst hw''
      go_wp2
      go_ret
      exact ⟨rfl, H1.out.trans ((below_regrown w1 dq osq).mono H1.out.size)⟩
  · by_cases h2000 : text.size ≤ 2000
    · have hat : text.size < 8 * k := by omega
      clear hr
      go_wp2
      go_ret
      exact ⟨rfl, H1.out⟩
    · clear hr
      go_wp2
      go_ret
      exact ⟨rfl, H1.out⟩
end Go.Proofs.YtjaaffchlaillaaDoor.Dg
