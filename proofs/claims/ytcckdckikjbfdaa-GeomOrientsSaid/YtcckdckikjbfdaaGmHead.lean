/- The examples at the head of each law: they hold. -/
import Derived.Test.YtcckdckikjbfdaaGmNearC
import Derived.Test.YtcckdckikjbfdaaGmMeets
namespace Go.Proofs.Ytcckdckikjbfdaa.Geo
open Go.RowKit Go.Sort
set_option maxRecDepth 100000 in
set_option maxHeartbeats 400000 in
theorem seg_any (a b c d : Int) : Answers Try.prog 28 #[.int .i64 a, .int .i64 b, .int .i64 c, .int .i64 d] (.agg #[.int .i64 a, .int .i64 b, .int .i64 c, .int .i64 d]) := by
  intro w
  have hr := IsRow.made w 25 #[.int .i64 a, .int .i64 b, .int .i64 c, .int .i64 d]
  go_enter Try.func28, Try.ntmps28
  go_wp2
  refine bodyPost_ret (results_cell_row rfl _ _ w.heap.size _ _ (0, 0) _ rfl hr Try.underlying25 rfl infoSegA) rfl ?_
  exact ⟨rfl, alloc1 _ _⟩
theorem rootv (n r : Int) (h1 : -9223372036854775808 ≤ n) (h2 : n ≤ 9223372036854775807) (hr : IsRoot n r) : Answers Try.prog 23 #[.int .i64 n] (.int .i64 r) := fun w =>
  (root_any n w h1 h2).mono fun e w' ⟨s, he, hs, hw⟩ => ⟨by rw [he, root_one hs hr], hw ▸ Below.refl _ _⟩
set_option maxRecDepth 100000 in
set_option maxHeartbeats 4000000 in
theorem head_any : Answers Try.prog 10 #[] (.bool true) := by
  intro w
  have B_0 : Hid (Below w.heap.size w w) := Below.refl _ _
  go_enter Try.func10, Try.ntmps10
  go_wp2_with fail
  refine ((orient_any ⟨0, 0⟩ ⟨2, 0⟩ ⟨1, 1⟩).to (congrArg (Value.int .i64) (show orientN ⟨0, 0⟩ ⟨2, 0⟩ ⟨1, 1⟩ = 1 by decide)) _).mono ?_
  rintro e w_1 ⟨rfl, hb⟩
  have B_1 := Lib.hid (B_0.out.trans (hb.mono B_0.out.size))
  clear hb B_0
  go_wp2_with fail
  refine (seg_any 0 0 2 2 _).mono ?_
  rintro e w_2 ⟨rfl, hb⟩
  have B_2 := Lib.hid (B_1.out.trans (hb.mono B_1.out.size))
  clear hb B_1
  go_wp2_with fail
  refine (seg_any 0 2 2 0 _).mono ?_
  rintro e w_3 ⟨rfl, hb⟩
  have B_3 := Lib.hid (B_2.out.trans (hb.mono B_2.out.size))
  clear hb B_2
  go_wp2_with fail
  refine ((meets_any ⟨0, 0⟩ ⟨2, 2⟩ ⟨0, 2⟩ ⟨2, 0⟩).to (congrArg (Value.int .i64) (show meetsF ⟨0, 0⟩ ⟨2, 2⟩ ⟨0, 2⟩ ⟨2, 0⟩ = 3 by decide)) _).mono ?_
  rintro e w_4 ⟨rfl, hb⟩
  have B_4 := Lib.hid (B_3.out.trans (hb.mono B_3.out.size))
  clear hb B_3
  go_wp2_with fail
  refine (seg_any 0 0 4 0 _).mono ?_
  rintro e w_5 ⟨rfl, hb⟩
  have B_5 := Lib.hid (B_4.out.trans (hb.mono B_4.out.size))
  clear hb B_4
  go_wp2_with fail
  refine (seg_any 2 0 2 3 _).mono ?_
  rintro e w_6 ⟨rfl, hb⟩
  have B_6 := Lib.hid (B_5.out.trans (hb.mono B_5.out.size))
  clear hb B_5
  go_wp2_with fail
  refine ((meets_any ⟨0, 0⟩ ⟨4, 0⟩ ⟨2, 0⟩ ⟨2, 3⟩).to (congrArg (Value.int .i64) (show meetsF ⟨0, 0⟩ ⟨4, 0⟩ ⟨2, 0⟩ ⟨2, 3⟩ = 2 by decide)) _).mono ?_
  rintro e w_7 ⟨rfl, hb⟩
  have B_7 := Lib.hid (B_6.out.trans (hb.mono B_6.out.size))
  clear hb B_6
  go_wp2_with fail
  refine (seg_any 0 0 4 0 _).mono ?_
  rintro e w_8 ⟨rfl, hb⟩
  have B_8 := Lib.hid (B_7.out.trans (hb.mono B_7.out.size))
  clear hb B_7
  go_wp2_with fail
  refine (seg_any 2 0 6 0 _).mono ?_
  rintro e w_9 ⟨rfl, hb⟩
  have B_9 := Lib.hid (B_8.out.trans (hb.mono B_8.out.size))
  clear hb B_8
  go_wp2_with fail
  refine ((meets_any ⟨0, 0⟩ ⟨4, 0⟩ ⟨2, 0⟩ ⟨6, 0⟩).to (congrArg (Value.int .i64) (show meetsF ⟨0, 0⟩ ⟨4, 0⟩ ⟨2, 0⟩ ⟨6, 0⟩ = 5 by decide)) _).mono ?_
  rintro e w_10 ⟨rfl, hb⟩
  have B_10 := Lib.hid (B_9.out.trans (hb.mono B_9.out.size))
  clear hb B_9
  go_wp2_with fail
  refine (seg_any 0 0 4 0 _).mono ?_
  rintro e w_11 ⟨rfl, hb⟩
  have B_11 := Lib.hid (B_10.out.trans (hb.mono B_10.out.size))
  clear hb B_10
  go_wp2_with fail
  refine (seg_any 4 0 4 1 _).mono ?_
  rintro e w_12 ⟨rfl, hb⟩
  have B_12 := Lib.hid (B_11.out.trans (hb.mono B_11.out.size))
  clear hb B_11
  go_wp2_with fail
  refine ((meets_any ⟨0, 0⟩ ⟨4, 0⟩ ⟨4, 0⟩ ⟨4, 1⟩).to (congrArg (Value.int .i64) (show meetsF ⟨0, 0⟩ ⟨4, 0⟩ ⟨4, 0⟩ ⟨4, 1⟩ = 1 by decide)) _).mono ?_
  rintro e w_13 ⟨rfl, hb⟩
  have B_13 := Lib.hid (B_12.out.trans (hb.mono B_12.out.size))
  clear hb B_12
  go_wp2_with fail
  refine (seg_any 0 0 4 0 _).mono ?_
  rintro e w_14 ⟨rfl, hb⟩
  have B_14 := Lib.hid (B_13.out.trans (hb.mono B_13.out.size))
  clear hb B_13
  go_wp2_with fail
  refine (seg_any 4 0 0 0 _).mono ?_
  rintro e w_15 ⟨rfl, hb⟩
  have B_15 := Lib.hid (B_14.out.trans (hb.mono B_14.out.size))
  clear hb B_14
  go_wp2_with fail
  refine ((meets_any ⟨0, 0⟩ ⟨4, 0⟩ ⟨4, 0⟩ ⟨0, 0⟩).to (congrArg (Value.int .i64) (show meetsF ⟨0, 0⟩ ⟨4, 0⟩ ⟨4, 0⟩ ⟨0, 0⟩ = 4 by decide)) _).mono ?_
  rintro e w_16 ⟨rfl, hb⟩
  have B_16 := Lib.hid (B_15.out.trans (hb.mono B_15.out.size))
  clear hb B_15
  go_wp2_with fail
  refine (seg_any 0 0 4 0 _).mono ?_
  rintro e w_17 ⟨rfl, hb⟩
  have B_17 := Lib.hid (B_16.out.trans (hb.mono B_16.out.size))
  clear hb B_16
  go_wp2_with fail
  refine (seg_any 5 0 6 0 _).mono ?_
  rintro e w_18 ⟨rfl, hb⟩
  have B_18 := Lib.hid (B_17.out.trans (hb.mono B_17.out.size))
  clear hb B_17
  go_wp2_with fail
  refine ((meets_any ⟨0, 0⟩ ⟨4, 0⟩ ⟨5, 0⟩ ⟨6, 0⟩).to (congrArg (Value.int .i64) (show meetsF ⟨0, 0⟩ ⟨4, 0⟩ ⟨5, 0⟩ ⟨6, 0⟩ = 0 by decide)) _).mono ?_
  rintro e w_19 ⟨rfl, hb⟩
  have B_19 := Lib.hid (B_18.out.trans (hb.mono B_18.out.size))
  clear hb B_18
  go_wp2_with fail
  refine (seg_any 0 0 2 1 _).mono ?_
  rintro e w_20 ⟨rfl, hb⟩
  have B_20 := Lib.hid (B_19.out.trans (hb.mono B_19.out.size))
  clear hb B_19
  go_wp2_with fail
  refine ((nearC_any ⟨0, 0⟩ ⟨2, 1⟩ ⟨0, 1⟩).to (congrArg (Value.int .i64) (show nearN ⟨0, 0⟩ ⟨2, 1⟩ ⟨0, 1⟩ = 0 by decide)) _).mono ?_
  rintro e w_21 ⟨rfl, hb⟩
  have B_21 := Lib.hid (B_20.out.trans (hb.mono B_20.out.size))
  clear hb B_20
  go_wp2_with fail
  refine (seg_any 0 0 10 0 _).mono ?_
  rintro e w_22 ⟨rfl, hb⟩
  have B_22 := Lib.hid (B_21.out.trans (hb.mono B_21.out.size))
  clear hb B_21
  go_wp2_with fail
  refine ((nearC_any ⟨0, 0⟩ ⟨10, 0⟩ ⟨5, 3⟩).to (congrArg (Value.int .i64) (show nearN ⟨0, 0⟩ ⟨10, 0⟩ ⟨5, 3⟩ = 9 by decide)) _).mono ?_
  rintro e w_23 ⟨rfl, hb⟩
  have B_23 := Lib.hid (B_22.out.trans (hb.mono B_22.out.size))
  clear hb B_22
  go_wp2_with fail
  refine (rootv 24 4 (by decide) (by decide) (.inr (by decide)) _).mono ?_
  rintro e w_24 ⟨rfl, hb⟩
  have B_24 := Lib.hid (B_23.out.trans (hb.mono B_23.out.size))
  clear hb B_23
  go_wp2_with fail
  refine (rootv 25 5 (by decide) (by decide) (.inr (by decide)) _).mono ?_
  rintro e w_25 ⟨rfl, hb⟩
  have B_25 := Lib.hid (B_24.out.trans (hb.mono B_24.out.size))
  clear hb B_24
  go_wp2_with fail
  refine (rootv (-1) 0 (by decide) (by decide) (.inl (by decide)) _).mono ?_
  rintro e w_26 ⟨rfl, hb⟩
  have B_26 := Lib.hid (B_25.out.trans (hb.mono B_25.out.size))
  clear hb B_25
  go_wp2_with fail
  refine (seg_any 0 0 4 2 _).mono ?_
  rintro e w_27 ⟨rfl, hb⟩
  have B_27 := Lib.hid (B_26.out.trans (hb.mono B_26.out.size))
  clear hb B_26
  go_wp2_with fail
  refine ((on_any ⟨0, 0⟩ ⟨4, 2⟩ ⟨2, 1⟩).to (congrArg Value.bool (show onN ⟨0, 0⟩ ⟨4, 2⟩ ⟨2, 1⟩ = true by decide)) _).mono ?_
  rintro e w_28 ⟨rfl, hb⟩
  have B_28 := Lib.hid (B_27.out.trans (hb.mono B_27.out.size))
  clear hb B_27
  go_wp2_with fail
  refine (seg_any 0 0 4 2 _).mono ?_
  rintro e w_29 ⟨rfl, hb⟩
  have B_29 := Lib.hid (B_28.out.trans (hb.mono B_28.out.size))
  clear hb B_28
  go_wp2_with fail
  refine ((on_any ⟨0, 0⟩ ⟨4, 2⟩ ⟨6, 3⟩).to (congrArg Value.bool (show onN ⟨0, 0⟩ ⟨4, 2⟩ ⟨6, 3⟩ = false by decide)) _).mono ?_
  rintro e w_30 ⟨rfl, hb⟩
  have B_30 := Lib.hid (B_29.out.trans (hb.mono B_29.out.size))
  clear hb B_29
  go_wp2_with fail
  refine ((compare_any ⟨1, 0⟩ ⟨1, 2⟩).to (congrArg (Value.int .i64) (show cmpN ⟨1, 0⟩ ⟨1, 2⟩ = -1 by decide)) _).mono ?_
  rintro e w_31 ⟨rfl, hb⟩
  have B_31 := Lib.hid (B_30.out.trans (hb.mono B_30.out.size))
  clear hb B_30
  go_wp2
  go_ret
  exact ⟨rfl, B_31.out⟩
end Go.Proofs.Ytcckdckikjbfdaa.Geo
