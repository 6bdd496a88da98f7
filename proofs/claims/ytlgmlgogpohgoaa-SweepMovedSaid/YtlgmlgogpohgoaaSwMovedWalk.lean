/- P5.5, SweepMoved: its walk. -/
import Derived.Test.YtlgmlgogpohgoaaSwOrderWalk
import Derived.Test.YtlgmlgogpohgoaaGmRefA
namespace Go.Proofs.Ytlgmlgogpohgoaa.Sw
open Go.RowKit Go.Sort Go.Shelf
open Go.Proofs.Ytlgmlgogpohgoaa.Geo hiding intOf
theorem take_moved {l : List Sg} {d : Pt} {k : Nat} (h : k < l.length) : (l.take (k + 1)).map (mvS d) = (l.take k).map (mvS d) ++ [mvS d (sgAt l k)] := by
  rw [List.take_succ_eq_append_getElem h, List.map_append, sg_get h]
  rfl
theorem take_near {l : List Sg} {k : Nat} (h : k < l.length) (ha : (l.take k).all nearS = true) (hn : nearS (sgAt l k) = true) : (l.take (k + 1)).all nearS = true := by
  rw [List.take_succ_eq_append_getElem h, List.all_append, ha, ← sg_get h]
  simp [hn]
theorem cells6 {w : World} {a : Option Addr} {l : List Sg} {N g : Nat} {t : TypeId} {d : Pt} {b off k : Nat} (hl : Segs w N a l) (hr : IsRow w g t #[.int .i64 d.x, .int .i64 d.y]) (hk : k < l.length) (ha : a = some ⟨b, off, none⟩) :
    w.cell? ⟨b, off + k * 4, none⟩ = some (.int .i64 (sgAt l k).a.x) ∧ w.cell? ⟨b, off + k * 4 + 1, none⟩ = some (.int .i64 (sgAt l k).a.y) ∧ w.cell? ⟨b, off + k * 4 + 2, none⟩ = some (.int .i64 (sgAt l k).b.x) ∧ w.cell? ⟨b, off + k * 4 + 3, none⟩ = some (.int .i64 (sgAt l k).b.y) ∧ w.cell? ⟨g, 0, none⟩ = some (.int .i64 d.x) ∧ w.cell? ⟨g, 1, none⟩ = some (.int .i64 d.y) := by
  obtain ⟨b', off', he, _, s0, s1, s2, s3⟩ := hl.at_ hk
  rw [ha] at he
  injection he with he
  injection he with e1 e2 _
  subst e1 e2
  exact ⟨s0, s1, s2, s3, hr.get 0, hr.get 1⟩
theorem encG_moved {s : Sg} {d : Pt} (ha : nearB s.a = true) (hb : nearB s.b = true) (hd : nearB d = true) :
    (#[.int .i64 (IntKind.i64.wrap (s.a.x + d.x)), .int .i64 (IntKind.i64.wrap (s.a.y + d.y)), .int .i64 (IntKind.i64.wrap (s.b.x + d.x)), .int .i64 (IntKind.i64.wrap (s.b.y + d.y))] : Array Value) = (encG (mvS d s)).toArray := by
  rw [nearB_iff] at ha hb hd
  rw [IntWalk.i64_in (s.a.x + d.x) (by omega), IntWalk.i64_in (s.a.y + d.y) (by omega), IntWalk.i64_in (s.b.x + d.x) (by omega), IntWalk.i64_in (s.b.y + d.y) (by omega)]
  rfl
set_option maxRecDepth 100000 in
set_option maxHeartbeats 8000000 in
theorem moved_any (a : Option Addr) (n cap : Nat) (l : List Sg) (d : Pt) (W : World) (hl : Segs W W.heap.size a l) (hn : n = l.length) :
    Calls Try.prog 13 #[.slice a n cap, .agg #[.int .i64 d.x, .int .i64 d.y]] W fun e w' => e = .returned (.bool true) ∧ Below W.heap.size W w' := by
  subst hn
  have HL := Lib.hid hl
  obtain ⟨V, hV⟩ : ∃ V, W.alloc (.cells #[.int .i64 d.x, .int .i64 d.y] 24) = V := ⟨_, rfl⟩
  have hbV : Below W.heap.size W V := hV ▸ alloc1 _ _
  have hR : IsRow V W.heap.size 24 #[.int .i64 d.x, .int .i64 d.y] := hV ▸ IsRow.made _ _ _
  have HV := Lib.hid hV
  have BV := Lib.hid hbV
  have RV := Lib.hid hR
  clear hl hV hbV hR
  by_cases h40 : 40 < l.length
  · have h1 : (40 : Int) < (l.length : Int) := by omega
    go_enter Try.func13, Try.ntmps13
    go_wp2_with fail
    rw [HV.out]
    refine (head_any _).mono ?_
    rintro e w1 ⟨rfl, b1⟩
    have B1 := Lib.hid (BV.out.trans (b1.mono BV.out.size))
    clear b1
    go_wp2
    go_ret
    exact ⟨rfl, B1.out⟩
  · have h1 : ¬ (40 : Int) < (l.length : Int) := by omega
    go_enter Try.func13, Try.ntmps13
    go_wp2_with fail
    rw [HV.out]
    refine (head_any _).mono ?_
    rintro e w1 ⟨rfl, b1⟩
    have B1 := Lib.hid (BV.out.trans (b1.mono BV.out.size))
    have R1 := Lib.hid (RV.out.below b1 RV.out.inside)
    have L1 := Lib.hid ((HL.out.later BV.out).later b1)
    have y0 := R1.out.get 0
    have y1 := R1.out.get 1
    clear b1 HV BV RV HL
    have hgt : decide ((l.length : Int) > 40) = false := by simp; omega
    go_wp2_with fail
    refine (is_any d _).mono ?_
    rintro e w2 ⟨rfl, b2⟩
    have B2 := Lib.hid (B1.out.trans (b2.mono B1.out.size))
    have R2 := Lib.hid (R1.out.below b2 R1.out.inside)
    have L2 := Lib.hid (L1.out.later b2)
    clear b2 B1 R1 L1 y0 y1
    cases hnd : nearB d with
    | false =>
      clear hnd
      go_wp2_with fail
      go_ret
      exact ⟨rfl, B2.out⟩
    | true =>
      have HND := Lib.hid hnd
      clear hnd
      go_wp2_with fail
      go_loopw [6, 7] (fun s i wr => ∃ k : Nat, k ≤ l.length ∧ i = .int .i64 k ∧ Hid (OwnG wr w2.heap.size s ((l.take k).map (mvS d))) ∧ Hid ((l.take k).all nearS = true ∧ ((l.take k).map (mvS d)).all nearS = true) ∧ Hid (Below w2.heap.size w2 wr)) (fun _ i _ => l.length - (intOf i).toNat)
      case atStart => exact ⟨0, by omega, rfl, Lib.hid (own_nil _ _), Lib.hid (by simp), Lib.hid (Below.refl _ _)⟩
      case round =>
        obtain ⟨k, hk, rfl, ho, hal, hb⟩ := hrel
        by_cases hkl : k < l.length
        · obtain ⟨b, off, rfl, hbN, s0, s1, s2, s3⟩ := (L2.out.below hb.out).at_ hkl
          go_wp2_with fail
          refine (refsegment_any _ _ _).mono ?_
          rintro e w3 ⟨rfl, b3⟩
          have hb3 := Lib.hid (hb.out.trans (b3.mono hb.out.size))
          have ho3 := Lib.hid (Own.below ho.out b3)
          clear s0 s1 s2 s3 hb ho b3
          cases hns : (nearB (sgAt l k).a && nearB (sgAt l k).b) with
          | false =>
            clear hns
            go_wp2_with fail
            go_ret
            exact ⟨rfl, B2.out.trans (hb3.out.mono B2.out.size)⟩
          | true =>
            have hn1 : nearB (sgAt l k).a = true ∧ nearB (sgAt l k).b = true := by simpa using hns
            have HNS := Lib.hid (show nearS (sgAt l k) = true from hns)
            obtain ⟨b', off', he, _, s0, s1, s2, s3⟩ := (L2.out.below hb3.out).at_ hkl
            injection he with he
            injection he with e1 e2 _
            subst e1 e2
            have r3 := R2.out.below hb3.out R2.out.inside
            have y0 := r3.get 0
            have y1 := r3.get 1
            clear hns r3
            go_upto_region 10 with fail
            have hsz := hb3.out.size
            have hbW : b < w2.heap.size := hbN
            have hWi : W.heap.size < w2.heap.size := R2.out.inside
            have b3d := drew_below w3
            have b3a := (alloc1 w3 (.cells #[.int .i64 0, .int .i64 0, .int .i64 0, .int .i64 0] 36)).drew
            have KG := Lib.hid (fun (wy : World) (h : Below w2.heap.size w2 wy) => cells6 (L2.out.below h) (R2.out.below h R2.out.inside) hkl rfl)
            have HM := Lib.hid (encG_moved hn1.1 hn1.2 HND.out)
            have B3D := Lib.hid b3d
            have B3A := Lib.hid b3a
            clear b3d b3a
            have K1 : ∀ a b c e : Int, Calls Try.prog 35 #[.int .i64 a, .int .i64 b, .int .i64 c, .int .i64 e] w3.drew fun e' w' => e' = .returned (.agg #[.int .i64 a, .int .i64 b, .int .i64 c, .int .i64 e]) ∧ Below w3.drew.heap.size w3.drew w' := fun a b c e => side_any a b c e _
            have K2 : ∀ a b c e : Int, Calls Try.prog 35 #[.int .i64 a, .int .i64 b, .int .i64 c, .int .i64 e] (w3.alloc (.cells #[.int .i64 0, .int .i64 0, .int .i64 0, .int .i64 0] 36)).drew fun e' w' => e' = .returned (.agg #[.int .i64 a, .int .i64 b, .int .i64 c, .int .i64 e]) ∧ Below (w3.alloc (.cells #[.int .i64 0, .int .i64 0, .int .i64 0, .int .i64 0] 36)).drew.heap.size (w3.alloc (.cells #[.int .i64 0, .int .i64 0, .int .i64 0, .int .i64 0] 36)).drew w' := fun a b c e => side_any a b c e _
            go_cut [8] from 36 to 72 (fun s8 wx => ∃ g : Nat, s8 = .pointer (some ⟨g, 0, none⟩) ∧ Hid (IsRow wx g 36 (encG (mvS d (sgAt l k))).toArray) ∧ Hid (w3.heap.size ≤ g) ∧ Hid (Below w3.heap.size w3 wx))
            case first =>
              go_region_held3 (fun w' => w'.cell? ⟨b, off + k * 4, none⟩ = some (.int .i64 (sgAt l k).a.x) ∧ w'.cell? ⟨b, off + k * 4 + 1, none⟩ = some (.int .i64 (sgAt l k).a.y) ∧ w'.cell? ⟨b, off + k * 4 + 2, none⟩ = some (.int .i64 (sgAt l k).b.x) ∧ w'.cell? ⟨b, off + k * 4 + 3, none⟩ = some (.int .i64 (sgAt l k).b.y) ∧ w'.cell? ⟨W.heap.size, 0, none⟩ = some (.int .i64 d.x) ∧ w'.cell? ⟨W.heap.size, 1, none⟩ = some (.int .i64 d.y)) (first | go_keep | exact KS | exact KG.out _ (hb3.out.trans ((below4 B4 (Nat.le_refl _) _ _ _ _).mono hsz)))
                (first
                  | (go_at_call 35; (with_reducible refine (K1 _ _ _ _).mono ?_); rintro e w4 ⟨rfl, hb4⟩; have B4 := B3D.out.trans (hb4.mono B3D.out.size); have KS := KG.out w4 (hb3.out.trans (B4.mono hsz)))
                  | (go_at_call 35; (with_reducible refine (K2 _ _ _ _).mono ?_); rintro e w4 ⟨rfl, hb4⟩; have B4 := B3A.out.trans (hb4.mono B3A.out.size); have KS := KG.out w4 (hb3.out.trans (B4.mono hsz)); have RR := IsRow.below (show IsRow (w3.alloc (.cells #[.int .i64 0, .int .i64 0, .int .i64 0, .int .i64 0] 36)).drew w3.heap.size 36 #[.int .i64 0, .int .i64 0, .int .i64 0, .int .i64 0] from IsRow.made w3 _ _) hb4 (by simp); obtain ⟨c0, c1, c2, c3, f0, f1, f2, f3⟩ := row_facts RR))
              · go_wp2_with fail
                go_meet
                exact ⟨_, rfl, Lib.hid (by rw [← HM.out]; exact IsRow.made _ _ _), Lib.hid B4.size, Lib.hid (B4.alloc B4.size _)⟩
              · go_wp2_with fail
                go_meet
                exact ⟨_, rfl, Lib.hid (by rw [← HM.out]; exact set4 RR _ _ _ _), Lib.hid (Nat.le_refl _), Lib.hid (below4 B4 (Nat.le_refl _) _ _ _ _)⟩
            case rest =>
              clear K1 K2 B3D B3A HM KG
              obtain ⟨g, rfl, hr, hg, hbc⟩ := hcut
              have R5 := hr.out
              have x0 := R5.get 0
              have x1 := R5.get 1
              have x2 := R5.get 2
              have x3 := R5.get 3
              unfold encG at x0 x1 x2 x3
              have ho5 := Lib.hid (Own.below ho3.out hbc.out)
              have hb5 := Lib.hid (hb3.out.trans (hbc.out.mono hsz))
              have hr5 := Lib.hid R5
              have hg5 := Lib.hid (show g < wc.heap.size from R5.inside)
              clear R5 hr hbc ho3 hb3
              go_wp2_with fail
              refine (refsegment_any (mvS d (sgAt l k)).a (mvS d (sgAt l k)).b _).mono ?_
              rintro e w5 ⟨rfl, hb6⟩
              have ho6 := Lib.hid (Own.below ho5.out hb6)
              have hb7 := Lib.hid (hb5.out.trans (hb6.mono hb5.out.size))
              have hr6 := hr5.out.below hb6 hg5.out
              have x0 := hr6.get 0
              have x1 := hr6.get 1
              have x2 := hr6.get 2
              have x3 := hr6.get 3
              unfold encG at x0 x1 x2 x3
              clear hb6 ho5 hb5 hr5 hg5 hr6
              cases hns : (nearB (mvS d (sgAt l k)).a && nearB (mvS d (sgAt l k)).b) with
              | false =>
                clear hns
                go_wp2_with fail
                go_ret
                exact ⟨rfl, B2.out.trans (hb7.out.mono B2.out.size)⟩
              | true =>
                have HNM := Lib.hid (show nearS (mvS d (sgAt l k)) = true from hns)
                clear hns
                have HT := Lib.hid (take_moved (d := d) hkl)
                have HA2 := Lib.hid (show (l.take (k + 1)).all nearS = true ∧ ((l.take (k + 1)).map (mvS d)).all nearS = true from ⟨take_near hkl hal.out.1 HNS.out, by rw [take_moved hkl, List.all_append, hal.out.2]; simp [HNM.out]⟩)
                have O4 := Lib.hid (Own.below ho6.out (alloc1 w5 (.cells ([mvS d (sgAt l k)].flatMap encG).toArray 36)))
                have R4 := Lib.hid (IsRow.made w5 36 ([mvS d (sgAt l k)].flatMap encG).toArray)
                have hsz7 := hb7.out.size
                have hlen : ((l.take k).map (mvS d)).length ≤ 40 := by rw [List.length_map, List.length_take]; omega
                clear hal HNS HNM ho6
                go_wp2_with (refine wpList_appG rfl _ _ rfl w2.heap.size _ ((l.take k).map (mvS d)) [mvS d (sgAt l k)] w5.heap.size 1 1 rfl O4.out rfl rfl R4.out (by simp; omega) (by simp; omega) ?_; intro v2 w6 hown hgrow)
                have hb8 : Hid (Below w2.heap.size w2 w6) := (hb7.out.trans ((alloc1 w5 _).mono hsz7)).grown hgrow (by simp; omega) (fun k e => (Own.row O4.out k e).1)
                rw [← HT.out] at hown
                have ho8 := Lib.hid hown
                clear hown hgrow O4 R4 hb7 HT hlen x0 x1 x2 x3 s0 s1 s2 s3
                go_wp2
                go_roundw
                case rel => exact ⟨k + 1, by omega, by go_num, ho8, HA2, hb8⟩
                case measure => simp [intOf]; omega
        · obtain rfl : k = l.length := by omega
          have hal2 := hal.out
          rw [List.take_length] at hal2 ho
          have HANS := Lib.hid (ans_moved hal2.1 hal2.2)
          have HML := Lib.hid (show (l.map (mvS d)).length = l.length from List.length_map _)
          clear hal2 hal
          have L3 := Lib.hid (L2.out.later hb.out)
          have B3 := Lib.hid (B2.out.trans (hb.out.mono B2.out.size))
          obtain ⟨a2, cap2, rfl, _, _, hs2⟩ := OwnG.segs ho.out
          have S2 := Lib.hid hs2
          rw [HML.out]
          clear hb ho hs2 L2 B2
          go_wp2_with fail
          refine (all_any a _ cap l wr L3.out rfl (by omega)).mono ?_
          rintro e w4 ⟨⟨v, rfl, ho⟩, b4⟩
          have S3 := Lib.hid (S2.out.later b4)
          have B4 := Lib.hid (B3.out.trans (b4.mono B3.out.size))
          have O3 := Lib.hid ho
          clear b4 ho L3 B3 S2
          go_wp2_with fail
          refine (all_any a2 _ cap2 (l.map (mvS d)) w4 S3.out HML.out.symm (by omega)).mono ?_
          rintro e w5 ⟨⟨v', rfl, ho⟩, b5⟩
          have B5 := Lib.hid (B4.out.trans (b5.mono B4.out.size))
          have O4 := Lib.hid (Own.below O3.out b5)
          rw [HANS.out] at ho
          have P4 := Lib.hid ho
          have hal := ans_len l
          have hll : l.length * l.length ≤ 40 * 40 := Nat.mul_le_mul (by omega) (by omega)
          clear b5 ho B4 S3 O3
          go_wp2_with fail
          refine (same_any _ _ v v' (ansN l) w5 O4.out P4.out (by omega)).mono ?_
          rintro e w6 ⟨rfl, b6⟩
          have B6 := Lib.hid (B5.out.trans (b6.mono B5.out.size))
          clear b6 B5 O4 P4
          go_wp2
          go_ret
          exact ⟨rfl, B6.out⟩
end Go.Proofs.Ytlgmlgogpohgoaa.Sw
