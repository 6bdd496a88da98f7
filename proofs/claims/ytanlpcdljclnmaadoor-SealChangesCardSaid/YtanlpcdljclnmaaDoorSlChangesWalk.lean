/- P2.3, SealChanges: its walk. -/
import Derived.Test.YtanlpcdljclnmaaDoorSlSoundWalk
import Derived.Test.YtanlpcdljclnmaaDoorSlBad
import Derived.Deep.CutRange
namespace Go.Proofs.YtanlpcdljclnmaaDoor.Sl
open Go.RowKit
open Go.Proofs.YtanlpcdljclnmaaDoor.Dg hiding intOf
set_option maxRecDepth 100000 in
set_option maxHeartbeats 8000000 in
theorem changes_any (sec m x : B) (r1 r2 r3 : UInt8) (w : World) (ht : Tab w) :
    Calls Tryd.prog 3 #[.string ⟨sec.toArray⟩, .int .u8 r1.toNat, .int .u8 r2.toNat, .string ⟨m.toArray⟩, .int .u8 r3.toNat, .string ⟨x.toArray⟩] w fun e w' => e = .returned (.bool true) ∧ Below w.heap.size w w' := by
  have HT := Lib.hid ht
  clear ht
  have u1 := r1.toNat_lt
  have u2 := r2.toNat_lt
  obtain ⟨h, hh⟩ : ∃ h, r1.toNat % 3 = h := ⟨_, rfl⟩
  obtain ⟨i, hi⟩ : ∃ i, r2.toNat % 2 ^ h = i := ⟨_, rfl⟩
  have h3 : h ≤ 2 := by omega
  have hi2 : i < 2 ^ h := hi ▸ Nat.mod_lt _ (Nat.two_pow_pos h)
  have HE1 : Hid ((r1.toNat : Int) % 3 = (h : Int)) := by show _ = _; omega
  have HE2 : Hid ((r2.toNat : Int) % wrap64 (2 ^ (r1.toNat % 3)) = (i : Int)) := by show _ = _; rw [hh, mod_idx h _ (by omega), hi]
  have HI2 := Lib.hid hi2
  have hz : ¬ wrap64 (2 ^ (r1.toNat % 3)) = 0 := by rw [hh, wrap_pow h (by omega)]; have := Nat.two_pow_pos h; have e : ((2 ^ h : Nat) : Int) = 2 ^ h := by simp
                                                    rw [← e]; omega
  clear hi2 hh hi
  go_enter Tryd.func3, Tryd.ntmps3
  go_wp2_with fail
  refine (head_any _ HT.out).mono ?_
  rintro e w1 ⟨rfl, hb1⟩
  have T1 := Lib.hid (Tab.at_ HT.out hb1)
  have B1 := Lib.hid hb1
  clear HT hb1
  go_wp2_with fail
  rw [HE1.out, HE2.out]
  clear HE1 HE2 u1 u2 hz
  have bx := below_new w1 (.cells #[.string ⟨sec.toArray⟩, .string ⟨m.toArray⟩, .string ⟨x.toArray⟩] 9)
  obtain ⟨b, hb⟩ : ∃ b, upTo 300 [sec, m, x] = b := ⟨_, rfl⟩
  refine (short_of _ 3 3 [sec, m, x] b _ (row_three w1 sec m x) rfl (by decide) hb).mono ?_
  rintro e w' ⟨rfl, rfl⟩
  have T2 := Lib.hid (Tab.at_ T1.out bx)
  have B2 := Lib.hid (B1.out.trans (bx.mono B1.out.size))
  have HB := Lib.hid hb
  clear T1 B1 bx hb
  generalize hw2 : w1.alloc (.cells #[.string ⟨sec.toArray⟩, .string ⟨m.toArray⟩, .string ⟨x.toArray⟩] 9) = w2 at *
  clear hw2
  cases b with
  | false =>
    go_wp2
    go_ret
    exact ⟨rfl, B2.out⟩
  | true =>
    have hsm := upTo_all HB.out
    have hsl : sec.length ≤ 300 := hsm sec (by simp)
    have hml : m.length ≤ 300 := hsm m (by simp)
    have hxl : x.length ≤ 300 := hsm x (by simp)
    clear hsm HB
    go_wp2_with fail
    refine (public_of sec _ h _ _ rfl rfl T2.out (by omega) (by omega)).mono ?_
    rintro e w3 ⟨rfl, hb3⟩
    have T3 := Lib.hid (Tab.at_ T2.out hb3)
    have B3 := Lib.hid (B2.out.trans (hb3.mono B2.out.size))
    clear T2 B2 hb3
    go_wp2_with fail
    refine (sign_of sec m _ _ h i _ _ _ rfl rfl rfl rfl T3.out (by omega) (by omega) (by omega) HI2.out).mono ?_
    rintro e w4 ⟨a, c, p, cp, rfl, hta, htp, ⟨hc1, hc2⟩, ⟨hp1, hp2⟩, hb4⟩
    have bx := below_new w4 (.cells #[.int .i64 i, .slice a 18 c, .slice p h cp] 29)
    have R4 := IsRow.made w4 29 #[.int .i64 i, .slice a 18 c, .slice p h cp]
    have T4 := Lib.hid (Tab.at_ (Tab.at_ T3.out hb4) bx)
    have HA := Lib.hid (hta.later bx)
    have HP := Lib.hid (htp.later bx)
    have B4 := Lib.hid ((B3.out.trans (hb4.mono B3.out.size)).trans (bx.mono (Nat.le_trans B3.out.size hb4.size)))
    clear T3 B3 hb4 bx hta htp
    obtain ⟨s0, s1, s2, _, _, _⟩ := store_facts R4
    have R4' := Lib.hid R4
    clear R4
    unfold maxLen at hc2 hp2
    generalize hW : w4.alloc (.cells #[.int .i64 i, .slice a 18 c, .slice p h cp] 29) = W4 at *
    go_upto_region 8 with fail
    clear hW
    go_cut [70] from 22 to 69 (fun s70 wx => s70 = .bool false ∧ wx = W4)
    case first =>
      go_wp2_with fail
      go_meet
      exact ⟨rfl, rfl⟩
    obtain ⟨rfl, hcut⟩ := hcut
    rw [hcut]
    clear hcut
    go_upto_region 10 with fail
    go_cut [20] from 71 to 81 (fun s20 wx => ∃ gx g2 c2 e2 d2 : Nat, s20 = .pointer (some ⟨gx, 0, none⟩) ∧ Hid (Bads W4 wx W4.heap.size gx i g2 c2 e2 d2 h (sigOf sec i m) (pathOf sec h i)))
    case first =>
      refine wp_region_noPanic ?_
      refine wp_region_held_drew (S := (fun w' : World => w'.cell? ⟨w4.heap.size, 0, none⟩ = some (.int .i64 i) ∧ w'.cell? ⟨w4.heap.size, 1, none⟩ = some (.slice a 18 c) ∧ w'.cell? ⟨w4.heap.size, 2, none⟩ = some (.slice p h cp))) (by kernel_rfl) ⟨s0, s1, s2⟩ (fun hHeld => ?_)
      have B_0 := (Bad.begin W4).drew
      generalize W4.drew = v0 at *
      refine wpAnyH_take (i := 0) (oi := _) (v := .pointer (some ⟨w4.heap.size, 0, none⟩)) rfl (by kernel_rfl) (by kernel_rfl) (by kernel_rfl) (fun _ _ _ h => h) (Or.inl ⟨by rfl, ?_⟩) hHeld ?_
      · intro w hSw
        go_simp
      refine wpAnyH_take (i := 1) (oi := _) (v := .int .i64 i) rfl (by kernel_rfl) (by kernel_rfl) (by kernel_rfl) (fun _ _ _ h => h) (Or.inl ⟨by rfl, ?_⟩) hHeld ?_
      · intro w hSw
        go_simp
      refine wpAnyH_take (i := 3) (oi := _) (v := .pointer (some ⟨w4.heap.size, 1, none⟩)) rfl (by kernel_rfl) (by kernel_rfl) (by kernel_rfl) (fun _ _ _ h => h) (Or.inl ⟨by rfl, ?_⟩) hHeld ?_
      · intro w hSw
        go_simp
      refine wpAnyH_take (i := 4) (oi := _) (v := .slice a 18 c) rfl (by kernel_rfl) (by kernel_rfl) (by kernel_rfl) (fun _ _ _ h => h) (Or.inl ⟨by rfl, ?_⟩) hHeld ?_
      · intro w hSw
        go_simp
      refine wpAnyH_take (i := 7) (oi := _) (v := .pointer (some ⟨w4.heap.size, 2, none⟩)) rfl (by kernel_rfl) (by kernel_rfl) (by kernel_rfl) (fun _ _ _ h => h) (Or.inl ⟨by rfl, ?_⟩) hHeld ?_
      · intro w hSw
        go_simp
      refine wpAnyH_take (i := 8) (oi := _) (v := .slice p h cp) rfl (by kernel_rfl) (by kernel_rfl) (by kernel_rfl) (fun _ _ _ h => h) (Or.inl ⟨by rfl, ?_⟩) hHeld ?_
      · intro w hSw
        go_simp
      simp only [Act.put, List.setIfInBounds_toArray]
      clear hHeld
      refine name_region (fun G hG => ?_)
      have HG := Lib.hid hG
      clear hG
      have st411 : Hid (∀ (wl : World) (g1 : Nat) (g2 : Nat) (c2 : Nat) (e1 : Nat) (e2 : Nat) (d2 : Nat) (gx : Nat) (hB : Bad W4 wl W4.heap.size (.slice (some ⟨g2, 0, none⟩) 18 c2) (.slice (some ⟨e2, 0, none⟩) h d2) 18 h (sigOf sec i m) (pathOf sec h i) (some gx)), G 1 #[true, true, true, true, true, true, true, true, true, true, true, true, false] { tmps := #[.string ⟨sec.toArray⟩, .int .u8 r1.toNat, .int .u8 r2.toNat, .string ⟨m.toArray⟩, .int .u8 r3.toNat, .string ⟨x.toArray⟩, undef, undef, undef, undef, undef, undef, .bool false, .bool true, .int .i64 h, .int .i64 i, .string ⟨(pubOf sec h).toArray⟩, .int .i64 0, .pointer (some ⟨w4.heap.size, 0, none⟩), .int .i64 0, .pointer (some ⟨gx, 0, none⟩), undef, u22, u23, u24, u25, u26, u27, u28, u29, u30, u31, u32, u33, u34, u35, u36, u37, u38, u39, u40, u41, u42, u43, u44, u45, u46, u47, u48, u49, u50, u51, u52, u53, u54, u55, u56, u57, u58, u59, u60, u61, u62, u63, u64, u65, u66, u67, u68, u69, .bool false, .pointer (some ⟨w4.heap.size, 0, none⟩), .int .i64 i, .slice (some ⟨g1, 0, none⟩) 0 0, .pointer (some ⟨w4.heap.size, 1, none⟩), .slice a 18 c, .slice (some ⟨g2, 0, none⟩) 18 c2, .slice (some ⟨e1, 0, none⟩) 0 0, .pointer (some ⟨w4.heap.size, 2, none⟩), .slice p h cp, .slice (some ⟨e2, 0, none⟩) h d2, .agg #[.int .i64 i, .slice (some ⟨g2, 0, none⟩) 18 c2, .slice (some ⟨e2, 0, none⟩) h d2], undef, undef, undef, undef, undef, undef, undef, undef, undef, undef, undef, undef, undef, undef, undef, undef, undef, undef, undef, undef, undef, undef, undef, undef, undef, undef, undef, undef, undef, undef, undef, undef, undef, undef, undef, undef, undef, undef, undef, undef, undef, undef, undef, undef, undef, undef, undef, undef, undef, undef, undef], defers := [] } wl) := by
        intro wl g1 g2 c2 e1 e2 d2 gx hB
        refine (HG.out _ _ _ _).1 ?_
        obtain ⟨x1, x2, x3, x4⟩ := hB.x gx rfl
        obtain ⟨k0, k1, k2, f0, f1, f2⟩ := store_facts x2
        refine wpAnyH_ready (rs := [12]) (by kernel_rfl) (by simp) ?_
        refine AllReadyH.cons (o := _) rfl (fun K hK => ?_) AllReadyH.nil
        go_simp
        have hD := hB.done (i : Int)
        obtain ⟨y, hw⟩ : ∃ w', ((wl.setCell ⟨gx, 0, none⟩ (.int .i64 i)).setCell ⟨gx, 1, none⟩ (.slice (some ⟨g2, 0, none⟩) 18 c2)).setCell ⟨gx, 2, none⟩ (.slice (some ⟨e2, 0, none⟩) h d2) = w' := ⟨_, rfl⟩
        rw [hw] at hD ⊢
        clear hw k0 k1 k2 f0 f1 f2 x1 x2 x3 x4
        refine hK.out _ _ ⟨kept hD.below s0, kept hD.below s1, kept hD.below s2⟩ (fun _ => ?_)
        clear hK
        refine wpAnyH_done (by kernel_rfl) ?_ _
        refine NoPanic.normal ?_
        go_wp2_with fail
        go_meet
        exact ⟨gx, g2, c2, e2, d2, rfl, hD⟩
      have st311 : Hid (∀ (wl : World) (g1 : Nat) (g2 : Nat) (c2 : Nat) (e1 : Nat) (e2 : Nat) (d2 : Nat) (gx : Nat) (hB : Bad W4 wl W4.heap.size (.slice (some ⟨g2, 0, none⟩) 18 c2) (.slice (some ⟨e2, 0, none⟩) h d2) 18 h (sigOf sec i m) (pathOf sec h i) (some gx)), G 2 #[true, true, true, true, true, true, true, true, true, true, false, true, false] { tmps := #[.string ⟨sec.toArray⟩, .int .u8 r1.toNat, .int .u8 r2.toNat, .string ⟨m.toArray⟩, .int .u8 r3.toNat, .string ⟨x.toArray⟩, undef, undef, undef, undef, undef, undef, .bool false, .bool true, .int .i64 h, .int .i64 i, .string ⟨(pubOf sec h).toArray⟩, .int .i64 0, .pointer (some ⟨w4.heap.size, 0, none⟩), .int .i64 0, .pointer (some ⟨gx, 0, none⟩), undef, u22, u23, u24, u25, u26, u27, u28, u29, u30, u31, u32, u33, u34, u35, u36, u37, u38, u39, u40, u41, u42, u43, u44, u45, u46, u47, u48, u49, u50, u51, u52, u53, u54, u55, u56, u57, u58, u59, u60, u61, u62, u63, u64, u65, u66, u67, u68, u69, .bool false, .pointer (some ⟨w4.heap.size, 0, none⟩), .int .i64 i, .slice (some ⟨g1, 0, none⟩) 0 0, .pointer (some ⟨w4.heap.size, 1, none⟩), .slice a 18 c, .slice (some ⟨g2, 0, none⟩) 18 c2, .slice (some ⟨e1, 0, none⟩) 0 0, .pointer (some ⟨w4.heap.size, 2, none⟩), .slice p h cp, .slice (some ⟨e2, 0, none⟩) h d2, undef, undef, undef, undef, undef, undef, undef, undef, undef, undef, undef, undef, undef, undef, undef, undef, undef, undef, undef, undef, undef, undef, undef, undef, undef, undef, undef, undef, undef, undef, undef, undef, undef, undef, undef, undef, undef, undef, undef, undef, undef, undef, undef, undef, undef, undef, undef, undef, undef, undef, undef, undef], defers := [] } wl) := by
        intro wl g1 g2 c2 e1 e2 d2 gx hB
        refine (HG.out _ _ _ _).1 ?_
        refine wpAnyH_ready (rs := [10]) (by kernel_rfl) (by simp) ?_
        refine AllReadyH.cons (o := _) rfl (fun K hK => ?_) AllReadyH.nil
        go_simp
        refine hK.out _ _ ⟨kept hB.below s0, kept hB.below s1, kept hB.below s2⟩ (fun _ => ?_)
        refine (HG.out _ _ _ _).2 ?_
        exact recast rfl (by decide) (st411.out wl g1 g2 c2 e1 e2 d2 gx hB)
      have st410 : Hid (∀ (wl : World) (g1 : Nat) (g2 : Nat) (c2 : Nat) (e1 : Nat) (e2 : Nat) (d2 : Nat) (hB : Bad W4 wl W4.heap.size (.slice (some ⟨g2, 0, none⟩) 18 c2) (.slice (some ⟨e2, 0, none⟩) h d2) 18 h (sigOf sec i m) (pathOf sec h i) none), G 2 #[true, true, true, true, true, true, true, true, true, true, true, false, false] { tmps := #[.string ⟨sec.toArray⟩, .int .u8 r1.toNat, .int .u8 r2.toNat, .string ⟨m.toArray⟩, .int .u8 r3.toNat, .string ⟨x.toArray⟩, undef, undef, undef, undef, undef, undef, .bool false, .bool true, .int .i64 h, .int .i64 i, .string ⟨(pubOf sec h).toArray⟩, .int .i64 0, .pointer (some ⟨w4.heap.size, 0, none⟩), .int .i64 0, undef, undef, u22, u23, u24, u25, u26, u27, u28, u29, u30, u31, u32, u33, u34, u35, u36, u37, u38, u39, u40, u41, u42, u43, u44, u45, u46, u47, u48, u49, u50, u51, u52, u53, u54, u55, u56, u57, u58, u59, u60, u61, u62, u63, u64, u65, u66, u67, u68, u69, .bool false, .pointer (some ⟨w4.heap.size, 0, none⟩), .int .i64 i, .slice (some ⟨g1, 0, none⟩) 0 0, .pointer (some ⟨w4.heap.size, 1, none⟩), .slice a 18 c, .slice (some ⟨g2, 0, none⟩) 18 c2, .slice (some ⟨e1, 0, none⟩) 0 0, .pointer (some ⟨w4.heap.size, 2, none⟩), .slice p h cp, .slice (some ⟨e2, 0, none⟩) h d2, .agg #[.int .i64 i, .slice (some ⟨g2, 0, none⟩) 18 c2, .slice (some ⟨e2, 0, none⟩) h d2], undef, undef, undef, undef, undef, undef, undef, undef, undef, undef, undef, undef, undef, undef, undef, undef, undef, undef, undef, undef, undef, undef, undef, undef, undef, undef, undef, undef, undef, undef, undef, undef, undef, undef, undef, undef, undef, undef, undef, undef, undef, undef, undef, undef, undef, undef, undef, undef, undef, undef, undef], defers := [] } wl) := by
        intro wl g1 g2 c2 e1 e2 d2 hB
        refine (HG.out _ _ _ _).1 ?_
        refine wpAnyH_ready (rs := [11]) (by kernel_rfl) (by simp) ?_
        refine AllReadyH.cons (o := _) rfl (fun K hK => ?_) AllReadyH.nil
        go_simp
        obtain ⟨wn, hw⟩ : ∃ w', wl.alloc (.cells #[.int .i64 0, .slice none 0 0, .slice none 0 0] 29) = w' := ⟨_, rfl⟩
        rw [hw]
        have hBn := hw ▸ hB.put
        clear hw
        refine hK.out _ _ ⟨kept hBn.below s0, kept hBn.below s1, kept hBn.below s2⟩ (fun _ => ?_)
        refine (HG.out _ _ _ _).2 ?_
        exact recast rfl (by decide) (st411.out wn g1 g2 c2 e1 e2 d2 wl.heap.size hBn)
      have st211 : Hid (∀ (wl : World) (g1 : Nat) (g2 : Nat) (c2 : Nat) (e1 : Nat) (gx : Nat) (hB : Bad W4 wl W4.heap.size (.slice (some ⟨g2, 0, none⟩) 18 c2) (.slice (some ⟨e1, 0, none⟩) 0 0) 18 0 (sigOf sec i m) [] (some gx)), G 3 #[true, true, true, true, true, true, true, true, true, false, false, true, false] { tmps := #[.string ⟨sec.toArray⟩, .int .u8 r1.toNat, .int .u8 r2.toNat, .string ⟨m.toArray⟩, .int .u8 r3.toNat, .string ⟨x.toArray⟩, undef, undef, undef, undef, undef, undef, .bool false, .bool true, .int .i64 h, .int .i64 i, .string ⟨(pubOf sec h).toArray⟩, .int .i64 0, .pointer (some ⟨w4.heap.size, 0, none⟩), .int .i64 0, .pointer (some ⟨gx, 0, none⟩), undef, u22, u23, u24, u25, u26, u27, u28, u29, u30, u31, u32, u33, u34, u35, u36, u37, u38, u39, u40, u41, u42, u43, u44, u45, u46, u47, u48, u49, u50, u51, u52, u53, u54, u55, u56, u57, u58, u59, u60, u61, u62, u63, u64, u65, u66, u67, u68, u69, .bool false, .pointer (some ⟨w4.heap.size, 0, none⟩), .int .i64 i, .slice (some ⟨g1, 0, none⟩) 0 0, .pointer (some ⟨w4.heap.size, 1, none⟩), .slice a 18 c, .slice (some ⟨g2, 0, none⟩) 18 c2, .slice (some ⟨e1, 0, none⟩) 0 0, .pointer (some ⟨w4.heap.size, 2, none⟩), .slice p h cp, undef, undef, undef, undef, undef, undef, undef, undef, undef, undef, undef, undef, undef, undef, undef, undef, undef, undef, undef, undef, undef, undef, undef, undef, undef, undef, undef, undef, undef, undef, undef, undef, undef, undef, undef, undef, undef, undef, undef, undef, undef, undef, undef, undef, undef, undef, undef, undef, undef, undef, undef, undef, undef], defers := [] } wl) := by
        intro wl g1 g2 c2 e1 gx hB
        refine (HG.out _ _ _ _).1 ?_
        refine wpAnyH_ready (rs := [9]) (by kernel_rfl) (by simp) ?_
        refine AllReadyH.cons (o := _) rfl (fun K hK => ?_) AllReadyH.nil
        refine step_appE (by rfl) _ _ (by rfl) W4.heap.size e1 (pathOf sec h i) p h cp (by rfl) hB.o2 (by rfl) (HP.out.later hB.below) (path_len _ _ _).symm (by omega) hB.size ?_
        intro g cap wn ho hg hlt hor
        have hBn := (hB.swap.grow ho hg hlt hor).swap
        refine hK.out _ _ ⟨kept hBn.below s0, kept hBn.below s1, kept hBn.below s2⟩ (fun _ => ?_)
        refine (HG.out _ _ _ _).2 ?_
        exact recast rfl (by decide) (st311.out wn g1 g2 c2 e1 g cap gx hBn)
      have st310 : Hid (∀ (wl : World) (g1 : Nat) (g2 : Nat) (c2 : Nat) (e1 : Nat) (e2 : Nat) (d2 : Nat) (hB : Bad W4 wl W4.heap.size (.slice (some ⟨g2, 0, none⟩) 18 c2) (.slice (some ⟨e2, 0, none⟩) h d2) 18 h (sigOf sec i m) (pathOf sec h i) none), G 3 #[true, true, true, true, true, true, true, true, true, true, false, false, false] { tmps := #[.string ⟨sec.toArray⟩, .int .u8 r1.toNat, .int .u8 r2.toNat, .string ⟨m.toArray⟩, .int .u8 r3.toNat, .string ⟨x.toArray⟩, undef, undef, undef, undef, undef, undef, .bool false, .bool true, .int .i64 h, .int .i64 i, .string ⟨(pubOf sec h).toArray⟩, .int .i64 0, .pointer (some ⟨w4.heap.size, 0, none⟩), .int .i64 0, undef, undef, u22, u23, u24, u25, u26, u27, u28, u29, u30, u31, u32, u33, u34, u35, u36, u37, u38, u39, u40, u41, u42, u43, u44, u45, u46, u47, u48, u49, u50, u51, u52, u53, u54, u55, u56, u57, u58, u59, u60, u61, u62, u63, u64, u65, u66, u67, u68, u69, .bool false, .pointer (some ⟨w4.heap.size, 0, none⟩), .int .i64 i, .slice (some ⟨g1, 0, none⟩) 0 0, .pointer (some ⟨w4.heap.size, 1, none⟩), .slice a 18 c, .slice (some ⟨g2, 0, none⟩) 18 c2, .slice (some ⟨e1, 0, none⟩) 0 0, .pointer (some ⟨w4.heap.size, 2, none⟩), .slice p h cp, .slice (some ⟨e2, 0, none⟩) h d2, undef, undef, undef, undef, undef, undef, undef, undef, undef, undef, undef, undef, undef, undef, undef, undef, undef, undef, undef, undef, undef, undef, undef, undef, undef, undef, undef, undef, undef, undef, undef, undef, undef, undef, undef, undef, undef, undef, undef, undef, undef, undef, undef, undef, undef, undef, undef, undef, undef, undef, undef, undef], defers := [] } wl) := by
        intro wl g1 g2 c2 e1 e2 d2 hB
        refine (HG.out _ _ _ _).1 ?_
        refine wpAnyH_ready (rs := [10, 11]) (by kernel_rfl) (by simp) ?_
        refine AllReadyH.cons (o := _) rfl (fun K hK => ?_) ?_
        · go_simp
          refine hK.out _ _ ⟨kept hB.below s0, kept hB.below s1, kept hB.below s2⟩ (fun _ => ?_)
          refine (HG.out _ _ _ _).2 ?_
          exact recast rfl (by decide) (st410.out wl g1 g2 c2 e1 e2 d2 hB)
        refine AllReadyH.cons (o := _) rfl (fun K hK => ?_) AllReadyH.nil
        go_simp
        obtain ⟨wn, hw⟩ : ∃ w', wl.alloc (.cells #[.int .i64 0, .slice none 0 0, .slice none 0 0] 29) = w' := ⟨_, rfl⟩
        rw [hw]
        have hBn := hw ▸ hB.put
        clear hw
        refine hK.out _ _ ⟨kept hBn.below s0, kept hBn.below s1, kept hBn.below s2⟩ (fun _ => ?_)
        refine (HG.out _ _ _ _).2 ?_
        exact recast rfl (by decide) (st311.out wn g1 g2 c2 e1 e2 d2 wl.heap.size hBn)
      have st111 : Hid (∀ (wl : World) (g1 : Nat) (e1 : Nat) (gx : Nat) (hB : Bad W4 wl W4.heap.size (.slice (some ⟨g1, 0, none⟩) 0 0) (.slice (some ⟨e1, 0, none⟩) 0 0) 0 0 [] [] (some gx)), G 4 #[true, true, true, true, true, false, true, true, true, false, false, true, false] { tmps := #[.string ⟨sec.toArray⟩, .int .u8 r1.toNat, .int .u8 r2.toNat, .string ⟨m.toArray⟩, .int .u8 r3.toNat, .string ⟨x.toArray⟩, undef, undef, undef, undef, undef, undef, .bool false, .bool true, .int .i64 h, .int .i64 i, .string ⟨(pubOf sec h).toArray⟩, .int .i64 0, .pointer (some ⟨w4.heap.size, 0, none⟩), .int .i64 0, .pointer (some ⟨gx, 0, none⟩), undef, u22, u23, u24, u25, u26, u27, u28, u29, u30, u31, u32, u33, u34, u35, u36, u37, u38, u39, u40, u41, u42, u43, u44, u45, u46, u47, u48, u49, u50, u51, u52, u53, u54, u55, u56, u57, u58, u59, u60, u61, u62, u63, u64, u65, u66, u67, u68, u69, .bool false, .pointer (some ⟨w4.heap.size, 0, none⟩), .int .i64 i, .slice (some ⟨g1, 0, none⟩) 0 0, .pointer (some ⟨w4.heap.size, 1, none⟩), .slice a 18 c, undef, .slice (some ⟨e1, 0, none⟩) 0 0, .pointer (some ⟨w4.heap.size, 2, none⟩), .slice p h cp, undef, undef, undef, undef, undef, undef, undef, undef, undef, undef, undef, undef, undef, undef, undef, undef, undef, undef, undef, undef, undef, undef, undef, undef, undef, undef, undef, undef, undef, undef, undef, undef, undef, undef, undef, undef, undef, undef, undef, undef, undef, undef, undef, undef, undef, undef, undef, undef, undef, undef, undef, undef, undef], defers := [] } wl) := by
        intro wl g1 e1 gx hB
        refine (HG.out _ _ _ _).1 ?_
        refine wpAnyH_ready (rs := [5]) (by kernel_rfl) (by simp) ?_
        refine AllReadyH.cons (o := _) rfl (fun K hK => ?_) AllReadyH.nil
        refine step_appE (by rfl) _ _ (by rfl) W4.heap.size g1 (sigOf sec i m) a 18 c (by rfl) hB.o1 (by rfl) (HA.out.later hB.below) (sigOf_len _ _ _).symm (by decide) hB.size ?_
        intro g cap wn ho hg hlt hor
        have hBn := hB.grow ho hg hlt hor
        refine hK.out _ _ ⟨kept hBn.below s0, kept hBn.below s1, kept hBn.below s2⟩ (fun _ => ?_)
        refine (HG.out _ _ _ _).2 ?_
        exact recast rfl (by decide) (st211.out wn g1 g cap e1 gx hBn)
      have st201 : Hid (∀ (wl : World) (g1 : Nat) (g2 : Nat) (c2 : Nat) (gx : Nat) (hB : Bad W4 wl W4.heap.size (.slice (some ⟨g2, 0, none⟩) 18 c2) (.slice none 0 0) 18 0 (sigOf sec i m) [] (some gx)), G 4 #[true, true, true, true, true, true, false, true, true, false, false, true, false] { tmps := #[.string ⟨sec.toArray⟩, .int .u8 r1.toNat, .int .u8 r2.toNat, .string ⟨m.toArray⟩, .int .u8 r3.toNat, .string ⟨x.toArray⟩, undef, undef, undef, undef, undef, undef, .bool false, .bool true, .int .i64 h, .int .i64 i, .string ⟨(pubOf sec h).toArray⟩, .int .i64 0, .pointer (some ⟨w4.heap.size, 0, none⟩), .int .i64 0, .pointer (some ⟨gx, 0, none⟩), undef, u22, u23, u24, u25, u26, u27, u28, u29, u30, u31, u32, u33, u34, u35, u36, u37, u38, u39, u40, u41, u42, u43, u44, u45, u46, u47, u48, u49, u50, u51, u52, u53, u54, u55, u56, u57, u58, u59, u60, u61, u62, u63, u64, u65, u66, u67, u68, u69, .bool false, .pointer (some ⟨w4.heap.size, 0, none⟩), .int .i64 i, .slice (some ⟨g1, 0, none⟩) 0 0, .pointer (some ⟨w4.heap.size, 1, none⟩), .slice a 18 c, .slice (some ⟨g2, 0, none⟩) 18 c2, undef, .pointer (some ⟨w4.heap.size, 2, none⟩), .slice p h cp, undef, undef, undef, undef, undef, undef, undef, undef, undef, undef, undef, undef, undef, undef, undef, undef, undef, undef, undef, undef, undef, undef, undef, undef, undef, undef, undef, undef, undef, undef, undef, undef, undef, undef, undef, undef, undef, undef, undef, undef, undef, undef, undef, undef, undef, undef, undef, undef, undef, undef, undef, undef, undef], defers := [] } wl) := by
        intro wl g1 g2 c2 gx hB
        refine (HG.out _ _ _ _).1 ?_
        refine wpAnyH_ready (rs := [6]) (by kernel_rfl) (by simp) ?_
        refine AllReadyH.cons (o := _) rfl (fun K hK => ?_) AllReadyH.nil
        go_simp
        obtain ⟨wn, hw⟩ : ∃ w', wl.alloc (.cells #[] 9) = w' := ⟨_, rfl⟩
        rw [hw]
        have hBn := hw ▸ hB.swap.make.swap
        clear hw
        refine hK.out _ _ ⟨kept hBn.below s0, kept hBn.below s1, kept hBn.below s2⟩ (fun _ => ?_)
        refine (HG.out _ _ _ _).2 ?_
        exact recast rfl (by decide) (st211.out wn g1 g2 c2 wl.heap.size gx hBn)
      have st210 : Hid (∀ (wl : World) (g1 : Nat) (g2 : Nat) (c2 : Nat) (e1 : Nat) (hB : Bad W4 wl W4.heap.size (.slice (some ⟨g2, 0, none⟩) 18 c2) (.slice (some ⟨e1, 0, none⟩) 0 0) 18 0 (sigOf sec i m) [] none), G 4 #[true, true, true, true, true, true, true, true, true, false, false, false, false] { tmps := #[.string ⟨sec.toArray⟩, .int .u8 r1.toNat, .int .u8 r2.toNat, .string ⟨m.toArray⟩, .int .u8 r3.toNat, .string ⟨x.toArray⟩, undef, undef, undef, undef, undef, undef, .bool false, .bool true, .int .i64 h, .int .i64 i, .string ⟨(pubOf sec h).toArray⟩, .int .i64 0, .pointer (some ⟨w4.heap.size, 0, none⟩), .int .i64 0, undef, undef, u22, u23, u24, u25, u26, u27, u28, u29, u30, u31, u32, u33, u34, u35, u36, u37, u38, u39, u40, u41, u42, u43, u44, u45, u46, u47, u48, u49, u50, u51, u52, u53, u54, u55, u56, u57, u58, u59, u60, u61, u62, u63, u64, u65, u66, u67, u68, u69, .bool false, .pointer (some ⟨w4.heap.size, 0, none⟩), .int .i64 i, .slice (some ⟨g1, 0, none⟩) 0 0, .pointer (some ⟨w4.heap.size, 1, none⟩), .slice a 18 c, .slice (some ⟨g2, 0, none⟩) 18 c2, .slice (some ⟨e1, 0, none⟩) 0 0, .pointer (some ⟨w4.heap.size, 2, none⟩), .slice p h cp, undef, undef, undef, undef, undef, undef, undef, undef, undef, undef, undef, undef, undef, undef, undef, undef, undef, undef, undef, undef, undef, undef, undef, undef, undef, undef, undef, undef, undef, undef, undef, undef, undef, undef, undef, undef, undef, undef, undef, undef, undef, undef, undef, undef, undef, undef, undef, undef, undef, undef, undef, undef, undef], defers := [] } wl) := by
        intro wl g1 g2 c2 e1 hB
        refine (HG.out _ _ _ _).1 ?_
        refine wpAnyH_ready (rs := [9, 11]) (by kernel_rfl) (by simp) ?_
        refine AllReadyH.cons (o := _) rfl (fun K hK => ?_) ?_
        · refine step_appE (by rfl) _ _ (by rfl) W4.heap.size e1 (pathOf sec h i) p h cp (by rfl) hB.o2 (by rfl) (HP.out.later hB.below) (path_len _ _ _).symm (by omega) hB.size ?_
          intro g cap wn ho hg hlt hor
          have hBn := (hB.swap.grow ho hg hlt hor).swap
          refine hK.out _ _ ⟨kept hBn.below s0, kept hBn.below s1, kept hBn.below s2⟩ (fun _ => ?_)
          refine (HG.out _ _ _ _).2 ?_
          exact recast rfl (by decide) (st310.out wn g1 g2 c2 e1 g cap hBn)
        refine AllReadyH.cons (o := _) rfl (fun K hK => ?_) AllReadyH.nil
        go_simp
        obtain ⟨wn, hw⟩ : ∃ w', wl.alloc (.cells #[.int .i64 0, .slice none 0 0, .slice none 0 0] 29) = w' := ⟨_, rfl⟩
        rw [hw]
        have hBn := hw ▸ hB.put
        clear hw
        refine hK.out _ _ ⟨kept hBn.below s0, kept hBn.below s1, kept hBn.below s2⟩ (fun _ => ?_)
        refine (HG.out _ _ _ _).2 ?_
        exact recast rfl (by decide) (st211.out wn g1 g2 c2 e1 wl.heap.size hBn)
      have st011 : Hid (∀ (wl : World) (e1 : Nat) (gx : Nat) (hB : Bad W4 wl W4.heap.size (.slice none 0 0) (.slice (some ⟨e1, 0, none⟩) 0 0) 0 0 [] [] (some gx)), G 5 #[true, true, false, true, true, false, true, true, true, false, false, true, false] { tmps := #[.string ⟨sec.toArray⟩, .int .u8 r1.toNat, .int .u8 r2.toNat, .string ⟨m.toArray⟩, .int .u8 r3.toNat, .string ⟨x.toArray⟩, undef, undef, undef, undef, undef, undef, .bool false, .bool true, .int .i64 h, .int .i64 i, .string ⟨(pubOf sec h).toArray⟩, .int .i64 0, .pointer (some ⟨w4.heap.size, 0, none⟩), .int .i64 0, .pointer (some ⟨gx, 0, none⟩), undef, u22, u23, u24, u25, u26, u27, u28, u29, u30, u31, u32, u33, u34, u35, u36, u37, u38, u39, u40, u41, u42, u43, u44, u45, u46, u47, u48, u49, u50, u51, u52, u53, u54, u55, u56, u57, u58, u59, u60, u61, u62, u63, u64, u65, u66, u67, u68, u69, .bool false, .pointer (some ⟨w4.heap.size, 0, none⟩), .int .i64 i, undef, .pointer (some ⟨w4.heap.size, 1, none⟩), .slice a 18 c, undef, .slice (some ⟨e1, 0, none⟩) 0 0, .pointer (some ⟨w4.heap.size, 2, none⟩), .slice p h cp, undef, undef, undef, undef, undef, undef, undef, undef, undef, undef, undef, undef, undef, undef, undef, undef, undef, undef, undef, undef, undef, undef, undef, undef, undef, undef, undef, undef, undef, undef, undef, undef, undef, undef, undef, undef, undef, undef, undef, undef, undef, undef, undef, undef, undef, undef, undef, undef, undef, undef, undef, undef, undef], defers := [] } wl) := by
        intro wl e1 gx hB
        refine (HG.out _ _ _ _).1 ?_
        refine wpAnyH_ready (rs := [2]) (by kernel_rfl) (by simp) ?_
        refine AllReadyH.cons (o := _) rfl (fun K hK => ?_) AllReadyH.nil
        go_simp
        obtain ⟨wn, hw⟩ : ∃ w', wl.alloc (.cells #[] 9) = w' := ⟨_, rfl⟩
        rw [hw]
        have hBn := hw ▸ hB.make
        clear hw
        refine hK.out _ _ ⟨kept hBn.below s0, kept hBn.below s1, kept hBn.below s2⟩ (fun _ => ?_)
        refine (HG.out _ _ _ _).2 ?_
        exact recast rfl (by decide) (st111.out wn wl.heap.size e1 gx hBn)
      have st101 : Hid (∀ (wl : World) (g1 : Nat) (gx : Nat) (hB : Bad W4 wl W4.heap.size (.slice (some ⟨g1, 0, none⟩) 0 0) (.slice none 0 0) 0 0 [] [] (some gx)), G 5 #[true, true, true, true, true, false, false, true, true, false, false, true, false] { tmps := #[.string ⟨sec.toArray⟩, .int .u8 r1.toNat, .int .u8 r2.toNat, .string ⟨m.toArray⟩, .int .u8 r3.toNat, .string ⟨x.toArray⟩, undef, undef, undef, undef, undef, undef, .bool false, .bool true, .int .i64 h, .int .i64 i, .string ⟨(pubOf sec h).toArray⟩, .int .i64 0, .pointer (some ⟨w4.heap.size, 0, none⟩), .int .i64 0, .pointer (some ⟨gx, 0, none⟩), undef, u22, u23, u24, u25, u26, u27, u28, u29, u30, u31, u32, u33, u34, u35, u36, u37, u38, u39, u40, u41, u42, u43, u44, u45, u46, u47, u48, u49, u50, u51, u52, u53, u54, u55, u56, u57, u58, u59, u60, u61, u62, u63, u64, u65, u66, u67, u68, u69, .bool false, .pointer (some ⟨w4.heap.size, 0, none⟩), .int .i64 i, .slice (some ⟨g1, 0, none⟩) 0 0, .pointer (some ⟨w4.heap.size, 1, none⟩), .slice a 18 c, undef, undef, .pointer (some ⟨w4.heap.size, 2, none⟩), .slice p h cp, undef, undef, undef, undef, undef, undef, undef, undef, undef, undef, undef, undef, undef, undef, undef, undef, undef, undef, undef, undef, undef, undef, undef, undef, undef, undef, undef, undef, undef, undef, undef, undef, undef, undef, undef, undef, undef, undef, undef, undef, undef, undef, undef, undef, undef, undef, undef, undef, undef, undef, undef, undef, undef], defers := [] } wl) := by
        intro wl g1 gx hB
        refine (HG.out _ _ _ _).1 ?_
        refine wpAnyH_ready (rs := [5, 6]) (by kernel_rfl) (by simp) ?_
        refine AllReadyH.cons (o := _) rfl (fun K hK => ?_) ?_
        · refine step_appE (by rfl) _ _ (by rfl) W4.heap.size g1 (sigOf sec i m) a 18 c (by rfl) hB.o1 (by rfl) (HA.out.later hB.below) (sigOf_len _ _ _).symm (by decide) hB.size ?_
          intro g cap wn ho hg hlt hor
          have hBn := hB.grow ho hg hlt hor
          refine hK.out _ _ ⟨kept hBn.below s0, kept hBn.below s1, kept hBn.below s2⟩ (fun _ => ?_)
          refine (HG.out _ _ _ _).2 ?_
          exact recast rfl (by decide) (st201.out wn g1 g cap gx hBn)
        refine AllReadyH.cons (o := _) rfl (fun K hK => ?_) AllReadyH.nil
        go_simp
        obtain ⟨wn, hw⟩ : ∃ w', wl.alloc (.cells #[] 9) = w' := ⟨_, rfl⟩
        rw [hw]
        have hBn := hw ▸ hB.swap.make.swap
        clear hw
        refine hK.out _ _ ⟨kept hBn.below s0, kept hBn.below s1, kept hBn.below s2⟩ (fun _ => ?_)
        refine (HG.out _ _ _ _).2 ?_
        exact recast rfl (by decide) (st111.out wn g1 wl.heap.size gx hBn)
      have st110 : Hid (∀ (wl : World) (g1 : Nat) (e1 : Nat) (hB : Bad W4 wl W4.heap.size (.slice (some ⟨g1, 0, none⟩) 0 0) (.slice (some ⟨e1, 0, none⟩) 0 0) 0 0 [] [] none), G 5 #[true, true, true, true, true, false, true, true, true, false, false, false, false] { tmps := #[.string ⟨sec.toArray⟩, .int .u8 r1.toNat, .int .u8 r2.toNat, .string ⟨m.toArray⟩, .int .u8 r3.toNat, .string ⟨x.toArray⟩, undef, undef, undef, undef, undef, undef, .bool false, .bool true, .int .i64 h, .int .i64 i, .string ⟨(pubOf sec h).toArray⟩, .int .i64 0, .pointer (some ⟨w4.heap.size, 0, none⟩), .int .i64 0, undef, undef, u22, u23, u24, u25, u26, u27, u28, u29, u30, u31, u32, u33, u34, u35, u36, u37, u38, u39, u40, u41, u42, u43, u44, u45, u46, u47, u48, u49, u50, u51, u52, u53, u54, u55, u56, u57, u58, u59, u60, u61, u62, u63, u64, u65, u66, u67, u68, u69, .bool false, .pointer (some ⟨w4.heap.size, 0, none⟩), .int .i64 i, .slice (some ⟨g1, 0, none⟩) 0 0, .pointer (some ⟨w4.heap.size, 1, none⟩), .slice a 18 c, undef, .slice (some ⟨e1, 0, none⟩) 0 0, .pointer (some ⟨w4.heap.size, 2, none⟩), .slice p h cp, undef, undef, undef, undef, undef, undef, undef, undef, undef, undef, undef, undef, undef, undef, undef, undef, undef, undef, undef, undef, undef, undef, undef, undef, undef, undef, undef, undef, undef, undef, undef, undef, undef, undef, undef, undef, undef, undef, undef, undef, undef, undef, undef, undef, undef, undef, undef, undef, undef, undef, undef, undef, undef], defers := [] } wl) := by
        intro wl g1 e1 hB
        refine (HG.out _ _ _ _).1 ?_
        refine wpAnyH_ready (rs := [5, 11]) (by kernel_rfl) (by simp) ?_
        refine AllReadyH.cons (o := _) rfl (fun K hK => ?_) ?_
        · refine step_appE (by rfl) _ _ (by rfl) W4.heap.size g1 (sigOf sec i m) a 18 c (by rfl) hB.o1 (by rfl) (HA.out.later hB.below) (sigOf_len _ _ _).symm (by decide) hB.size ?_
          intro g cap wn ho hg hlt hor
          have hBn := hB.grow ho hg hlt hor
          refine hK.out _ _ ⟨kept hBn.below s0, kept hBn.below s1, kept hBn.below s2⟩ (fun _ => ?_)
          refine (HG.out _ _ _ _).2 ?_
          exact recast rfl (by decide) (st210.out wn g1 g cap e1 hBn)
        refine AllReadyH.cons (o := _) rfl (fun K hK => ?_) AllReadyH.nil
        go_simp
        obtain ⟨wn, hw⟩ : ∃ w', wl.alloc (.cells #[.int .i64 0, .slice none 0 0, .slice none 0 0] 29) = w' := ⟨_, rfl⟩
        rw [hw]
        have hBn := hw ▸ hB.put
        clear hw
        refine hK.out _ _ ⟨kept hBn.below s0, kept hBn.below s1, kept hBn.below s2⟩ (fun _ => ?_)
        refine (HG.out _ _ _ _).2 ?_
        exact recast rfl (by decide) (st111.out wn g1 e1 wl.heap.size hBn)
      have st200 : Hid (∀ (wl : World) (g1 : Nat) (g2 : Nat) (c2 : Nat) (hB : Bad W4 wl W4.heap.size (.slice (some ⟨g2, 0, none⟩) 18 c2) (.slice none 0 0) 18 0 (sigOf sec i m) [] none), G 5 #[true, true, true, true, true, true, false, true, true, false, false, false, false] { tmps := #[.string ⟨sec.toArray⟩, .int .u8 r1.toNat, .int .u8 r2.toNat, .string ⟨m.toArray⟩, .int .u8 r3.toNat, .string ⟨x.toArray⟩, undef, undef, undef, undef, undef, undef, .bool false, .bool true, .int .i64 h, .int .i64 i, .string ⟨(pubOf sec h).toArray⟩, .int .i64 0, .pointer (some ⟨w4.heap.size, 0, none⟩), .int .i64 0, undef, undef, u22, u23, u24, u25, u26, u27, u28, u29, u30, u31, u32, u33, u34, u35, u36, u37, u38, u39, u40, u41, u42, u43, u44, u45, u46, u47, u48, u49, u50, u51, u52, u53, u54, u55, u56, u57, u58, u59, u60, u61, u62, u63, u64, u65, u66, u67, u68, u69, .bool false, .pointer (some ⟨w4.heap.size, 0, none⟩), .int .i64 i, .slice (some ⟨g1, 0, none⟩) 0 0, .pointer (some ⟨w4.heap.size, 1, none⟩), .slice a 18 c, .slice (some ⟨g2, 0, none⟩) 18 c2, undef, .pointer (some ⟨w4.heap.size, 2, none⟩), .slice p h cp, undef, undef, undef, undef, undef, undef, undef, undef, undef, undef, undef, undef, undef, undef, undef, undef, undef, undef, undef, undef, undef, undef, undef, undef, undef, undef, undef, undef, undef, undef, undef, undef, undef, undef, undef, undef, undef, undef, undef, undef, undef, undef, undef, undef, undef, undef, undef, undef, undef, undef, undef, undef, undef], defers := [] } wl) := by
        intro wl g1 g2 c2 hB
        refine (HG.out _ _ _ _).1 ?_
        refine wpAnyH_ready (rs := [6, 11]) (by kernel_rfl) (by simp) ?_
        refine AllReadyH.cons (o := _) rfl (fun K hK => ?_) ?_
        · go_simp
          obtain ⟨wn, hw⟩ : ∃ w', wl.alloc (.cells #[] 9) = w' := ⟨_, rfl⟩
          rw [hw]
          have hBn := hw ▸ hB.swap.make.swap
          clear hw
          refine hK.out _ _ ⟨kept hBn.below s0, kept hBn.below s1, kept hBn.below s2⟩ (fun _ => ?_)
          refine (HG.out _ _ _ _).2 ?_
          exact recast rfl (by decide) (st210.out wn g1 g2 c2 wl.heap.size hBn)
        refine AllReadyH.cons (o := _) rfl (fun K hK => ?_) AllReadyH.nil
        go_simp
        obtain ⟨wn, hw⟩ : ∃ w', wl.alloc (.cells #[.int .i64 0, .slice none 0 0, .slice none 0 0] 29) = w' := ⟨_, rfl⟩
        rw [hw]
        have hBn := hw ▸ hB.put
        clear hw
        refine hK.out _ _ ⟨kept hBn.below s0, kept hBn.below s1, kept hBn.below s2⟩ (fun _ => ?_)
        refine (HG.out _ _ _ _).2 ?_
        exact recast rfl (by decide) (st201.out wn g1 g2 c2 wl.heap.size hBn)
      have st001 : Hid (∀ (wl : World) (gx : Nat) (hB : Bad W4 wl W4.heap.size (.slice none 0 0) (.slice none 0 0) 0 0 [] [] (some gx)), G 6 #[true, true, false, true, true, false, false, true, true, false, false, true, false] { tmps := #[.string ⟨sec.toArray⟩, .int .u8 r1.toNat, .int .u8 r2.toNat, .string ⟨m.toArray⟩, .int .u8 r3.toNat, .string ⟨x.toArray⟩, undef, undef, undef, undef, undef, undef, .bool false, .bool true, .int .i64 h, .int .i64 i, .string ⟨(pubOf sec h).toArray⟩, .int .i64 0, .pointer (some ⟨w4.heap.size, 0, none⟩), .int .i64 0, .pointer (some ⟨gx, 0, none⟩), undef, u22, u23, u24, u25, u26, u27, u28, u29, u30, u31, u32, u33, u34, u35, u36, u37, u38, u39, u40, u41, u42, u43, u44, u45, u46, u47, u48, u49, u50, u51, u52, u53, u54, u55, u56, u57, u58, u59, u60, u61, u62, u63, u64, u65, u66, u67, u68, u69, .bool false, .pointer (some ⟨w4.heap.size, 0, none⟩), .int .i64 i, undef, .pointer (some ⟨w4.heap.size, 1, none⟩), .slice a 18 c, undef, undef, .pointer (some ⟨w4.heap.size, 2, none⟩), .slice p h cp, undef, undef, undef, undef, undef, undef, undef, undef, undef, undef, undef, undef, undef, undef, undef, undef, undef, undef, undef, undef, undef, undef, undef, undef, undef, undef, undef, undef, undef, undef, undef, undef, undef, undef, undef, undef, undef, undef, undef, undef, undef, undef, undef, undef, undef, undef, undef, undef, undef, undef, undef, undef, undef], defers := [] } wl) := by
        intro wl gx hB
        refine (HG.out _ _ _ _).1 ?_
        refine wpAnyH_ready (rs := [2, 6]) (by kernel_rfl) (by simp) ?_
        refine AllReadyH.cons (o := _) rfl (fun K hK => ?_) ?_
        · go_simp
          obtain ⟨wn, hw⟩ : ∃ w', wl.alloc (.cells #[] 9) = w' := ⟨_, rfl⟩
          rw [hw]
          have hBn := hw ▸ hB.make
          clear hw
          refine hK.out _ _ ⟨kept hBn.below s0, kept hBn.below s1, kept hBn.below s2⟩ (fun _ => ?_)
          refine (HG.out _ _ _ _).2 ?_
          exact recast rfl (by decide) (st101.out wn wl.heap.size gx hBn)
        refine AllReadyH.cons (o := _) rfl (fun K hK => ?_) AllReadyH.nil
        go_simp
        obtain ⟨wn, hw⟩ : ∃ w', wl.alloc (.cells #[] 9) = w' := ⟨_, rfl⟩
        rw [hw]
        have hBn := hw ▸ hB.swap.make.swap
        clear hw
        refine hK.out _ _ ⟨kept hBn.below s0, kept hBn.below s1, kept hBn.below s2⟩ (fun _ => ?_)
        refine (HG.out _ _ _ _).2 ?_
        exact recast rfl (by decide) (st011.out wn wl.heap.size gx hBn)
      have st010 : Hid (∀ (wl : World) (e1 : Nat) (hB : Bad W4 wl W4.heap.size (.slice none 0 0) (.slice (some ⟨e1, 0, none⟩) 0 0) 0 0 [] [] none), G 6 #[true, true, false, true, true, false, true, true, true, false, false, false, false] { tmps := #[.string ⟨sec.toArray⟩, .int .u8 r1.toNat, .int .u8 r2.toNat, .string ⟨m.toArray⟩, .int .u8 r3.toNat, .string ⟨x.toArray⟩, undef, undef, undef, undef, undef, undef, .bool false, .bool true, .int .i64 h, .int .i64 i, .string ⟨(pubOf sec h).toArray⟩, .int .i64 0, .pointer (some ⟨w4.heap.size, 0, none⟩), .int .i64 0, undef, undef, u22, u23, u24, u25, u26, u27, u28, u29, u30, u31, u32, u33, u34, u35, u36, u37, u38, u39, u40, u41, u42, u43, u44, u45, u46, u47, u48, u49, u50, u51, u52, u53, u54, u55, u56, u57, u58, u59, u60, u61, u62, u63, u64, u65, u66, u67, u68, u69, .bool false, .pointer (some ⟨w4.heap.size, 0, none⟩), .int .i64 i, undef, .pointer (some ⟨w4.heap.size, 1, none⟩), .slice a 18 c, undef, .slice (some ⟨e1, 0, none⟩) 0 0, .pointer (some ⟨w4.heap.size, 2, none⟩), .slice p h cp, undef, undef, undef, undef, undef, undef, undef, undef, undef, undef, undef, undef, undef, undef, undef, undef, undef, undef, undef, undef, undef, undef, undef, undef, undef, undef, undef, undef, undef, undef, undef, undef, undef, undef, undef, undef, undef, undef, undef, undef, undef, undef, undef, undef, undef, undef, undef, undef, undef, undef, undef, undef, undef], defers := [] } wl) := by
        intro wl e1 hB
        refine (HG.out _ _ _ _).1 ?_
        refine wpAnyH_ready (rs := [2, 11]) (by kernel_rfl) (by simp) ?_
        refine AllReadyH.cons (o := _) rfl (fun K hK => ?_) ?_
        · go_simp
          obtain ⟨wn, hw⟩ : ∃ w', wl.alloc (.cells #[] 9) = w' := ⟨_, rfl⟩
          rw [hw]
          have hBn := hw ▸ hB.make
          clear hw
          refine hK.out _ _ ⟨kept hBn.below s0, kept hBn.below s1, kept hBn.below s2⟩ (fun _ => ?_)
          refine (HG.out _ _ _ _).2 ?_
          exact recast rfl (by decide) (st110.out wn wl.heap.size e1 hBn)
        refine AllReadyH.cons (o := _) rfl (fun K hK => ?_) AllReadyH.nil
        go_simp
        obtain ⟨wn, hw⟩ : ∃ w', wl.alloc (.cells #[.int .i64 0, .slice none 0 0, .slice none 0 0] 29) = w' := ⟨_, rfl⟩
        rw [hw]
        have hBn := hw ▸ hB.put
        clear hw
        refine hK.out _ _ ⟨kept hBn.below s0, kept hBn.below s1, kept hBn.below s2⟩ (fun _ => ?_)
        refine (HG.out _ _ _ _).2 ?_
        exact recast rfl (by decide) (st011.out wn e1 wl.heap.size hBn)
      have st100 : Hid (∀ (wl : World) (g1 : Nat) (hB : Bad W4 wl W4.heap.size (.slice (some ⟨g1, 0, none⟩) 0 0) (.slice none 0 0) 0 0 [] [] none), G 6 #[true, true, true, true, true, false, false, true, true, false, false, false, false] { tmps := #[.string ⟨sec.toArray⟩, .int .u8 r1.toNat, .int .u8 r2.toNat, .string ⟨m.toArray⟩, .int .u8 r3.toNat, .string ⟨x.toArray⟩, undef, undef, undef, undef, undef, undef, .bool false, .bool true, .int .i64 h, .int .i64 i, .string ⟨(pubOf sec h).toArray⟩, .int .i64 0, .pointer (some ⟨w4.heap.size, 0, none⟩), .int .i64 0, undef, undef, u22, u23, u24, u25, u26, u27, u28, u29, u30, u31, u32, u33, u34, u35, u36, u37, u38, u39, u40, u41, u42, u43, u44, u45, u46, u47, u48, u49, u50, u51, u52, u53, u54, u55, u56, u57, u58, u59, u60, u61, u62, u63, u64, u65, u66, u67, u68, u69, .bool false, .pointer (some ⟨w4.heap.size, 0, none⟩), .int .i64 i, .slice (some ⟨g1, 0, none⟩) 0 0, .pointer (some ⟨w4.heap.size, 1, none⟩), .slice a 18 c, undef, undef, .pointer (some ⟨w4.heap.size, 2, none⟩), .slice p h cp, undef, undef, undef, undef, undef, undef, undef, undef, undef, undef, undef, undef, undef, undef, undef, undef, undef, undef, undef, undef, undef, undef, undef, undef, undef, undef, undef, undef, undef, undef, undef, undef, undef, undef, undef, undef, undef, undef, undef, undef, undef, undef, undef, undef, undef, undef, undef, undef, undef, undef, undef, undef, undef], defers := [] } wl) := by
        intro wl g1 hB
        refine (HG.out _ _ _ _).1 ?_
        refine wpAnyH_ready (rs := [5, 6, 11]) (by kernel_rfl) (by simp) ?_
        refine AllReadyH.cons (o := _) rfl (fun K hK => ?_) ?_
        · refine step_appE (by rfl) _ _ (by rfl) W4.heap.size g1 (sigOf sec i m) a 18 c (by rfl) hB.o1 (by rfl) (HA.out.later hB.below) (sigOf_len _ _ _).symm (by decide) hB.size ?_
          intro g cap wn ho hg hlt hor
          have hBn := hB.grow ho hg hlt hor
          refine hK.out _ _ ⟨kept hBn.below s0, kept hBn.below s1, kept hBn.below s2⟩ (fun _ => ?_)
          refine (HG.out _ _ _ _).2 ?_
          exact recast rfl (by decide) (st200.out wn g1 g cap hBn)
        refine AllReadyH.cons (o := _) rfl (fun K hK => ?_) ?_
        · go_simp
          obtain ⟨wn, hw⟩ : ∃ w', wl.alloc (.cells #[] 9) = w' := ⟨_, rfl⟩
          rw [hw]
          have hBn := hw ▸ hB.swap.make.swap
          clear hw
          refine hK.out _ _ ⟨kept hBn.below s0, kept hBn.below s1, kept hBn.below s2⟩ (fun _ => ?_)
          refine (HG.out _ _ _ _).2 ?_
          exact recast rfl (by decide) (st110.out wn g1 wl.heap.size hBn)
        refine AllReadyH.cons (o := _) rfl (fun K hK => ?_) AllReadyH.nil
        go_simp
        obtain ⟨wn, hw⟩ : ∃ w', wl.alloc (.cells #[.int .i64 0, .slice none 0 0, .slice none 0 0] 29) = w' := ⟨_, rfl⟩
        rw [hw]
        have hBn := hw ▸ hB.put
        clear hw
        refine hK.out _ _ ⟨kept hBn.below s0, kept hBn.below s1, kept hBn.below s2⟩ (fun _ => ?_)
        refine (HG.out _ _ _ _).2 ?_
        exact recast rfl (by decide) (st101.out wn g1 wl.heap.size hBn)
      have st000 : Hid (∀ (wl : World) (hB : Bad W4 wl W4.heap.size (.slice none 0 0) (.slice none 0 0) 0 0 [] [] none), G 7 #[true, true, false, true, true, false, false, true, true, false, false, false, false] { tmps := #[.string ⟨sec.toArray⟩, .int .u8 r1.toNat, .int .u8 r2.toNat, .string ⟨m.toArray⟩, .int .u8 r3.toNat, .string ⟨x.toArray⟩, undef, undef, undef, undef, undef, undef, .bool false, .bool true, .int .i64 h, .int .i64 i, .string ⟨(pubOf sec h).toArray⟩, .int .i64 0, .pointer (some ⟨w4.heap.size, 0, none⟩), .int .i64 0, undef, undef, u22, u23, u24, u25, u26, u27, u28, u29, u30, u31, u32, u33, u34, u35, u36, u37, u38, u39, u40, u41, u42, u43, u44, u45, u46, u47, u48, u49, u50, u51, u52, u53, u54, u55, u56, u57, u58, u59, u60, u61, u62, u63, u64, u65, u66, u67, u68, u69, .bool false, .pointer (some ⟨w4.heap.size, 0, none⟩), .int .i64 i, undef, .pointer (some ⟨w4.heap.size, 1, none⟩), .slice a 18 c, undef, undef, .pointer (some ⟨w4.heap.size, 2, none⟩), .slice p h cp, undef, undef, undef, undef, undef, undef, undef, undef, undef, undef, undef, undef, undef, undef, undef, undef, undef, undef, undef, undef, undef, undef, undef, undef, undef, undef, undef, undef, undef, undef, undef, undef, undef, undef, undef, undef, undef, undef, undef, undef, undef, undef, undef, undef, undef, undef, undef, undef, undef, undef, undef, undef, undef], defers := [] } wl) := by
        intro wl hB
        refine (HG.out _ _ _ _).1 ?_
        refine wpAnyH_ready (rs := [2, 6, 11]) (by kernel_rfl) (by simp) ?_
        refine AllReadyH.cons (o := _) rfl (fun K hK => ?_) ?_
        · go_simp
          obtain ⟨wn, hw⟩ : ∃ w', wl.alloc (.cells #[] 9) = w' := ⟨_, rfl⟩
          rw [hw]
          have hBn := hw ▸ hB.make
          clear hw
          refine hK.out _ _ ⟨kept hBn.below s0, kept hBn.below s1, kept hBn.below s2⟩ (fun _ => ?_)
          refine (HG.out _ _ _ _).2 ?_
          exact recast rfl (by decide) (st100.out wn wl.heap.size hBn)
        refine AllReadyH.cons (o := _) rfl (fun K hK => ?_) ?_
        · go_simp
          obtain ⟨wn, hw⟩ : ∃ w', wl.alloc (.cells #[] 9) = w' := ⟨_, rfl⟩
          rw [hw]
          have hBn := hw ▸ hB.swap.make.swap
          clear hw
          refine hK.out _ _ ⟨kept hBn.below s0, kept hBn.below s1, kept hBn.below s2⟩ (fun _ => ?_)
          refine (HG.out _ _ _ _).2 ?_
          exact recast rfl (by decide) (st010.out wn wl.heap.size hBn)
        refine AllReadyH.cons (o := _) rfl (fun K hK => ?_) AllReadyH.nil
        go_simp
        obtain ⟨wn, hw⟩ : ∃ w', wl.alloc (.cells #[.int .i64 0, .slice none 0 0, .slice none 0 0] 29) = w' := ⟨_, rfl⟩
        rw [hw]
        have hBn := hw ▸ hB.put
        clear hw
        refine hK.out _ _ ⟨kept hBn.below s0, kept hBn.below s1, kept hBn.below s2⟩ (fun _ => ?_)
        refine (HG.out _ _ _ _).2 ?_
        exact recast rfl (by decide) (st001.out wn wl.heap.size hBn)
      exact recast rfl (by decide) (st000.out v0 B_0)
    obtain ⟨gx, g2, c2, e2, d2, rfl, hbd⟩ := hcut
    obtain ⟨V5, rfl⟩ : ∃ V, V = wc := ⟨_, rfl⟩
    have T5 : Hid (Tab V5) := Lib.hid (Tab.at_ T4.out hbd.out.below)
    have GT : Hid (0 < W4.heap.size) := T4.out.inside
    have GR : Hid (w4.heap.size < W4.heap.size) := R4'.out.inside
    have A5 : Hid (Txt V5 W4.heap.size a (sigOf sec i m)) := HA.out.below hbd.out.below
    have P5 : Hid (Txt V5 W4.heap.size p (pathOf sec h i)) := HP.out.below hbd.out.below
    have B5 := Lib.hid (B4.out.trans (hbd.out.below.mono B4.out.size))
    have R5 := Lib.hid (R4'.out.below hbd.out.below R4'.out.inside)
    have HBD : Hid (Bads V5 V5 W4.heap.size gx i g2 c2 e2 d2 h (sigOf sec i m) (pathOf sec h i)) := hbd.out.base
    have HLO : Hid (w.heap.size ≤ W4.heap.size) := B4.out.size
    clear hbd T4 HA HP B4 R4' s0 s1 s2
    obtain ⟨N4, hN4⟩ : ∃ N, W4.heap.size = N := ⟨_, rfl⟩
    rw [hN4] at HBD HLO GT GR A5 P5
    clear hN4
    obtain ⟨k, hk⟩ : ∃ k, r3.toNat % (19 + h) = k := ⟨_, rfl⟩
    have u3 := r3.toNat_lt
    have hk1 : k < 19 + h := hk ▸ Nat.mod_lt _ (by omega)
    have HE3 : Hid ((r3.toNat : Int) % (19 + (h : Int)) = (k : Int)) := by show _ = _; rw [← hk, Int.natCast_emod, Int.natCast_add]; rfl
    clear hk
    go_upto_region 12 with fail
    rw [HE3.out]
    clear HE3 u3
    go_upto_if 88 with fail
    go_cut [21] from 89 to 110 (fun s21 wx => ∃ (j : Nat) (sg pt : List B), Hid (Bads V5 wx N4 gx j g2 c2 e2 d2 h sg pt) ∧ Hid (Dif sec m h i j sg pt))
    case first =>
      obtain ⟨x0, x1, x2, y0, y1, y2⟩ := store_facts HBD.out.row
      by_cases h18 : k < 18
      · obtain ⟨z0, z1⟩ := own_open HBD.out.o1 h18
        have HD := Lib.hid (HBD.out.set1 k x)
        have HF : Hid (Dif sec m h i i ((sigOf sec i m).set k x) (pathOf sec h i)) := Dif.sig sec m x h i k hxl (by omega) HI2.out
        go_wp2_with fail
        go_meet
        exact ⟨i, _, _, HD, HF⟩
      · by_cases h18' : k < 18 + h
        · obtain ⟨z0, z1⟩ := own_open HBD.out.o2 (show k - 18 < h by omega)
          have HD := Lib.hid (HBD.out.set2 (k - 18) x)
          have HF : Hid (Dif sec m h i i (sigOf sec i m) ((pathOf sec h i).set (k - 18) x)) := Dif.path sec m x h i (k - 18) hxl (by omega) HI2.out
          go_wp2_with fail
          go_meet
          exact ⟨i, _, _, HD, HF⟩
        · obtain ⟨j, hj⟩ : ∃ j, (i + 1) % 2 ^ h = j := ⟨_, rfl⟩
          have HE4 : Hid (((i : Int) + 1) % wrap64 (2 ^ h) = (j : Int)) := by
            have e := mod_idx h (i + 1) (by omega)
            rw [hj] at e
            exact e
          have hz : ¬ wrap64 (2 ^ h) = 0 := by
            rw [wrap_pow h (by omega)]
            have := Nat.two_pow_pos h
            have e : ((2 ^ h : Nat) : Int) = 2 ^ h := by simp
            rw [← e]
            omega
          have HD := Lib.hid (HBD.out.set0 j)
          have HF : Hid (Dif sec m h i j (sigOf sec i m) (pathOf sec h i)) := hj ▸ Dif.index sec m h i h3
          obtain ⟨s0, s1, s2, _, _, _⟩ := store_facts R5.out
          have hi4 : i < 4 := Nat.lt_of_lt_of_le HI2.out (Nat.pow_le_pow_right (by decide) h3)
          go_upto_region 16 with fail
          go_region
          go_wp2_with fail
          rw [HE4.out]
          go_meet
          exact ⟨j, _, _, Lib.hid (HD.out.later (below_drew' _)), HF⟩
    obtain ⟨j, sg, pt, hbd, HF⟩ := hcut
    obtain ⟨V6, rfl⟩ : ∃ V, V = wc := ⟨_, rfl⟩
    have HZ : Hid (N4 ≤ V6.heap.size) := hbd.out.size
    have T6 : Hid (Tab V6) := var?_below hbd.out.below tab_at GT.out T5.out
    have A6 : Hid (Txt V6 V6.heap.size a (sigOf sec i m)) := (A5.out.below hbd.out.below).more HZ.out
    have P6 : Hid (Txt V6 V6.heap.size p (pathOf sec h i)) := (P5.out.below hbd.out.below).more HZ.out
    have B6 := Lib.hid (B5.out.trans (hbd.out.below.mono HLO.out))
    have R6 := Lib.hid (R5.out.below hbd.out.below GR.out)
    have X6 : Hid (Bads V6 V6 N4 gx j g2 c2 e2 d2 h sg pt) := hbd.out.base
    have M1 : Hid (Txt V6 V6.heap.size (some ⟨g2, 0, none⟩) sg) := hbd.out.o1.txt.2
    have M2 : Hid (Txt V6 V6.heap.size (some ⟨e2, 0, none⟩) pt) := hbd.out.o2.txt.2
    have L1 : Hid (18 = sg.length) := HF.out.n1.symm
    have L2 : Hid (h = pt.length) := HF.out.n2.symm
    clear hbd T5 A5 P5 B5 R5 GT GR HBD HLO hk1
    obtain ⟨x0, x1, x2, _, _, _⟩ := store_facts X6.out.row
    obtain ⟨s0, s1, s2, _, _, _⟩ := store_facts R6.out
    obtain ⟨b, hb⟩ : ∃ b, (decide ((j : Int) = (i : Int)) && (decide (sg = sigOf sec i m) && decide (pt = pathOf sec h i))) = b := ⟨_, rfl⟩
    go_wp2_with fail
    refine (refsame_eq j i (some ⟨g2, 0, none⟩) (some ⟨e2, 0, none⟩) a p 18 c2 h d2 18 c h cp sg pt (sigOf sec i m) (pathOf sec h i) b _ M1.out M2.out A6.out P6.out L1.out L2.out (sigOf_len _ _ _).symm (path_len _ _ _).symm (by decide) (by unfold maxLen; omega) hb).mono ?_
    rintro e V7 ⟨rfl, hb7⟩
    have HB := Lib.hid hb
    have T7 := Lib.hid (Tab.at_ T6.out hb7)
    have X7 := Lib.hid (X6.out.row.below hb7 X6.out.row.inside)
    have M1' := Lib.hid (M1.out.later hb7)
    have M2' := Lib.hid (M2.out.later hb7)
    have B7 := Lib.hid (B6.out.trans (hb7.mono B6.out.size))
    clear hb hb7 T6 A6 P6 R6 X6 M1 M2 B6 x0 x1 x2 s0 s1 s2 HZ
    obtain ⟨x0, x1, x2, _, _, _⟩ := store_facts X7.out
    cases b with
    | true =>
      go_wp2
      go_ret
      exact ⟨rfl, B7.out⟩
    | false =>
      obtain ⟨b, hb⟩ : ∃ b, verB (pubOf sec h) m (j : Int) sg pt = b := ⟨_, rfl⟩
      go_wp2_with fail
      refine (verify_of (pubOf sec h) m _ _ j (some ⟨g2, 0, none⟩) (some ⟨e2, 0, none⟩) 18 c2 h d2 sg pt b _ rfl rfl T7.out M1'.out M2'.out L1.out L2.out (by omega) (by decide) (by omega) HF.out.l1 HF.out.l2 hb).mono ?_
      rintro e V8 ⟨rfl, hb8⟩
      have HV := Lib.hid hb
      have X8 := Lib.hid (X7.out.below hb8 X7.out.inside)
      have M1'' := Lib.hid (M1'.out.later hb8)
      have M2'' := Lib.hid (M2'.out.later hb8)
      have B8 := Lib.hid (B7.out.trans (hb8.mono B7.out.size))
      clear hb hb8 T7 X7 M1' M2' B7 x0 x1 x2
      obtain ⟨x0, x1, x2, _, _, _⟩ := store_facts X8.out
      cases b with
      | false =>
        go_wp2
        go_ret
        exact ⟨rfl, B8.out⟩
      | true =>
        have HC : Hid (Coll (made sec h 15 ++ checked m j sg pt)) := HF.out.coll HI2.out HV.out HB.out
        have S1 : Hid (∀ x ∈ made sec h 15 ++ checked m j sg pt, x.length ≤ 100000) := mem_small (made_small sec h 15 (by omega) (by omega)) (checked_small m j HF.out.l1 HF.out.l2)
        have F1 : Hid (∀ x ∈ sg, x.length ≤ 1000) := HF.out.l1
        have F2 : Hid (∀ x ∈ pt, x.length ≤ 1000) := HF.out.l2
        have FS : Hid (j < 1000000) := HF.out.small
        have L1' : Hid (sg.length = 18) := HF.out.n1
        have h8 : h ≤ 8 := by omega
        clear HV HB HF
        go_wp2_with fail
        go_region_held3 (fun w' => w'.cell? ⟨gx, 0, none⟩ = some (.int .i64 j) ∧ w'.cell? ⟨gx, 1, none⟩ = some (.slice (some ⟨g2, 0, none⟩) 18 c2) ∧ w'.cell? ⟨gx, 2, none⟩ = some (.slice (some ⟨e2, 0, none⟩) h d2)) (first | go_keep | exact KS)
          (first
            | (go_at_call 11; refine (made_of sec _ h 15 _ _ _ rfl rfl rfl (by omega) h3 (by decide) (by decide)).mono ?_; rintro e wA ⟨a1, n1, c1, rfl, hn1, ho1, hb6⟩; have hbw : Below V8.heap.size V8 wA := Below.trans (below_drew' V8) hb6; have KS := And.intro (kept hbw x0) (And.intro (kept hbw x1) (kept hbw x2)))
            | (go_at_call 12; refine (checked_of8 m _ _ j (some ⟨g2, 0, none⟩) (some ⟨e2, 0, none⟩) c2 h d2 sg pt V8 _ hbw rfl rfl hml M1'' M2'' L1' L2 h8 FS F1 F2).mono ?_; rintro e wB ⟨g9, n9, c9, rfl, hn90, hn9, ho2, hb7⟩; have hbw7 : Below V8.heap.size V8 wB := Below.trans hbw (hb7.mono hbw.size); have KS := And.intro (kept hbw7 x0) (And.intro (kept hbw7 x1) (kept hbw7 x2)))
            | ((refine step_appLG (by rfl) _ _ (by rfl) V8.heap.size _ n1 _ (checked m j sg pt) ⟨g9, 0, none⟩ n9 c9 (by rfl) (Own.later ho1 hb7) (by rfl) ho2.out.txt.2 ho2.out.1 hn90 (by omega) (by omega) hbw7.size ?_; intro g cap wC ho8 hg8 hlt8 hor8 hsz8; have hbw8 : Below V8.heap.size V8 wC := hbw7.grown hg8 hbw7.size (fun k hk => (hlt8 k hk).1); have KS := And.intro (kept hbw8 x0) (And.intro (kept hbw8 x1) (kept hbw8 x2))))
            | (go_at_call 10; refine (shown_of (some ⟨g, 0, none⟩) (n1 + n9) cap (made sec h 15 ++ checked m j sg pt) _ ho8.txt.2 ho8.1 (by omega) S1.out HC.out).mono ?_; rintro e wD ⟨rfl, hb9⟩; have hbw9 : Below V8.heap.size V8 wD := Below.trans hbw8 (hb9.mono hbw8.size); have KS := And.intro (kept hbw9 x0) (And.intro (kept hbw9 x1) (kept hbw9 x2))))
        have B9 := Lib.hid (B8.out.trans (hbw9.mono B8.out.size))
        clear ho1 ho2 ho8 hg8 hlt8 hor8 hbw hbw7 hbw8 hbw9 KS S1 HC
        go_wp2
        go_ret
        exact ⟨rfl, B9.out⟩

-- BEHIND REGION 10
end Go.Proofs.YtanlpcdljclnmaaDoor.Sl
