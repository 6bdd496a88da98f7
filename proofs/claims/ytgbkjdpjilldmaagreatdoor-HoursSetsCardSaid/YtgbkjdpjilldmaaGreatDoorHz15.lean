/- Merged: HrAdd, HrNum, HrCkT, HrTextM, SlRound. -/
import Derived.Test.YtgbkjdpjilldmaaGreatDoorHz14
import Derived.Test.YtgbkjdpjilldmaaGreatDoorHnShelf
import Derived.Lib.AtoiErrMem
import Derived.Lib.ItoaNum
import Derived.Lib.Join
import Derived.OrdersIn
import Derived.OrdersHeld
import Derived.Deep.RegionHeld
import Derived.RangeFuncCalls
/- hours: reader.add. -/
namespace Go.Proofs.YtgbkjdpjilldmaaGreatDoor.Hr
open Go.RowKit Go.Sort Go.Shelf
open Lx (IsRow alloc1 drew_below Tk B Toks vTok set3 below3 facts3 infoTok)
open St (Sp encS encS_len encS_one)
theorem Kf.own {b : Nat} {w w' : World} {sv : Value} {L : List Sp} (h : OwnS w b sv L) (hg : w.grownBy w' sv.ownBlock) (hb : b ≤ w.heap.size) : Kf b w w' :=
  ⟨(Below.refl b w).grown hg hb (fun k hk => (World.ownsRow.lt h k hk).1), fun _ _ _ _ h2 r => r.grown hg (h.off r h2)⟩
/-- what an append of one span and its store leave. -/
theorem app3 {w w3 w7 : World} {g b e n c : Nat} {L M : List Sp} {sv v7 : Value} {ao : Option Addr} (r : IsRow w g 115 #[.slice ao n c, .int .i64 (e : Int), sv]) (ho : OwnS w b sv L) (hb : b ≤ g)
    (h3 : Below w.heap.size w w3) (hg : w3.grownBy w7 sv.ownBlock) (h7 : OwnS w7 b v7 M) :
    IsRow (w7.setCell ⟨g, 2, none⟩ v7) g 115 #[.slice ao n c, .int .i64 (e : Int), v7] ∧ OwnS (w7.setCell ⟨g, 2, none⟩ v7) b v7 M ∧ Kf b w (w7.setCell ⟨g, 2, none⟩ v7) := by
  have hz : b ≤ w.heap.size := by have := r.inside; omega
  have r3 := r.below h3 r.inside
  have o3 : OwnS w3 b sv L := Own.below ho h3
  have r7 := r3.grown hg (OwnS.off o3 r3 (by decide))
  have k7 := (Kf.of_below h3 hz).trans (Kf.own o3 hg (Nat.le_trans hz h3.size))
  have r8 : IsRow (w7.setCell ⟨g, 2, none⟩ v7) g 115 #[.slice ao n c, .int .i64 (e : Int), v7] := by
    have := r7.put 2 v7
    simpa using this
  exact ⟨r8, Own.kept h7 (Lx.grown_put w7 g 2 _) (.inr (OwnS.off h7 r7 (by decide))), k7.trans (Kf.put r7 hb _ _)⟩
theorem Own.slc {w : World} {b : Nat} {v : Value} {L : List Sp} (h : OwnS w b v L) : ∃ a k c, v = .slice a k c := by
  obtain ⟨a, c, hv, _⟩ := Own.shape h
  exact ⟨a, _, c, hv⟩
theorem open3 {w w3 w7 : World} {g b e n c : Nat} {L : List Sp} {sv : Value} {ao : Option Addr} (r : IsRow w g 115 #[.slice ao n c, .int .i64 (e : Int), sv]) (ho : OwnS w b sv L)
    (h3 : Below w.heap.size w w3) (hg : w3.grownBy w7 sv.ownBlock) : w7.frozen? ⟨g, 2, none⟩ = false ∧ ∃ v, w7.cell? ⟨g, 2, none⟩ = some v := by
  have r3 := r.below h3 r.inside
  have o3 : OwnS w3 b sv L := Own.below ho h3
  have r7 := r3.grown hg (OwnS.off o3 r3 (by decide))
  exact ⟨r7.open_ 2, _, r7.get 2⟩
set_option maxRecDepth 100000 in
set_option maxHeartbeats 1000000 in
theorem add_any (g b e : Nat) (f t : Int) (ts : List Tk) (L : List Sp) (w : World) (h : Rh w g b e ts L) (hL : L.length ≤ 80000) (h0 : 0 ≤ t) (h1 : t ≤ 100000) :
    Calls Tryz.prog 93 #[.pointer (some ⟨g, 0, none⟩), .int .i64 f, .int .i64 t] w (fun x w' => x = .returned (.tuple #[]) ∧ Rh w' g b e ts (L ++ addS f t) ∧ Kf b w w') := by
  have hz := Lib.hid h.inside
  obtain ⟨hb, ao, n, c, sv, r, hn, hc, ht, ho, hdg⟩ := h
  have HDG := Lib.hid hdg
  clear hdg
  obtain ⟨c0, c1, c2, f0, f1, f2⟩ := facts3 r
  have HR := Lib.hid r
  have HO := Lib.hid ho
  have HT := Lib.hid ht
  have HN := Lib.hid hn
  have HC := Lib.hid hc
  obtain ⟨M, hM⟩ : ∃ M, L ++ addS f t = M := ⟨_, rfl⟩
  rw [hM]
  have HM := Lib.hid hM
  clear r ho ht hn hc c0 c1 f0 f1 hM
  by_cases ht : 10080 < t
  · have HG := Lib.hid (show (L ++ [(0, t - 10080)]) ++ [(f, 10080)] = M from by rw [← HM.out]; unfold addS; rw [if_pos ht]; simp)
    have b3 := alloc1 w (.cells #[.int .i64 0, .int .i64 (t - 10080)] 54)
    have ow := Own.below HO.out b3
    have tg := sps_one w 0 (t - 10080)
    have hz3 := Nat.le_trans hz.out b3.size
    have FK := Lib.hid (fun (w7 : World) (hg : (w.alloc (.cells #[.int .i64 0, .int .i64 (t - 10080)] 54)).grownBy w7 sv.ownBlock) => open3 HR.out HO.out b3 hg)
    go_enter Tryz.func93, Tryz.ntmps93
    go_upto_region 3 with (at_builtin; refine wpList_appS rfl _ _ (by rfl) b _ L [(0, t - 10080)] (some ⟨w.heap.size, 0, none⟩) 1 1 (by rfl) ow (by rfl) tg rfl (by omega) hz3 ?_; intro v7 w7 ho7 hg7 hlt7; obtain ⟨aa, k7, c7, rfl⟩ := Own.slc ho7; obtain ⟨ff, vv, cc⟩ := FK.out w7 hg7; obtain ⟨z1, z2, z3⟩ := app3 HR.out HO.out hb b3 hg7 ho7)
    obtain ⟨_, _, d2, _, _, e2⟩ := facts3 z1
    have Z1 := Lib.hid z1
    have Z2 := Lib.hid z2
    have Z3 := Lib.hid z3
    clear ow tg hz3 FK b3 ho7 hg7 hlt7 ff vv cc z1 z2 z3 c2 f2
    generalize w7.setCell ⟨g, 2, none⟩ (.slice aa k7 c7) = wA at *
    have hA := Nat.le_trans hz.out Z3.out.1.size
    have b3 := alloc1 wA (.cells #[.int .i64 f, .int .i64 10080] 54)
    have ow := Own.below Z2.out b3
    have tg := sps_one wA f 10080
    have hz3 := Nat.le_trans hA b3.size
    have FK := Lib.hid (fun (w7 : World) (hg : (wA.alloc (.cells #[.int .i64 f, .int .i64 10080] 54)).grownBy w7 (Value.slice aa k7 c7).ownBlock) => open3 Z1.out Z2.out b3 hg)
    have hlen : (L ++ [((0 : Int), t - 10080)]).length + 1 ≤ 100000 := by simp; omega
    go_wp2_with (at_builtin; refine wpList_appS rfl _ _ (by rfl) b _ (L ++ [(0, t - 10080)]) [(f, 10080)] (some ⟨wA.heap.size, 0, none⟩) 1 1 (by rfl) ow (by rfl) tg rfl hlen hz3 ?_; intro v8 w8 ho8 hg8 hlt8; obtain ⟨a8, k8, c8, rfl⟩ := Own.slc ho8; obtain ⟨ff, vv, cc⟩ := FK.out w8 hg8; obtain ⟨z1, z2, z3⟩ := app3 Z1.out Z2.out hb b3 hg8 ho8)
    have z4 := Z3.out.trans z3
    exact bodyPost_end (results_none rfl _ _ _) rfl ⟨rfl, ⟨hb, ao, n, c, _, z1, HN.out, HC.out, HT.out.below z4.1 (Nat.le_refl _), HG.out ▸ z2, HDG.out⟩, z4⟩
  · have HG := Lib.hid (show L ++ [(f, t)] = M from by rw [← HM.out]; unfold addS; rw [if_neg ht])
    have b3 := alloc1 w (.cells #[.int .i64 f, .int .i64 t] 54)
    have ow := Own.below HO.out b3
    have tg := sps_one w f t
    have hz3 := Nat.le_trans hz.out b3.size
    have FK := Lib.hid (fun (w7 : World) (hg : (w.alloc (.cells #[.int .i64 f, .int .i64 t] 54)).grownBy w7 sv.ownBlock) => open3 HR.out HO.out b3 hg)
    go_enter Tryz.func93, Tryz.ntmps93
    go_wp2_with (at_builtin; refine wpList_appS rfl _ _ (by rfl) b _ L [(f, t)] (some ⟨w.heap.size, 0, none⟩) 1 1 (by rfl) ow (by rfl) tg rfl (by omega) hz3 ?_; intro v7 w7 ho7 hg7 hlt7; obtain ⟨aa, k7, c7, rfl⟩ := Own.slc ho7; obtain ⟨ff, vv, cc⟩ := FK.out w7 hg7; obtain ⟨z1, z2, z3⟩ := app3 HR.out HO.out hb b3 hg7 ho7)
    exact bodyPost_end (results_none rfl _ _ _) rfl ⟨rfl, ⟨hb, ao, n, c, _, z1, HN.out, HC.out, HT.out.below z3.1 (Nat.le_refl _), HG.out ▸ z2, HDG.out⟩, z3⟩
end Go.Proofs.YtgbkjdpjilldmaaGreatDoor.Hr
/- hours: tokens.number. -/
namespace Go.Proofs.YtgbkjdpjilldmaaGreatDoor.Hr
open Go.RowKit Go.Sort Go.Shelf
open Lx (IsRow alloc1 drew_below Tk B Toks vTok set3 below3 facts3 infoTok str_size str_eq results_rowU)
open St (Sp encS encS_len encS_one)
/-- a store into a token's row that is not the reader's. -/
theorem Rh.off1 {w : World} {g b e k : Nat} {ts : List Tk} {L : List Sp} {cs : Array Value} (r : IsRow w k 108 cs) (h : Rh w g b e ts L) (hk : b ≤ k) (i : Nat) (v : Value) : Rh (w.setCell ⟨k, i, none⟩ v) g b e ts L := by
  obtain ⟨h1, ao, n, c, sv, rr, hn, hc, ht, ho, hdg⟩ := h
  refine ⟨h1, ao, n, c, sv, rr.putOther (fun e => ?_) v, hn, hc, ht.below ((Below.refl b w).setCell (p := ⟨k, i, none⟩) hk _) (Nat.le_refl _), Own.kept ho (Lx.grown_put w k i _) (.inr (OwnS.off ho r (by decide))), hdg⟩
  have e : g = k := e
  subst e
  unfold IsRow at rr r
  rw [rr] at r
  injection r with r
  injection r with _ r _
  exact absurd r (by decide)
theorem Rh.off3 {w : World} {g b e k : Nat} {ts : List Tk} {L : List Sp} {x y z : Value} (r : IsRow w k 108 #[x, y, z]) (h : Rh w g b e ts L) (hk : b ≤ k) (u v t : Value) : Rh (((w.setCell ⟨k, 0, none⟩ u).setCell ⟨k, 1, none⟩ v).setCell ⟨k, 2, none⟩ t) g b e ts L :=
  Rh.off1 ((r.put 0 u).put 1 v) (Rh.off1 (r.put 0 u) (Rh.off1 r h hk 0 u) hk 1 v) hk 2 t
theorem Kf.fresh {b k : Nat} {w w' : World} (h : Kf b w w') (hk : w.heap.size ≤ k) (hb : b ≤ w.heap.size) (i : Nat) (v : Value) : Kf b w (w'.setCell ⟨k, i, none⟩ v) :=
  ⟨h.1.setCell (p := ⟨k, i, none⟩) (Nat.le_trans hb hk) v, fun j t cs h1 h2 r => (h.2 j t cs h1 h2 r).putOther (fun e => by have e : j = k := e; have := r.inside; omega) v⟩
theorem atoi_any (l : B) (h : Dg l) (w : World) : Calls Tryz.prog 134 #[.string ⟨l.toArray⟩] w fun e w' => e = .returned (.tuple #[.int .i64 (valN l : Int), .nilIface]) ∧ Below w.heap.size w w' := by
  refine (Tryz.strconv_Atoi ⟨l.toArray⟩ (valN l) (by rw [str_size]; have := h.1; omega) (by rw [str_eq]; exact h.2.1) w).mono ?_
  rintro e w' ⟨rfl, t, rfl⟩
  exact ⟨rfl, Lib.bytesWorld_below _ _ _⟩
set_option maxRecDepth 100000 in
set_option maxHeartbeats 1000000 in
theorem num_any (g b e : Nat) (ts : List Tk) (L : List Sp) (w : World) (h : Rh w g b e ts L) :
    Calls Tryz.prog 164 #[.pointer (some ⟨g, 0, none⟩)] w (RdP b w (numR e ts) (fun r x w' => x = .returned (.tuple #[vTok r.1.k r.1.t r.1.a, .int .i64 (valN r.1.t : Int)]) ∧ Rh w' g b e r.2 L ∧ Dg r.1.t)) := by
  obtain ⟨W, hW⟩ : ∃ W, w.alloc (.cells #[.int .i64 0, .string ⟨#[]⟩, .int .i64 0] 108) = W := ⟨_, rfl⟩
  have B0 : Below w.heap.size w W := hW ▸ alloc1 w _
  have T0 : IsRow W w.heap.size 108 #[.int .i64 0, .string ⟨#[]⟩, .int .i64 0] := hW ▸ IsRow.made w _ _
  have hb0 := h.inside
  have hW2 := h.later B0
  have k0 := Kf.of_below B0 hb0
  have hz := Lib.hid hW2.inside
  have H := Lib.hid hW2
  obtain ⟨h1, ao, n, c, sv, r, hn, hc, ht, ho, hdg⟩ := hW2
  obtain ⟨c0, c1, _, f0, _, _⟩ := facts3 r
  have NX := Lib.hid (tnext_any g e n c ts ao W c0 c1 hn (ht.more hz.out) hc r.inside)
  have HT := Lib.hid T0
  have HB := Lib.hid B0
  have HW := Lib.hid hW
  have K0 := Lib.hid k0
  have HR := Lib.hid r
  have HO := Lib.hid ho
  obtain ⟨R, hR⟩ : ∃ R, numR e ts = R := ⟨_, rfl⟩
  rw [hR]
  cases ts with
  | nil =>
    have N2 := Lib.hid (show Calls Tryz.prog 126 #[.pointer (some ⟨g, 0, none⟩)] W fun x w' => x = .returned (.agg #[.int .i64 0, .string ⟨#[]⟩, .int .i64 (e : Int)]) ∧ Below W.heap.size W w' from NX.out)
    have HR2 := Lib.hid (show R = .error (unexp e []) from hR.symm)
    clear NX B0 T0 k0 hW r ho h hR
    go_enter Tryz.func164, Tryz.ntmps164
    go_upto_region 1 with fail
    rw [HW.out]
    go_wp2_with fail
    refine N2.out.mono ?_
    rintro x w2 ⟨rfl, b2⟩
    have b3 := alloc1 w2 (.cells #[.int .i64 0, .string ⟨#[]⟩, .int .i64 (e : Int)] 108)
    have r3 := IsRow.made w2 108 #[.int .i64 0, .string ⟨#[]⟩, .int .i64 (e : Int)]
    have B3 := Lib.hid (b2.trans (b3.mono b2.size))
    clear N2 b2
    go_upto_region 2 with fail
    obtain ⟨w3, hw3⟩ : ∃ w3, w2.alloc (.cells #[.int .i64 0, .string ⟨#[]⟩, .int .i64 (e : Int)] 108) = w3 := ⟨_, rfl⟩
    rw [hw3] at B3 r3 ⊢
    obtain ⟨y0, y1, y2, _, _, _⟩ := facts3 r3
    clear b3 r3 hw3
    have UN := Lib.hid (unexp_rh (H.out.later B3.out))
    have K3 := Lib.hid (K0.out.trans (Kf.of_below B3.out hz.out))
    have hz3 := Lib.hid (Nat.le_trans hz.out B3.out.size)
    go_wp2_with fail
    refine UN.out.mono ?_
    rintro x w4 ⟨rfl, b4⟩
    have K4 := Lib.hid (K3.out.trans (Kf.of_below b4 hz3.out))
    clear b4 UN
    go_wp2
    exact ⟨rfl, RdP.no HR2.out rfl K4.out⟩
  | cons t q =>
    obtain ⟨k', tt, a⟩ := t
    have N2 := Lib.hid (show Calls Tryz.prog 126 #[.pointer (some ⟨g, 0, none⟩)] W fun x w' => x = .returned (.agg #[.int .i64 k', .string ⟨tt.toArray⟩, .int .i64 (a : Int)]) ∧ Below W.heap.size W w' from NX.out)
    clear NX B0 T0 k0 hW r ho h
    by_cases e1 : k' = 2
    · subst e1
      have HR2 := Lib.hid (show R = .ok (⟨2, tt, a⟩, q) from by rw [← hR]; rfl)
      have DG := Lib.hid (hdg _ (List.mem_cons_self ..) rfl)
      have HDG := Lib.hid (show DgA q from fun t ht => hdg t (List.mem_cons_of_mem _ ht))
      have hn1 : 1 ≤ n := by have := hn; simp at this; omega
      have hn1' : (1 : Int) ≤ (n : Int) := by omega
      have hc' : (n : Int) ≤ (c : Int) := by omega
      have HN := Lib.hid (show q.length = n - 1 from by have := hn; simp at this; omega)
      obtain ⟨g2, o2, rfl, hg2, _⟩ := ht (by simp)
      have HTT := Lib.hid (Toks.tail ht)
      clear hR hdg hn ht
      go_enter Tryz.func164, Tryz.ntmps164
      go_upto_region 1 with fail
      rw [HW.out]
      go_wp2_with fail
      refine N2.out.mono ?_
      rintro x w2 ⟨rfl, b2⟩
      have b3 := alloc1 w2 (.cells #[.int .i64 2, .string ⟨tt.toArray⟩, .int .i64 (a : Int)] 108)
      have r3 := IsRow.made w2 108 #[.int .i64 2, .string ⟨tt.toArray⟩, .int .i64 (a : Int)]
      have B3 := Lib.hid (b2.trans (b3.mono b2.size))
      clear N2 b2
      go_upto_region 2 with fail
      obtain ⟨w3, hw3⟩ : ∃ w3, w2.alloc (.cells #[.int .i64 2, .string ⟨tt.toArray⟩, .int .i64 (a : Int)] 108) = w3 := ⟨_, rfl⟩
      rw [hw3] at B3 r3 ⊢
      obtain ⟨y0, y1, y2, _, _, _⟩ := facts3 r3
      have R3 := Lib.hid r3
      have hgW := HR.out.inside
      have d0 := (B3.out.cell (p := ⟨g, 0, none⟩) hgW).trans c0
      have RR := Lib.hid (HR.out.below B3.out hgW)
      have f3 := RR.out.open_ 0
      have T3 := Lib.hid (HT.out.below B3.out HT.out.inside)
      have FIN := Lib.hid (fun (v : Value) (hv : ∃ ao, v = .slice ao (n - 1) (c - 1) ∧ Toks W b ao q) => (show Rh (w3.setCell ⟨g, 0, none⟩ v) g b e q L ∧ Kf b w3 (w3.setCell ⟨g, 0, none⟩ v) from by
        obtain ⟨ao, rfl, hq⟩ := hv
        exact ⟨Rh.step RR.out (Own.below HO.out B3.out) (hq.below B3.out hz.out) h1 HN.out (by omega) HDG.out, Kf.put RR.out h1 _ _⟩))
      have K3 := Lib.hid (K0.out.trans (Kf.of_below B3.out hz.out))
      have AT := Lib.hid (fun w => atoi_any tt DG.out w)
      clear b3 r3 hw3 c0 c1 f0
      have hz3 := Lib.hid (Nat.le_trans hz.out B3.out.size)
      by_cases hcap : (c : Int) = 1
      · obtain rfl : q = [] := List.eq_nil_of_length_eq_zero (by rw [HN.out]; omega)
        go_upto_region 5 with fail
        obtain ⟨z1, z2⟩ := FIN.out (.slice (some ⟨g2, o2, none⟩) (n - 1) (c - 1)) ⟨some ⟨g2, o2, none⟩, rfl, fun h => by cases h⟩
        obtain ⟨w4, hw4⟩ : ∃ w4, w3.setCell ⟨g, 0, none⟩ (.slice (some ⟨g2, o2, none⟩) (n - 1) (c - 1)) = w4 := ⟨_, rfl⟩
        rw [hw4] at z1 z2 ⊢
        have Z1 := Lib.hid z1
        have R4 := Lib.hid (z2.2 _ _ _ (by decide) (by decide) R3.out)
        have T4 := Lib.hid (z2.2 _ _ _ (by decide) (by decide) T3.out)
        have K4 := Lib.hid (K3.out.trans z2)
        obtain ⟨x0, x1, x2, _, _, _⟩ := facts3 R4.out
        obtain ⟨t0, t1, t2, q0, q1, q2⟩ := facts3 T4.out
        clear z1 z2 hw4 y0 y1 y2 d0 f3 FIN K3 T3 R3 RR
        go_wp2_with fail
        refine (AT.out w4).mono ?_
        rintro x w5 ⟨rfl, b5⟩
        have Z5 := Lib.hid (Z1.out.later b5)
        have R5 := Lib.hid (R4.out.below b5 R4.out.inside)
        have T5 := Lib.hid (T4.out.below b5 T4.out.inside)
        have K5 := Lib.hid (K4.out.trans (Kf.of_below b5 Z1.out.inside))
        obtain ⟨x0, x1, x2, _, _, _⟩ := facts3 R5.out
        obtain ⟨t0, t1, t2, q0, q1, q2⟩ := facts3 T5.out
        clear b5 AT
        go_wp2
        have hr := set3 T5.out (.int .i64 2) (.string ⟨tt.toArray⟩) (.int .i64 (a : Int))
        have zz := Rh.off3 T5.out Z5.out hb0 (.int .i64 2) (.string ⟨tt.toArray⟩) (.int .i64 (a : Int))
        have kk := Kf.fresh (Kf.fresh (Kf.fresh K5.out (Nat.le_refl _) hb0 0 (.int .i64 2)) (Nat.le_refl _) hb0 1 (.string ⟨tt.toArray⟩)) (Nat.le_refl _) hb0 2 (.int .i64 (a : Int))
        refine bodyPost_ret (results_rowU rfl _ _ w.heap.size _ _ rfl hr Tryz.underlying108 infoTok) rfl ?_
        exact RdP.yes HR2.out ⟨rfl, zz, DG.out⟩ kk
      · go_upto_region 5 with fail
        obtain ⟨z1, z2⟩ := FIN.out (.slice (some ⟨g2, o2 + 3, none⟩) (n - 1) (c - 1)) ⟨_, rfl, HTT.out⟩
        obtain ⟨w4, hw4⟩ : ∃ w4, w3.setCell ⟨g, 0, none⟩ (.slice (some ⟨g2, o2 + 3, none⟩) (n - 1) (c - 1)) = w4 := ⟨_, rfl⟩
        rw [hw4] at z1 z2 ⊢
        have Z1 := Lib.hid z1
        have R4 := Lib.hid (z2.2 _ _ _ (by decide) (by decide) R3.out)
        have T4 := Lib.hid (z2.2 _ _ _ (by decide) (by decide) T3.out)
        have K4 := Lib.hid (K3.out.trans z2)
        obtain ⟨x0, x1, x2, _, _, _⟩ := facts3 R4.out
        obtain ⟨t0, t1, t2, q0, q1, q2⟩ := facts3 T4.out
        clear z1 z2 hw4 y0 y1 y2 d0 f3 FIN K3 T3 R3 RR
        go_wp2_with fail
        refine (AT.out w4).mono ?_
        rintro x w5 ⟨rfl, b5⟩
        have Z5 := Lib.hid (Z1.out.later b5)
        have R5 := Lib.hid (R4.out.below b5 R4.out.inside)
        have T5 := Lib.hid (T4.out.below b5 T4.out.inside)
        have K5 := Lib.hid (K4.out.trans (Kf.of_below b5 Z1.out.inside))
        obtain ⟨x0, x1, x2, _, _, _⟩ := facts3 R5.out
        obtain ⟨t0, t1, t2, q0, q1, q2⟩ := facts3 T5.out
        clear b5 AT
        go_wp2
        have hr := set3 T5.out (.int .i64 2) (.string ⟨tt.toArray⟩) (.int .i64 (a : Int))
        have zz := Rh.off3 T5.out Z5.out hb0 (.int .i64 2) (.string ⟨tt.toArray⟩) (.int .i64 (a : Int))
        have kk := Kf.fresh (Kf.fresh (Kf.fresh K5.out (Nat.le_refl _) hb0 0 (.int .i64 2)) (Nat.le_refl _) hb0 1 (.string ⟨tt.toArray⟩)) (Nat.le_refl _) hb0 2 (.int .i64 (a : Int))
        refine bodyPost_ret (results_rowU rfl _ _ w.heap.size _ _ rfl hr Tryz.underlying108 infoTok) rfl ?_
        exact RdP.yes HR2.out ⟨rfl, zz, DG.out⟩ kk
    · have HR2 := Lib.hid (show R = .error (unexp e (⟨k', tt, a⟩ :: q)) from by rw [← hR]; show (if k' = 2 then _ else _) = _; rw [if_neg e1]; rfl)
      have e3 : (k' == 2) = false := by rw [beq_eq_false_iff_ne]; exact e1
      clear hR
      go_enter Tryz.func164, Tryz.ntmps164
      go_upto_region 1 with fail
      rw [HW.out]
      go_wp2_with fail
      refine N2.out.mono ?_
      rintro x w2 ⟨rfl, b2⟩
      have b3 := alloc1 w2 (.cells #[.int .i64 k', .string ⟨tt.toArray⟩, .int .i64 (a : Int)] 108)
      have r3 := IsRow.made w2 108 #[.int .i64 k', .string ⟨tt.toArray⟩, .int .i64 (a : Int)]
      have B3 := Lib.hid (b2.trans (b3.mono b2.size))
      clear N2 b2
      go_upto_region 2 with fail
      obtain ⟨w3, hw3⟩ : ∃ w3, w2.alloc (.cells #[.int .i64 k', .string ⟨tt.toArray⟩, .int .i64 (a : Int)] 108) = w3 := ⟨_, rfl⟩
      rw [hw3] at B3 r3 ⊢
      obtain ⟨y0, y1, y2, _, _, _⟩ := facts3 r3
      clear b3 r3 hw3
      have UN := Lib.hid (unexp_rh (H.out.later B3.out))
      have K3 := Lib.hid (K0.out.trans (Kf.of_below B3.out hz.out))
      have hz3 := Lib.hid (Nat.le_trans hz.out B3.out.size)
      go_wp2_with fail
      refine UN.out.mono ?_
      rintro x w4 ⟨rfl, b4⟩
      have K4 := Lib.hid (K3.out.trans (Kf.of_below b4 hz3.out))
      clear b4 UN
      go_wp2
      exact ⟨rfl, RdP.no HR2.out rfl K4.out⟩
end Go.Proofs.YtgbkjdpjilldmaaGreatDoor.Hr
/- hours: clockText. -/
namespace Go.Proofs.YtgbkjdpjilldmaaGreatDoor.Hr
open Go.RowKit Go.Sort Go.Shelf
open Lx (B str_size str_eq)
/-- the text of a minute of a day, or of its end. -/
def ckT (m : Nat) : B := Lib.decDigits (m / 60) ++ 58 :: (if m % 60 < 10 then 48 :: Lib.decDigits (m % 60) else Lib.decDigits (m % 60))
set_option maxRecDepth 100000 in
set_option maxHeartbeats 1000000 in
theorem ckT_any (m : Nat) (hm : m ≤ 1440) (w : World) : Calls Tryz.prog 41 #[.int .i64 (m : Int)] w fun e w' => e = .returned (.string ⟨(ckT m).toArray⟩) ∧ w' = w := by
  have K1 := Lib.hid (fun w => Tryz.strconv_Itoa_small (m % 60) (by omega) w)
  have K2 := Lib.hid (fun w => Tryz.strconv_Itoa_small (m / 60) (by omega) w)
  have q1 : (m : Int) % 60 = ((m % 60 : Nat) : Int) := by omega
  have q2 : (m : Int) / 60 = ((m / 60 : Nat) : Int) := by omega
  have q3 : (m : Int).tdiv 60 = ((m / 60 : Nat) : Int) := by rw [Int.tdiv_eq_ediv_of_nonneg (by omega)]; exact q2
  have q4 : (m : Int).tmod 60 = ((m % 60 : Nat) : Int) := by rw [Int.tmod_eq_emod_of_nonneg (by omega)]; exact q1
  have hm' : (m : Int) ≤ 1440 := by omega
  obtain ⟨R, hR⟩ : ∃ R, ckT m = R := ⟨_, rfl⟩
  rw [hR]
  unfold ckT at hR
  generalize hx : m / 60 = x at *
  generalize hy : m % 60 = y at *
  have hy60 : y < 60 := by omega
  have hx60 : x ≤ 24 := by omega
  by_cases h10 : y < 10
  · rw [if_pos h10] at hR
    have HR := Lib.hid hR
    have L1 : (Lib.decDigits y).length = 1 := by rw [Lib.decDigits_one h10]; rfl
    have hs : (ByteArray.mk (Lib.decDigits y).toArray).size = 1 := by rw [str_size, L1]
    have EQ := Lib.hid (show (⟨(Lib.decDigits x).toArray⟩ : ByteArray) ++ ⟨#[58]⟩ ++ ((⟨#[48]⟩ : ByteArray) ++ ⟨(Lib.decDigits y).toArray⟩) = ⟨R.toArray⟩ from by
      apply ByteArray.ext
      rw [← hR]
      simp [ByteArray.data_append])
    clear hR hx hy
    go_enter Tryz.func41, Tryz.ntmps41
    go_wp2_with fail
    refine (K1.out w).mono ?_
    rintro e w2 ⟨rfl, rfl⟩
    generalize ByteArray.mk (Lib.decDigits y).toArray = ys at *
    go_wp2_with fail
    refine (K2.out _).mono ?_
    rintro e w2 ⟨rfl, rfl⟩
    have hsx : (ByteArray.mk (Lib.decDigits x).toArray).size ≤ 2 := by
      rw [str_size]
      by_cases hx1 : x < 10
      · rw [Lib.decDigits_one hx1]; simp
      · rw [Lib.decDigits_two hx1 (by omega)]; simp
    generalize ByteArray.mk (Lib.decDigits x).toArray = xs at *
    have h3 : (xs ++ ⟨#[58]⟩).size = xs.size + 1 := by rw [ByteArray.size_append]; rfl
    have h4 : ((⟨#[48]⟩ : ByteArray) ++ ys).size = 1 + ys.size := by rw [ByteArray.size_append]; rfl
    go_wp2
    go_ret
    exact ⟨congrArg (fun z => Ending.returned (.string z)) EQ.out, rfl⟩
  · rw [if_neg h10] at hR
    have HR := Lib.hid hR
    have L1 : (Lib.decDigits y).length = 2 := by rw [Lib.decDigits_two h10 (by omega)]; rfl
    have hs : (ByteArray.mk (Lib.decDigits y).toArray).size = 2 := by rw [str_size, L1]
    have EQ := Lib.hid (show (⟨(Lib.decDigits x).toArray⟩ : ByteArray) ++ ⟨#[58]⟩ ++ ⟨(Lib.decDigits y).toArray⟩ = ⟨R.toArray⟩ from by
      apply ByteArray.ext
      rw [← hR]
      simp [ByteArray.data_append])
    clear hR hx hy
    go_enter Tryz.func41, Tryz.ntmps41
    go_wp2_with fail
    refine (K1.out w).mono ?_
    rintro e w2 ⟨rfl, rfl⟩
    generalize ByteArray.mk (Lib.decDigits y).toArray = ys at *
    go_wp2_with fail
    refine (K2.out _).mono ?_
    rintro e w2 ⟨rfl, rfl⟩
    have hsx : (ByteArray.mk (Lib.decDigits x).toArray).size ≤ 2 := by
      rw [str_size]
      by_cases hx1 : x < 10
      · rw [Lib.decDigits_one hx1]; simp
      · rw [Lib.decDigits_two hx1 (by omega)]; simp
    generalize ByteArray.mk (Lib.decDigits x).toArray = xs at *
    have h3 : (xs ++ ⟨#[58]⟩).size = xs.size + 1 := by rw [ByteArray.size_append]; rfl
    have h4 : ((⟨#[48]⟩ : ByteArray) ++ ys).size = 1 + ys.size := by rw [ByteArray.size_append]; rfl
    go_wp2
    go_ret
    exact ⟨congrArg (fun z => Ending.returned (.string z)) EQ.out, rfl⟩
end Go.Proofs.YtgbkjdpjilldmaaGreatDoor.Hr
/- Plain: the text of spans. -/
namespace Go.Proofs.YtgbkjdpjilldmaaGreatDoor.Hr
open Lx (B)
/-- a minute of a day in digits. -/
def d1 (n : Nat) : UInt8 := UInt8.ofNat (48 + n)
def ckD (m : Nat) : B := (if m / 60 < 10 then [d1 (m / 60)] else [d1 (m / 60 / 10), d1 (m / 60 % 10)]) ++ [58, d1 (m % 60 / 10), d1 (m % 60 % 10)]
theorem ckT_eq (m : Nat) (h : m ≤ 1440) : ckT m = ckD m := by
  unfold ckT ckD d1
  have e1 : Lib.decDigits (m / 60) = if m / 60 < 10 then [UInt8.ofNat (48 + m / 60)] else [UInt8.ofNat (48 + m / 60 / 10), UInt8.ofNat (48 + m / 60 % 10)] := by
    split
    · rename_i h1; exact Lib.decDigits_one h1
    · rename_i h1; exact Lib.decDigits_two h1 (by omega)
  rw [e1]
  congr 1
  split
  · rename_i h1
    rw [Lib.decDigits_one h1, show m % 60 / 10 = 0 by omega, show m % 60 % 10 = m % 60 by omega]
    rfl
  · rename_i h1
    rw [Lib.decDigits_two h1 (by omega)]
theorem ckD_len (m : Nat) : (ckD m).length ≤ 5 := by
  unfold ckD
  split <;> simp
/-- of how many days a span has minutes, and those of each. -/
def nD (f t : Nat) : Nat := (t - 1) / 1440 + 1 - f / 1440
def frm (f k : Nat) : Nat := max f ((f / 1440 + k) * 1440)
def too (f t k : Nat) : Nat := min t ((f / 1440 + k + 1) * 1440)
def part1 (d a b : Nat) : B := dayB d ++ 32 :: (ckD a ++ 45 :: ckD b)
def dyN (f k : Nat) : Nat := f / 1440 + k
def loN (f t k : Nat) : Nat := min t (frm f k) - (f / 1440 + k) * 1440
def hiN (f t k : Nat) : Nat := too f t k - (f / 1440 + k) * 1440
def partT (f t k : Nat) : B := part1 (dyN f k) (loN f t k) (hiN f t k)
theorem day_ok {f t k : Nat} (h1 : f < t) (h2 : t ≤ 10080) (hk : k < nD f t) : dyN f k < 7 ∧ loN f t k < hiN f t k ∧ hiN f t k ≤ 1440 ∧ dyN f k * 1440 + loN f t k = frm f k ∧ dyN f k * 1440 + hiN f t k = too f t k := by
  unfold nD at hk
  unfold dyN loN hiN frm too
  omega
def timesS (s : Sq) : List B := (List.range (nD s.1.toNat s.2.toNat)).map (partT s.1.toNat s.2.toNat)
def timesL (l : List Sq) : List B := l.flatMap timesS
def textL (l : List Sq) : B := Lib.join (timesL l) [44, 32]
def neverB : B := [110, 101, 118, 101, 114]
def alwaysB : B := [97, 108, 119, 97, 121, 115]
def textW (l : List Sq) : B × Int :=
  if vldS l = true then
    if 60 < l.length then ([], 2)
    else if l = [] then (neverB, 0)
    else if (l.headD (0, 0)).2 - (l.headD (0, 0)).1 = 10080 then (alwaysB, 0)
    else (textL l, 0)
  else ([], 1)
end Go.Proofs.YtgbkjdpjilldmaaGreatDoor.Hr
/- A region that draws its order, in a round of a range over a function, at the fence that asks nothing: by the plain walk's own law on loads that are taken first. No program is named here. -/
namespace Go.Proofs.YtgbkjdpjilldmaaGreatDoor.Round
section
variable {P : Program} {ops : Array Oper} {Q : Exit → Act → World → Prop} {md : Region.Mode} {l n : Nat}
theorem operIn_of {o : Oper} {a : Act} {w : World} {K K' : Act → World → Prop} (hK : ∀ a w, K a w → K' a w) (hd : ∀ c, o.op ≠ .defer c) (h : o.wp P a w K Q) : o.wpIn (Fence.wide.inRound l) n P a w K' Q := by
  have h := Oper.wp_mono hK h
  refine ⟨fun _ _ => trivial, ?_⟩
  unfold Oper.wp at h
  rw [Oper.semAt_eq _ _ _ hd]
  generalize (execOp a.eval o).run P w = r at *
  have nd : (Fence.wide.inRound l).depth.isSome = true → 1 ≤ n := fun h => by cases h
  cases r with
  | ok x w' =>
    cases x <;> simp only [Oper.upon, Oper.uponIn] at h ⊢
    case value v => exact h
    case skip => exact h
    case defer d => exact h
    case enter f args => exact ⟨nd, CallsIn.inRound l (callsIn_wide.2 h)⟩
    case row row args => exact ⟨nd, fun c cs _ => let ⟨v, w', r, s⟩ := h c cs; ⟨v, w', r, stepsIn_wide.2 s⟩⟩
  | halt x w' => cases x <;> simp only [Oper.upon, Oper.uponIn] at h ⊢ <;> exact h
theorem wpOpIn_of {i : Nat} {a : Act} {w : World} {K K' : Act → World → Prop} (hK : ∀ a w, K a w → K' a w) (hd : ∀ o ∈ ops, ∀ c, o.op ≠ .defer c) (hL : ¬ LetsOut Q) (h : wpOp P ops Q i K a w) : wpOpIn (Fence.wide.inRound l) n P ops Q i K' a w := by
  unfold wpOp at h
  unfold wpOpIn
  cases ho : ops[i]? with
  | none => rw [ho] at h; exact hK _ _ h
  | some o =>
    rw [ho] at h
    simp only at h ⊢
    by_cases hw : Region.wanted o (yielded ops a.tmps) = true
    · rw [if_pos hw] at h ⊢
      rcases h with h | ⟨_, h⟩
      · exact operIn_of hK (hd o (Array.mem_of_getElem? ho)) h
      · exact absurd h hL
    · rw [if_neg hw] at h ⊢
      exact ⟨fun _ _ => trivial, hK _ _ h⟩
theorem wpAnyIn_of (hd : ∀ o ∈ ops, ∀ c, o.op ≠ .defer c) (hL : ¬ LetsOut Q) : ∀ (fuel : Nat) (listed : Array Bool) (a : Act) (w : World), wpAny P md ops Q fuel listed a w → wpAnyIn (Fence.wide.inRound l) n P md ops Q fuel listed a w
  | 0, _, _, _, h => h
  | fuel + 1, _, _, _, h => ⟨h.1, fun i hi => wpOpIn_of (fun a' w' h' => wpAnyIn_of hd hL fuel _ a' w' h') hd hL (h.2 i hi)⟩
theorem no_defer (h : (ops.all fun o => match o.op with | .defer _ => false | _ => true) = true) : ∀ o ∈ ops, ∀ c, o.op ≠ .defer c := by
  intro o ho c e
  have := Array.all_eq_true'.1 h o ho
  rw [e] at this
  cases this
/-- Whatever comes up, S holds behind it, but behind operation e. -/
def anyE (P : Program) (md : Region.Mode) (ops : Array Oper) (Q : Exit → Act → World → Prop) (S : World → Prop) (e : Nat) : Nat → Array Bool → Act → World → Prop
  | 0, listed, a, w => Region.ready md ops listed = [] ∧ Q .normal a w
  | fuel + 1, listed, a, w => (Region.ready md ops listed = [] → Q .normal a w) ∧
      ∀ j ∈ Region.ready md ops listed, wpOp P ops Q j (fun a' w' => (j ≠ e → S w') ∧ anyE P md ops Q S e fuel (listed.setIfInBounds j true) a' w') a w
variable {S : World → Prop} {e : Nat}
theorem any_of_E : ∀ (fuel : Nat) (listed : Array Bool) (a : Act) (w : World), anyE P md ops Q S e fuel listed a w → wpAny P md ops Q fuel listed a w
  | 0, _, _, _, h => h
  | fuel + 1, _, _, _, h => ⟨h.1, fun j hj => wpOp_mono (fun a' w' h' => any_of_E fuel _ a' w' h'.2) (h.2 j hj)⟩
/-- operation e waits for operation i. -/
def waits (md : Region.Mode) (ops : Array Oper) (e i : Nat) : Bool := match ops[e]? with | some o => o.after.any fun d => Region.binds md d && d.on == i | none => true
theorem not_ready_of_waits {listed : Array Bool} {i : Nat} (hw : waits md ops e i = true) (hi : listed.getD i false = false) : e ∉ Region.ready md ops listed := by
  intro he
  obtain ⟨_, o, ho, hall⟩ := mem_ready.1 he
  unfold waits at hw
  rw [ho] at hw
  obtain ⟨k, hk, hd⟩ := Array.any_eq_true.1 hw
  simp only [Bool.and_eq_true, beq_iff_eq] at hd
  have := hall o.after[k] (Array.getElem_mem hk) hd.1
  rw [hd.2, hi] at this
  cases this
theorem unlisted {listed : Array Bool} {i : Nat} (hr : i ∈ Region.ready md ops listed) : listed.getD i false = false := by
  have h0 := (mem_ready.1 hr).1
  rcases Nat.lt_or_ge i listed.size with h' | h'
  · simp [h'] at h0 ⊢; exact h0
  · simp [Array.getElem?_eq_none h'] at h0
theorem E_first {i : Nat} {oi : Oper} {v : Value} (hi : ops[i]? = some oi) (hsel : ∀ (j : Nat) (o : Oper) cs b, ops[j]? = some o → o.op ≠ .select cs b) (hQ : ∀ c a w, Q (.panic c) (a.put oi.dst v) w → Q (.panic c) a w) (hw : waits md ops e i = true) :
    ∀ (fuel : Nat) (listed : Array Bool) (a : Act) (w : World),
      (∀ j oj, ops[j]? = some oj → j ≠ i → listed.getD j true = false → (∀ d ∈ oj.after, Region.binds md d = true → d.on ≠ i) → oi.apart ops oj = true) →
      i ∈ Region.ready md ops listed → YieldsIf P ops S oi v a → S w → anyE P md ops Q S e fuel (listed.setIfInBounds i true) (a.put oi.dst v) w → anyE P md ops Q S e (fuel + 1) listed a w := by
  intro fuel
  induction fuel with
  | zero =>
    intro listed a w _ hr hy hS H
    refine ⟨fun h => (by rw [h] at hr; cases hr), fun j hj => ?_⟩
    by_cases hji : j = i
    · subst hji
      exact hy.wpOp hi hS ⟨fun _ => hS, H⟩
    · have := ready_mono hj hji
      rw [H.1] at this
      cases this
  | succ fuel ih =>
    intro listed a w hfree hr hy hS H
    refine ⟨fun h => (by rw [h] at hr; cases hr), fun j hj => ?_⟩
    by_cases hji : j = i
    · subst hji
      exact hy.wpOp hi hS ⟨fun _ => hS, H⟩
    · have hje : j ≠ e := fun h => not_ready_of_waits hw (unlisted hr) (h ▸ hj)
      have h1 := H.2 j (ready_mono hj hji)
      obtain ⟨hjun, oj, hoj, hall⟩ := mem_ready.1 hj
      have hnot : ∀ d ∈ oj.after, Region.binds md d = true → d.on ≠ i := fun d hd hb heq => by
        have := hall d hd hb
        rw [heq, unlisted hr] at this
        cases this
      have h2 := wpOp_putIf hoj (hfree j oj hoj hji hjun hnot) (fun cs b => hsel i oi cs b hi) (fun cs b => hsel j oj cs b hoj) hQ hy h1
      have hfree' : ∀ k ok, ops[k]? = some ok → k ≠ i → (listed.setIfInBounds j true).getD k true = false → (∀ d ∈ ok.after, Region.binds md d = true → d.on ≠ i) → oi.apart ops ok = true := fun k ok hk hki hun hno => by
        refine hfree k ok hk hki ?_ hno
        by_cases hjk : j = k
        · subst hjk; exact hjun
        · rw [getD_set_ne true hjk] at hun; exact hun
      refine wpOp_mono (fun a' w' h3 => ⟨h3.2.1, ih (listed.setIfInBounds j true) a' w' hfree' (ready_mono hr (Ne.symm hji)) h3.1 (h3.2.1 hje) ?_⟩) h2
      rw [Array.setIfInBounds_comm _ _ hji]
      exact h3.2.2
/-- take operation i first. -/
theorem E_take (i : Nat) {oi : Oper} (v : Value) {fuel : Nat} {listed : Array Bool} {a : Act} {w : World} (hi : ops[i]? = some oi) (hs : Region.noSelect ops = true) (hf : Region.free md ops listed i = true) (hr : (Region.ready md ops listed).contains i = true) (hw : waits md ops e i = true)
    (hQ : ∀ c a w, Q (.panic c) (a.put oi.dst v) w → Q (.panic c) a w) (hy : YieldsIf P ops S oi v a) (hS : S w) (h : anyE P md ops Q S e fuel (listed.setIfInBounds i true) (a.put oi.dst v) w) : anyE P md ops Q S e (fuel + 1) listed a w :=
  E_first hi (Region.noSelect_spec hs) hQ hw fuel listed a w (Region.free_spec hi hf) (by simpa using hr) hy hS h
/-- one operation alone may come up. -/
theorem E_one (j : Nat) {o : Oper} {fuel : Nat} {listed : Array Bool} {a : Act} {w : World} (hr : Region.ready md ops listed = [j]) (ho : ops[j]? = some o)
    (h : ∀ K : Act → World → Prop, Shut (∀ a w, (j ≠ e → S w) → anyE P md ops Q S e fuel (listed.setIfInBounds j true) a w → K a w) → if Region.wanted o (yielded ops a.tmps) = true then Oper.wp P o a w K Q else K (a.put o.dst undef) w) : anyE P md ops Q S e (fuel + 1) listed a w := by
  refine ⟨fun h0 => (by rw [hr] at h0; cases h0), fun i hi => ?_⟩
  rw [hr] at hi
  obtain rfl : i = j := by simpa using hi
  exact wpOp_step ho (fun K hK => h K (fun a w hS hW => hK a w ⟨hS, hW⟩))
theorem E_done {listed : Array Bool} {a : Act} {w : World} (hr : Region.ready md ops listed = []) (h : Q .normal a w) : ∀ fuel, anyE P md ops Q S e fuel listed a w
  | 0 => ⟨hr, h⟩
  | _ + 1 => ⟨fun _ => h, by rw [hr]; simp⟩
/-- THE LAW: at a goal of a region that draws, in a round; S is not asked behind operation e. -/
theorem wpIn_region_round (S : World → Prop) (e : Nat) {id : Nat} {a : Act} {w : World} (hm : P.follows .mixedOrders = true) (hd : (ops.all fun o => match o.op with | .defer _ => false | _ => true) = true) (hL : ¬ LetsOut Q)
    (h : anyE P .any ops Q S e ops.size (Array.replicate ops.size false) a w.drew) : (Code.region id ops true).wpIn (Fence.wide.inRound l) n P Q a w :=
  wpIn_region_any hm (wpAnyIn_of (no_defer hd) hL _ _ _ _ (any_of_E _ _ _ _ h))
/-- the same where no round is. -/
theorem wp_region_E (S : World → Prop) (e : Nat) {id : Nat} {a : Act} {w : World} (hm : P.follows .mixedOrders = true)
    (h : anyE P .any ops Q S e ops.size (Array.replicate ops.size false) a w.drew) : (Code.region id ops true).wp P Q a w :=
  wp_region_any hm (any_of_E _ _ _ _ h)
end
end Go.Proofs.YtgbkjdpjilldmaaGreatDoor.Round
