/- The law's head. -/
import Derived.Test.YtlgmlgogpohgoaaSwHead
namespace Go.Proofs.Ytlgmlgogpohgoaa.Sw
open Go.RowKit Go.Sort Go.Shelf
open Go.Proofs.Ytlgmlgogpohgoaa.Geo hiding intOf
instance decMet (p q : Met) : Decidable (p = q) := decidable_of_iff (p.a = q.a ∧ p.b = q.b ∧ p.k = q.k) ⟨fun h => Met.ext' h.1 h.2.1 h.2.2, fun h => h ▸ ⟨rfl, rfl, rfl⟩⟩
theorem own_lit {α : Type} {enc : α → List Value} {n : Nat} {t : TypeId} (he : ∀ x, (enc x).length = n) (w : World) (l : List α) (hn : l.length ≤ 1000) :
    Own enc n t (w.alloc (.cells (l.flatMap enc).toArray t)) w.heap.size (.slice (some ⟨w.heap.size, 0, none⟩) l.length l.length) l := by
  have h := World.ownsRow_lit (e := t) (size := n) w (l.flatMap enc).toArray l.length (Nat.le_refl _) (by unfold maxLen; omega) (by rw [List.size_toArray, flat_len he])
  rw [List.toList_toArray] at h
  exact h
theorem segs_own {w : World} {base : Nat} {a : Option Addr} {m cap : Nat} {l : List Sg} (h : OwnG w base (.slice a m cap) l) : Segs w w.heap.size a l := by
  obtain ⟨a', cap', hv, _, _, hs⟩ := OwnG.segs h
  injection hv with e1 e2 e3
  subst e1
  exact hs
def lit1 : List Sg := [⟨⟨0, 0⟩, ⟨4, 4⟩⟩, ⟨⟨0, 4⟩, ⟨4, 0⟩⟩, ⟨⟨9, 9⟩, ⟨9, 9⟩⟩]
def lit2 : List Sg := [⟨⟨0, 0⟩, ⟨4, 0⟩⟩, ⟨⟨4, 0⟩, ⟨4, 4⟩⟩, ⟨⟨2, 0⟩, ⟨2, 5⟩⟩, ⟨⟨4, 0⟩, ⟨0, 0⟩⟩]
def out1 : List Met := [⟨0, 1, 3⟩]
def out2 : List Met := [⟨0, 1, 1⟩, ⟨0, 2, 2⟩, ⟨0, 3, 4⟩, ⟨1, 3, 1⟩, ⟨2, 3, 2⟩]
theorem ans1 : ansN lit1 = out1 := by decide +kernel
theorem ans2 : ansN lit2 = out2 := by decide +kernel
set_option maxRecDepth 100000 in
set_option maxHeartbeats 4000000 in
theorem head_any : Answers Try.prog 27 #[] (.bool true) := by
  intro w
  go_enter Try.func27, Try.ntmps27
  go_wp2_with fail
  refine (side_any 0 0 4 4 _).mono ?_
  rintro e w1 ⟨rfl, b1⟩
  have B1 := Lib.hid b1
  clear b1
  go_wp2_with fail
  refine (side_any 0 4 4 0 _).mono ?_
  rintro e w2 ⟨rfl, b2⟩
  have B2 := Lib.hid (B1.out.trans (b2.mono B1.out.size))
  clear b2 B1
  go_wp2_with fail
  refine (side_any 9 9 9 9 _).mono ?_
  rintro e w3 ⟨rfl, b3⟩
  have B3 := Lib.hid (B2.out.trans (b3.mono B2.out.size))
  clear b3 B2
  go_wp2_with fail
  have o1 := own_lit (t := 36) encG_len w3 lit1 (by decide)
  have a1 := alloc1 w3 (.cells (lit1.flatMap encG).toArray 36)
  refine (all_any _ 3 3 lit1 _ (segs_own o1) rfl (by decide)).mono ?_
  rintro e w4 ⟨⟨v1, rfl, h1⟩, b4⟩
  rw [ans1] at h1
  have B4 := Lib.hid (B3.out.trans ((a1.trans (b4.mono a1.size)).mono B3.out.size))
  have H1 := Lib.hid h1
  clear o1 a1 b4 B3 h1
  go_wp2_with fail
  refine (side_any 0 0 4 0 _).mono ?_
  rintro e w5 ⟨rfl, b5⟩
  have B5 := Lib.hid (B4.out.trans (b5.mono B4.out.size))
  have H5 := Lib.hid (Own.below H1.out b5)
  clear b5 B4 H1
  go_wp2_with fail
  refine (side_any 4 0 4 4 _).mono ?_
  rintro e w6 ⟨rfl, b6⟩
  have B6 := Lib.hid (B5.out.trans (b6.mono B5.out.size))
  have H6 := Lib.hid (Own.below H5.out b6)
  clear b6 B5 H5
  go_wp2_with fail
  refine (side_any 2 0 2 5 _).mono ?_
  rintro e w7 ⟨rfl, b7⟩
  have B7 := Lib.hid (B6.out.trans (b7.mono B6.out.size))
  have H7 := Lib.hid (Own.below H6.out b7)
  clear b7 B6 H6
  go_wp2_with fail
  refine (side_any 4 0 0 0 _).mono ?_
  rintro e w8 ⟨rfl, b8⟩
  have B8 := Lib.hid (B7.out.trans (b8.mono B7.out.size))
  have H8 := Lib.hid (Own.below H7.out b8)
  clear b8 B7 H7
  go_wp2_with fail
  have o2 := own_lit (t := 36) encG_len w8 lit2 (by decide)
  have a2 := alloc1 w8 (.cells (lit2.flatMap encG).toArray 36)
  refine (all_any _ 4 4 lit2 _ (segs_own o2) rfl (by decide)).mono ?_
  rintro e w9 ⟨⟨v2, rfl, h2⟩, b9⟩
  rw [ans2] at h2
  have B9 := Lib.hid (B8.out.trans ((a2.trans (b9.mono a2.size)).mono B8.out.size))
  have H9 := Lib.hid (Own.below (Own.below H8.out a2) b9)
  have H2 := Lib.hid h2
  clear o2 a2 b9 B8 h2 H8
  go_wp2_with fail
  have o3 := own_lit (t := 48) encM_len w9 out2 (by decide)
  have a3 := alloc1 w9 (.cells (out2.flatMap encM).toArray 48)
  have o4 := own_lit (t := 48) encM_len (w9.alloc (.cells (out2.flatMap encM).toArray 48)) out1 (by decide)
  have a4 := alloc1 (w9.alloc (.cells (out2.flatMap encM).toArray 48)) (.cells (out1.flatMap encM).toArray 48)
  have o1 := Own.below (Own.below H9.out a3) a4
  have o2 := Own.below (Own.below H2.out a3) a4
  have o3' := Own.below o3 a4
  have b34 := a3.trans (a4.mono a3.size)
  rw [World.size_alloc] at o4
  refine (same_any _ _ v1 _ out1 _ o1 o4 (by decide)).mono ?_
  rintro e w10 ⟨rfl, b10⟩
  have B10 := Lib.hid (B9.out.trans ((b34.trans (b10.mono b34.size)).mono B9.out.size))
  have O2 := Lib.hid (Own.below o2 b10)
  have O3 := Lib.hid (Own.below o3' b10)
  clear o1 o2 o3 o3' o4 a3 a4 b34 b10 B9 H9 H2
  go_wp2_with fail
  refine (same_any _ _ v2 _ out2 _ O2.out O3.out (by decide)).mono ?_
  rintro e w11 ⟨rfl, b11⟩
  have B11 := Lib.hid (B10.out.trans (b11.mono B10.out.size))
  clear b11 B10 O2 O3
  go_wp2
  go_ret
  exact ⟨rfl, B11.out⟩
end Go.Proofs.Ytlgmlgogpohgoaa.Sw
