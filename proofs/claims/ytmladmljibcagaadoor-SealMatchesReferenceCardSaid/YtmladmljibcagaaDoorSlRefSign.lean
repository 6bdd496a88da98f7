/- The reference's Sign. -/
import Derived.Test.YtmladmljibcagaaDoorSlRefSignNo
namespace Go.Proofs.YtmladmljibcagaaDoor.Sl
open Go.RowKit
open Go.Proofs.YtmladmljibcagaaDoor.Dg hiding intOf
theorem set_grew (W : World) (g k : Nat) (v : Value) : W.grownBy (W.setCell ⟨g, k, none⟩ v) (some g) :=
  ⟨rfl, rfl, rfl, by simp [World.setCell], fun j _ hne => Below.heap_setCell W ⟨g, k, none⟩ v j (fun e => hne (by rw [e]))⟩
theorem set3_grew (W : World) (g : Nat) (x y z : Value) : W.grownBy (((W.setCell ⟨g, 0, none⟩ x).setCell ⟨g, 1, none⟩ y).setCell ⟨g, 2, none⟩ z) (some g) :=
  ⟨rfl, rfl, rfl, by simp [World.setCell], fun k _ hne => by
    have e : k ≠ g := fun e => hne (by rw [e])
    rw [Below.heap_setCell _ ⟨g, 2, none⟩ _ k e, Below.heap_setCell _ ⟨g, 1, none⟩ _ k e, Below.heap_setCell _ ⟨g, 0, none⟩ _ k e]⟩
def sgTo (sec : B) (i : Nat) (m : B) (k : Nat) : List B := (List.range k).map fun k => chainN (startOf sec i k) (dig m k)
/-- the state of Sign: the result's row, the seal's row, the digits, the texts made. -/
structure SG (w wr : World) (base g8 gt gd : Nat) (sec m : B) (i k : Nat) (v : Value) : Prop where
  r8 : IsRow wr g8 24 #[.int .i64 0, .slice none 0 0, .slice none 0 0]
  rt : IsRow wr gt 24 #[.int .i64 i, v, .slice none 0 0]
  dg : ∀ k, k < 18 → wr.cell? ⟨gd, k, none⟩ = some (.int .i64 ((dig m k : Nat) : Int))
  own : Own wr base v k (sgTo sec i m k)
  size : base ≤ wr.heap.size
  below : Below w.heap.size w wr
  lt : g8 < base ∧ gt < base ∧ gd < base ∧ g8 ≠ gt ∧ gd ≠ gt ∧ w.heap.size ≤ gt
theorem SG.next {w wr w2 w3 : World} {base g8 gt gd : Nat} {sec m : B} {i k : Nat} {v : Value} {g c : Nat} (h : SG w wr base g8 gt gd sec m i k v) (hb : Below wr.heap.size wr w2) (hg : w2.grownBy w3 v.ownBlock) (hlt : ∀ k, v.ownBlock = some k → base ≤ k ∧ k < w2.heap.size)
    (ho : Own w3 base (.slice (some ⟨g, 0, none⟩) (k + 1) c) (k + 1) (sgTo sec i m k ++ [chainN (startOf sec i k) (dig m k)])) :
    SG w (w3.setCell ⟨gt, 1, none⟩ (.slice (some ⟨g, 0, none⟩) (k + 1) c)) base g8 gt gd sec m i (k + 1) (.slice (some ⟨g, 0, none⟩) (k + 1) c) := by
  obtain ⟨l1, l2, l3, l4, l5, l6⟩ := h.lt
  have hne : ∀ x, x < base → some x ≠ v.ownBlock := fun x hx e => by have := (hlt x e.symm).1; omega
  have a8 := h.r8.below hb h.r8.inside
  have at_ := h.rt.below hb h.rt.inside
  have b8 : IsRow w3 g8 24 #[.int .i64 0, .slice none 0 0, .slice none 0 0] := (hg.block g8 a8.inside (hne _ l1)).trans a8
  have bt : IsRow w3 gt 24 #[.int .i64 i, v, .slice none 0 0] := (hg.block gt at_.inside (hne _ l2)).trans at_
  have hs := set_grew w3 gt 1 (.slice (some ⟨g, 0, none⟩) (k + 1) c)
  have hz : base ≤ w3.heap.size := Nat.le_trans h.size (Nat.le_trans hb.size hg.size)
  refine ⟨(hs.block g8 b8.inside (fun e => by injection e; omega)).trans b8, ?_, fun j hj => ?_, ?_, Nat.le_trans hz hs.size, ?_, h.lt⟩
  · have := bt.put 1 (.slice (some ⟨g, 0, none⟩) (k + 1) c)
    exact this
  · have c1 := kept hb (h.dg j hj)
    have c2 := hg.cell c1 (hne gd l3)
    exact hs.cell c2 (fun e => by have h5 : gd = gt := (by injection e); omega)
  · have := ho.kept hs (by
      refine .inr (fun e => ?_)
      have h5 : g = gt := (by injection e)
      have := (ho.lt g rfl).1
      omega)
    unfold sgTo at this ⊢
    rw [range_map_succ]
    exact this
  · exact ((h.below.trans (hb.mono h.below.size)).grown hg (Nat.le_trans h.below.size hb.size) (fun x e => by have := (hlt x e).1; omega)).grown hs (Nat.le_trans h.below.size (Nat.le_trans hb.size hg.size)) (fun x e => by injection e; omega)
theorem two_of2 {w w' : World} {p q : Addr} {x y : Value} (hb : Below w.heap.size w w') (h : w.cell? p = some x ∧ w.cell? q = some y) : w'.cell? p = some x ∧ w'.cell? q = some y := ⟨kept hb h.1, kept hb h.2⟩
set_option maxRecDepth 100000 in
set_option maxHeartbeats 8000000 in
theorem refsign_any (sec m : B) (h i : Nat) (w : World) (hs : sec.length ≤ 1000) (hm : m.length ≤ 1000) (hh : h ≤ 8) (hi : i < 2 ^ h) :
    Calls Tryd.prog 16 #[.string ⟨sec.toArray⟩, .int .i64 h, .int .i64 i, .string ⟨m.toArray⟩] w fun e w' => ∃ a c p cp, e = .returned (.tuple #[.agg #[.int .i64 i, .slice a 18 c, .slice p h cp], .int .i64 0]) ∧
      Txt w' w'.heap.size a (sigOf sec i m) ∧ Txt w' w'.heap.size p (pathOf sec h i) ∧ (18 ≤ c ∧ c ≤ maxLen) ∧ (h ≤ cp ∧ cp ≤ maxLen) ∧ Below w.heap.size w w' := by
  obtain ⟨q, hq⟩ : ∃ q, 2 ^ h = q := ⟨_, rfl⟩
  have HQ := Lib.hid hq
  have hiq : i < q := by rw [← hq]; exact hi
  have hq256 : q ≤ 256 := by rw [← hq]; exact Nat.le_trans (Nat.pow_le_pow_right (by decide) hh) (by decide)
  have HI := Lib.hid hi
  have i1 : ¬ (h : Int) < 0 := by omega
  have i2 : ¬ (8 : Int) < (h : Int) := by omega
  have i3 : ¬ (i : Int) < 0 := by omega
  have i4 : ¬ (q : Int) ≤ (i : Int) := by omega
  clear hq hi
  go_enter Tryd.func16, Tryd.ntmps16
  go_wp2_with fail
  refine (power_of h q _ hh HQ.out).mono ?_
  rintro e w' ⟨rfl, rfl⟩
  have r8 := (IsRow.made w 24 #[.int .i64 0, .slice none 0 0, .slice none 0 0]).later (.cells #[.int .i64 i, .slice none 0 0, .slice none 0 0] 24)
  have rt := IsRow.made (w.alloc (.cells #[.int .i64 0, .slice none 0 0, .slice none 0 0] 24)) 24 #[.int .i64 i, .slice none 0 0, .slice none 0 0]
  rw [World.size_alloc] at rt
  have b1 : Below w.heap.size w ((w.alloc (.cells #[.int .i64 0, .slice none 0 0, .slice none 0 0] 24)).alloc (.cells #[.int .i64 i, .slice none 0 0, .slice none 0 0] 24)) := ((Below.refl _ w).alloc (Nat.le_refl _) _).alloc (by simp) _
  have R8 := Lib.hid r8
  have RT := Lib.hid rt
  have B1 := Lib.hid b1
  clear r8 rt b1
  go_wp2_with fail
  refine (refdigits_any m _ (by omega)).mono ?_
  rintro e w2 ⟨gd, cd, rfl, hgd0, hgd, hcd, hb2⟩
  have hz : w.heap.size + 2 ≤ gd := by simpa using hgd0
  have ST : Hid (SG w w2 w2.heap.size w.heap.size (w.heap.size + 1) gd sec m i 0 (.slice none 0 0)) :=
    ⟨R8.out.below hb2 R8.out.inside, RT.out.below hb2 RT.out.inside, hcd, Own.nil _ _, Nat.le_refl _, B1.out.trans (hb2.mono B1.out.size), by omega, by omega, hgd, by omega, by omega, by omega⟩
  clear R8 RT B1 hb2 hcd hgd0 hgd hz
  go_wp2
  go_loopw [12] (fun j wr => ∃ (k : Nat) (v : Value), k ≤ 18 ∧ j = .int .i64 k ∧ Hid (SG w wr w2.heap.size w.heap.size (w.heap.size + 1) gd sec m i k v)) (fun j _ => 18 - (intOf j).toNat)
  case atStart => exact ⟨0, _, by omega, rfl, ST⟩
  case round =>
    clear ST
    obtain ⟨k, v, hk, rfl, ST⟩ := hrel
    by_cases hlt : k < 18
    · have hd16 := dig_lt m k hlt
      have SS : wr.drew.cell? ⟨w.heap.size + 1, 1, none⟩ = some v ∧ wr.drew.cell? ⟨gd, k, none⟩ = some (.int .i64 ((dig m k : Nat) : Int)) := ⟨ST.out.rt.get 1, ST.out.dg k hlt⟩
      go_wp2
      refine Round.wp_region_E (fun w' => w'.cell? ⟨w.heap.size + 1, 1, none⟩ = some v ∧ w'.cell? ⟨gd, k, none⟩ = some (.int .i64 ((dig m k : Nat) : Int))) 14 (by kernel_rfl) ?_
      refine Round.E_take 0 (.pointer (some ⟨w.heap.size + 1, 1, none⟩)) rfl (by kernel_rfl) (by kernel_rfl) (by kernel_rfl) (by kernel_rfl) (fun _ _ _ h => h) (Or.inl ⟨by rfl, fun w hSw => by (try dsimp only at hSw); go_simp⟩) SS ?_
      try simp only [Act.put, List.setIfInBounds_toArray]
      refine Round.E_take 1 (v) rfl (by kernel_rfl) (by kernel_rfl) (by kernel_rfl) (by kernel_rfl) (fun _ _ _ h => h) (Or.inl ⟨by rfl, fun w hSw => by (try dsimp only at hSw); go_simp⟩) SS ?_
      try simp only [Act.put]
      refine Round.E_take 2 (.string ⟨sec.toArray⟩) rfl (by kernel_rfl) (by kernel_rfl) (by kernel_rfl) (by kernel_rfl) (fun _ _ _ h => h) (Or.inl ⟨by rfl, fun w hSw => by (try dsimp only at hSw); go_simp⟩) SS ?_
      try simp only [Act.put]
      refine Round.E_take 3 (.int .i64 i) rfl (by kernel_rfl) (by kernel_rfl) (by kernel_rfl) (by kernel_rfl) (fun _ _ _ h => h) (Or.inl ⟨by rfl, fun w hSw => by (try dsimp only at hSw); go_simp⟩) SS ?_
      try simp only [Act.put]
      refine Round.E_take 4 (.int .i64 k) rfl (by kernel_rfl) (by kernel_rfl) (by kernel_rfl) (by kernel_rfl) (fun _ _ _ h => h) (Or.inl ⟨by rfl, fun w hSw => by (try dsimp only at hSw); go_simp⟩) SS ?_
      try simp only [Act.put]
      refine Round.E_take 6 (.slice (some ⟨gd, 0, none⟩) 18 cd) rfl (by kernel_rfl) (by kernel_rfl) (by kernel_rfl) (by kernel_rfl) (fun _ _ _ h => h) (Or.inl ⟨by rfl, fun w hSw => by (try dsimp only at hSw); go_simp⟩) SS ?_
      try simp only [Act.put]
      refine Round.E_take 7 (.int .i64 k) rfl (by kernel_rfl) (by kernel_rfl) (by kernel_rfl) (by kernel_rfl) (fun _ _ _ h => h) (Or.inl ⟨by rfl, fun w hSw => by (try dsimp only at hSw); go_simp⟩) SS ?_
      try simp only [Act.put]
      refine Round.E_take 8 (.pointer (some ⟨gd, k, none⟩)) rfl (by kernel_rfl) (by kernel_rfl) (by kernel_rfl) (by kernel_rfl) (fun _ _ _ h => h) (Or.inl ⟨by rfl, fun w hSw => by (try dsimp only at hSw); go_simp⟩) SS ?_
      try simp only [Act.put]
      refine Round.E_take 9 (.int .i64 ((dig m k : Nat) : Int)) rfl (by kernel_rfl) (by kernel_rfl) (by kernel_rfl) (by kernel_rfl) (fun _ _ _ h => h) (Or.inl ⟨by rfl, fun w hSw => by (try dsimp only at hSw); go_simp⟩) SS ?_
      try simp only [Act.put]
      have hb0 := below_drew' wr
      refine Round.E_one 5 (by kernel_rfl) rfl (fun K hK => ?_)
      go_simp
      refine (refstart_any sec i k _ hs (by omega) (by omega)).mono ?_
      rintro e w3 ⟨rfl, hb3⟩
      have s2 := two_of2 hb3 SS
      have b3 : Below wr.heap.size wr w3 := Below.trans hb0 hb3
      clear hb3 SS
      go_wp2_with fail
      refine hK.out _ _ (fun _ => s2) ?_
      clear hK K
      try simp only [Act.put, List.setIfInBounds_toArray, List.set_cons_zero, List.set_cons_succ]
      refine Round.E_one 10 (by kernel_rfl) rfl (fun K hK => ?_)
      go_simp
      refine (refchain_any (startOf sec i k) (dig m k) _ (Nat.le_trans (dsum_small _) (by decide)) (by omega)).mono ?_
      rintro e w' ⟨rfl, rfl⟩
      go_wp2_with fail
      refine hK.out _ _ (fun _ => s2) ?_
      clear hK K
      try simp only [Act.put, List.setIfInBounds_toArray, List.set_cons_zero, List.set_cons_succ]
      refine Round.E_one 11 (by kernel_rfl) rfl (fun K hK => ?_)
      go_simp
      have s4 := two_of2 (below_new w3 (.cells #[.string ⟨(chainN (startOf sec i k) (dig m k)).toArray⟩] 9)) s2
      have b4 := b3.trans ((below_new w3 (.cells #[.string ⟨(chainN (startOf sec i k) (dig m k)).toArray⟩] 9)).mono b3.size)
      refine hK.out _ _ (fun _ => s4) ?_
      clear hK K
      try simp only [Act.put, List.setIfInBounds_toArray, List.set_cons_zero, List.set_cons_succ]
      refine Round.E_one 12 (by kernel_rfl) rfl (fun K hK => ?_)
      refine step_app1 (by rfl) _ _ (by rfl) w2.heap.size v k (sgTo sec i m k) (chainN (startOf sec i k) (dig m k)) w3.heap.size (by rfl) (ST.out.own.later b4) (by rfl) (heap_alloc_new w3 _) (by omega) (Nat.le_trans ST.out.size b4.size) ?_
      intro g cap w4 ho4 hg4 hlt4 hsz4
      have SN := Lib.hid (ST.out.next b4 hg4 hlt4 ho4)
      obtain ⟨l1, l2, l3, l4, l5, l6⟩ := ST.out.lt
      have rt4 : IsRow w4 (w.heap.size + 1) 24 #[.int .i64 i, v, .slice none 0 0] := (hg4.block _ (ST.out.rt.below b4 ST.out.rt.inside).inside (fun e => by have h5 := (hlt4 _ e.symm).1; have h6 : w2.heap.size ≤ w.heap.size + 1 := h5; omega)).trans (ST.out.rt.below b4 ST.out.rt.inside)
      have s5 : w4.cell? ⟨w.heap.size + 1, 1, none⟩ = some v ∧ w4.cell? ⟨gd, k, none⟩ = some (.int .i64 ((dig m k : Nat) : Int)) := ⟨rt4.get 1, hg4.cell s4.2 (fun e => by have h5 := (hlt4 _ e.symm).1; have h6 : w2.heap.size ≤ gd := h5; omega)⟩
      refine hK.out _ _ (fun _ => s5) ?_
      clear hK K
      try simp only [Act.put, List.setIfInBounds_toArray]
      have SS := s5
      refine Round.E_take 13 (.pointer (some ⟨w.heap.size + 1, 1, none⟩)) rfl (by kernel_rfl) (by kernel_rfl) (by kernel_rfl) (by kernel_rfl) (fun _ _ _ h => h) (Or.inl ⟨by rfl, fun w hSw => by (try dsimp only at hSw); go_simp⟩) SS ?_
      try simp only [Act.put]
      have f3 := rt4.open_ 1
      have c3 := s5.1
      clear s5 s4 s2 rt4 ST ho4 hg4 hlt4 b3 b4 SS hb0 l1 l2 l3 l4 l5 l6
      refine Round.E_one 14 (by kernel_rfl) rfl (fun K hK => ?_)
      go_simp
      refine hK.out _ _ (fun h => absurd rfl h) ?_
      clear hK K
      refine Round.E_done (by kernel_rfl) ?_ _
      go_wp2
      go_roundw
      case rel => exact ⟨k + 1, _, by omega, by go_num, SN⟩
      case measure => simp [intOf]; omega
    · obtain rfl : k = 18 := by omega
      obtain ⟨gs, cs, rfl⟩ := ST.out.own.pos (by decide)
      go_wp2_with fail
      refine (refkeys_any sec h _ hs hh).mono ?_
      rintro e w3 ⟨gk, nk, ck, rfl, hnk, hok, hb3⟩
      have KX := Lib.hid hok.txt.2
      have HNK := Lib.hid hnk
      have HB3 := Lib.hid hb3
      clear hok hnk hb3
      go_wp2_with fail
      refine (refpath_any (some ⟨gk, 0, none⟩) nk ck h i (keysOf sec (2 ^ h)) _ KX.out HNK.out (keysOf_len _ _) hh HI.out (keysOf_small _ _)).mono ?_
      rintro e w4 ⟨p, cp, rfl, hop, hb4⟩
      have hbb := HB3.out.trans (hb4.mono HB3.out.size)
      obtain ⟨l1, l2, l3, l4, l5, l6⟩ := ST.out.lt
      have rt4 := ST.out.rt.below hbb ST.out.rt.inside
      have r84 := ST.out.r8.below hbb ST.out.r8.inside
      have own4 := ST.out.own.later hbb
      have bel4 := ST.out.below.trans (hbb.mono ST.out.below.size)
      have f4 := rt4.open_ 2
      have c4 := rt4.get 2
      have rt5 : IsRow (w4.setCell ⟨w.heap.size + 1, 2, none⟩ (.slice p h cp)) (w.heap.size + 1) 24 #[.int .i64 i, .slice (some ⟨gs, 0, none⟩) 18 cs, .slice p h cp] := rt4.put 2 (.slice p h cp)
      have r85 : IsRow (w4.setCell ⟨w.heap.size + 1, 2, none⟩ (.slice p h cp)) w.heap.size 24 #[.int .i64 0, .slice none 0 0, .slice none 0 0] := r84.putOther (by show w.heap.size ≠ w.heap.size + 1; omega) _
      have h1 := set_grew w4 (w.heap.size + 1) 2 (.slice p h cp)
      have own5 := own4.kept h1 (.inr (fun e => by have h5 : gs = w.heap.size + 1 := (by injection e); have := (own4.lt gs rfl).1; omega))
      have hsz4 : w.heap.size + 1 < w4.heap.size := rt4.inside
      have hop5 := hop.kept h1 (by
        cases hp : (Value.slice p h cp).ownBlock with
        | none => exact .inl rfl
        | some x => exact .inr (fun e => by
            have h5 : x = w.heap.size + 1 := (by injection e)
            have h6 := (hop.lt x hp).1
            have h7 := HB3.out.size
            have h8 := ST.out.size
            omega))
      have bel5 := bel4.grown h1 bel4.size (fun x e => by injection e; omega)
      obtain ⟨x0, x1, x2, _, _, _⟩ := store_facts rt5
      obtain ⟨z0, z1, z2, _, _, _⟩ := store_facts r85
      have R6 := set_three (x := .int .i64 i) (y := .slice (some ⟨gs, 0, none⟩) 18 cs) (z := .slice p h cp) r85
      have h2 := set3_grew (w4.setCell ⟨w.heap.size + 1, 2, none⟩ (.slice p h cp)) w.heap.size (.int .i64 i) (.slice (some ⟨gs, 0, none⟩) 18 cs) (.slice p h cp)
      have own6 := own5.kept h2 (.inr (fun e => by have h5 : gs = w.heap.size := (by injection e); have := (own4.lt gs rfl).1; omega))
      have hop6 := hop5.kept h2 (by
        cases hp : (Value.slice p h cp).ownBlock with
        | none => exact .inl rfl
        | some x => exact .inr (fun e => by
            have h5 : x = w.heap.size := (by injection e)
            have h6 := (hop.lt x hp).1
            have h7 := HB3.out.size
            have h8 := ST.out.size
            omega))
      have hsz5 : w.heap.size ≤ (w4.setCell ⟨w.heap.size + 1, 2, none⟩ (.slice p h cp)).heap.size := bel5.size
      have bel6 := bel5.grown h2 hsz5 (fun x e => by injection e; omega)
      have O6 := Lib.hid own6
      have P6 := Lib.hid hop6
      have E6 := Lib.hid bel6
      obtain ⟨y0, y1, y2, _, _, _⟩ := store_facts R6
      clear own6 hop6 bel6 h1 h2 own5 hop5 bel5 own4 bel4 rt4 r84 rt5 r85 R6 hbb hop hb4 l1 l2 l3 l4 l5 l6 ST
      go_wp2
      exact ⟨rfl, .tuple #[.agg #[.int .i64 i, .slice (some ⟨gs, 0, none⟩) 18 cs, .slice p h cp], .int .i64 0], by simp [results, Tryd.f16, go_sem, y0, y1, y2], _, _, _, _, rfl, O6.out.txt.2, P6.out.txt.2, O6.out.cap, P6.out.cap, E6.out⟩
end Go.Proofs.YtmladmljibcagaaDoor.Sl
