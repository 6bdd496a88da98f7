/- The examples at the head of each law of seals. -/
import Derived.Test.YtanlpcdljclnmaaDoorSlHead
import Derived.Test.YtanlpcdljclnmaaDoorSlTmp
namespace Go.Proofs.YtanlpcdljclnmaaDoor.Sl
open Go.RowKit
open Go.Proofs.YtanlpcdljclnmaaDoor.Dg hiding intOf
def secB : B := [115, 101, 99, 114, 101, 116]
def msgB : B := [109, 101, 115, 115, 97, 103, 101]
theorem public_of (sec : B) (s : ByteArray) (h : Nat) (a : Int) (w : World) (ha : a = (h : Int)) (hs' : s = ⟨sec.toArray⟩) (ht : Tab w) (hs : sec.length ≤ 1000) (hh : h ≤ 8) :
    Calls Tryd.prog 6 #[.string s, .int .i64 a] w fun e w' => e = .returned (.tuple #[.string ⟨(pubOf sec h).toArray⟩, .int .i64 0]) ∧ Below w.heap.size w w' := by
  subst ha hs'; exact public_any sec h w ht hs hh
theorem sign_of (sec m : B) (s t : ByteArray) (h i : Nat) (a b : Int) (w : World) (ha : a = (h : Int)) (hb : b = (i : Int)) (hs' : s = ⟨sec.toArray⟩) (hm' : t = ⟨m.toArray⟩) (ht : Tab w) (hs : sec.length ≤ 1000) (hm : m.length ≤ 1000) (hh : h ≤ 8) (hi : i < 2 ^ h) :
    Calls Tryd.prog 7 #[.string s, .int .i64 a, .int .i64 b, .string t] w fun e w' => ∃ a c p cp, e = .returned (.tuple #[.agg #[.int .i64 b, .slice a 18 c, .slice p h cp], .int .i64 0]) ∧
      Txt w' w'.heap.size a (sigOf sec i m) ∧ Txt w' w'.heap.size p (pathOf sec h i) ∧ (18 ≤ c ∧ c ≤ maxLen) ∧ (h ≤ cp ∧ cp ≤ maxLen) ∧ Below w.heap.size w w' := by
  subst ha hb hs' hm'; exact sign_any sec m h i w ht hs hm hh hi
theorem sign_no_of (sec m : B) (s t : ByteArray) (h i : Int) (w : World) (hs' : s = ⟨sec.toArray⟩) (hm' : t = ⟨m.toArray⟩) (hh : (decide (0 ≤ h) && decide (h ≤ 8)) = false ∨ (∃ k : Nat, h = (k : Int) ∧ k ≤ 8 ∧ inB i k = false)) :
    Calls Tryd.prog 7 #[.string s, .int .i64 h, .int .i64 i, .string t] w fun e w' => e = .returned (.tuple #[.agg #[.int .i64 0, .slice none 0 0, .slice none 0 0], .int .i64 1]) ∧ Below w.heap.size w w' := by
  subst hs' hm'; exact sign_no sec m h i w hh
theorem verify_of (pub m : B) (s t : ByteArray) (idx : Int) (a p : Option Addr) (na ca np cp : Nat) (sig ps : List B) (b : Bool) (w : World) (hs' : s = ⟨pub.toArray⟩) (hm' : t = ⟨m.toArray⟩) (ht : Tab w) (hl : Txt w w.heap.size a sig) (hp : Txt w w.heap.size p ps) (hna : na = sig.length) (hnp : np = ps.length)
    (hm : m.length ≤ 1000) (h1 : na ≤ 1000000) (h2 : np ≤ 1000000) (hx : ∀ x ∈ sig, x.length ≤ 1000) (hy : ∀ x ∈ ps, x.length ≤ 1000) (hb : verB pub m idx sig ps = b) :
    Calls Tryd.prog 9 #[.string s, .string t, .agg #[.int .i64 idx, .slice a na ca, .slice p np cp]] w fun e w' => e = .returned (.bool b) ∧ Below w.heap.size w w' := by
  subst hs' hm' hb; exact verify_any pub m idx a p na ca np cp sig ps w ht hl hp hna hnp hm h1 h2 hx hy
theorem sigOf_small (sec : B) (i : Nat) (m : B) : ∀ x ∈ sigOf sec i m, x.length ≤ 1000 := by
  intro x hx
  simp only [sigOf, List.mem_map] at hx
  obtain ⟨k, _, rfl⟩ := hx
  exact chainN_len _ (dsum_small _) (by decide) _
theorem pathOf_small (sec : B) (h i : Nat) : ∀ x ∈ pathOf sec h i, x.length ≤ 1000 := by
  intro x hx
  simp only [pathOf, pathN, List.mem_map] at hx
  obtain ⟨d, _, rfl⟩ := hx
  exact getD_small (lev_small (keysOf_small _ _) d) _
theorem three_allocs {w : World} {g : Nat} {t : TypeId} {a b c : Value} (h : IsRow w g t #[a, b, c]) (o1 o2 o3 : Obj) :
    (((w.alloc o1).alloc o2).alloc o3).cell? ⟨g, 0, none⟩ = some a ∧ (((w.alloc o1).alloc o2).alloc o3).cell? ⟨g, 1, none⟩ = some b ∧ (((w.alloc o1).alloc o2).alloc o3).cell? ⟨g, 2, none⟩ = some c := by
  have r := ((h.later o1).later o2).later o3
  exact ⟨r.get 0, r.get 1, r.get 2⟩
structure HW (Y : World) (g1 g2 g3 ba oa c bp op cp : Nat) : Prop where
  r1 : IsRow Y g1 29 #[.int .i64 3, .slice (some ⟨ba, oa, none⟩) 18 c, .slice (some ⟨bp, op, none⟩) 2 cp]
  r2 : IsRow Y g2 29 #[.int .i64 3, .slice (some ⟨ba, oa, none⟩) 18 c, .slice (some ⟨bp, op, none⟩) 1 cp]
  r3 : IsRow Y g3 29 #[.int .i64 3, .slice (some ⟨ba, oa + 1, none⟩) 17 (c - 1), .slice (some ⟨bp, op, none⟩) 2 cp]
  tab : Tab Y
  ts : Txt Y Y.heap.size (some ⟨ba, oa, none⟩) (sigOf secB 3 msgB)
  tp : Txt Y Y.heap.size (some ⟨bp, op, none⟩) (pathOf secB 2 3)
theorem HW.later {Y Z : World} {g1 g2 g3 ba oa c bp op cp : Nat} (h : HW Y g1 g2 g3 ba oa c bp op cp) (hb : Below Y.heap.size Y Z) : HW Z g1 g2 g3 ba oa c bp op cp :=
  ⟨h.r1.below hb h.r1.inside, h.r2.below hb h.r2.inside, h.r3.below hb h.r3.inside, Tab.at_ h.tab hb, h.ts.later hb, h.tp.later hb⟩
theorem path_len (sec : B) (h i : Nat) : (pathOf sec h i).length = h := pathN_len _ _ _
theorem ver_1 : verB (pubOf secB 2) msgB 3 (sigOf secB 3 msgB) (pathOf secB 2 3) = true := ver_own secB 2 3 msgB (by decide) (by decide)
theorem ver_2 (pub : B) (sig : List B) : verB pub msgB 3 sig ((pathOf secB 2 3).take 1) = false := by
  unfold verB formed
  rw [List.length_take, path_len]
  simp
theorem ver_3 (pub : B) (sig ps : List B) (h : sig.length ≠ 18) : verB pub msgB 3 sig ps = false := by
  unfold verB formed
  simp [h]
theorem ver_4 : verB [] msgB 3 (sigOf secB 3 msgB) (pathOf secB 2 3) = false := by
  unfold verB
  have : rootBy msgB (3 : Int).toNat (sigOf secB 3 msgB) (pathOf secB 2 3) ≠ [] := by
    rw [show (3 : Int).toNat = 3 from rfl, rootBy_own secB 2 3 msgB (by decide)]
    intro e
    have := isDig_pub secB 2
    rw [e] at this
    cases this
  rw [decide_eq_false this, Bool.and_false]
theorem take_small {L : List B} {m : Nat} (h : ∀ x ∈ L, x.length ≤ m) (k : Nat) : ∀ x ∈ L.take k, x.length ≤ m := fun x hx => h x (List.mem_of_mem_take hx)
theorem drop_small {L : List B} {m : Nat} (h : ∀ x ∈ L, x.length ≤ m) (k : Nat) : ∀ x ∈ L.drop k, x.length ≤ m := fun x hx => h x (List.mem_of_mem_drop hx)
set_option maxRecDepth 100000 in
set_option maxHeartbeats 4000000 in
theorem head_any (w : World) (ht : Tab w) :
    Calls Tryd.prog 4 #[] w fun e w' => e = .returned (.bool true) ∧ Below w.heap.size w w' := by
  go_enter Tryd.func4, Tryd.ntmps4
  go_wp2_with fail
  refine (public_of secB _ 2 _ _ rfl rfl ht (by decide) (by decide)).mono ?_
  rintro e w1 ⟨rfl, hb1⟩
  have HB1 := Lib.hid hb1
  have T1 := Lib.hid (Tab.at_ ht hb1)
  clear hb1 ht
  go_wp2_with fail
  refine (public_no secB 9 _ (by omega)).mono ?_
  rintro e w' ⟨rfl, rfl⟩
  go_wp2_with fail
  refine (sign_of secB msgB _ _ 2 3 _ _ _ rfl rfl rfl rfl T1.out (by decide) (by decide) (by decide) (by decide)).mono ?_
  rintro e w2 ⟨a, c, p, cp, rfl, hta, htp, ⟨hc1, hc2⟩, ⟨hp1, hp2⟩, hb2⟩
  have B2 : Hid (Below w.heap.size w w2) := HB1.out.trans (hb2.mono HB1.out.size)
  have T2 := Lib.hid (Tab.at_ T1.out hb2)
  have HA := Lib.hid hta
  have HP := Lib.hid htp
  clear hb2 hta htp T1 HB1
  go_wp2_with fail
  refine (sign_no_of secB msgB _ _ 2 4 _ rfl rfl (.inr ⟨2, rfl, by decide, by decide⟩)).mono ?_
  rintro e w3 ⟨rfl, hb3⟩
  obtain ⟨ba, oa, rfl, hba, _⟩ := HA.out.at_ (k := 0) (by rw [sigOf_len]; decide)
  obtain ⟨bp, op, rfl, hbp, _⟩ := HP.out.at_ (k := 0) (by rw [show (pathOf secB 2 3).length = 2 from pathN_len _ _ _]; decide)
  have R2 := IsRow.made w2 29 #[.int .i64 3, .slice (some ⟨ba, oa, none⟩) 18 c, .slice (some ⟨bp, op, none⟩) 2 cp]
  have b2 := below_new w2 (.cells #[.int .i64 3, .slice (some ⟨ba, oa, none⟩) 18 c, .slice (some ⟨bp, op, none⟩) 2 cp] 29)
  have b3 := b2.trans (hb3.mono b2.size)
  have R3 := R2.below hb3 R2.inside
  have T3 := Lib.hid (Tab.at_ T2.out b3)
  have HA3 := Lib.hid (HA.out.later b3)
  have HP3 := Lib.hid (HP.out.later b3)
  have B3 : Hid (Below w.heap.size w w3) := B2.out.trans (b3.mono B2.out.size)
  obtain ⟨s0, s1, s2, _, _, _⟩ := store_facts R3
  have hlt3 : w2.heap.size < w3.heap.size := R3.inside
  have HR3 := Lib.hid R3
  have q0 := fun o1 o2 o3 => (three_allocs R3 o1 o2 o3).1
  have q1 := fun o1 o2 o3 => (three_allocs R3 o1 o2 o3).2.1
  have q2 := fun o1 o2 o3 => (three_allocs R3 o1 o2 o3).2.2
  unfold maxLen at hc2 hp2
  clear R2 b2 b3 R3 hb3 T2 HA HP B2
  obtain ⟨X, hX⟩ : ∃ X, ((w3.alloc (.cells #[.int .i64 0, .slice none 0 0, .slice none 0 0] 29)).alloc (.cells #[.int .i64 3, .slice (some ⟨ba, oa, none⟩) 18 c, .slice (some ⟨bp, op, none⟩) 1 cp] 29)).alloc
      (.cells #[.int .i64 3, .slice (some ⟨ba, oa + 1, none⟩) 17 (c - 1), .slice (some ⟨bp, op, none⟩) 2 cp] 29) = X := ⟨_, rfl⟩
  have bX : Below w3.heap.size w3 X := hX ▸ (((Below.refl _ w3).alloc (Nat.le_refl _) _).alloc (by simp) _).alloc (by simp; omega) _
  have HX : Hid (HW X w2.heap.size (w3.heap.size + 1) (w3.heap.size + 1 + 1) ba oa c bp op cp) := by
    refine ⟨HR3.out.below bX HR3.out.inside, ?_, ?_, Tab.at_ T3.out bX, HA3.out.later bX, HP3.out.later bX⟩
    · have := (IsRow.made (w3.alloc (.cells #[.int .i64 0, .slice none 0 0, .slice none 0 0] 29)) 29 #[.int .i64 3, .slice (some ⟨ba, oa, none⟩) 18 c, .slice (some ⟨bp, op, none⟩) 1 cp]).later (.cells #[.int .i64 3, .slice (some ⟨ba, oa + 1, none⟩) 17 (c - 1), .slice (some ⟨bp, op, none⟩) 2 cp] 29)
      rw [World.size_alloc] at this
      exact hX ▸ this
    · have := IsRow.made ((w3.alloc (.cells #[.int .i64 0, .slice none 0 0, .slice none 0 0] 29)).alloc (.cells #[.int .i64 3, .slice (some ⟨ba, oa, none⟩) 18 c, .slice (some ⟨bp, op, none⟩) 1 cp] 29)) 29 #[.int .i64 3, .slice (some ⟨ba, oa + 1, none⟩) 17 (c - 1), .slice (some ⟨bp, op, none⟩) 2 cp]
      rw [World.size_alloc, World.size_alloc] at this
      exact hX ▸ this
  have BX : Hid (Below w.heap.size w X) := B3.out.trans (bX.mono B3.out.size)
  have HXE := Lib.hid hX
  clear hX bX
  go_wp2_with fail
  rw [HXE.out]
  clear q0 q1 q2 s0 s1 s2 HR3 HA3 HP3 T3 B3 HXE
  refine (verify_of (pubOf secB 2) msgB _ _ 3 _ _ 18 c 2 cp (sigOf secB 3 msgB) (pathOf secB 2 3) true _ rfl rfl HX.out.tab HX.out.ts HX.out.tp (sigOf_len _ _ _).symm (path_len _ _ _).symm (by decide) (by decide) (by decide) (sigOf_small _ _ _) (pathOf_small _ _ _) ver_1).mono ?_
  rintro e w4 ⟨rfl, hb4⟩
  have H4 := Lib.hid (HX.out.later hb4)
  have B4 : Hid (Below w.heap.size w w4) := BX.out.trans (hb4.mono BX.out.size)
  clear HX BX hb4
  obtain ⟨x0, x1, x2, _, _, _⟩ := store_facts H4.out.r1
  obtain ⟨y0, y1, y2, _, _, _⟩ := store_facts H4.out.r2
  obtain ⟨z0, z1, z2, _, _, _⟩ := store_facts H4.out.r3
  go_wp2_with fail
  refine (verify_of (pubOf secB 2) msgB _ _ 3 _ _ 18 c 1 cp (sigOf secB 3 msgB) ((pathOf secB 2 3).take 1) false _ rfl rfl H4.out.tab H4.out.ts (H4.out.tp.take 1) (sigOf_len _ _ _).symm (by rw [List.length_take, path_len]; rfl) (by decide) (by decide) (by decide) (sigOf_small _ _ _) (take_small (pathOf_small _ _ _) 1) (ver_2 _ _)).mono ?_
  rintro e w5 ⟨rfl, hb5⟩
  have H5 := Lib.hid (H4.out.later hb5)
  have B5 : Hid (Below w.heap.size w w5) := B4.out.trans (hb5.mono B4.out.size)
  clear H4 B4 hb5 x0 x1 x2 y0 y1 y2 z0 z1 z2
  obtain ⟨x0, x1, x2, _, _, _⟩ := store_facts H5.out.r1
  obtain ⟨y0, y1, y2, _, _, _⟩ := store_facts H5.out.r2
  obtain ⟨z0, z1, z2, _, _, _⟩ := store_facts H5.out.r3
  go_wp2_with fail
  have h17 : ((sigOf secB 3 msgB).drop 1).length = 17 := by rw [List.length_drop, sigOf_len]
  refine (verify_of (pubOf secB 2) msgB _ _ 3 _ _ 17 (c - 1) 2 cp ((sigOf secB 3 msgB).drop 1) (pathOf secB 2 3) false _ rfl rfl H5.out.tab (H5.out.ts.drop 1) H5.out.tp h17.symm (path_len _ _ _).symm (by decide) (by decide) (by decide) (drop_small (sigOf_small _ _ _) 1) (pathOf_small _ _ _) (ver_3 _ _ _ (by rw [h17]; decide))).mono ?_
  rintro e w6 ⟨rfl, hb6⟩
  have H6 := Lib.hid (H5.out.later hb6)
  have B6 : Hid (Below w.heap.size w w6) := B5.out.trans (hb6.mono B5.out.size)
  clear H5 B5 hb6 x0 x1 x2 y0 y1 y2 z0 z1 z2 h17
  obtain ⟨x0, x1, x2, _, _, _⟩ := store_facts H6.out.r1
  obtain ⟨y0, y1, y2, _, _, _⟩ := store_facts H6.out.r2
  obtain ⟨z0, z1, z2, _, _, _⟩ := store_facts H6.out.r3
  go_wp2_with fail
  refine (verify_of [] msgB _ _ 3 _ _ 18 c 2 cp (sigOf secB 3 msgB) (pathOf secB 2 3) false _ rfl rfl H6.out.tab H6.out.ts H6.out.tp (sigOf_len _ _ _).symm (path_len _ _ _).symm (by decide) (by decide) (by decide) (sigOf_small _ _ _) (pathOf_small _ _ _) ver_4).mono ?_
  rintro e w7 ⟨rfl, hb7⟩
  have B7 : Hid (Below w.heap.size w w7) := B6.out.trans (hb7.mono B6.out.size)
  clear H6 B6 hb7 x0 x1 x2 y0 y1 y2 z0 z1 z2
  go_wp2
  go_ret
  exact ⟨rfl, B7.out⟩
end Go.Proofs.YtanlpcdljclnmaaDoor.Sl
