/- The reference's lists of digested texts, part two: three slices of the call's own, and Made. -/
import Derived.Test.YtanlpcdljclnmaaDoorSlRefA
import Derived.RegionTactic
namespace Go.Proofs.YtanlpcdljclnmaaDoor.Sl
open Go.RowKit
open Go.Proofs.YtanlpcdljclnmaaDoor.Dg hiding intOf

/-- three slices of the call's own, in blocks of their own. -/
structure M3 (w wr : World) (base : Nat) (u v l : Value) (n1 n2 n3 : Nat) (L1 L2 L3 : List B) : Prop where
  o1 : Own wr base u n1 L1
  o2 : Own wr base v n2 L2
  o3 : Own wr base l n3 L3
  a12 : Apart u v
  a13 : Apart u l
  a23 : Apart v l
  size : base ≤ wr.heap.size
  below : Below base w wr
theorem M3.later {w wr wr' : World} {base : Nat} {u v l : Value} {n1 n2 n3 : Nat} {L1 L2 L3 : List B} (h : M3 w wr base u v l n1 n2 n3 L1 L2 L3) (hb : Below wr.heap.size wr wr') : M3 w wr' base u v l n1 n2 n3 L1 L2 L3 :=
  ⟨h.o1.later hb, h.o2.later hb, h.o3.later hb, h.a12, h.a13, h.a23, Nat.le_trans h.size hb.size, h.below.trans (hb.mono h.size)⟩
theorem M3.grow {w wr w2 : World} {base : Nat} {u v l : Value} {n1 n2 n3 n' : Nat} {L1 L2 L3 L' : List B} {g c : Nat} (h : M3 w wr base u v l n1 n2 n3 L1 L2 L3) (ho : Own w2 base (.slice (some ⟨g, 0, none⟩) n' c) n' L')
    (hg : wr.grownBy w2 u.ownBlock) (hlt : ∀ k, u.ownBlock = some k → base ≤ k ∧ k < wr.heap.size) (hor : u.ownBlock = some g ∨ g = wr.heap.size) : M3 w w2 base (.slice (some ⟨g, 0, none⟩) n' c) v l n' n2 n3 L' L2 L3 :=
  ⟨ho, h.o2.kept hg h.a12.symm.row, h.o3.kept hg h.a13.symm.row, (h.a12.symm.grow h.o2 hor).symm, (h.a13.symm.grow h.o3 hor).symm, h.a23, Nat.le_trans h.size hg.size, h.below.grown hg h.size (fun k hk => (hlt k hk).1)⟩
theorem M3.rot {w wr : World} {base : Nat} {u v l : Value} {n1 n2 n3 : Nat} {L1 L2 L3 : List B} (h : M3 w wr base u v l n1 n2 n3 L1 L2 L3) : M3 w wr base v l u n2 n3 n1 L2 L3 L1 :=
  ⟨h.o2, h.o3, h.o1, h.a23, h.a12.symm, h.a13.symm, h.size, h.below⟩
theorem M3.swap {w wr : World} {base : Nat} {u v l : Value} {n1 n2 n3 : Nat} {L1 L2 L3 : List B} (h : M3 w wr base u v l n1 n2 n3 L1 L2 L3) : M3 w wr base v u l n2 n1 n3 L2 L1 L3 :=
  ⟨h.o2, h.o1, h.o3, h.a12.symm, h.a23, h.a13, h.size, h.below⟩
theorem M3.set3 {w wr : World} {base : Nat} {u v l : Value} {n1 n2 n3 : Nat} {L1 L2 L3 : List B} (h : M3 w wr base u v l n1 n2 n3 L1 L2 L3) : M3 w wr base u v (.slice none 0 0) n1 n2 0 L1 L2 [] :=
  ⟨h.o1, h.o2, Own.nil _ _, h.a12, Apart.none_ _ _ _, Apart.none_ _ _ _, h.size, h.below⟩
theorem M3.set2 {w wr : World} {base : Nat} {u v l : Value} {n1 n2 n3 : Nat} {L1 L2 L3 : List B} (h : M3 w wr base u v l n1 n2 n3 L1 L2 L3) : M3 w wr base u (.slice none 0 0) l n1 0 n3 L1 [] L3 :=
  ⟨h.o1, Own.nil _ _, h.o3, Apart.none_ _ _ _, h.a13, (Apart.none_ _ _ _).symm, h.size, h.below⟩
theorem M3.shift {w wr : World} {base : Nat} {u v l : Value} {n1 n2 n3 : Nat} {L1 L2 L3 : List B} (h : M3 w wr base u v l n1 n2 n3 L1 L2 L3) : M3 w wr base u (.slice none 0 0) v n1 0 n2 L1 [] L2 :=
  ⟨h.o1, Own.nil _ _, h.o2, Apart.none_ _ _ _, h.a12, (Apart.none_ _ _ _).symm, h.size, h.below⟩
theorem M3.begin (w : World) (base : Nat) (h : base ≤ w.heap.size) : M3 w w base (.slice none 0 0) (.slice none 0 0) (.slice none 0 0) 0 0 0 [] [] [] :=
  ⟨Own.nil _ _, Own.nil _ _, Own.nil _ _, Apart.none_ _ _ _, Apart.none_ _ _ _, Apart.none_ _ _ _, h, Below.refl _ _⟩
theorem Own.pos {w : World} {base n : Nat} {v : Value} {L : List B} (h : Own w base v n L) (hn : 0 < n) : ∃ g c, v = .slice (some ⟨g, 0, none⟩) n c := by
  obtain ⟨_, _, ⟨hv, h0⟩ | ⟨g, cap, cur, hv, _⟩⟩ := h
  · omega
  · exact ⟨g, cap, hv⟩
theorem Own.cell {w : World} {base n g c : Nat} {L : List B} (h : Own w base (.slice (some ⟨g, 0, none⟩) n c) n L) {k : Nat} (hk : k < L.length) : w.cell? ⟨g, k, none⟩ = some (.string ⟨(L.getD k []).toArray⟩) := by
  obtain ⟨b, off, e, _, hc⟩ := h.txt.2.at_ hk
  injection e with e
  injection e with e1 e2
  subst e1 e2
  rwa [Nat.zero_add] at hc
theorem flat_succ {β : Type} (f : Nat → List β) (k : Nat) : (List.range (k + 1)).flatMap f = (List.range k).flatMap f ++ f k := by rw [List.range_succ, List.flatMap_append]; simp
theorem madeKeys_succ (sec : B) (k n : Nat) : madeKeys sec (k + 1) n = madeKeys sec k n ++ (List.range 18).flatMap (madeChain sec k n) ++ [joined (endsOf sec k)] := by
  unfold madeKeys; rw [flat_succ, List.append_assoc]; rfl
theorem madeTree_succ (l : List B) (d : Nat) : madeTree l (d + 1) = madeTree l d ++ upTexts (lev l d) := flat_succ _ _
def endsTo (sec : B) (i k : Nat) : List B := (List.range k).map fun k => chainN (startOf sec i k) 15
theorem power_of (n m : Nat) (w : World) (hn : n ≤ 8) (hm : 2 ^ n = m) :
    Calls Tryd.prog 26 #[.int .i64 n] w fun e w' => e = .returned (.int .i64 (m : Int)) ∧ w = w' := hm ▸ power_any n w hn
theorem ends_small (sec : B) (i k : Nat) : ∀ x ∈ endsTo sec i k, x.length ≤ 1000 := by
  intro x hx
  unfold endsTo at hx
  obtain ⟨k, _, rfl⟩ := List.mem_map.1 hx
  exact chainN_len _ (dsum_small _) (by decide) _
theorem startT_small (sec : B) (i k : Nat) (hs : sec.length ≤ 1000) (hi : i ≤ 1000) (hk : k ≤ 1000) : (startT sec i k).length ≤ 100000 := Nat.le_trans (fewB_len (few_start sec i k hs (by omega) (by omega))) (by decide)

theorem madeChain_len (sec : B) (i n k : Nat) : (madeChain sec i n k).length = n + 2 := by
  unfold madeChain
  rw [List.length_cons, chainL_len]
/-- the state of Made while it makes the keys: i keys are made, of the next one k chains. -/
def MK (sec : B) (n : Nat) (w wr : World) (i k : Nat) (u v l : Value) (n1 : Nat) : Prop :=
  M3 w wr w.heap.size u v l n1 k i (madeKeys sec i n ++ (List.range k).flatMap (madeChain sec i n)) (endsTo sec i k) (keysOf sec i)
theorem endsTo_succ (sec : B) (i k : Nat) : endsTo sec i (k + 1) = endsTo sec i k ++ [chainN (startOf sec i k) 15] := range_map_succ _ _
theorem madeChain_two (sec : B) (i n k : Nat) : madeChain sec i n k = [startT sec i k] ++ chainL (startOf sec i k) n := rfl
theorem next_chain (sec : B) (i n k : Nat) : madeKeys sec i n ++ (List.range (k + 1)).flatMap (madeChain sec i n) = madeKeys sec i n ++ (List.range k).flatMap (madeChain sec i n) ++ [startT sec i k] ++ chainL (startOf sec i k) n := by
  rw [flat_succ, madeChain_two]; simp only [List.append_assoc]
theorem next_key (sec : B) (i n : Nat) : madeKeys sec (i + 1) n ++ (List.range 0).flatMap (madeChain sec (i + 1) n) = madeKeys sec i n ++ (List.range 18).flatMap (madeChain sec i n) ++ [joined (endsTo sec i 18)] := by
  rw [madeKeys_succ]; exact List.append_nil _
theorem keysOf_next (sec : B) (i : Nat) : keysOf sec (i + 1) = keysOf sec i ++ [dsum (joined (endsTo sec i 18))] := range_map_succ _ _
def textAt (L : List B) (j : Nat) : B := nodeT (L.getD (2 * j) []) (L.getD (2 * j + 1) [])
theorem two_grown2 {w w' : World} {g a b : Nat} {x y : Value} {row : Option Nat} (h : w.cell? ⟨g, a, none⟩ = some x ∧ w.cell? ⟨g, b, none⟩ = some y) (hg : w.grownBy w' row) (hne : row ≠ some g) : w'.cell? ⟨g, a, none⟩ = some x ∧ w'.cell? ⟨g, b, none⟩ = some y :=
  ⟨hg.cell h.1 (fun e => hne e.symm), hg.cell h.2 (fun e => hne e.symm)⟩
theorem Apart.off {u : Value} {g m c : Nat} (h : Apart u (.slice (some ⟨g, 0, none⟩) m c)) : u.ownBlock ≠ some g := fun e => h g e rfl
theorem hold15 (sec : B) (i n k : Nat) (h : 15 ≤ n) : (chainL (startOf sec i k) n).getD 15 [] = chainN (startOf sec i k) 15 := map_range_getD _ _ _ _ (by omega)

set_option maxRecDepth 100000 in
set_option maxHeartbeats 8000000 in
theorem made_any (sec : B) (h n : Nat) (w : World) (hs : sec.length ≤ 1000) (hh : h ≤ 2) (hn : 15 ≤ n) (hn2 : n ≤ 30) :
    Calls Tryd.prog 11 #[.string ⟨sec.toArray⟩, .int .i64 h, .int .i64 n] w fun e w' => ∃ a nn c, e = .returned (.slice a nn c) ∧ nn ≤ 5000 ∧ Own w' w.heap.size (.slice a nn c) nn (made sec h n) ∧ Below w.heap.size w w' := by
  obtain ⟨m, hm⟩ : ∃ m : Nat, 2 ^ h = m := ⟨_, rfl⟩
  have hm4 : m ≤ 4 := by rw [← hm]; exact Nat.pow_le_pow_right (by decide) hh
  have hm0 : 0 < m := by rw [← hm]; exact Nat.two_pow_pos h
  have HM := Lib.hid hm
  clear hm
  go_enter Tryd.func11, Tryd.ntmps11
  go_wp2
  go_loopw [7, 8, 9] (fun u l i wr => ∃ k n1 : Nat, k ≤ m ∧ n1 ≤ 600 * k ∧ i = .int .i64 k ∧ Hid (MK sec n w wr k 0 u (.slice none 0 0) l n1)) (fun _ _ i _ => m - (intOf i).toNat)
  case atStart => exact ⟨0, 0, by omega, by omega, rfl, M3.begin w _ (Nat.le_refl _)⟩
  case round =>
    obtain ⟨i, n1, hi, hn1, rfl, hst⟩ := hrel
    by_cases hlt : i < m
    · go_wp2_with fail
      refine (power_of h m _ (by omega) HM.out).mono ?_
      rintro e w' ⟨rfl, rfl⟩
      go_wp2
      go_loopw [7, 10, 11] (fun u v j wr => ∃ k n2 : Nat, k ≤ 18 ∧ n2 ≤ n1 + 33 * k ∧ j = .int .i64 k ∧ Hid (MK sec n w wr i k u v u8 n2)) (fun _ _ j _ => 18 - (intOf j).toNat)
      case atStart => exact ⟨0, n1, by omega, by omega, rfl, hst⟩
      case round =>
        obtain ⟨k, n2, hk, hn2', rfl, hst2⟩ := hrel
        clear hst
        by_cases hlt2 : k < 18
        · go_wp2_with fail
          refine (decimal_any i _ (by omega)).mono ?_
          rintro e w' ⟨rfl, rfl⟩
          go_wp2_with fail
          refine (decimal_any k _ (by omega)).mono ?_
          rintro e w' ⟨rfl, rfl⟩
          go_wp2_with fail
          have bx := below_new wr (.cells (strv [sec, Lib.itoa (i : Int), Lib.itoa (k : Int)]).toArray 9)
          refine (refjoinedB (some ⟨wr.heap.size, 0, none⟩) 3 3 [sec, Lib.itoa (i : Int), Lib.itoa (k : Int)] _ (row_list wr _ _ _ rfl) rfl (few_start sec i k hs (by omega) (by omega))).mono ?_
          rintro e w1 ⟨rfl, hb1⟩
          have S1 := Lib.hid (M3.later hst2.out (bx.trans (hb1.mono bx.size)))
          clear hst2 bx hb1
          go_wp2_with (at_builtin; refine wpList_appA rfl _ _ (by rfl) w.heap.size _ n2 _ (startT sec i k) w1.heap.size (by rfl) (Own.later S1.out.o1 (below_new w1 _)) (by rfl) (heap_alloc_new w1 _) (by omega) (Nat.le_trans S1.out.size (below_new w1 _).size) ?_; intro g1 cap1 w2 ho2 hg2 hlt2 hor2 hsz2; have S2 := Lib.hid (M3.grow (M3.later S1.out (below_new w1 _)) ho2 hg2 hlt2 hor2))
          have HZ2 := Lib.hid hsz2
          clear S1 ho2 hg2 hlt2 hor2 hsz2
          refine (refsumB (startT sec i k) _ (startT_small sec i k hs (by omega) (by omega))).mono ?_
          rintro e w' ⟨rfl, rfl⟩
          go_wp2_with fail
          refine (chained_any (startOf sec i k) n _ (Nat.le_trans (dsum_small _) (by decide)) (by omega)).mono ?_
          rintro e w3 ⟨gc, cc, rfl, hoc, hb3⟩
          have S3 := Lib.hid (M3.later S2.out hb3)
          have HC := Lib.hid hoc.txt.2
          have hgc : g1 < gc := Nat.lt_of_lt_of_le HZ2.out hoc.fresh.1
          have c15 := hoc.cell (k := 15) (by rw [chainL_len]; omega)
          rw [hold15 sec i n k hn] at c15
          have C15 := Lib.hid c15
          clear S2 HZ2 hb3 c15
          have hn16 : (15 : Int) < (n : Int) + 1 := by omega
          have hn17 : (15 : Int) ≤ (n : Int) := by omega
          have hn18 : 15 < n + 1 := by omega
          go_wp2_with (at_builtin; first | (refine wpList_appL rfl _ _ (by rfl) w.heap.size _ (n2 + 1) _ (chainL (startOf sec i k) n) ⟨gc, 0, none⟩ (n + 1) cc (by rfl) S3.out.o1 (by rfl) HC.out (chainL_len _ _).symm (by omega) (by omega) (by omega) S3.out.size ?_; intro g2 cap2 w4 ho4 hg4 hlt4 hor4 hsz4; have S4 := Lib.hid (M3.grow S3.out ho4 hg4 hlt4 hor4); have d15 := hg4.cell C15.out (fun e => by have e' : gc = g1 := (by injection e); omega)) | (refine wpList_appA rfl _ _ (by rfl) w.heap.size _ k (endsTo sec i k) (chainN (startOf sec i k) 15) w4.heap.size (by rfl) (Own.later S4.out.o2 (below_new w4 _)) (by rfl) (heap_alloc_new w4 _) (by omega) (Nat.le_trans S4.out.size (below_new w4 _).size) ?_; intro g3 cap3 w5 ho5 hg5 hlt5 hor5 hsz5; have S5 := Lib.hid (M3.swap (M3.grow (M3.swap (M3.later S4.out (below_new w4 _))) ho5 hg5 hlt5 hor5))))
          clear S3 ho4 hg4 hlt4 hor4 hsz4 S4 d15 ho5 hg5 hlt5 hor5 hsz5 HC C15
          go_roundw
          case rel => refine ⟨k + 1, n2 + 1 + (n + 1), by omega, by omega, by go_num, ?_⟩; show MK _ _ _ _ _ _ _ _ _ _; unfold MK; rw [next_chain, endsTo_succ]; exact S5.out
          case measure => simp [intOf]; omega
        · obtain rfl : k = 18 := by omega
          obtain ⟨ge, ce, rfl⟩ := hst2.out.o2.pos (by decide)
          go_wp2_with fail
          refine (refjoinedB _ 18 ce (endsTo sec i 18) _ hst2.out.o2.txt.2 (map_range_len _ _).symm ⟨by rw [show (endsTo sec i 18).length = 18 from map_range_len _ _]; decide, ends_small sec i 18⟩).mono ?_
          rintro e w1 ⟨rfl, hb1⟩
          have S1 := Lib.hid (M3.later hst2.out hb1)
          have hky : Hid ((joined (endsTo sec i 18)).length ≤ 100000) := Nat.le_trans (fewB_len ⟨by rw [show (endsTo sec i 18).length = 18 from map_range_len _ _]; decide, ends_small sec i 18⟩) (by decide)
          clear hst2 hb1
          have NK : Hid (madeKeys sec (i + 1) n ++ (List.range 0).flatMap (madeChain sec (i + 1) n) = madeKeys sec i n ++ (List.range 18).flatMap (madeChain sec i n) ++ [joined (endsTo sec i 18)]) := next_key sec i n
          have NL : Hid (keysOf sec (i + 1) = keysOf sec i ++ [dsum (joined (endsTo sec i 18))]) := keysOf_next sec i
          generalize joined (endsTo sec i 18) = ky at *
          go_wp2_with (at_builtin; refine wpList_appA rfl _ _ (by rfl) w.heap.size _ n2 _ ky w1.heap.size (by rfl) (Own.later S1.out.o1 (below_new w1 _)) (by rfl) (heap_alloc_new w1 _) (by omega) (Nat.le_trans S1.out.size (below_new w1 _).size) ?_; intro g1 cap1 w2 ho2 hg2 hlt2 hor2 hsz2; have S2 := Lib.hid (M3.grow (M3.later S1.out (below_new w1 _)) ho2 hg2 hlt2 hor2))
          clear S1 ho2 hg2 hlt2 hor2 hsz2
          refine (refsumB ky _ hky.out).mono ?_
          rintro e w' ⟨rfl, rfl⟩
          go_wp2_with (at_builtin; refine wpList_appA rfl _ _ (by rfl) w.heap.size _ i (keysOf sec i) (dsum ky) w2.heap.size (by rfl) (Own.later S2.out.o3 (below_new w2 _)) (by rfl) (heap_alloc_new w2 _) (by omega) (Nat.le_trans S2.out.size (below_new w2 _).size) ?_; intro g3 cap3 w3 ho3 hg3 hlt3 hor3 hsz3; have S3 := Lib.hid (M3.set2 (M3.rot (M3.grow (M3.rot (M3.rot (M3.later S2.out (below_new w2 _)))) ho3 hg3 hlt3 hor3))))
          clear S2 ho3 hg3 hlt3 hor3 hsz3
          go_roundw
          case rel => refine ⟨i + 1, n2 + 1, by omega, by omega, by go_num, ?_⟩; show MK _ _ _ _ _ _ _ _ _ _; unfold MK; rw [NK.out, NL.out]; exact S3.out
          case measure => simp [intOf]; omega
    · obtain rfl : m = i := by omega
      obtain ⟨gl, cl, rfl⟩ := hst.out.o3.pos hm0
      go_wp2_with fail
      refine (power_of h m _ (by omega) HM.out).mono ?_
      rintro e w' ⟨rfl, rfl⟩
      have KL : Hid ((keysOf sec m).length = 2 ^ h) := by show _ = _; rw [keysOf_len, HM.out]
      have KS0 : Hid (∀ d, ∀ x ∈ lev (keysOf sec m) d, x.length ≤ 1000) := fun d => lev_small (keysOf_small _ _) d
      go_wp2
      go_loopw [7, 8] (fun u l wr => ∃ d n2 q g c : Nat, d ≤ h ∧ n2 ≤ 2400 + 10 * d ∧ q ≤ 4 ∧ l = .slice (some ⟨g, 0, none⟩) q c ∧ Hid (q = 2 ^ (h - d)) ∧ Hid (M3 w wr w.heap.size u (.slice none 0 0) (.slice (some ⟨g, 0, none⟩) q c) n2 0 q (madeKeys sec m n ++ madeTree (keysOf sec m) d) [] (lev (keysOf sec m) d))) (fun _ l _ => match l with | .slice _ m _ => m | _ => 0)
      case atStart => exact ⟨0, n1, m, gl, cl, by omega, by omega, hm4, rfl, HM.out.symm, hst.out⟩
      case round =>
        clear hst
        obtain ⟨d, n2, q, gl, cl, hd, hn2', hq4, rfl, hq, hst3⟩ := hrel
        by_cases hlt2 : d < h
        · obtain ⟨c, hc⟩ : ∃ c, 2 ^ (h - (d + 1)) = c := ⟨_, rfl⟩
          have hqc : q = 2 * c := by have := pow_split h d hlt2; rw [hq.out, this, hc, Nat.mul_comm]
          have hc0 : 0 < c := by rw [← hc]; exact Nat.two_pow_pos _
          have HC := Lib.hid hc
          have HLL : Hid ((lev (keysOf sec m) d).length = q) := by show _ = _; rw [hq.out]; exact lev_len _ h KL.out d hd
          have h1 : 1 < q := by omega
          have h1i : (1 : Int) < (q : Int) := by omega
          have hqc1 : q ≤ 2 * c := by omega
          have hqc2 : 2 * c ≤ q := by omega
          clear hc hqc
          go_wp2
          go_loopw [7, 15, 16] (fun u v j wr => ∃ k mm n3 : Nat, 2 * k ≤ q ∧ mm ≤ 2 * k ∧ 2 * k ≤ mm ∧ n3 ≤ n2 + k ∧ j = .int .i64 mm ∧ Hid (M3 w wr w.heap.size u v (.slice (some ⟨gl, 0, none⟩) q cl) n3 k q (madeKeys sec m n ++ madeTree (keysOf sec m) d ++ (List.range k).map (textAt (lev (keysOf sec m) d))) ((List.range k).map (pairAt (lev (keysOf sec m) d))) (lev (keysOf sec m) d))) (fun _ _ j _ => q - (intOf j).toNat)
          case atStart => exact ⟨0, 0, n2, by omega, by omega, by omega, by omega, rfl, by show M3 _ _ _ _ _ _ _ _ _ _ _ _; rw [show (List.range 0).map (textAt (lev (keysOf sec m) d)) = [] from rfl, List.append_nil]; exact hst3.out⟩
          case round =>
            clear hst3
            obtain ⟨k, mm, n3, hk, hm1, hm2, hn3, rfl, hst4⟩ := hrel
            by_cases hlt3 : mm < q
            · have d0 := hst4.out.o3.cell (k := mm) (by rw [HLL.out]; exact hlt3)
              have d1 := hst4.out.o3.cell (k := mm + 1) (by rw [HLL.out]; omega)
              have x0 : ((lev (keysOf sec m) d).getD mm []).length ≤ 1000 := KS0.out d _ (getD_mem (by rw [HLL.out]; exact hlt3))
              have x1 : ((lev (keysOf sec m) d).getD (mm + 1) []).length ≤ 1000 := KS0.out d _ (getD_mem (by rw [HLL.out]; omega))
              have TA : Hid (textAt (lev (keysOf sec m) d) k = nodeT ((lev (keysOf sec m) d).getD mm []) ((lev (keysOf sec m) d).getD (mm + 1) [])) := by
                obtain rfl : mm = 2 * k := by omega
                rfl
              have PA : Hid (pairAt (lev (keysOf sec m) d) k = dsum (nodeT ((lev (keysOf sec m) d).getD mm []) ((lev (keysOf sec m) d).getD (mm + 1) []))) := by
                obtain rfl : mm = 2 * k := by omega
                rfl
              have hgl : gl < wr.heap.size := (hst4.out.o3.lt gl rfl).2
              have hne := hst4.out.a13.off
              have HNE := Lib.hid hne
              have hsz := hst4.out.size
              have HSZ := Lib.hid hsz
              have hnt : Hid ((nodeT ((lev (keysOf sec m) d).getD mm []) ((lev (keysOf sec m) d).getD (mm + 1) [])).length ≤ 100000) := Nat.le_trans (fewB_len (few_node x0 x1)) (by decide)
              obtain ⟨x, hx⟩ : ∃ x, (lev (keysOf sec m) d).getD mm [] = x := ⟨_, rfl⟩
              obtain ⟨y, hy⟩ : ∃ y, (lev (keysOf sec m) d).getD (mm + 1) [] = y := ⟨_, rfl⟩
              rw [hx] at d0 x0 TA PA hnt
              rw [hy] at d1 x1 TA PA hnt
              have XE := Lib.hid hx
              have YE := Lib.hid hy
              clear hx hy
              have i1 : (mm : Int) < (q : Int) := by omega
              have i2 : (mm : Int) + 1 < (q : Int) := by omega
              have i3 : (0 : Int) ≤ (mm : Int) + 1 := by omega
              have i4 : ((mm : Int) + 1).toNat = mm + 1 := by omega
              have i5 : IntKind.i64.wrap ((mm : Int) + 1) = (mm : Int) + 1 := IntWalk.i64_in _ (by omega)
              clear hne hsz hqc1 hqc2
              go_wp2_with fail
              go_region_held3 (fun w' => w'.cell? ⟨gl, mm, none⟩ = some (.string ⟨x.toArray⟩) ∧ w'.cell? ⟨gl, mm + 1, none⟩ = some (.string ⟨y.toArray⟩)) (first | go_keep | exact KS)
                (first
                  | (go_at_call 30; refine (refnode_any x y _ x0 x1).mono ?_; rintro e w1 ⟨rfl, hb1⟩; have hbw : Below wr.heap.size wr w1 := Below.trans (below_drew' wr) hb1; have KS := two_kept (p := ⟨gl, mm, none⟩) (q := ⟨gl, mm + 1, none⟩) hbw hgl d0 d1; have KA := fun o => two_alloc KS o)
                  | ((refine step_appA (by rfl) _ _ (by rfl) w.heap.size _ n3 _ (nodeT x y) w1.heap.size (by rfl) (Own.later (Own.later hst4.out.o1 hbw) (below_new w1 _)) (by rfl) (heap_alloc_new w1 _) (by omega) (Nat.le_trans HSZ.out (Nat.le_trans hbw.size (below_new w1 _).size)) ?_; intro g1 cap1 w2 ho2 hg2 hlt2 hor2 hsz2; have KS := two_grown2 (KA _) hg2 HNE.out)))
              have S2 := Lib.hid (M3.grow (M3.later hst4.out (hbw.trans ((below_new w1 _).mono hbw.size))) ho2 hg2 hlt2 hor2)
              clear hst4 HNE HSZ ho2 hg2 hlt2 hor2 hsz2 KS KA hbw hb1 d0 d1 hgl
              have d0 : w2.cell? ⟨gl, mm, none⟩ = some (.string ⟨x.toArray⟩) := by
                have := S2.out.o3.cell (k := mm) (by rw [HLL.out]; exact hlt3)
                rwa [XE.out] at this
              have d1 : w2.cell? ⟨gl, mm + 1, none⟩ = some (.string ⟨y.toArray⟩) := by
                have := S2.out.o3.cell (k := mm + 1) (by rw [HLL.out]; omega)
                rwa [YE.out] at this
              have hgl : gl < w2.heap.size := (S2.out.o3.lt gl rfl).2
              have HNE := Lib.hid S2.out.a23.off
              have HSZ := Lib.hid S2.out.size
              go_wp2_with fail
              go_region_held3 (fun w' => w'.cell? ⟨gl, mm, none⟩ = some (.string ⟨x.toArray⟩) ∧ w'.cell? ⟨gl, mm + 1, none⟩ = some (.string ⟨y.toArray⟩)) (first | go_keep | exact KS)
                (first
                  | (go_at_call 30; refine (refnode_any x y _ x0 x1).mono ?_; rintro e w3 ⟨rfl, hb3⟩; have hbw : Below w2.heap.size w2 w3 := Below.trans (below_drew' w2) hb3; have KS := two_kept (p := ⟨gl, mm, none⟩) (q := ⟨gl, mm + 1, none⟩) hbw hgl d0 d1; have KA := fun o => two_alloc KS o)
                  | (go_at_call 25; refine (refsumB (nodeT x y) _ hnt.out).mono ?_; rintro e w' ⟨rfl, rfl⟩)
                  | ((refine step_appA (by rfl) _ _ (by rfl) w.heap.size _ k _ (dsum (nodeT x y)) w3.heap.size (by rfl) (Own.later (Own.later S2.out.o2 hbw) (below_new w3 _)) (by rfl) (heap_alloc_new w3 _) (by omega) (Nat.le_trans HSZ.out (Nat.le_trans hbw.size (below_new w3 _).size)) ?_; intro g3 cap3 w4 ho4 hg4 hlt4 hor4 hsz4; have KS := two_grown2 (KA _) hg4 HNE.out)))
              have S4 := Lib.hid (M3.swap (M3.grow (M3.swap (M3.later S2.out (hbw.trans ((below_new w3 _).mono hbw.size)))) ho4 hg4 hlt4 hor4))
              clear S2 HNE HSZ ho4 hg4 hlt4 hor4 hsz4 KS KA hbw hb3 d0 d1 hgl
              go_wp2
              go_roundw
              case rel => refine ⟨k + 1, mm + 2, n3 + 1, by omega, by omega, by omega, by omega, by go_num, ?_⟩; show M3 _ _ _ _ _ _ _ _ _ _ _ _; rw [range_map_succ, range_map_succ, TA.out, PA.out, ← List.append_assoc]; exact S4.out
              case measure => simp [intOf]; omega
            · obtain rfl : k = c := by omega
              have e1 : (lev (keysOf sec m) d).length / 2 = k := by rw [HLL.out]; omega
              obtain ⟨gn, cn, rfl⟩ := hst4.out.o2.pos hc0
              have S5 : Hid (M3 w wr w.heap.size u7 (.slice none 0 0) (.slice (some ⟨gn, 0, none⟩) k cn) n3 0 k (madeKeys sec m n ++ madeTree (keysOf sec m) (d + 1)) [] (lev (keysOf sec m) (d + 1))) := by
                have := M3.shift hst4.out
                show M3 _ _ _ _ _ _ _ _ _ _ _ _
                rw [madeTree_succ, ← List.append_assoc]
                show M3 _ _ _ _ _ _ _ _ _ (_ ++ (List.range ((lev (keysOf sec m) d).length / 2)).map (textAt (lev (keysOf sec m) d))) _ ((List.range ((lev (keysOf sec m) d).length / 2)).map (pairAt (lev (keysOf sec m) d)))
                rw [e1]
                exact this
              clear hst4
              go_wp2
              go_roundw
              case rel => exact ⟨d + 1, n3, k, gn, cn, by omega, by omega, by omega, rfl, HC.out.symm, S5⟩
              case measure => show k < q; omega
        · obtain rfl : d = h := by omega
          have h1 : ¬ 1 < q := by rw [hq.out, Nat.sub_self]; decide
          obtain ⟨a, c, hv⟩ := hst3.out.o1.form
          rw [hv] at hst3 ⊢
          go_wp2
          go_ret
          refine ⟨_, _, _, rfl, by omega, ?_, hst3.out.below⟩
          have := hst3.out.o1
          unfold made
          rw [HM.out]
          exact this
end Go.Proofs.YtanlpcdljclnmaaDoor.Sl
