/- P5.4, SweepParts: its walk. -/
import Derived.Test.YtlgmlgogpohgoaaSwPairsWalk
namespace Go.Proofs.Ytlgmlgogpohgoaa.Sw
open Go.RowKit Go.Sort Go.Shelf
open Go.Proofs.Ytlgmlgogpohgoaa.Geo hiding intOf
def lessN (L : List Met) (n k : Nat) : List Met := (L.take k).filter fun m => decide (m.b < n)
theorem less_next {L : List Met} {n k : Nat} {m : Met} (h : L[k]? = some m) : lessN L n (k + 1) = if m.b < n then lessN L n k ++ [m] else lessN L n k := by
  obtain ⟨h1, rfl⟩ := List.getElem?_eq_some_iff.1 h
  unfold lessN
  rw [List.take_succ_eq_append_getElem h1, List.filter_append]
  by_cases g : L[k].b < n
  · simp [g]
  · simp [g]
theorem less_len (L : List Met) (n k : Nat) : (lessN L n k).length ≤ L.length := by
  unfold lessN
  refine Nat.le_trans (List.length_filter_le _ _) ?_
  rw [List.length_take]
  omega
set_option maxRecDepth 100000 in
set_option maxHeartbeats 8000000 in
theorem parts_any (a : Option Addr) (n cap : Nat) (l : List Sg) (q : Nat) (W : World) (hl : Segs W W.heap.size a l) (hn : n = l.length) (hc : n ≤ cap) (hq : q < 256) :
    Calls Try.prog 12 #[.slice a n cap, .int .u8 q] W fun e w' => e = .returned (.bool true) ∧ Below W.heap.size W w' := by
  subst hn
  have HL := Lib.hid hl
  clear hl
  by_cases h40 : 40 < l.length
  · have h1 : (40 : Int) < (l.length : Int) := by omega
    go_enter Try.func12, Try.ntmps12
    go_wp2_with fail
    refine (head_any _).mono ?_
    rintro e w1 ⟨rfl, b1⟩
    go_wp2
    go_ret
    exact ⟨rfl, b1⟩
  · have h1 : ¬ (40 : Int) < (l.length : Int) := by omega
    go_enter Try.func12, Try.ntmps12
    go_wp2_with fail
    refine (head_any _).mono ?_
    rintro e w1 ⟨rfl, b1⟩
    have L1 := Lib.hid (HL.out.later b1)
    have B1 := Lib.hid b1
    clear b1 HL
    go_upto_region 5 with fail
    obtain ⟨t, ht⟩ : ∃ t, q % (l.length + 1) = t := ⟨_, rfl⟩
    have htl : t ≤ l.length := by have := Nat.mod_lt q (show 0 < l.length + 1 by omega); omega
    have e0 : (q : Int) % ((l.length : Int) + 1) = (t : Int) := by rw [← ht, Int.natCast_emod]; rfl
    rw [e0]
    clear e0 ht
    have i1 : (t : Int) ≤ (cap : Int) := by omega
    go_wp2_with fail
    refine (all_any a _ cap l w1 L1.out rfl (by omega)).mono ?_
    rintro e w2 ⟨⟨v, rfl, ho⟩, b2⟩
    have L2 := Lib.hid (L1.out.later b2)
    have B2 := Lib.hid (B1.out.trans (b2.mono B1.out.size))
    have O2 := Lib.hid ho
    clear b2 ho L1 B1
    go_wp2_with fail
    refine (all_any a _ cap (l.take t) w2 (L2.out.first t) (by rw [List.length_take]; omega) (by omega)).mono ?_
    rintro e w3 ⟨⟨v', rfl, ho⟩, b3⟩
    rw [ans_take htl] at ho
    have B3 := Lib.hid (B2.out.trans (b3.mono B2.out.size))
    have O3 := Lib.hid (Own.below O2.out b3)
    have P3 := Lib.hid ho
    obtain ⟨a2, c2, rfl, hmet⟩ := mets_at O3.out
    have HM := Lib.hid hmet
    have hal := ans_len l
    have hll : l.length * l.length ≤ 40 * 40 := Nat.mul_le_mul (by omega) (by omega)
    have HFIN := Lib.hid (show lessN (ansN l) t (ansN l).length = (ansN l).filter fun m => decide (m.b < t) by unfold lessN; rw [List.take_length])
    clear b3 ho L2 B2 O2 hmet
    obtain ⟨L, hL⟩ : ∃ L, ansN l = L := ⟨_, rfl⟩
    rw [hL] at HM hal O3 P3 HFIN ⊢
    have HBL := Lib.hid (fun m (hm : m ∈ L) => (mem_ans.1 (hL ▸ hm : m ∈ ansN l)).2.1)
    clear hL
    go_wp2_with fail
    go_loopw [11, 12] (fun s i wr => ∃ k : Nat, k ≤ L.length ∧ i = .int .i64 k ∧ Hid (OwnM wr w3.heap.size s (lessN L t k)) ∧ Hid (Below w3.heap.size w3 wr)) (fun _ i _ => L.length - (intOf i).toNat)
    case atStart => exact ⟨0, by omega, rfl, Lib.hid (own_nil _ _), Lib.hid (Below.refl _ _)⟩
    case round =>
      obtain ⟨k, hk, rfl, ho, hb⟩ := hrel
      by_cases hkl : k < L.length
      · obtain ⟨m, hmm⟩ : ∃ m, L[k]? = some m := ⟨_, List.getElem?_eq_getElem hkl⟩
        obtain ⟨g, rfl, hg, x0, x1, x2⟩ := HM.out k m hmm
        have p0 := (hb.out.cell (p := ⟨g, k * 3, none⟩) hg).trans x0
        have p1 := (hb.out.cell (p := ⟨g, k * 3 + 1, none⟩) hg).trans x1
        have p2 := (hb.out.cell (p := ⟨g, k * 3 + 2, none⟩) hg).trans x2
        have HN := Lib.hid (less_next (n := t) hmm)
        clear x0 x1 x2 hmm
        by_cases hmt : m.b < t
        · have z1 : (m.b : Int) < (t : Int) := by omega
          have hn2 := HN.out
          rw [if_pos hmt] at hn2
          have HN2 := Lib.hid hn2
          have O4 := Lib.hid (Own.below ho.out (alloc1 wr (.cells (encM m).toArray 48)))
          have R4 := Lib.hid (IsRow.made wr 48 (encM m).toArray)
          have hlen := less_len L t k
          have hsz := hb.out.size
          clear hmt hn2 HN
          go_wp2_with (refine wpList_appM rfl _ _ rfl w3.heap.size _ (lessN L t k) m wr.heap.size rfl O4.out rfl R4.out (by omega) (by simp; omega) ?_; intro v2 w4 hown hgrow)
          have hb4 : Hid (Below w3.heap.size w3 w4) := (hb.out.trans ((alloc1 _ _).mono hsz)).grown hgrow (by simp; omega) (fun k e => (Own.row O4.out k e).1)
          rw [← HN2.out] at hown
          have ho4 := Lib.hid hown
          clear hown hgrow O4 R4 hb ho hlen
          go_wp2
          go_roundw
          case rel => exact ⟨k + 1, by omega, by go_num, ho4, hb4⟩
          case measure => simp [intOf]; omega
        · have z1 : ¬ (m.b : Int) < (t : Int) := by omega
          have hn2 := HN.out
          rw [if_neg hmt] at hn2
          rw [← hn2] at ho
          clear hmt hn2 HN
          go_wp2
          go_roundw
          case rel => exact ⟨k + 1, by omega, by go_num, ho, hb⟩
          case measure => simp [intOf]; omega
      · obtain rfl : k = L.length := by omega
        rw [HFIN.out] at ho
        have P5 := Lib.hid (Own.below P3.out hb.out)
        have hfl : (L.filter fun m => decide (m.b < t)).length ≤ 1000000000 := Nat.le_trans (List.length_filter_le _ _) (by omega)
        have B5 := Lib.hid (B3.out.trans (hb.out.mono B3.out.size))
        have hS := Lib.hid (fun W5 => fun (h5 : W5 = wr) => same_any _ _ v' _ _ W5 (h5 ▸ P5.out) (h5 ▸ ho.out) hfl)
        clear hb P5 P3 hfl
        go_wp2_with fail
        refine (hS.out _ rfl).mono ?_
        rintro e w5 ⟨rfl, b5⟩
        have B6 := Lib.hid (B5.out.trans (b5.mono B5.out.size))
        clear b5 B5 hS
        go_wp2
        go_ret
        exact ⟨rfl, B6.out⟩
theorem parts_u8 (a : Option Addr) (n cap : Nat) (l : List Sg) (x : Int) (W : World) (hl : Segs W W.heap.size a l) (hn : n = l.length) (hc : n ≤ cap) (hx : 0 ≤ x ∧ x ≤ 255) :
    Calls Try.prog 12 #[.slice a n cap, .int .u8 x] W fun e w' => e = .returned (.bool true) ∧ Below W.heap.size W w' := by
  obtain ⟨q, rfl⟩ : ∃ q : Nat, x = (q : Int) := ⟨x.toNat, by omega⟩
  exact parts_any a n cap l q W hl hn hc (by omega)
end Go.Proofs.Ytlgmlgogpohgoaa.Sw
