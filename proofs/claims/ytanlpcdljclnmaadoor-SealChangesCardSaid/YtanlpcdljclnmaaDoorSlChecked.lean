/- The reference's list of the texts that are digested when a seal is verified. -/
import Derived.Test.YtanlpcdljclnmaaDoorSlRefC
import Derived.Test.YtanlpcdljclnmaaDoorSlVerify
namespace Go.Proofs.YtanlpcdljclnmaaDoor.Sl
open Go.RowKit
open Go.Proofs.YtanlpcdljclnmaaDoor.Dg hiding intOf

theorem kept {w w' : World} {p : Addr} {x : Value} (hb : Below w.heap.size w w') (h : w.cell? p = some x) : w'.cell? p = some x := (hb.cell (World.block_lt_of_cell? _ _ h)).trans h
theorem chained_of (x : B) (q : Nat) (b : Int) (w : World) (hb : b = (q : Int)) (hx : x.length ≤ 1000) (hn : q ≤ 1000) :
    Calls Tryd.prog 29 #[.string ⟨x.toArray⟩, .int .i64 b] w fun e w' => ∃ g c, e = .returned (.slice (some ⟨g, 0, none⟩) (q + 1) c) ∧ Own w' w.heap.size (.slice (some ⟨g, 0, none⟩) (q + 1) c) (q + 1) (chainL x q) ∧ Below w.heap.size w w' := by
  subst hb; exact chained_any x q w (by omega) hn
def ckTo (m : B) (sig : List B) (k : Nat) : List B := (List.range k).flatMap (checkedChain m sig)
def ckEnds (m : B) (sig : List B) (k : Nat) : List B := (List.range k).map fun k => chainN (sig.getD k []) (15 - dig m k)
theorem ckTo_succ (m : B) (sig : List B) (k q : Nat) (x : B) (hx : sig.getD k [] = x) (hq : 15 - dig m k = q) : ckTo m sig (k + 1) = ckTo m sig k ++ chainL x q := by subst hx hq; exact flat_succ _ _
theorem ckEnds_succ (m : B) (sig : List B) (k q : Nat) (x : B) (hx : sig.getD k [] = x) (hq : 15 - dig m k = q) : ckEnds m sig (k + 1) = ckEnds m sig k ++ [chainN x q] := by subst hx hq; exact range_map_succ _ _
theorem ckEnds_small {m : B} {sig : List B} (h : ∀ x ∈ sig, x.length ≤ 1000) (k : Nat) : ∀ x ∈ ckEnds m sig k, x.length ≤ 1000 := by
  intro x hx
  unfold ckEnds at hx
  obtain ⟨j, _, rfl⟩ := List.mem_map.1 hx
  exact chainN_len _ (getD_small h j) (by decide) _
def ckPath (t : B) (ps : List B) (i k : Nat) : List B := (List.range k).map fun d => upT (val t ps i d) (ps.getD d []) (i / 2 ^ d)
theorem ckPath_succ (t : B) (ps : List B) (i k : Nat) : ckPath t ps i (k + 1) = ckPath t ps i k ++ [upT (val t ps i k) (ps.getD k []) (i / 2 ^ k)] := range_map_succ _ _
set_option maxRecDepth 100000 in
set_option maxHeartbeats 8000000 in
theorem checked_any (m : B) (idx : Nat) (a p : Option Addr) (ca np cp : Nat) (sig ps : List B) (w : World) (hm : m.length ≤ 1000) (hl : Txt w w.heap.size a sig) (hp : Txt w w.heap.size p ps) (h18 : sig.length = 18) (hnp : np = ps.length) (h8 : np ≤ 8)
    (hi : idx < 1000000) (hx : ∀ x ∈ sig, x.length ≤ 1000) (hy : ∀ x ∈ ps, x.length ≤ 1000) :
    Calls Tryd.prog 12 #[.string ⟨m.toArray⟩, .agg #[.int .i64 idx, .slice a 18 ca, .slice p np cp]] w fun e w' => ∃ a nn c, e = .returned (.slice a nn c) ∧ nn ≤ 5000 ∧ Own w' w.heap.size (.slice a nn c) nn (checked m idx sig ps) ∧ Below w.heap.size w w' := by
  have HS := Lib.hid h18
  have HN := Lib.hid hnp
  have HX := Lib.hid hx
  have HY := Lib.hid hy
  have bn := below_new w (.cells #[.int .i64 idx, .slice a 18 ca, .slice p np cp] 29)
  have R0 := Lib.hid (IsRow.made w 29 #[.int .i64 idx, .slice a 18 ca, .slice p np cp])
  have L0 := Lib.hid (hl.later bn)
  have P0 := Lib.hid (hp.later bn)
  have B0 := Lib.hid bn
  clear h18 hnp hx hy hl hp bn
  go_enter Tryd.func12, Tryd.ntmps12
  go_wp2_with fail
  refine (refdigits_any m _ (by omega)).mono ?_
  rintro e w1 ⟨gd, cd, rfl, _, hgd, hcd, hb1⟩
  have R1 := Lib.hid (R0.out.below hb1 R0.out.inside)
  have L1 := Lib.hid (L0.out.later hb1)
  have P1 := Lib.hid (P0.out.later hb1)
  have B1 : Hid (Below w.heap.size w w1) := B0.out.trans (hb1.mono B0.out.size)
  have D1 := Lib.hid hcd
  clear R0 L0 P0 B0 hb1 hcd
  go_wp2
  go_loopw [6, 7, 8] (fun u v i wr => ∃ k n1 : Nat, k ≤ 18 ∧ n1 ≤ 17 * k ∧ i = .int .i64 k ∧ Hid (M3 w1 wr w1.heap.size u v (.slice none 0 0) n1 k 0 (ckTo m sig k) (ckEnds m sig k) [])) (fun _ _ i _ => 18 - (intOf i).toNat)
  case atStart => exact ⟨0, 0, by omega, by omega, rfl, M3.begin w1 _ (Nat.le_refl _)⟩
  case round =>
    obtain ⟨k, n1, hk, hn1, rfl, hst⟩ := hrel
    by_cases hlt : k < 18
    · obtain ⟨bs, os, rfl, hbN, c0⟩ := L1.out.at_ (k := k) (by rw [HS.out]; exact hlt)
      have RW := R1.out.below hst.out.below R1.out.inside
      have e1 : wr.cell? ⟨w.heap.size, 1, none⟩ = some (.slice (some ⟨bs, os, none⟩) 18 ca) := RW.get 1
      have e2 : wr.cell? ⟨bs, os + k, none⟩ = some (.string ⟨(sig.getD k []).toArray⟩) := kept hst.out.below c0
      have e3 : wr.cell? ⟨gd, k, none⟩ = some (.int .i64 ((dig m k : Nat) : Int)) := kept hst.out.below (D1.out k hlt)
      have hd16 := dig_lt m k hlt
      have x0 : (sig.getD k []).length ≤ 1000 := getD_small HX.out k
      obtain ⟨x, hxk⟩ : ∃ x, sig.getD k [] = x := ⟨_, rfl⟩
      obtain ⟨d, hdk⟩ : ∃ d, dig m k = d := ⟨_, rfl⟩
      obtain ⟨q, hqd⟩ : ∃ q, 15 - d = q := ⟨_, rfl⟩
      have CT : Hid (ckTo m sig (k + 1) = ckTo m sig k ++ chainL x q) := ckTo_succ m sig k q x hxk (by rw [hdk, hqd])
      have CE : Hid (ckEnds m sig (k + 1) = ckEnds m sig k ++ [chainN x q]) := ckEnds_succ m sig k q x hxk (by rw [hdk, hqd])
      rw [hxk] at e2 x0
      rw [hdk] at e3 hd16
      have hq15 : q ≤ 15 := by omega
      have hdq : (15 : Int) - (d : Int) = (q : Int) := by omega
      have hqw : IntKind.i64.wrap (q : Int) = (q : Int) := IntWalk.i64_in _ (by omega)
      have HGD := Lib.hid hgd
      clear RW c0 hxk hdk hqd
      go_wp2_with fail
      go_region_held3 (fun w' => w'.cell? ⟨w.heap.size, 1, none⟩ = some (.slice (some ⟨bs, os, none⟩) 18 ca) ∧ w'.cell? ⟨bs, os + k, none⟩ = some (.string ⟨x.toArray⟩) ∧ w'.cell? ⟨gd, k, none⟩ = some (.int .i64 (d : Int))) (first | go_keep | exact KS)
        (first | (go_at_call 29; refine (chained_of x q _ _ (by first | rfl | exact hqw) x0 (by omega)).mono ?_; rintro e w2 ⟨gc, cc, rfl, hoc, hb2⟩; have hbw : Below wr.heap.size wr w2 := Below.trans (below_drew' wr) hb2; have KS := And.intro (kept hbw e1) (And.intro (kept hbw e2) (kept hbw e3))))
      have S2 := Lib.hid (M3.later hst.out hbw)
      have HC := Lib.hid hoc.txt.2
      have HO := Lib.hid hoc
      have hgc : wr.heap.size ≤ gc := hoc.fresh.1
      have U0 := Lib.hid (fun k hk => (hst.out.o1.lt k hk).2)
      have f3 := KS.2.2
      have fq := hoc.cell (k := q) (by rw [chainL_len]; omega)
      rw [show (chainL x q).getD q [] = chainN x q from map_range_getD _ _ _ _ (by omega)] at fq
      have F3 := Lib.hid f3
      have FQ := Lib.hid fq
      clear hst KS hbw hoc hb2 e1 e2 e3 f3 fq
      go_wp2_with (at_builtin; first
        | (refine wpList_appL rfl _ _ (by rfl) w1.heap.size _ n1 _ (chainL x q) ⟨gc, 0, none⟩ (q + 1) cc (by rfl) S2.out.o1 (by rfl) HC.out (chainL_len _ _).symm (by omega) (by omega) (by omega) S2.out.size ?_; intro g2 cap2 w3 ho3 hg3 hlt3 hor3 hsz3; have S3 := Lib.hid (M3.grow S2.out ho3 hg3 hlt3 hor3); have d3 := hg3.cell F3.out (fun e => by have h1 := (hlt3 _ e.symm).1; have h2 : w1.heap.size ≤ gd := h1; have h3 := HGD.out; omega); have dq := hg3.cell FQ.out (fun e => by have h1 := U0.out _ e.symm; have h2 : gc < wr.heap.size := h1; omega))
        | (refine wpList_appA rfl _ _ (by rfl) w1.heap.size _ k (ckEnds m sig k) (chainN x q) w3.heap.size (by rfl) (Own.later S3.out.o2 (below_new w3 _)) (by rfl) (heap_alloc_new w3 _) (by omega) (Nat.le_trans S3.out.size (below_new w3 _).size) ?_; intro g4 cap4 w4 ho4 hg4 hlt4 hor4 hsz4; have S4 := Lib.hid (M3.swap (M3.grow (M3.swap (M3.later S3.out (below_new w3 _))) ho4 hg4 hlt4 hor4))))
      clear S2 HC HO U0 F3 FQ ho3 hg3 hlt3 hor3 hsz3 S3 d3 dq ho4 hg4 hlt4 hor4 hsz4
      go_roundw
      case rel => refine ⟨k + 1, n1 + (q + 1), by omega, by omega, by go_num, ?_⟩; show M3 _ _ _ _ _ _ _ _ _ _ _ _; rw [CT.out, CE.out]; exact S4.out
      case measure => simp [intOf]; omega
    · obtain rfl : k = 18 := by omega
      obtain ⟨ge, ce, rfl⟩ := hst.out.o2.pos (by decide)
      have e18 : (ckEnds m sig 18).length = 18 := map_range_len _ _
      have FE : Hid (fewB (ckEnds m sig 18)) := ⟨by rw [e18]; decide, ckEnds_small HX.out 18⟩
      have E18 : Hid (18 = (ckEnds m sig 18).length) := e18.symm
      clear e18
      go_wp2_with fail
      refine (refjoinedB _ 18 ce (ckEnds m sig 18) _ hst.out.o2.txt.2 E18.out FE.out).mono ?_
      rintro e w2 ⟨rfl, hb2⟩
      have S1 := Lib.hid (M3.set2 (M3.later hst.out hb2))
      obtain ⟨ky, hky⟩ : ∃ ky, joined (ckEnds m sig 18) = ky := ⟨_, rfl⟩
      have HK : Hid (ky.length ≤ 100000) := by show _ ≤ _; rw [← hky]; exact Nat.le_trans (fewB_len FE.out) (by decide)
      rw [hky]
      have KY := Lib.hid hky
      clear hst hb2 hky FE E18
      go_wp2_with (at_builtin; refine wpList_appA rfl _ _ (by rfl) w1.heap.size _ n1 _ ky w2.heap.size (by rfl) (Own.later S1.out.o1 (below_new w2 _)) (by rfl) (heap_alloc_new w2 _) (by omega) (Nat.le_trans S1.out.size (below_new w2 _).size) ?_; intro g3 cap3 w3 ho3 hg3 hlt3 hor3 hsz3; have S2 := Lib.hid (M3.grow (M3.later S1.out (below_new w2 _)) ho3 hg3 hlt3 hor3))
      clear S1 ho3 hg3 hlt3 hor3 hsz3
      refine (refsumB ky _ HK.out).mono ?_
      rintro e w' ⟨rfl, rfl⟩
      obtain ⟨t, ht⟩ : ∃ t, dsum ky = t := ⟨_, rfl⟩
      have HT : Hid (t = signer m sig) := by show _ = _; rw [← ht, ← KY.out]; rfl
      have ht16 : t.length ≤ 1000 := by rw [← ht]; exact Nat.le_trans (dsum_small _) (by decide)
      rw [ht]
      clear ht
      have e0 : w3.cell? ⟨w.heap.size, 0, none⟩ = some (.int .i64 idx) := (R1.out.below S2.out.below R1.out.inside).get 0
      go_wp2
      go_loopw [6, 11, 12, 13] (fun u v j i wr => ∃ k n2 jj : Nat, k ≤ np ∧ n2 ≤ n1 + 1 + k ∧ i = .int .i64 k ∧ j = .int .i64 jj ∧ jj ≤ idx ∧ v = .string ⟨(val t ps idx k).toArray⟩ ∧ Hid (jj = idx / 2 ^ k) ∧ Hid (M3 w1 wr w1.heap.size u (.slice none 0 0) (.slice none 0 0) n2 0 0 (ckTo m sig 18 ++ [ky] ++ ckPath t ps idx k) [] [])) (fun _ _ _ i _ => np - (intOf i).toNat)
      case atStart => exact ⟨0, n1 + 1, idx, by omega, by omega, rfl, rfl, by omega, rfl, by show _ = _; rw [Nat.pow_zero, Nat.div_one], by show M3 _ _ _ _ _ _ _ _ _ _ _ _; rw [show ckPath t ps idx 0 = [] from rfl, List.append_nil]; exact S2.out⟩
      case round =>
        clear S2 e0
        obtain ⟨k, n2, jj, hk, hn2, rfl, rfl, hjj, rfl, hj, hst2⟩ := hrel
        by_cases hlt2 : k < np
        · obtain ⟨bp, op, rfl, hbN, c0⟩ := P1.out.at_ (k := k) (by rw [← HN.out]; exact hlt2)
          have RW := R1.out.below hst2.out.below R1.out.inside
          have e2 : wr.cell? ⟨w.heap.size, 2, none⟩ = some (.slice (some ⟨bp, op, none⟩) np cp) := RW.get 2
          have e3 : wr.cell? ⟨bp, op + k, none⟩ = some (.string ⟨(ps.getD k []).toArray⟩) := kept hst2.out.below c0
          have y0 : (ps.getD k []).length ≤ 1000 := getD_small HY.out k
          have v0 : (val t ps idx k).length ≤ 1000 := val_small (ps := ps) (idx := idx) ht16 k
          have HJ : Hid (jj / 2 = idx / 2 ^ (k + 1)) := by show _ = _; rw [hj.out, div_two_pow]
          have VS0 : val t ps idx (k + 1) = dsum (upT (val t ps idx k) (ps.getD k []) jj) := by rw [hj.out]; rfl
          have PS0 : ckPath t ps idx (k + 1) = ckPath t ps idx k ++ [upT (val t ps idx k) (ps.getD k []) jj] := by rw [hj.out]; exact ckPath_succ _ _ _ _
          clear RW c0 hj
          by_cases hodd : jj % 2 = 1
          · have VS : Hid (val t ps idx (k + 1) = dsum (nodeT (ps.getD k []) (val t ps idx k))) := by show _ = _; rw [VS0]; unfold upT; rw [if_pos hodd]
            have PS : Hid (ckPath t ps idx (k + 1) = ckPath t ps idx k ++ [nodeT (ps.getD k []) (val t ps idx k)]) := by show _ = _; rw [PS0]; unfold upT; rw [if_pos hodd]
            have hi2 : (jj : Int) % 2 = 1 := by omega
            clear VS0 PS0 hodd
            generalize val t ps idx k = v at *
            generalize ps.getD k [] = y at *
            go_wp2_with fail
            refine (refnode_any v y _ v0 y0).mono ?_
            rintro e w4 ⟨rfl, hb4⟩
            have S3 := Lib.hid (M3.later hst2.out hb4)
            have f2 := kept hb4 e2
            have f3 := kept hb4 e3
            clear hst2 hb4 e2 e3
            go_wp2_with fail
            refine (refnode_any y v _ y0 v0).mono ?_
            rintro e w5 ⟨rfl, hb5⟩
            have S4 := Lib.hid (M3.later S3.out hb5)
            have NT : (nodeT y v).length ≤ 100000 := Nat.le_trans (fewB_len (few_node y0 v0)) (by decide)
            clear S3 hb5 f2 f3
            go_wp2_with (at_builtin; refine wpList_appA rfl _ _ (by rfl) w1.heap.size _ n2 _ (nodeT y v) w5.heap.size (by rfl) (Own.later S4.out.o1 (below_new w5 _)) (by rfl) (heap_alloc_new w5 _) (by omega) (Nat.le_trans S4.out.size (below_new w5 _).size) ?_; intro g6 cap6 w6 ho6 hg6 hlt6 hor6 hsz6; have S5 := Lib.hid (M3.grow (M3.later S4.out (below_new w5 _)) ho6 hg6 hlt6 hor6))
            clear S4 ho6 hg6 hlt6 hor6 hsz6
            refine (refsumB (nodeT y v) _ NT).mono ?_
            rintro e w' ⟨rfl, rfl⟩
            go_wp2
            go_roundw
            case rel => refine ⟨k + 1, n2 + 1, jj / 2, by omega, by omega, by go_num, ?_, by omega, by rw [VS.out], HJ.out, ?_⟩; (first | go_num | rfl | (congr 1; omega)); show M3 _ _ _ _ _ _ _ _ _ _ _ _; rw [PS.out, ← List.append_assoc]; exact S5.out
            case measure => simp [intOf]; omega
          · have VS : Hid (val t ps idx (k + 1) = dsum (nodeT (val t ps idx k) (ps.getD k []))) := by show _ = _; rw [VS0]; unfold upT; rw [if_neg hodd]
            have PS : Hid (ckPath t ps idx (k + 1) = ckPath t ps idx k ++ [nodeT (val t ps idx k) (ps.getD k [])]) := by show _ = _; rw [PS0]; unfold upT; rw [if_neg hodd]
            have hi2 : (jj : Int) % 2 = 0 := by omega
            clear VS0 PS0 hodd
            generalize val t ps idx k = v at *
            generalize ps.getD k [] = y at *
            go_wp2_with fail
            refine (refnode_any v y _ v0 y0).mono ?_
            rintro e w4 ⟨rfl, hb4⟩
            have S4 := Lib.hid (M3.later hst2.out hb4)
            have NT : (nodeT v y).length ≤ 100000 := Nat.le_trans (fewB_len (few_node v0 y0)) (by decide)
            clear hst2 hb4 e2 e3
            go_wp2_with (at_builtin; refine wpList_appA rfl _ _ (by rfl) w1.heap.size _ n2 _ (nodeT v y) w4.heap.size (by rfl) (Own.later S4.out.o1 (below_new w4 _)) (by rfl) (heap_alloc_new w4 _) (by omega) (Nat.le_trans S4.out.size (below_new w4 _).size) ?_; intro g6 cap6 w6 ho6 hg6 hlt6 hor6 hsz6; have S5 := Lib.hid (M3.grow (M3.later S4.out (below_new w4 _)) ho6 hg6 hlt6 hor6))
            clear S4 ho6 hg6 hlt6 hor6 hsz6
            refine (refsumB (nodeT v y) _ NT).mono ?_
            rintro e w' ⟨rfl, rfl⟩
            go_wp2
            go_roundw
            case rel => refine ⟨k + 1, n2 + 1, jj / 2, by omega, by omega, by go_num, ?_, by omega, by rw [VS.out], HJ.out, ?_⟩; (first | go_num | rfl | (congr 1; omega)); show M3 _ _ _ _ _ _ _ _ _ _ _ _; rw [PS.out, ← List.append_assoc]; exact S5.out
            case measure => simp [intOf]; omega
        · obtain rfl : k = np := by omega
          have RW := R1.out.below hst2.out.below R1.out.inside
          have e2 : wr.cell? ⟨w.heap.size, 2, none⟩ = some (.slice p k cp) := RW.get 2
          obtain ⟨a', c', hv⟩ := hst2.out.o1.form
          rw [hv] at hst2 ⊢
          clear RW
          go_wp2
          go_ret
          refine ⟨_, _, _, rfl, by omega, ?_, B1.out.trans (hst2.out.below.mono B1.out.size)⟩
          have := hst2.out.o1.down B1.out.size
          rw [HT.out, ← KY.out, HN.out] at this
          exact this
end Go.Proofs.YtanlpcdljclnmaaDoor.Sl
