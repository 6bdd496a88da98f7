/- The reference's Verify. -/
import Derived.Test.YtmladmljibcagaaDoorSlRefF
namespace Go.Proofs.YtmladmljibcagaaDoor.Sl
open Go.RowKit
open Go.Proofs.YtmladmljibcagaaDoor.Dg hiding intOf

theorem refis_of (x : B) (b : Bool) (w : World) (hb : isDig x = b) :
    Calls Tryd.prog 44 #[.string ⟨x.toArray⟩] w fun e w' => e = .returned (.bool b) ∧ w = w' := by
  subst hb; exact refis_any ⟨x.toArray⟩ w
theorem ver_not {pub m : B} {idx : Int} {sig ps : List B} (h : formed idx sig ps = false) : verB pub m idx sig ps = false := by unfold verB; rw [h]; rfl
theorem formed_sig {idx : Int} {sig ps : List B} {k : Nat} (hk : k < sig.length) (h : isDig (sig.getD k []) = false) : formed idx sig ps = false := by
  have : sig.all isDig = false := by
    rw [List.all_eq_false]
    exact ⟨_, getD_mem hk, by rw [h]; simp⟩
  unfold formed
  rw [this]
  simp
theorem formed_path {idx : Int} {sig ps : List B} {k : Nat} (hk : k < ps.length) (h : isDig (ps.getD k []) = false) : formed idx sig ps = false := by
  have : ps.all isDig = false := by
    rw [List.all_eq_false]
    exact ⟨_, getD_mem hk, by rw [h]; simp⟩
  unfold formed
  rw [this]
  simp
theorem formed_head {idx : Int} {sig ps : List B} (h : ¬ (sig.length = 18 ∧ ps.length ≤ 8 ∧ 0 ≤ idx ∧ idx < 2 ^ ps.length)) : formed idx sig ps = false := by
  unfold formed
  rw [Bool.eq_false_iff]
  intro e
  simp only [Bool.and_eq_true, decide_eq_true_eq] at e
  exact h ⟨e.1.1.1.1, e.1.1.1.2, e.1.1.2.1, e.1.1.2.2⟩
theorem power_reg (w : World) (n : Nat) (hn : n ≤ 8) (m : Nat) (hm : 2 ^ n = m) : ∀ d os, Calls Tryd.prog 36 #[.int .i64 n] (Sort.grow (redrawn w d) os) fun e w'' => e = .returned (.int .i64 (m : Int)) ∧ ∃ q : Regrown, w'' = Sort.grow (redrawn w q.d) q.os :=
  fun _ _ => Calls.regrown_of ((power_of n m _ hn hm).mono fun _ _ ⟨he, hw⟩ => ⟨he, hw ▸ Below.refl _ _⟩)
/-- the state of Verify: the seal's row, its texts, all below. -/
structure VS (w wr : World) (idx : Int) (a p : Option Addr) (na ca np cp : Nat) (sig ps : List B) : Prop where
  row : IsRow wr w.heap.size 24 #[.int .i64 idx, .slice a na ca, .slice p np cp]
  ta : Txt wr wr.heap.size a sig
  tp : Txt wr wr.heap.size p ps
  below : Below w.heap.size w wr
theorem VS.later {w wr wr' : World} {idx : Int} {a p : Option Addr} {na ca np cp : Nat} {sig ps : List B} (h : VS w wr idx a p na ca np cp sig ps) (hb : Below wr.heap.size wr wr') : VS w wr' idx a p na ca np cp sig ps :=
  ⟨h.row.below hb h.row.inside, h.ta.later hb, h.tp.later hb, h.below.trans (hb.mono h.below.size)⟩
theorem refchain_of (x : B) (q : Nat) (b : Int) (w : World) (hb : b = (q : Int)) (hx : x.length ≤ 1000) (hn : q ≤ 1000) :
    Calls Tryd.prog 38 #[.string ⟨x.toArray⟩, .int .i64 b] w fun e w' => e = .returned (.string ⟨(chainN x q).toArray⟩) ∧ w = w' := by
  subst hb; exact refchain_any x q w (by omega) hn
theorem dig_next {L : List B} {k : Nat} (h : ∀ j, j < k → isDig (L.getD j []) = true) (h' : isDig (L.getD k []) = true) : ∀ j, j < k + 1 → isDig (L.getD j []) = true := by
  intro j hj
  by_cases e : j < k
  · exact h j e
  · obtain rfl : j = k := by omega
    exact h'
theorem dig_all {L : List B} {n : Nat} (hn : n = L.length) (h : ∀ j, j < n → isDig (L.getD j []) = true) : L.all isDig = true := by
  rw [List.all_eq_true]
  intro x hx
  obtain ⟨i, hi, rfl⟩ := mem_getD hx
  exact h i (by omega)
theorem parent_of (t o : B) (b : Bool) (r : B) (w : World) (ht : t.length ≤ 1000) (ho : o.length ≤ 1000) (hr : dsum (if b = true then nodeT o t else nodeT t o) = r) :
    Calls Tryd.prog 46 #[.string ⟨t.toArray⟩, .string ⟨o.toArray⟩, .bool b] w fun e w' => e = .returned (.string ⟨r.toArray⟩) ∧ Below w.heap.size w w' := hr ▸ parent_any t o b w ht ho
set_option maxRecDepth 100000 in
set_option maxHeartbeats 8000000 in
theorem refverify_any (pub m : B) (idx : Int) (a p : Option Addr) (na ca np cp : Nat) (sig ps : List B) (w : World) (hl : Txt w w.heap.size a sig) (hp : Txt w w.heap.size p ps) (hna : na = sig.length) (hnp : np = ps.length)
    (hm : m.length ≤ 1000) (h1 : na ≤ 1000000) (h2 : np ≤ 1000000) (hx : ∀ x ∈ sig, x.length ≤ 1000) (hy : ∀ x ∈ ps, x.length ≤ 1000) :
    Calls Tryd.prog 19 #[.string ⟨pub.toArray⟩, .string ⟨m.toArray⟩, .agg #[.int .i64 idx, .slice a na ca, .slice p np cp]] w fun e w' => e = .returned (.bool (verB pub m idx sig ps)) ∧ Below w.heap.size w w' := by
  have HA := Lib.hid hna
  have HP := Lib.hid hnp
  have HX := Lib.hid hx
  have HY := Lib.hid hy
  obtain ⟨W0, hW0⟩ : ∃ W0, w.alloc (.cells #[.int .i64 idx, .slice a na ca, .slice p np cp] 24) = W0 := ⟨_, rfl⟩
  have B0 : Below w.heap.size w W0 := hW0 ▸ below_new _ _
  have V0 : Hid (VS w W0 idx a p na ca np cp sig ps) := ⟨hW0 ▸ IsRow.made _ _ _, hl.later B0, hp.later B0, B0⟩
  have HW0 := Lib.hid hW0
  clear hna hnp hl hp hx hy hW0 B0
  obtain ⟨k0, k1, k2⟩ := three_regrown V0.out.row
  by_cases c1 : na = 18
  · subst c1
    by_cases c2 : np ≤ 8
    · by_cases c3 : 0 ≤ idx
      · obtain ⟨q, hq⟩ : ∃ q, 2 ^ np = q := ⟨_, rfl⟩
        have cP := power_reg W0 np c2 q hq
        have hq' : (2 : Int) ^ ps.length = (q : Int) := by rw [← HP.out, ← hq]; simp
        have HQ' := Lib.hid hq'
        have HQ := Lib.hid hq
        have i2 : ¬ (8 : Int) < (np : Int) := by omega
        have i3 : ¬ idx < 0 := by omega
        have d2 : decide ((8 : Int) < (np : Int)) = false := decide_eq_false i2
        have d3 : decide (idx < 0) = false := decide_eq_false i3
        clear hq hq'
        by_cases c4 : idx < q
        · have i4 : ¬ (q : Int) ≤ idx := by omega
          have d4 : decide ((q : Int) ≤ idx) = false := decide_eq_false i4
          go_enter Tryd.func19, Tryd.ntmps19
          go_wp2_with fail
          rw [HW0.out]
          refine wp_region_quiet_below (by kernel_rfl) (by kernel_rfl) ?_
          repeat (first | go_big_quiet_step (first | with_reducible exact cP _ _) | quiet_step (first | with_reducible exact cP _ _))
          refine wpQuiet_nil ?_
          intro _ hw'
          obtain ⟨⟨dq, osq⟩, hw''⟩ := hw'
          subst hw''
          have V1 := Lib.hid (V0.out.later (below_regrown W0 dq osq))
          clear k0 k1 k2 V0 cP
          generalize Sort.grow (redrawn W0 dq) osq = w1 at *
          go_wp2_with fail
          refine (refdigits_any m _ (by omega)).mono ?_
          rintro e w2 ⟨gd, cd, rfl, _, hgd, hcd, hb2⟩
          have V2 := Lib.hid (V1.out.later hb2)
          have D2 := Lib.hid hcd
          have HGD := Lib.hid hgd
          clear V1 hb2 hcd hgd
          obtain ⟨n, hn⟩ : ∃ n : Nat, idx = (n : Int) := ⟨idx.toNat, (Int.toNat_of_nonneg c3).symm⟩
          subst hn
          have hn256 : n < 256 := by
            have h5 : q ≤ 256 := by rw [← HQ.out]; exact Nat.le_trans (Nat.pow_le_pow_right (by decide) c2) (by decide)
            omega
          go_wp2
          go_loopw [8, 9] (fun v i wr => ∃ k : Nat, k ≤ 18 ∧ i = .int .i64 k ∧ Hid (∀ j, j < k → isDig (sig.getD j []) = true) ∧ Hid (Own wr w2.heap.size v k (ckEnds m sig k)) ∧ Hid (Below w2.heap.size w2 wr)) (fun _ i _ => 18 - (intOf i).toNat)
          case atStart => exact ⟨0, by omega, rfl, fun j hj => absurd hj (Nat.not_lt_zero j), Own.nil _ _, Below.refl _ _⟩
          case round =>
            obtain ⟨k, hk, rfl, hall, hown, hb⟩ := hrel
            by_cases hlt : k < 18
            · obtain ⟨bs, os, rfl, hbN, c0⟩ := V2.out.ta.at_ (k := k) (by rw [← HA.out]; exact hlt)
              have RW := V2.out.row.below hb.out V2.out.row.inside
              have e1 : wr.cell? ⟨w.heap.size, 1, none⟩ = some (.slice (some ⟨bs, os, none⟩) 18 ca) := RW.get 1
              have e2 : wr.cell? ⟨bs, os + k, none⟩ = some (.string ⟨(sig.getD k []).toArray⟩) := kept hb.out c0
              have e3 : wr.cell? ⟨gd, k, none⟩ = some (.int .i64 ((dig m k : Nat) : Int)) := kept hb.out (D2.out k hlt)
              have hd16 := dig_lt m k hlt
              have x0 : (sig.getD k []).length ≤ 1000 := getD_small HX.out k
              have hrow : w.heap.size < w2.heap.size := V2.out.row.inside
              cases hdg : isDig (sig.getD k []) with
              | false =>
                have VB : Hid (verB pub m (n : Int) sig ps = false) := ver_not (formed_sig (k := k) (by rw [← HA.out]; exact hlt) hdg)
                have HDG := Lib.hid hdg
                have B9 := Lib.hid (V2.out.below.trans (hb.out.mono V2.out.below.size))
                clear hdg
                go_wp2_with fail
                refine (refis_of (sig.getD k []) false _ HDG.out).mono ?_
                rintro e w' ⟨rfl, rfl⟩
                go_wp2
                go_ret
                exact ⟨ret_bool VB.out.symm, B9.out⟩
              | true =>
                have HDG := Lib.hid hdg
                have AN : Hid (∀ j, j < k + 1 → isDig (sig.getD j []) = true) := dig_next hall.out hdg
                obtain ⟨x, hxk⟩ : ∃ x, sig.getD k [] = x := ⟨_, rfl⟩
                obtain ⟨d, hdk⟩ : ∃ d, dig m k = d := ⟨_, rfl⟩
                obtain ⟨r, hqd⟩ : ∃ r, 15 - d = r := ⟨_, rfl⟩
                have CE : Hid (ckEnds m sig (k + 1) = ckEnds m sig k ++ [chainN x r]) := ckEnds_succ m sig k r x hxk (by rw [hdk, hqd])
                rw [hxk] at e2 x0 hdg
                rw [hdk] at e3 hd16
                have HDG' := Lib.hid hdg
                have HQD := Lib.hid hqd
                clear hdg hall hxk hdk hqd HDG
                go_wp2_with fail
                refine (refis_of x true _ HDG'.out).mono ?_
                rintro e w' ⟨rfl, rfl⟩
                have hqd := HQD.out
                have hq15 : r ≤ 15 := by omega
                have hdq : (15 : Int) - (d : Int) = (r : Int) := by omega
                have hqw : IntKind.i64.wrap (r : Int) = (r : Int) := IntWalk.i64_in _ (by omega)
                have hsz := hb.out.size
                clear RW c0 hqd HQD HDG'
                have KA := fun o => And.intro (kept (Below.trans (below_drew' wr) (below_new wr.drew o)) e1) (And.intro (kept (Below.trans (below_drew' wr) (below_new wr.drew o)) e2) (kept (Below.trans (below_drew' wr) (below_new wr.drew o)) e3))
                go_wp2_with fail
                go_region_held3 (fun w' => w'.cell? ⟨w.heap.size, 1, none⟩ = some (.slice (some ⟨bs, os, none⟩) 18 ca) ∧ w'.cell? ⟨bs, os + k, none⟩ = some (.string ⟨x.toArray⟩) ∧ w'.cell? ⟨gd, k, none⟩ = some (.int .i64 (d : Int))) (first | go_keep | exact KS | exact KA _)
                  (first
                    | (go_at_call 38; refine (refchain_of x r _ _ (by first | rfl | exact hqw) x0 (by omega)).mono ?_; rintro e w' ⟨rfl, rfl⟩)
                    | ((refine step_app1 (by rfl) _ _ (by rfl) w2.heap.size _ k _ (chainN x r) wr.drew.heap.size (by rfl) (Own.later (Own.later hown.out (below_drew' wr)) (below_new wr.drew _)) (by rfl) (heap_alloc_new wr.drew _) (by omega) (Nat.le_trans hsz (below_new wr.drew _).size) ?_; intro g cap w4 ho4 hg4 hlt4 hsz4; have KS := And.intro (hg4.cell (KA _).1 (fun e => by have h5 := (hlt4 _ e.symm).1; have h6 : w2.heap.size ≤ w.heap.size := h5; omega)) (And.intro (hg4.cell (KA _).2.1 (fun e => by have h5 := (hlt4 _ e.symm).1; have h6 : w2.heap.size ≤ bs := h5; omega)) (hg4.cell (KA _).2.2 (fun e => by have h5 := (hlt4 _ e.symm).1; have h6 : w2.heap.size ≤ gd := h5; have h7 := HGD.out; omega))))))
                have O2 : Hid (Own w4 w2.heap.size (.slice (some ⟨g, 0, none⟩) (k + 1) cap) (k + 1) (ckEnds m sig (k + 1))) := by
                  show Own _ _ _ _ _
                  rw [CE.out]
                  exact ho4
                have B2 : Hid (Below w2.heap.size w2 w4) := ((hb.out.trans ((below_drew' wr).mono hsz)).alloc hsz _).grown hg4 (Nat.le_trans hsz (below_new wr.drew _).size) (fun k hk => (hlt4 k hk).1)
                clear ho4 hg4 hlt4 hsz4 KS KA hown hb e1 e2 e3
                go_wp2
                go_roundw
                case rel => exact ⟨k + 1, by omega, by go_num, AN, O2, B2⟩
                case measure => simp [intOf]; omega
            · obtain rfl : k = 18 := by omega
              obtain ⟨ge, ce, rfl⟩ := hown.out.pos (by decide)
              rw [show ((18 : Nat) : Int) = (18 : Int) from rfl]
              have SA : Hid (sig.all isDig = true) := dig_all HA.out hall.out
              clear hall hlt
              go_wp2
              go_loop [10] (fun i => ∃ k : Nat, k ≤ np ∧ i = .int .i64 k ∧ Hid (∀ j, j < k → isDig (ps.getD j []) = true)) (fun i => np - (intOf i).toNat)
              case atStart => exact ⟨0, by omega, rfl, fun j hj => absurd hj (Nat.not_lt_zero j)⟩
              case round =>
                obtain ⟨k, hk, rfl, hall⟩ := hrel
                have RW := V2.out.row.below hb.out V2.out.row.inside
                have e2 : wr.cell? ⟨w.heap.size, 2, none⟩ = some (.slice p np cp) := RW.get 2
                by_cases hlt : k < np
                · obtain ⟨bp, op, rfl, hbN, c0⟩ := V2.out.tp.at_ (k := k) (by rw [← HP.out]; exact hlt)
                  have e3 : wr.cell? ⟨bp, op + k, none⟩ = some (.string ⟨(ps.getD k []).toArray⟩) := kept hb.out c0
                  cases hdg : isDig (ps.getD k []) with
                  | false =>
                    have VB : Hid (verB pub m (n : Int) sig ps = false) := ver_not (formed_path (k := k) (by rw [← HP.out]; exact hlt) hdg)
                    obtain ⟨x, hxk⟩ : ∃ x, ps.getD k [] = x := ⟨_, rfl⟩
                    rw [hxk] at e3 hdg
                    have HDG := Lib.hid hdg
                    have B9 := Lib.hid (V2.out.below.trans (hb.out.mono V2.out.below.size))
                    clear hdg hxk RW c0
                    go_wp2_with fail
                    refine (refis_of x false _ HDG.out).mono ?_
                    rintro e w' ⟨rfl, rfl⟩
                    go_wp2
                    go_ret
                    exact ⟨ret_bool VB.out.symm, B9.out⟩
                  | true =>
                    have AN : Hid (∀ j, j < k + 1 → isDig (ps.getD j []) = true) := dig_next hall.out hdg
                    obtain ⟨x, hxk⟩ : ∃ x, ps.getD k [] = x := ⟨_, rfl⟩
                    rw [hxk] at e3 hdg
                    have HDG := Lib.hid hdg
                    clear hdg hxk RW c0 hall
                    go_wp2_with fail
                    refine (refis_of x true _ HDG.out).mono ?_
                    rintro e w' ⟨rfl, rfl⟩
                    go_wp2
                    go_round
                    case rel => exact ⟨k + 1, by omega, by go_num, AN⟩
                    case measure => simp [intOf]; omega
                · obtain rfl : np = k := by omega
                  have PA : Hid (ps.all isDig = true) := dig_all HP.out hall.out
                  clear hall hlt RW
                  have e18 : Hid (18 = (ckEnds m sig 18).length) := (map_range_len _ _).symm
                  go_wp2_with fail
                  refine (reflistB _ 18 ce (ckEnds m sig 18) _ hown.out.txt.2 e18.out ⟨by rw [← e18.out]; decide, ckEnds_small HX.out 18⟩).mono ?_
                  rintro e w3 ⟨rfl, hb3⟩
                  have V3 := Lib.hid (V2.out.later (hb.out.trans (hb3.mono hb.out.size)))
                  obtain ⟨t, ht⟩ : ∃ t, dl (ckEnds m sig 18) = t := ⟨_, rfl⟩
                  have HT : Hid (signer m sig = t) := ht
                  have ht16 : t.length ≤ 1000 := by rw [← ht]; exact Nat.le_trans (dsum_small _) (by decide)
                  rw [ht]
                  clear hown hb hb3 V2 e2 D2 HGD e18 ht
                  have e0 : w3.cell? ⟨w.heap.size, 0, none⟩ = some (.int .i64 n) := V3.out.row.get 0
                  go_wp2
                  go_loopw [11, 12, 13] (fun v j i wr => ∃ k jj : Nat, k ≤ np ∧ i = .int .i64 k ∧ j = .int .i64 jj ∧ jj ≤ n ∧ v = .string ⟨(val t ps n k).toArray⟩ ∧ Hid (jj = n / 2 ^ k) ∧ Hid (VS w wr n a p 18 ca np cp sig ps)) (fun _ _ i _ => np - (intOf i).toNat)
                  case atStart => exact ⟨0, n, by omega, rfl, rfl, by omega, rfl, by show _ = _; rw [Nat.pow_zero, Nat.div_one], V3⟩
                  case round =>
                    clear V3 e0
                    obtain ⟨k, jj, hk, rfl, rfl, hjj, rfl, hj, V⟩ := hrel
                    have e2 : wr.cell? ⟨w.heap.size, 2, none⟩ = some (.slice p np cp) := V.out.row.get 2
                    by_cases hlt : k < np
                    · obtain ⟨bp, op, rfl, hbN, c0⟩ := V.out.tp.at_ (k := k) (by rw [← HP.out]; exact hlt)
                      have y0 : (ps.getD k []).length ≤ 1000 := getD_small HY.out k
                      have v0 : (val t ps n k).length ≤ 1000 := val_small (ps := ps) (idx := n) ht16 k
                      have HJ : Hid (jj / 2 = n / 2 ^ (k + 1)) := by show _ = _; rw [hj.out, div_two_pow]
                      have VS0 : val t ps n (k + 1) = dsum (upT (val t ps n k) (ps.getD k []) jj) := by rw [hj.out]; rfl
                      obtain ⟨vn, hvn⟩ : ∃ vn, val t ps n (k + 1) = vn := ⟨_, rfl⟩
                      have HV' := Lib.hid hvn
                      rw [hvn] at VS0
                      clear hj hvn
                      by_cases hodd : jj % 2 = 1
                      · have hi2 : (jj : Int) % 2 = 1 := by omega
                        have NV : Hid (dsum (if true = true then nodeT (ps.getD k []) (val t ps n k) else nodeT (val t ps n k) (ps.getD k [])) = vn) := by
                          show _ = vn
                          rw [VS0]
                          unfold upT
                          rw [if_pos rfl, if_pos hodd]
                        clear VS0 hodd
                        generalize val t ps n k = v at *
                        generalize ps.getD k [] = y at *
                        go_wp2_with fail
                        refine (parent_of v y true vn _ v0 y0 NV.out).mono ?_
                        rintro e w4 ⟨rfl, hb4⟩
                        have V4 := Lib.hid (V.out.later hb4)
                        clear V hb4 e2 c0 NV
                        go_wp2
                        go_roundw
                        case rel => exact ⟨k + 1, jj / 2, by omega, by go_num, (by first | go_num | rfl | (congr 1; omega)), by omega, by rw [HV'.out], HJ, V4⟩
                        case measure => simp [intOf]; omega
                      · have hi2 : (jj : Int) % 2 = 0 := by omega
                        have NV : Hid (dsum (if false = true then nodeT (ps.getD k []) (val t ps n k) else nodeT (val t ps n k) (ps.getD k [])) = vn) := by
                          show _ = vn
                          rw [VS0]
                          unfold upT
                          rw [if_neg (by decide), if_neg hodd]
                        clear VS0 hodd
                        generalize val t ps n k = v at *
                        generalize ps.getD k [] = y at *
                        go_wp2_with fail
                        refine (parent_of v y false vn _ v0 y0 NV.out).mono ?_
                        rintro e w4 ⟨rfl, hb4⟩
                        have V4 := Lib.hid (V.out.later hb4)
                        clear V hb4 e2 c0 NV
                        go_wp2
                        go_roundw
                        case rel => exact ⟨k + 1, jj / 2, by omega, by go_num, (by first | go_num | rfl | (congr 1; omega)), by omega, by rw [HV'.out], HJ, V4⟩
                        case measure => simp [intOf]; omega
                    · obtain rfl : np = k := by omega
                      have FT : formed (n : Int) sig ps = true := by
                        unfold formed
                        rw [HQ'.out, SA.out, PA.out, decide_eq_true HA.out.symm, decide_eq_true (show ps.length ≤ 8 by rw [← HP.out]; exact c2), decide_eq_true c3, decide_eq_true c4]
                        rfl
                      have VB : Hid (verB pub m (n : Int) sig ps = (val t ps n np == pub)) := by
                        show _ = _
                        unfold verB rootBy
                        rw [FT, Bool.true_and, Int.toNat_natCast, HT.out, HP.out, Bool.eq_iff_iff, beq_iff_eq, decide_eq_true_eq]
                      have B9 := Lib.hid V.out.below
                      clear FT V hj
                      go_wp2
                      go_ret
                      exact ⟨ret_bool VB.out.symm, B9.out⟩
        · have VB : Hid (verB pub m idx sig ps = false) := ver_not (formed_head fun h => by have := h.2.2.2; rw [HQ'.out] at this; omega)
          have i4 : (q : Int) ≤ idx := by omega
          have d4 : decide ((q : Int) ≤ idx) = true := decide_eq_true i4
          go_enter Tryd.func19, Tryd.ntmps19
          go_wp2_with fail
          rw [HW0.out]
          refine wp_region_quiet_below (by kernel_rfl) (by kernel_rfl) ?_
          repeat (first | go_big_quiet_step (first | with_reducible exact cP _ _) | quiet_step (first | with_reducible exact cP _ _))
          refine wpQuiet_nil ?_
          intro _ hw'
          obtain ⟨⟨dq, osq⟩, hw''⟩ := hw'
          subst hw''
          go_wp2
          go_ret
          exact ⟨ret_bool VB.out.symm, V0.out.below.trans ((below_regrown W0 dq osq).mono V0.out.below.size)⟩
      · have VB : Hid (verB pub m idx sig ps = false) := ver_not (formed_head fun h => c3 h.2.2.1)
        have i2 : ¬ (8 : Int) < (np : Int) := by omega
        have i3 : idx < 0 := by omega
        have d2 : decide ((8 : Int) < (np : Int)) = false := decide_eq_false i2
        have d3 : decide (idx < 0) = true := decide_eq_true i3
        go_enter Tryd.func19, Tryd.ntmps19
        go_wp2_with fail
        rw [HW0.out]
        refine wp_region_quiet_below (by kernel_rfl) (by kernel_rfl) ?_
        repeat (first | go_big_quiet_step (first | with_reducible exact rfl) | quiet_step (first | with_reducible exact rfl))
        refine wpQuiet_nil ?_
        intro _ hw'
        obtain ⟨⟨dq, osq⟩, hw''⟩ := hw'
        subst hw''
        go_wp2
        go_ret
        exact ⟨ret_bool VB.out.symm, V0.out.below.trans ((below_regrown W0 dq osq).mono V0.out.below.size)⟩
    · have VB : Hid (verB pub m idx sig ps = false) := ver_not (formed_head fun h => c2 (by rw [HP.out]; exact h.2.1))
      have i2 : (8 : Int) < (np : Int) := by omega
      have d2 : decide ((8 : Int) < (np : Int)) = true := decide_eq_true i2
      go_enter Tryd.func19, Tryd.ntmps19
      go_wp2_with fail
      rw [HW0.out]
      refine wp_region_quiet_below (by kernel_rfl) (by kernel_rfl) ?_
      repeat (first | go_big_quiet_step (first | with_reducible exact rfl) | quiet_step (first | with_reducible exact rfl))
      refine wpQuiet_nil ?_
      intro _ hw'
      obtain ⟨⟨dq, osq⟩, hw''⟩ := hw'
      subst hw''
      go_wp2
      go_ret
      exact ⟨ret_bool VB.out.symm, V0.out.below.trans ((below_regrown W0 dq osq).mono V0.out.below.size)⟩
  · have VB : Hid (verB pub m idx sig ps = false) := ver_not (formed_head fun h => c1 (by rw [HA.out]; exact h.1))
    have i1 : ((na : Int) != 18) = true := by simp; omega
    have i1' : ¬ (na : Int) = 18 := by omega
    go_enter Tryd.func19, Tryd.ntmps19
    go_wp2_with fail
    rw [HW0.out]
    refine wp_region_quiet_below (by kernel_rfl) (by kernel_rfl) ?_
    repeat (first | go_big_quiet_step (first | with_reducible exact rfl) | quiet_step (first | with_reducible exact rfl))
    refine wpQuiet_nil ?_
    intro _ hw'
    obtain ⟨⟨dq, osq⟩, hw''⟩ := hw'
    subst hw''
    go_wp2
    go_ret
    exact ⟨ret_bool VB.out.symm, V0.out.below.trans ((below_regrown W0 dq osq).mono V0.out.below.size)⟩
end Go.Proofs.YtmladmljibcagaaDoor.Sl
