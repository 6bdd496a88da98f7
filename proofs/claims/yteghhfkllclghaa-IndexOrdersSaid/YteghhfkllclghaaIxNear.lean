/- index: Near. -/
import Derived.Test.YteghhfkllclghaaIxNearQ
import Derived.Test.YteghhfkllclghaaIxNearBad
import Derived.Test.YteghhfkllclghaaIxNearI
import Derived.Test.YteghhfkllclghaaIxNearOut
import Derived.Test.YteghhfkllclghaaIxNearK
import Derived.Test.YteghhfkllclghaaIxVisMath
import Derived.Test.YteghhfkllclghaaIxVisit
import Derived.Deep.LoopGhost
import Derived.Deep.RegionHeld3
namespace Go.Proofs.Yteghhfkllclghaa.Ix
open Go.RowKit Go.Sort
set_option maxRecDepth 100000 in
set_option maxHeartbeats 8000000 in
theorem near_ok (w : World) (x m n : Nat) (tt : Tr Value) (D : DataW Value) (lk : Id → Option (Nat × Nat)) (S : List It) (px py k : Int) (h : Idx w x m n (some tt) D lk S) (hk : 0 < k) (hv : nearP px py = true) (hn : n ≤ 10000) :
    Calls Try.prog 21 #[ptr x, vP px py, .int .i64 k] w fun e w' => ∃ v, e = .returned v ∧ OwnB w' w.heap.size v (nearS px py k.toNat S) ∧ Below w.heap.size w w' := by
  have H := Lib.hid h
  obtain ⟨W, hW⟩ : ∃ W, w.alloc (.cells #[.int .i64 px, .int .i64 py] 24) = W := ⟨_, rfl⟩
  have HW := Lib.hid hW
  have hB : Below w.heap.size w W := hW ▸ alloc1 _ _
  have B0 := Lib.hid hB
  have R0' : IsRow W w.heap.size 24 #[.int .i64 px, .int .i64 py] := hW ▸ IsRow.made w 24 #[.int .i64 px, .int .i64 py]
  have R0 := Lib.hid R0'
  have p0 := IsRow.get R0' 0
  have p1 := IsRow.get R0' 1
  have x0 : W.cell? ⟨x, 0, none⟩ = some (.pointer (some ⟨tt.blk, 0, none⟩)) := (h.below hB).row.get 0
  have k1 := Lib.hid (isNear_any px py W)
  rw [hv] at k1
  have HV := Lib.hid hv
  have HNN := Lib.hid hn
  have hk0 : ¬ k ≤ 0 := by omega
  clear hW hB R0' h hv hn
  unfold ptr
  unfold vP at k1 ⊢
  go_enter Try.func21, Try.ntmps21
  go_upto_region 1 with fail
  rw [HW.out]
  go_wp2_with fail
  refine k1.out.mono ?_
  rintro e w1 ⟨rfl, bb⟩
  have B1 := Lib.hid bb
  have T0 := Lib.hid (Tr.inT_row (H.out.below B0.out).tree.1)
  have H0 := Lib.hid (H.out.below B0.out)
  have KG := Lib.hid (fun (wy : World) (hb : Below W.heap.size W wy) => (show (wy.cell? ⟨tt.blk, 0, none⟩ = some (.int .i64 tt.box.a) ∧ wy.cell? ⟨tt.blk, 1, none⟩ = some (.int .i64 tt.box.b) ∧ wy.cell? ⟨tt.blk, 2, none⟩ = some (.int .i64 tt.box.c) ∧ wy.cell? ⟨tt.blk, 3, none⟩ = some (.int .i64 tt.box.d)) ∧
      wy.cell? ⟨w.heap.size, 0, none⟩ = some (.int .i64 px) ∧ wy.cell? ⟨w.heap.size, 1, none⟩ = some (.int .i64 py) ∧ wy.cell? ⟨x, 0, none⟩ = some (.pointer (some ⟨tt.blk, 0, none⟩)) from
    ⟨(node_facts (T0.out.below hb T0.out.inside)).1, (R0.out.below hb R0.out.inside).get 0, (R0.out.below hb R0.out.inside).get 1, (H0.out.below hb).row.get 0⟩))
  clear bb k1 p0 p1 x0 HW
  go_upto_region 5 with fail
  obtain ⟨w2, hw2⟩ : ∃ w2, w1.alloc (.cells #[.slice none 0 0, .func (.func 39) #[] #[]] 79) = w2 := ⟨_, rfl⟩
  have B2 := Lib.hid (show Below W.heap.size W w2 from hw2 ▸ B1.out.alloc B1.out.size _)
  have Q2 := Lib.hid (show NQ W w2 W.heap.size w1.heap.size px py [] from ⟨⟨_, [], ⟨hw2 ▸ IsRow.made _ _ _, World.ownsRow_nil _ _ _ _, B1.out.size⟩, fun i _ hi => absurd hi (Nat.not_lt_zero i), List.Perm.refl _⟩, fun z hz => (by cases hz), B2.out.size⟩)
  obtain ⟨qb, hqb⟩ : ∃ qb, w1.heap.size = qb := ⟨_, rfl⟩
  rw [hqb] at Q2 ⊢
  rw [hw2]
  clear hw2 hqb B1
  have hvb : validB tt.box = true := (Tr.ok_valid H.out.tree.2.2).1
  obtain ⟨⟨a0, a1, a2, a3⟩, p0, p1, x0⟩ := KG.out w2 B2.out
  have hS := square_any hvb HV.out w2.drew
  unfold vB vP at hS
  have hT := H0.out.lt.2.2
  have hP := Lib.hid (fun (w3 : World) (hb : Below w2.drew.heap.size w2.drew w3) => NQ.push ((Q2.out.below (drew_below _)).below hb) (⟨sqN tt.box px py, some tt.blk, []⟩, .sub tt) ⟨⟨rfl, rfl, H.out.tree.2.2⟩, H0.out.tree.1, hT⟩ (Nat.zero_le _))
  unfold qI itV encQ ndV at hP
  go_region_held3 (fun w' => (w'.cell? ⟨tt.blk, 0, none⟩ = some (.int .i64 tt.box.a) ∧ w'.cell? ⟨tt.blk, 1, none⟩ = some (.int .i64 tt.box.b) ∧ w'.cell? ⟨tt.blk, 2, none⟩ = some (.int .i64 tt.box.c) ∧ w'.cell? ⟨tt.blk, 3, none⟩ = some (.int .i64 tt.box.d)) ∧
      w'.cell? ⟨w.heap.size, 0, none⟩ = some (.int .i64 px) ∧ w'.cell? ⟨w.heap.size, 1, none⟩ = some (.int .i64 py) ∧ w'.cell? ⟨x, 0, none⟩ = some (.pointer (some ⟨tt.blk, 0, none⟩))) (first | exact KS | go_keep)
    (first
      | (go_at_call 40; (with_reducible refine (hP.out w3 b3).mono ?_); rintro e w4 ⟨rfl, Q4, b4⟩; have B4 := Lib.hid ((B2.out.drew.trans (b3.mono B2.out.size)).trans b4.b); have KS := KG.out w4 B4.out)
      | (go_at_call 41; (with_reducible refine hS.mono ?_); rintro e w3 ⟨rfl, b3⟩; have KS := KG.out w3 (B2.out.drew.trans (b3.mono B2.out.size))))
  have hN0 := Lib.hid (show NearI px py S k.toNat 20000 [(⟨sqN tt.box px py, some tt.blk, []⟩, .sub tt)] [] from NearI.start H.out.perm H.out.srt (by
    have e1 := H.out.perm.length_eq
    have e2 := H.out.len
    have e3 : tt.leaves.length ≤ n := H.out.few
    have e4 := HNN.out
    have e5 : tt.items.length = (itemsL (Tr.leavesO (some tt))).length := rfl
    omega))
  have Q4' := Lib.hid Q4
  clear Q4 b4 hP hS hT hvb KS
  go_upto_region 6 with fail
  go_loopg [7] (meaP [((⟨sqN tt.box px py, some tt.blk, []⟩ : Qi), Prt.sub tt)]) (fun g s wr => ∃ (out : List Id) (P : List (Qi × Prt)) (a : Option Addr) (c : Nat), s = .slice a out.length c ∧ Hid (OwnB wr W.heap.size s out) ∧ Hid (NQ W wr W.heap.size qb px py P) ∧ Hid (NearI px py S k.toNat 20000 P out) ∧ Hid (Below W.heap.size W wr) ∧ meaP P ≤ g)
  case atStart => exact ⟨[], _, none, 0, rfl, Lib.hid (World.ownsRow_nil _ _ _ _), Q4', hN0, B4, Nat.le_refl _⟩
  case round =>
    obtain ⟨out, P, a, c, rfl, ho, hq, hi, hb, hg⟩ := hrel
    have hend := Lib.hid (fun (hd : k.toNat ≤ out.length ∨ P = []) => (show OwnB wr w.heap.size (.slice a out.length c) (nearS px py k.toNat S) ∧ Below w.heap.size w wr from ⟨by rw [← hi.out.done hd]; exact ho.out.mono B0.out.size, B0.out.trans (hb.out.mono B0.out.size)⟩))
    by_cases hlt : (out.length : Int) < k
    · obtain ⟨v, L, h1, h2, h3⟩ := hq.out.q
      have hlen : L.length = P.length := by rw [h3.length_eq, List.length_map]
      have kL := len_any wr W.heap.size qb v L h1
      rw [hlen] at kL
      unfold ptr at kL
      have hcnt := Lib.hid (show P.length ≤ 100000 by have := len_cnt P; have := hi.out.cnt; omega)
      clear h1 h2 h3 hlen
      by_cases h0 : 0 < P.length
      · obtain ⟨r, pt, R, hp, hm, hgd, hpi, hK⟩ := hq.out.pop h0 hcnt.out
        have hpos : (0 : Int) < (P.length : Int) := by omega
        cases pt with
        | one b =>
          obtain ⟨hone, hmea⟩ := hi.out.one hp hgd (fun z hz => hq.out.good z (hp.mem_iff.2 (List.mem_cons_of_mem _ hz)) |>.1) hm (by omega)
          have HONE := Lib.hid (And.intro hone hmea)
          obtain ⟨rs, rn, ri⟩ := r
          obtain rfl : rn = none := hgd.1
          have hta := fun W => run_item (.agg #[.int .i64 rs, .pointer none, .string ⟨ri.toArray⟩]) W
          unfold qI itV encQ ndV at hK
          dsimp only at hK
          have OO := Lib.hid ho.out
          have BB := Lib.hid hb.out
          have HG := Lib.hid hg
          have hol := Lib.hid (show out.length ≤ 1000000 by
            have e1 := congrArg List.length hi.out.all
            rw [List.length_append, List.length_map, List.length_map, near_len, near_len] at e1
            have e2 := H.out.len
            have e3 := HNN.out
            omega)
          clear hp hm hgd hpi hi hq hend ho hb hg h0 hone hmea
          go_upto_region 6 with fail
          go_wp2_with (first
            | (go_at_call 42; refine kL.mono ?_; rintro e w5 ⟨rfl, rfl⟩)
            | (go_at_call 43; refine hK.mono ?_; rintro e w6 ⟨rfl, Q6, b6⟩; have F := IsRow.made w6 82 #[.int .i64 rs, .pointer none, .string ⟨ri.toArray⟩]; have f0 := IsRow.get F 0; have f1 := IsRow.get F 1; have f2 := IsRow.get F 2; have bb6 := (alloc1 w6 (.cells #[.int .i64 rs, .pointer none, .string ⟨ri.toArray⟩] 82)).trans ((alloc1 (w6.alloc (.cells #[.int .i64 rs, .pointer none, .string ⟨ri.toArray⟩] 82)) (.cells #[.string ⟨ri.toArray⟩] 9)).mono (by simp)); have O8 := (OO.out.bq b6).bq (qb := qb) (bb6.q Q6.ge); have Q8 := Q6.below bb6; have R8 := IsRow.made (w6.alloc (.cells #[.int .i64 rs, .pointer none, .string ⟨ri.toArray⟩] 82)) 9 #[.string ⟨ri.toArray⟩]; have HH8 := Lib.hid (And.intro O8 (And.intro Q8 (And.intro R8 bb6))); clear O8 Q8 R8 bb6)
            | (at_builtin; refine wpList_appB1 rfl _ _ (by rfl) W.heap.size (.slice a out.length c) out ri ((w6.alloc (.cells #[.int .i64 rs, .pointer none, .string ⟨ri.toArray⟩] 82)).heap.size) (by rfl) HH8.out.1 (by simp [Act.eval]) HH8.out.2.2.1 hol.out HH8.out.2.1.ge ?_; intro g' cap' w9 ho9 hg9))
          have hfin := HH8.out.2.1.grown HH8.out.1 hg9
          have B9 := Lib.hid (((BB.out.trans b6.b).trans (HH8.out.2.2.2.mono Q6.ge)).trans hfin.2)
          go_roundg (meaP R)
          case measure => exact Nat.lt_of_lt_of_le HONE.out.2 HG.out
          case rel => exact ⟨out ++ [ri], R, some ⟨g', 0, none⟩, cap', by rw [List.length_append]; rfl, Lib.hid ho9, Lib.hid hfin.1, Lib.hid HONE.out.1, B9, Nat.le_refl _⟩
        | sub u =>
          obtain ⟨rs, rn, ri⟩ := r
          obtain ⟨hnode, hmea⟩ := hi.out.node hp (sqN u.box px py)
          have HNODE := Lib.hid hnode
          have HMEA := Lib.hid hmea
          have HLEN := Lib.hid (lens hnode.cnt)
          have hidl : u.idl.length ≤ 20000 := by
            have := (lens hnode.cnt).1 u.idl.length
            rw [List.length_append, List.take_length, ones_len] at this
            omega
          obtain ⟨g1, g2, g3⟩ := hgd
          dsimp only at g1 g2
          subst g1
          subst g2
          have hta := fun W => run_item (.agg #[.int .i64 (sqN u.box px py), .pointer (some ⟨u.blk, 0, none⟩), .string ⟨ri.toArray⟩]) W
          unfold qI itV encQ ndV at hK
          dsimp only at hK
          have OO := Lib.hid ho.out
          have BB := Lib.hid hb.out
          have HG := Lib.hid hg
          have HPI := Lib.hid hpi
          have HOK := Lib.hid g3
          obtain ⟨ia, ic, hids, hic, hia⟩ := ids_shape (inT_ids hpi.1)
          obtain ⟨z0, z1, hz0, hz1⟩ := kid_ptr u
          have hic' : (u.idl.length : Int) ≤ (ic : Int) := by omega
          have KU := Lib.hid (fun (wy : World) (hb : Below W.heap.size W wy) => (show wy.cell? ⟨u.blk, 5, none⟩ = some (.pointer z0) ∧ wy.cell? ⟨u.blk, 6, none⟩ = some (.pointer z1) ∧ wy.cell? ⟨u.blk, 7, none⟩ = some (.slice ia u.idl.length ic) from by
            obtain ⟨_, _, h5, h6, h7⟩ := node_facts (Tr.inT_row (Tr.inT_below hpi.1 hb))
            exact ⟨hz0 ▸ h5, hz1 ▸ h6, hids ▸ h7⟩))
          have KI := Lib.hid (fun (wy : World) (hb : Below W.heap.size W wy) => (show OwnS wy (.slice ia u.idl.length ic) u.idl from hids ▸ inT_ids (Tr.inT_below hpi.1 hb)))
          have HIA := Lib.hid hia
          have HZ := Lib.hid (And.intro hz0 hz1)
          clear hp hm hpi hi hq hend ho hb hg h0 hnode hmea g3 hids hia hz0 hz1
          go_upto_region 6 with fail
          go_wp2_with (first
            | (go_at_call 42; refine kL.mono ?_; rintro e w5 ⟨rfl, rfl⟩)
            | (go_at_call 43; refine hK.mono ?_; rintro e w6 ⟨rfl, Q6, b6⟩; have F := IsRow.made w6 82 #[.int .i64 (sqN u.box px py), .pointer (some ⟨u.blk, 0, none⟩), .string ⟨ri.toArray⟩]; have f0 := IsRow.get F 0; have f1 := IsRow.get F 1; have ba := alloc1 w6 (.cells #[.int .i64 (sqN u.box px py), .pointer (some ⟨u.blk, 0, none⟩), .string ⟨ri.toArray⟩] 82); have B7 := Lib.hid ((BB.out.trans b6.b).trans (ba.mono Q6.ge)); obtain ⟨k5, k6, k7⟩ := KU.out _ B7.out; have HH7 := Lib.hid (And.intro ((OO.out.bq b6).bq (qb := qb) (ba.q Q6.ge)) (And.intro (Q6.below ba) (And.intro F (Q6.off (.cells #[.int .i64 (sqN u.box px py), .pointer (some ⟨u.blk, 0, none⟩), .string ⟨ri.toArray⟩] 82))))); clear F ba Q6 b6))
          generalize w6.alloc (.cells #[.int .i64 (sqN u.box px py), .pointer (some ⟨u.blk, 0, none⟩), .string ⟨ri.toArray⟩] 82) = w7 at *
          generalize w6.heap.size = nb at *
          clear k5 k6 k7 f0 f1 OO BB hK
          go_loopw [79] (fun i wr => ∃ j : Nat, j ≤ u.idl.length ∧ i = .int .i64 j ∧ Hid (NQ W wr W.heap.size qb px py (onesL (sqN u.box px py) u.box (u.idl.take j) ++ R)) ∧ Hid (OwnB wr W.heap.size (.slice a out.length c) out) ∧ Hid (Below W.heap.size W wr) ∧ Hid (IsRow wr nb 82 #[.int .i64 (sqN u.box px py), .pointer (some ⟨u.blk, 0, none⟩), .string ⟨ri.toArray⟩]) ∧ Hid (Off wr qb nb)) (fun i _ => u.idl.length - (intOf i).toNat)
          case atStart => exact ⟨0, Nat.zero_le _, rfl, Lib.hid HH7.out.2.1, Lib.hid HH7.out.1, B7, Lib.hid HH7.out.2.2.1, Lib.hid HH7.out.2.2.2⟩
          case round =>
            clear HH7 B7
            obtain ⟨j, hj, rfl, hq2, ho2, hb2, hr2, hf2⟩ := hrel
            have f0 := IsRow.get hr2.out 0
            have f1 := IsRow.get hr2.out 1
            by_cases hlt2 : j < u.idl.length
            · have hlt3 : (j : Int) < (u.idl.length : Int) := by omega
              obtain ⟨g, hg0⟩ := HIA.out (by omega)
              subst hg0
              have cI := OwnS.cell (KI.out _ hb2.out) (List.getElem?_eq_getElem hlt2)
              have hP := hq2.out.push (⟨sqN u.box px py, none, u.idl[j]⟩, .one u.box) ⟨⟨rfl, rfl⟩, trivial⟩ (Nat.le_trans (HLEN.out.1 j) (by omega))
              have HSN := Lib.hid (ones_snoc (sqN u.box px py) u.box u.idl hlt2 R)
              generalize u.idl[j] = y at *
              unfold qI itV encQ ndV at hP
              dsimp only at hP
              go_wp2_with (go_at_call 40; refine hP.mono ?_; rintro e w8 ⟨rfl, Q8, b8⟩)
              obtain ⟨e8, o8⟩ := b8.k nb hf2.out
              go_roundw
              case rel => exact ⟨j + 1, by omega, by go_num, Lib.hid (Q8.perm HSN.out), Lib.hid (ho2.out.bq b8), Lib.hid (hb2.out.trans b8.b), Lib.hid (e8.trans hr2.out), Lib.hid o8⟩
              case measure => simp [intOf]; omega
            · obtain rfl : j = u.idl.length := by omega
              have hq2' : Hid (NQ W wr W.heap.size qb px py (kidsP px py u 0 ++ (onesL (sqN u.box px py) u.box u.idl ++ R))) := Lib.hid (by
                have h := hq2.out
                rw [List.take_length] at h
                have e : kidsP px py u 0 = [] := by cases u <;> rfl
                rw [e]; exact h)
              obtain ⟨k5, k6, k7⟩ := KU.out _ hb2.out
              clear hq2 hr2 hf2 f0 k7
              go_wp2
              clear f1 k5 k6 hidl
              have k0 : kidsP px py u 0 ++ (onesL (sqN u.box px py) u.box u.idl ++ R) = kidsP px py u 0 ++ (onesL (sqN u.box px py) u.box u.idl ++ R) := rfl
              clear k0
              go_loopw [97] (fun i wr => ∃ j : Nat, j ≤ 2 ∧ i = .int .i64 j ∧ Hid (NQ W wr W.heap.size qb px py (kidsP px py u j ++ (onesL (sqN u.box px py) u.box u.idl ++ R))) ∧ Hid (OwnB wr W.heap.size (.slice a out.length c) out) ∧ Hid (Below W.heap.size W wr)) (fun i _ => 2 - (intOf i).toNat)
              case atStart => exact ⟨0, by omega, rfl, hq2', ho2, hb2⟩
              case round =>
                clear hq2' ho2 hb2
                obtain ⟨j, hj3, rfl, hq3, ho3, hb3⟩ := hrel
                by_cases hlt4 : j < 2
                · have hlt5 : (j : Int) < 2 := by omega
                  obtain ⟨z, hix, hkz⟩ : ∃ z, (∀ w, (Instr.index 70 (.agg #[.pointer z0, .pointer z1]) (.int .i64 (j : Int))).run Try.prog w = .ok (.pointer z) w) ∧ kidV u j = .pointer z := by
                    have h3 : j = 0 ∨ j = 1 := by omega
                    rcases h3 with rfl | rfl
                    · exact ⟨z0, two_index_0 z0 z1, HZ.out.1⟩
                    · exact ⟨z1, two_index_1 z0 z1, HZ.out.2⟩
                  rcases kid_at px py HPI.out.1 HPI.out.2 HOK.out hlt4 z hkz with ⟨rfl, hkp⟩ | ⟨t, rfl, hkp, ht1, ht2, ht3⟩
                  · have hq4 := Lib.hid (show NQ W wr W.heap.size qb px py (kidsP px py u (j + 1) ++ (onesL (sqN u.box px py) u.box u.idl ++ R)) by rw [hkp]; exact hq3.out)
                    clear hkp hkz hq3
                    go_wp2
                    go_roundw
                    case rel => exact ⟨j + 1, by omega, by go_num, hq4, ho3, hb3⟩
                    case measure => simp [intOf]; omega
                  · have hvt : validB t.box = true := (Tr.ok_valid ht3).1
                    have KT := Lib.hid (fun (wy : World) (hb : Below W.heap.size W wy) => (show (wy.cell? ⟨t.blk, 0, none⟩ = some (.int .i64 t.box.a) ∧ wy.cell? ⟨t.blk, 1, none⟩ = some (.int .i64 t.box.b) ∧ wy.cell? ⟨t.blk, 2, none⟩ = some (.int .i64 t.box.c) ∧ wy.cell? ⟨t.blk, 3, none⟩ = some (.int .i64 t.box.d)) ∧
                        wy.cell? ⟨w.heap.size, 0, none⟩ = some (.int .i64 px) ∧ wy.cell? ⟨w.heap.size, 1, none⟩ = some (.int .i64 py) from
                      ⟨(node_facts (Tr.inT_row (Tr.inT_below ht1 hb))).1, (R0.out.below hb R0.out.inside).get 0, (R0.out.below hb R0.out.inside).get 1⟩))
                    obtain ⟨⟨a0, a1, a2, a3⟩, p0, p1⟩ := KT.out wr hb3.out
                    have hS := square_any hvt HV.out wr.drew
                    unfold vB vP at hS
                    have hP := Lib.hid (fun (w3 : World) (hb : Below wr.drew.heap.size wr.drew w3) => NQ.push ((hq3.out.below (drew_below _)).below hb) (nodeP px py t) ⟨⟨rfl, rfl, ht3⟩, ht1, ht2⟩ (Nat.le_trans (HLEN.out.2 j hj3) (by omega)))
                    rw [show nodeP px py t :: (kidsP px py u j ++ (onesL (sqN u.box px py) u.box u.idl ++ R)) = kidsP px py u (j + 1) ++ (onesL (sqN u.box px py) u.box u.idl ++ R) by rw [hkp]; rfl] at hP
                    unfold nodeP qI itV encQ ndV at hP
                    have HGE := Lib.hid hq3.out.ge
                    clear hkp hkz ht1 ht2 ht3 hvt hq3
                    go_upto_region 19 with fail
                    go_region_held3 (fun w' => (w'.cell? ⟨t.blk, 0, none⟩ = some (.int .i64 t.box.a) ∧ w'.cell? ⟨t.blk, 1, none⟩ = some (.int .i64 t.box.b) ∧ w'.cell? ⟨t.blk, 2, none⟩ = some (.int .i64 t.box.c) ∧ w'.cell? ⟨t.blk, 3, none⟩ = some (.int .i64 t.box.d)) ∧
                        w'.cell? ⟨w.heap.size, 0, none⟩ = some (.int .i64 px) ∧ w'.cell? ⟨w.heap.size, 1, none⟩ = some (.int .i64 py)) (first | exact KS | go_keep)
                      (first
                        | (go_at_call 40; (with_reducible refine (hP.out w8 b8).mono ?_); rintro e w9 ⟨rfl, Q9, b9⟩; have B9 := Lib.hid ((hb3.out.drew.trans (b8.mono hb3.out.size)).trans b9.b); have KS := KT.out w9 B9.out)
                        | (go_at_call 41; (with_reducible refine hS.mono ?_); rintro e w8 ⟨rfl, b8⟩; have KS := KT.out w8 (hb3.out.drew.trans (b8.mono hb3.out.size))))
                    have O9 := Lib.hid (((ho3.out.bq (qb := qb) ((drew_below _).q HGE.out)).bq (qb := qb) (b8.q HGE.out)).bq b9)
                    have Q9' := Lib.hid Q9
                    clear Q9 b9 hP hS KS
                    go_wp2
                    go_roundw
                    case rel => exact ⟨j + 1, by omega, by go_num, Q9', O9, B9⟩
                    case measure => simp [intOf]; omega
                · obtain rfl : j = 2 := by omega
                  go_wp2
                  go_roundg (meaP (kidsP px py u 2 ++ (onesL (sqN u.box px py) u.box u.idl ++ R)))
                  case measure => exact Nat.lt_of_lt_of_le HMEA.out HG.out
                  case rel => exact ⟨out, _, a, c, rfl, ho3, hq3, HNODE, hb3, Nat.le_refl _⟩
      · have hP0 : P = [] := List.eq_nil_of_length_eq_zero (by omega)
        have hz : ¬ (0 : Int) < (P.length : Int) := by omega
        have hE := Lib.hid (hend.out (.inr hP0))
        clear hP0 h0
        go_upto_region 6 with fail
        go_wp2_with (go_at_call 42; refine kL.mono ?_; rintro e w5 ⟨rfl, rfl⟩)
        go_ret
        exact ⟨_, rfl, hE.out.1, hE.out.2⟩
    · have hE := Lib.hid (hend.out (.inl (by omega)))
      go_wp2
      go_ret
      exact ⟨_, rfl, hE.out.1, hE.out.2⟩
end Go.Proofs.Yteghhfkllclghaa.Ix
