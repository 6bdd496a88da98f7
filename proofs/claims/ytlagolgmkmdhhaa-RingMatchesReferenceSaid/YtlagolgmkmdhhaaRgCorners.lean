/- ring.cornersOf. -/
import Derived.Test.YtlagolgmkmdhhaaRgMap
import Derived.Deep.RegionHeld3
namespace Go.Proofs.Ytlagolgmkmdhhaa.Rg
open Go.RowKit Go.Sort Go.Shelf
open Go.Maps (Keyed IsMap has)
open Go.Proofs.Ytlagolgmkmdhhaa.Geo hiding intOf Apart
def befL (l : List Pt) : List Pt := if twiceN l < 0 then l.drop 1 ++ l.take 1 else l.drop (l.length - 1) ++ l.take (l.length - 1)
def aftL (l : List Pt) : List Pt := if twiceN l < 0 then l.drop (l.length - 1) ++ l.take (l.length - 1) else l.drop 1 ++ l.take 1
theorem cnAt_eq (l : List Pt) (i : Nat) : cnAt l i = ⟨cor (befL l) i, cor l i, cor (aftL l) i⟩ := by
  unfold cnAt befL aftL nxt prv
  split <;> rfl
theorem befL_len {l : List Pt} {n : Nat} (h : n = l.length) (h1 : 1 ≤ n) : (befL l).length = n := by
  unfold befL
  split <;> exact turned_len _ h (by omega)
theorem aftL_len {l : List Pt} {n : Nat} (h : n = l.length) (h1 : 1 ≤ n) : (aftL l).length = n := by
  unfold aftL
  split <;> exact turned_len _ h (by omega)
theorem valC_eq {l : List Pt} {k : Nat} {p q r : Pt} (hp : (befL l)[k]? = some p) (hq : l[k]? = some q) (hr : (aftL l)[k]? = some r) : cnAt l k = ⟨p, q, r⟩ := by
  have e : ∀ {l : List Pt} {p : Pt}, l[k]? = some p → cor l k = p := fun h => by unfold cor; rw [List.getD_eq_getElem?_getD, h]; rfl
  rw [cnAt_eq, e hp, e hq, e hr]
theorem run_makeMapN {P : Program} (t k e : TypeId) (h : P.underlying t = some (.map k e)) (n : Int) (w : World) : (Instr.makeMap t (some (.int .i64 n))).run P w = .ok (.map (some w.heap.size)) (w.alloc (.map #[] 0)) := by
  unfold Instr.makeMap
  simp [run_underlying h, asInt, asIntOf]
set_option maxRecDepth 100000 in
set_option maxHeartbeats 4000000 in
theorem corners_any (a : Option Addr) (n cap : Nat) (l : List Pt) (w : World) (hl : Pts w w.heap.size a l) (hn : n = l.length) (hcap : n ≤ cap) (hm : cap ≤ maxLen) (hf : fitsN l = true) :
    Calls Try.prog 54 #[.slice a n cap] w fun e w' => (∃ b, e = .returned (.map (some b)) ∧ w.heap.size ≤ b ∧ w'.ownsMap Try.prog 24 heldE b n (cornsTo l n)) ∧ Below w.heap.size w w' := by
  obtain ⟨h3, h2, hnear⟩ := fits_parts hf
  rw [← hn] at h3 h2
  obtain ⟨m, rfl⟩ : ∃ m, n = m + 1 := ⟨n - 1, by omega⟩
  have HL := Lib.hid hl
  have HN := Lib.hid hn
  have HM := Lib.hid hm
  have HNR := Lib.hid hnear
  have H2 := Lib.hid h2
  have hm0 := Lib.hid (show 0 < m by omega)
  have hmm := run_makeMapN (P := Try.prog) 72 _ _ Try.underlying72
  have T1 := Lib.hid (fun (W : World) (hb : Below w.heap.size w W) => turned_pts a (m + 1) cap m l W (hl.later hb) hn hcap hm0.out (Nat.lt_succ_self m) h2)
  have T2 := Lib.hid (fun (W : World) (hb : Below w.heap.size w W) => turned_pts a (m + 1) cap 1 l W (hl.later hb) hn hcap (by decide) (by have := hm0.out; omega) h2)
  have T3 := Lib.hid (fun (W : World) (hb : Below w.heap.size w W) => twice_any a (m + 1) cap l W (hl.later hb) hn hcap hm)
  clear hl hn hm hf hnear
  go_enter Try.func54, Try.ntmps54
  go_wp2_with fail
  refine (T1.out _ (Below.refl _ _)).mono ?_
  rintro e w1 ⟨⟨a1, c1, rfl, hp1⟩, hb1⟩
  have P1 := Lib.hid hp1
  have B1 := Lib.hid hb1
  clear hp1 hb1
  go_wp2_with fail
  refine (T2.out _ B1.out).mono ?_
  rintro e w2 ⟨⟨a2, c2, rfl, hp2⟩, hb2⟩
  have P2 := Lib.hid hp2
  have P1' := Lib.hid (P1.out.later hb2)
  have B2 := Lib.hid (B1.out.trans (hb2.mono B1.out.size))
  clear hp2 hb2
  go_wp2_with fail
  refine (T3.out _ B2.out).mono ?_
  rintro e w3 ⟨rfl, hb3⟩
  have P2' := Lib.hid (P2.out.later hb3)
  have P1'' := Lib.hid (P1'.out.later hb3)
  have B3 := Lib.hid (B2.out.trans (hb3.mono B2.out.size))
  clear hb3
  obtain ⟨T, hT⟩ : ∃ T, twiceN l = T := ⟨_, rfl⟩
  have HT := Lib.hid hT
  rw [hT]
  clear hT
  go_upto_if 17 with fail
  go_cut [3, 4] from 17 to 19 (fun b c wx => ∃ ab cb ac cc, b = .slice ab (m + 1) cb ∧ c = .slice ac (m + 1) cc ∧ wx = w3 ∧ Hid (Pts w3 w3.heap.size ab (befL l)) ∧ Hid (Pts w3 w3.heap.size ac (aftL l)))
  case first =>
    by_cases ht : T < 0
    · have E1 := Lib.hid (show befL l = l.drop 1 ++ l.take 1 by unfold befL; rw [if_pos (by rw [HT.out]; exact ht)])
      have E2 := Lib.hid (show aftL l = l.drop m ++ l.take m by unfold aftL; rw [if_pos (by rw [HT.out]; exact ht), ← HN.out]; rfl)
      go_wp2_with fail
      go_meet
      exact ⟨a2, c2, a1, c1, rfl, rfl, rfl, Lib.hid (by rw [E1.out]; exact P2'.out), Lib.hid (by rw [E2.out]; exact P1''.out)⟩
    · have E1 := Lib.hid (show aftL l = l.drop 1 ++ l.take 1 by unfold aftL; rw [if_neg (by rw [HT.out]; exact ht)])
      have E2 := Lib.hid (show befL l = l.drop m ++ l.take m by unfold befL; rw [if_neg (by rw [HT.out]; exact ht), ← HN.out]; rfl)
      go_wp2_with fail
      go_meet
      exact ⟨a1, c1, a2, c2, rfl, rfl, rfl, Lib.hid (by rw [E2.out]; exact P1''.out), Lib.hid (by rw [E1.out]; exact P2'.out)⟩
  obtain ⟨ab, cb, ac, cc, rfl, rfl, rfl, PB, PA⟩ := hcut
  clear P1 P2 P1' P2' P1'' T1 T2 T3 B1 B2 HT
  have LB := Lib.hid (befL_len HN.out (by omega))
  have LA := Lib.hid (aftL_len HN.out (by omega))
  go_wp2_with fail
  go_loopw [25] (fun i wr => ∃ k : Nat, k ≤ m + 1 ∧ i = .int .i64 k ∧ Hid (wr.ownsMap Try.prog 24 heldE wc.heap.size k (cornsTo l k)) ∧ Hid (Below wc.heap.size wc wr)) (fun i _ => m + 1 - (intOf i).toNat)
  case atStart => exact ⟨0, by omega, rfl, Lib.hid (World.ownsMap_made _ _ _ _), Lib.hid ((Below.refl _ _).alloc (Nat.le_refl _) _)⟩
  case round =>
    obtain ⟨k, hk, rfl, hmap, hb⟩ := hrel
    by_cases hlt : k < m + 1
    · have hltI : (k : Int) < (m : Int) + 1 := by omega
      obtain ⟨p, hp⟩ : ∃ p, l[k]? = some p := ⟨_, List.getElem?_eq_getElem (by have := HN.out; omega)⟩
      obtain ⟨pb, hpb⟩ : ∃ p, (befL l)[k]? = some p := ⟨_, List.getElem?_eq_getElem (by have := LB.out; omega)⟩
      obtain ⟨pa, hpa⟩ : ∃ p, (aftL l)[k]? = some p := ⟨_, List.getElem?_eq_getElem (by have := LA.out; omega)⟩
      have PL0 := Lib.hid ((HL.out.later B3.out).below hb.out)
      obtain ⟨b1, o1, rfl, hb1N, c0, c1⟩ := PL0.out.at_ hp
      obtain ⟨W, hW⟩ : ∃ W, wr.alloc (.cells #[.int .i64 p.x, .int .i64 p.y] 24) = W := ⟨_, rfl⟩
      go_upto_region 8 with fail
      try rw [hW]
      have q0 : W.cell? ⟨wr.heap.size, 0, none⟩ = some (.int .i64 p.x) := (hW ▸ IsRow.made wr 24 #[.int .i64 p.x, .int .i64 p.y] : IsRow W wr.heap.size 24 _).get 0
      have q1 : W.cell? ⟨wr.heap.size, 1, none⟩ = some (.int .i64 p.y) := (hW ▸ IsRow.made wr 24 #[.int .i64 p.x, .int .i64 p.y] : IsRow W wr.heap.size 24 _).get 1
      have bW : Hid (Below wc.heap.size wc W) := hW ▸ hb.out.alloc hb.out.size _
      have mW : Hid (W.ownsMap Try.prog 24 heldE wc.heap.size k (cornsTo l k)) := hW ▸ hmap.out.alloc _
      obtain ⟨b2, o2, rfl, hb2N, d0, d1⟩ := (PB.out.below bW.out).at_ hpb
      obtain ⟨b3, o3, rfl, hb3N, e0, e1⟩ := (PA.out.below bW.out).at_ hpa
      have HK := Lib.hid (keyOf_pt (p := p) (List.all_eq_true.1 HNR.out _ (List.mem_of_getElem? hp)))
      have HV : Hid (Value.agg #[.int .i64 pb.x, .int .i64 pb.y, .int .i64 p.x, .int .i64 p.y, .int .i64 pa.x, .int .i64 pa.y] = valC (cnAt l k)) := Lib.hid (by rw [valC_eq hpb hp hpa]; rfl)
      have HE := Lib.hid (show (cornsTo l k).put (keyP p) (.held (valC (cnAt l k))) = cornsTo l (k + 1) by rw [show p = cor l k by unfold cor; rw [List.getD_eq_getElem?_getD, hp]; rfl]; rfl)
      have hkm := Lib.hid (show k < maxLen by unfold maxLen; omega)
      have hsz := Lib.hid hmap.out.lt
      obtain ⟨w4, hrun, hm4, hg4⟩ := mW.out.drew.update (t := 72) pt_keyed Try.underlying72 hkm.out HK.out (val := .agg #[.int .i64 pb.x, .int .i64 pb.y, .int .i64 p.x, .int .i64 p.y, .int .i64 pa.x, .int .i64 pa.y]) (d := .held (.agg #[.int .i64 pb.x, .int .i64 pb.y, .int .i64 p.x, .int .i64 p.y, .int .i64 pa.x, .int .i64 pa.y])) (ps := []) rfl
      have KS : Hid (w4.cell? ⟨wr.heap.size, 0, none⟩ = some (.int .i64 p.x) ∧ w4.cell? ⟨wr.heap.size, 1, none⟩ = some (.int .i64 p.y) ∧ w4.cell? ⟨b2, o2 + k * 2, none⟩ = some (.int .i64 pb.x) ∧ w4.cell? ⟨b2, o2 + k * 2 + 1, none⟩ = some (.int .i64 pb.y) ∧
          w4.cell? ⟨b3, o3 + k * 2, none⟩ = some (.int .i64 pa.x) ∧ w4.cell? ⟨b3, o3 + k * 2 + 1, none⟩ = some (.int .i64 pa.y)) := by
        have n1 : some wr.heap.size ≠ some wc.heap.size := fun h => by have := hsz.out; injection h with h; omega
        have n2 : some b2 ≠ some wc.heap.size := fun h => by injection h with h; omega
        have n3 : some b3 ≠ some wc.heap.size := fun h => by injection h with h; omega
        exact Lib.hid ⟨hg4.cell (w := W.drew) q0 n1, hg4.cell q1 n1, hg4.cell d0 n2, hg4.cell d1 n2, hg4.cell e0 n3, hg4.cell e1 n3⟩
      have B4 := Lib.hid ((bW.out.trans ((drew_below _).mono bW.out.size)).grown hg4 bW.out.size (fun j hj => by cases hj; exact Nat.le_refl _))
      have M4 : Hid (w4.ownsMap Try.prog 24 heldE wc.heap.size (k + 1) (cornsTo l (k + 1))) := by
        rw [HV.out, HE.out] at hm4
        exact hm4
      clear hp hpb hpa c0 c1 hW PL0 hmap hb hm4 hg4 hmm
      go_region_held3 (fun w' => w'.cell? ⟨wr.heap.size, 0, none⟩ = some (.int .i64 p.x) ∧ w'.cell? ⟨wr.heap.size, 1, none⟩ = some (.int .i64 p.y) ∧ w'.cell? ⟨b2, o2 + k * 2, none⟩ = some (.int .i64 pb.x) ∧ w'.cell? ⟨b2, o2 + k * 2 + 1, none⟩ = some (.int .i64 pb.y) ∧
          w'.cell? ⟨b3, o3 + k * 2, none⟩ = some (.int .i64 pa.x) ∧ w'.cell? ⟨b3, o3 + k * 2 + 1, none⟩ = some (.int .i64 pa.y)) (first | exact KS.out | exact ⟨q0, q1, d0, d1, e0, e1⟩ | go_keep) (fail)
      go_wp2
      go_roundw
      case rel => exact ⟨k + 1, by omega, by go_num, M4, B4⟩
      case measure => simp [intOf]; omega
    · obtain rfl : k = m + 1 := by omega
      have B9 := Lib.hid (B3.out.trans (hb.out.mono B3.out.size))
      have hs := Lib.hid B3.out.size
      go_wp2
      go_ret
      exact ⟨⟨_, rfl, hs.out, hmap.out⟩, B9.out⟩
end Go.Proofs.Ytlagolgmkmdhhaa.Rg
