/- tag: Merge (written by wip/tools/gen-tagmerge.py). -/
import Derived.Test.YtlknbjaippfemaaTgDecide
import Derived.Test.YtlknbjaippfemaaTgKeys
namespace Go.Proofs.Ytlknbjaippfemaa.Tg
open Go.RowKit Go.Sort
open Lx (IsRow alloc1)
theorem mrg_snoc (f : B → B × Bool) (ks : List B) (k : Nat) (h : k < ks.length) : mrgL f (ks.take (k + 1)) = mrgS f (mrgL f (ks.take k)) ks[k] := by
  unfold mrgL
  rw [List.take_succ_eq_append_getElem h, List.foldl_append]; rfl
theorem mrg_len (f : B → B × Bool) (ks : List B) : ∀ k, (mrgL f (ks.take k)).1.length ≤ k ∧ (mrgL f (ks.take k)).2.length ≤ k
  | 0 => by simp [mrgL]
  | k + 1 => by
    have ih := mrg_len f ks k
    by_cases h : k < ks.length
    · rw [mrg_snoc f ks k h]
      unfold mrgS midT
      split
      · simp; omega
      · dsimp only
        rw [List.length_append, List.length_append]
        constructor
        · split <;> simp <;> omega
        · split <;> simp <;> omega
    · rw [List.take_of_length_le (by omega)] at ih ⊢
      omega
theorem tags_one (w : World) (a b : B) : TagsT (w.alloc (.cells #[.string ⟨a.toArray⟩, .string ⟨b.toArray⟩] 43)) (w.alloc (.cells #[.string ⟨a.toArray⟩, .string ⟨b.toArray⟩] 43)).heap.size (some ⟨w.heap.size, 0, none⟩) [(a, b)] := fun _ => by
  have hr := IsRow.made w 43 #[.string ⟨a.toArray⟩, .string ⟨b.toArray⟩]
  refine ⟨w.heap.size, 0, rfl, hr.inside, fun k t hk => ?_⟩
  rcases k with _ | k
  · injection hk with hk
    subst hk
    exact ⟨hr.get 0, hr.get 1⟩
  · cases hk
theorem vld_len {l : List T} (h : vld l = true) : l.length ≤ 60 := by
  unfold vld at h
  rw [Bool.and_eq_true, decide_eq_true_iff] at h
  exact h.1
theorem OwnG.down {w : World} {base base' : Nat} {v : Value} {l : List T} (h : OwnG w base v l) (hb : base' ≤ base) : OwnG w base' v l := by
  obtain ⟨h2, ⟨hv, h0⟩ | ⟨g, cap, cur, hv, hg, rest⟩⟩ := h
  · exact ⟨h2, .inl ⟨hv, h0⟩⟩
  · exact ⟨h2, .inr ⟨g, cap, cur, hv, by omega, rest⟩⟩
theorem OwnC.down {w : World} {base base' : Nat} {v : Value} {l : List B} (h : OwnC w base v l) (hb : base' ≤ base) : OwnC w base' v l := by
  obtain ⟨h2, ⟨hv, h0⟩ | ⟨g, cap, cur, hv, hg, rest⟩⟩ := h
  · exact ⟨h2, .inl ⟨hv, h0⟩⟩
  · exact ⟨h2, .inr ⟨g, cap, cur, hv, by omega, rest⟩⟩
/-- what Merge answers. -/
def MOut (w : World) (r : List T × List B) (e : Ending) (w' : World) : Prop := (∃ v u, e = .returned (.tuple #[v, u]) ∧ OwnG w' w.heap.size v r.1 ∧ OwnC w' w.heap.size u r.2) ∧ Below w.heap.size w w'
set_option maxRecDepth 100000 in
set_option maxHeartbeats 8000000 in
theorem merge_any (a1 a2 a3 : Option Addr) (n1 n2 n3 c1 c2 c3 : Nat) (l1 l2 l3 : List T) (w : World) (hn1 : l1.length = n1) (hn2 : l2.length = n2) (hn3 : l3.length = n3) (h1 : TagsT w w.heap.size a1 l1) (h2 : TagsT w w.heap.size a2 l2) (h3 : TagsT w w.heap.size a3 l3)
    (hc1 : n1 ≤ c1) (hc2 : n2 ≤ c2) (hc3 : n3 ≤ c3) (s1 : Siz l1) (s2 : Siz l2) (s3 : Siz l3) :
    Calls Try.prog 10 #[.slice a1 n1 c1, .slice a2 n2 c2, .slice a3 n3 c3] w (MOut w (mergeR l1 l2 l3)) := by
  obtain ⟨v1, hv1⟩ : ∃ v, vld l1 = v := ⟨_, rfl⟩
  obtain ⟨v2, hv2⟩ : ∃ v, vld l2 = v := ⟨_, rfl⟩
  obtain ⟨v3, hv3⟩ : ∃ v, vld l3 = v := ⟨_, rfl⟩
  obtain ⟨r, hr⟩ : ∃ r, mergeR l1 l2 l3 = r := ⟨_, rfl⟩
  have HR := Lib.hid (show (if v1 && v2 && v3 then mrgL (fun k => oneR (getV l1 k) (getV l2 k) (getV l3 k)) (keysR [l1, l2, l3]) else ([], [])) = r by rw [← hr, ← hv1, ← hv2, ← hv3]; rfl)
  rw [hr]
  have N1 := Lib.hid hn1
  have N2 := Lib.hid hn2
  have N3 := Lib.hid hn3
  have H1 := Lib.hid h1
  have H2 := Lib.hid h2
  have H3 := Lib.hid h3
  have X1 := Lib.hid hc1
  have X2 := Lib.hid hc2
  have X3 := Lib.hid hc3
  have S1 := Lib.hid s1
  have S2 := Lib.hid s2
  have S3 := Lib.hid s3
  have V1 := Lib.hid hv1
  have V2 := Lib.hid hv2
  have V3 := Lib.hid hv3
  have KV1 := Lib.hid (valid_any a1 n1 c1 l1 w hn1 h1 hc1 s1)
  rw [hv1] at KV1
  clear hr hn1 hn2 hn3 h1 h2 h3 hc1 hc2 hc3 s1 s2 s3 hv1 hv2 hv3
  go_enter Try.func10, Try.ntmps10
  go_wp2_with fail
  refine KV1.out.mono ?_
  rintro e w1 ⟨rfl, b1⟩
  have B1 := Lib.hid b1
  clear b1 KV1
  cases v1 with
  | false =>
    obtain rfl : (([], []) : List T × List B) = r := HR.out
    go_wp2
    go_ret2
    exact ⟨⟨_, _, rfl, OwnG.nil _ _, OwnC.nil _ _⟩, B1.out⟩
  | true =>
  have KV2 := Lib.hid (valid_any a2 n2 c2 l2 w1 N2.out (H2.out.later B1.out) X2.out S2.out)
  rw [V2.out] at KV2
  go_wp2_with fail
  refine KV2.out.mono ?_
  rintro e w2 ⟨rfl, b2⟩
  have B2 := Lib.hid (B1.out.trans (b2.mono B1.out.size))
  clear b2 KV2 B1
  cases v2 with
  | false =>
    obtain rfl : (([], []) : List T × List B) = r := HR.out
    go_wp2
    go_ret2
    exact ⟨⟨_, _, rfl, OwnG.nil _ _, OwnC.nil _ _⟩, B2.out⟩
  | true =>
  have KV3 := Lib.hid (valid_any a3 n3 c3 l3 w2 N3.out (H3.out.later B2.out) X3.out S3.out)
  rw [V3.out] at KV3
  go_wp2_with fail
  refine KV3.out.mono ?_
  rintro e w3 ⟨rfl, b3⟩
  have B3 := Lib.hid (B2.out.trans (b3.mono B2.out.size))
  clear b3 KV3 B2
  cases v3 with
  | false =>
    obtain rfl : (([], []) : List T × List B) = r := HR.out
    go_wp2
    go_ret2
    exact ⟨⟨_, _, rfl, OwnG.nil _ _, OwnC.nil _ _⟩, B3.out⟩
  | true =>
  obtain ⟨f, hf⟩ : ∃ f : B → B × Bool, (fun k => oneR (getV l1 k) (getV l2 k) (getV l3 k)) = f := ⟨_, rfl⟩
  obtain ⟨ks, hks⟩ : ∃ ks, keysR [l1, l2, l3] = ks := ⟨_, rfl⟩
  have HF := Lib.hid (show ∀ k, oneR (getV l1 k) (getV l2 k) (getV l3 k) = f k from fun k => by rw [← hf])
  have HR2 := Lib.hid (show mrgL f ks = r by have := HR.out; rw [hf, hks] at this; exact this)
  have M1 := Lib.hid (show n1 ≤ 60 by have := vld_len V1.out; rw [N1.out] at this; exact this)
  have M2 := Lib.hid (show n2 ≤ 60 by have := vld_len V2.out; rw [N2.out] at this; exact this)
  have M3 := Lib.hid (show n3 ≤ 60 by have := vld_len V3.out; rw [N3.out] at this; exact this)
  have KL := Lib.hid (show ks.length ≤ 180 by
    have := keys_len [l1, l2, l3]
    rw [hks] at this
    simp only [List.map_cons, List.map_nil, List.sum_cons, List.sum_nil, N1.out, N2.out, N3.out] at this
    have e1 := M1.out
    have e2 := M2.out
    have e3 := M3.out
    omega)
  obtain ⟨w4, hw4, b4, r4⟩ : ∃ w4, w3.alloc (.cells #[.slice a1 n1 c1, .slice a2 n2 c2, .slice a3 n3 c3] 22) = w4 ∧ Below w3.heap.size w3 w4 ∧ IsRow w4 w3.heap.size 22 #[.slice a1 n1 c1, .slice a2 n2 c2, .slice a3 n3 c3] := ⟨_, rfl, alloc1 _ _, IsRow.made _ _ _⟩
  have B4 := Lib.hid (B3.out.trans (b4.mono B3.out.size))
  have HW4 := Lib.hid hw4
  have KK := Lib.hid (keys_any w3.heap.size 3 [(a1, n1, c1, l1), (a2, n2, c2, l2), (a3, n3, c3, l3)] w4 ⟨r4, fun s hs => by
    simp only [List.mem_cons, List.not_mem_nil, or_false] at hs
    rcases hs with rfl | rfl | rfl
    · exact ⟨N1.out, H1.out.later B4.out, X1.out⟩
    · exact ⟨N2.out, H2.out.later B4.out, X2.out⟩
    · exact ⟨N3.out, H3.out.later B4.out, X3.out⟩⟩ rfl (by decide) (fun s hs => by
    have e1 := M1.out
    have e2 := M2.out
    have e3 := M3.out
    simp only [List.mem_cons, List.not_mem_nil, or_false] at hs
    rcases hs with rfl | rfl | rfl
    · exact ⟨by dsimp only; omega, S1.out⟩
    · exact ⟨by dsimp only; omega, S2.out⟩
    · exact ⟨by dsimp only; omega, S3.out⟩))
  simp only [List.map_cons, List.map_nil] at KK
  obtain ⟨nk, hnk⟩ : ∃ n, ks.length = n := ⟨_, rfl⟩
  rw [hks, hnk] at KK
  rw [hnk] at KL
  have NK := Lib.hid hnk
  have hmf : ∀ (fn : Fn) (first cap : Array Value) (w : World), (Instr.makeFunc fn first cap).run Try.prog w = .ok (.func fn first cap) w := fun _ _ _ _ => rfl
  clear hf hks hw4 b4 r4 B3 hnk
  go_wp2_with fail
  rw [HW4.out]
  refine KK.out.mono ?_
  rintro e w5 ⟨⟨ak, ck, rfl, hck, tk⟩, b5⟩
  have B5 := Lib.hid (B4.out.trans (b5.mono B4.out.size))
  have TK := Lib.hid tk
  have hck' : (nk : Int) ≤ (ck : Int) := by omega
  have hk180 : (nk : Int) ≤ 180 := by have := KL.out; omega
  clear b5 tk KK B4 HW4 hck
  go_wp2_with fail
  obtain ⟨v0, hv0⟩ : ∃ v, v = w5 := ⟨_, rfl⟩
  subst hv0
  obtain ⟨bs, hbs⟩ : ∃ b, v0.heap.size = b := ⟨_, rfl⟩
  have TK2 := Lib.hid (show StrT v0 bs ak ks from hbs ▸ TK.out)
  have B0 := Lib.hid (show Below bs v0 v0 from Below.refl _ _)
  have BZ := Lib.hid (show w.heap.size ≤ bs from hbs ▸ B5.out.size)
  have A1 := Lib.hid (show TagsT v0 bs a1 l1 from hbs ▸ H1.out.later B5.out)
  have A2 := Lib.hid (show TagsT v0 bs a2 l2 from hbs ▸ H2.out.later B5.out)
  have A3 := Lib.hid (show TagsT v0 bs a3 l3 from hbs ▸ H3.out.later B5.out)
  have ZB := Lib.hid (show bs ≤ v0.heap.size from Nat.le_of_eq hbs.symm)
  clear hbs TK H1 H2 H3
  go_loopw [34, 8, 9] (fun i v u wr => ∃ k : Nat, k ≤ nk ∧ i = .int .i64 k ∧ Hid (OwnG wr bs v (mrgL f (ks.take k)).1) ∧ Hid (OwnC wr bs u (mrgL f (ks.take k)).2) ∧ Hid (Below bs v0 wr)) (fun i _ _ _ => nk - (Lx.intOf i).toNat)
  case atStart => exact ⟨0, by omega, rfl, Lib.hid (OwnG.nil _ _), Lib.hid (OwnC.nil _ _), B0⟩
  case round =>
    clear B0
    obtain ⟨k, hk, rfl, HO, HC, HK⟩ := hrel
    by_cases hlt : k < nk
    · have hkl : k < ks.length := by rw [NK.out]; exact hlt
      have hlt2 : (k : Int) < (nk : Int) := by omega
      obtain ⟨gk, ok, rfl, hgk, x0⟩ := (TK2.out.below HK.out (Nat.le_refl _)).at_ hkl
      have hml := mrg_len f ks k
      have hst := mrg_snoc f ks k hkl
      have FK := HF.out ks[k]
      obtain ⟨p, q, hpq⟩ : ∃ p q, f ks[k] = (p, q) := ⟨_, _, rfl⟩
      have HST : mrgL f (ks.take (k + 1)) = if p ≠ [] ∧ (mrgL f (ks.take k)).1.length = 60 then ((mrgL f (ks.take k)).1, (mrgL f (ks.take k)).2 ++ [ks[k]]) else ((mrgL f (ks.take k)).1 ++ midT ks[k] p, (mrgL f (ks.take k)).2 ++ if q then [ks[k]] else []) := by
        rw [hst]
        unfold mrgS
        rw [hpq]
      rw [hpq] at FK
      obtain ⟨L, hL⟩ : ∃ L, (mrgL f (ks.take k)).1 = L := ⟨_, rfl⟩
      obtain ⟨C, hC⟩ : ∃ C, (mrgL f (ks.take k)).2 = C := ⟨_, rfl⟩
      rw [hL, hC] at HST
      rw [hL] at HO hml
      rw [hC] at HC hml
      generalize ks[k] = key at *
      have ST0 := Lib.hid HST
      have hl1 : L.length ≤ 180 := by omega
      have hl2 : C.length ≤ 180 := by omega
      have FKK := Lib.hid FK
      obtain ⟨aL, cL, rfl, hcL, _, _⟩ := HO.out.tags
      clear hkl hst hpq hL hC HST FK hml
      obtain ⟨w1', hw1, b1, r1⟩ : ∃ w1', wr.alloc (.cells #[.string ⟨key.toArray⟩] 9) = w1' ∧ Below wr.heap.size wr w1' ∧ IsRow w1' wr.heap.size 9 #[.string ⟨key.toArray⟩] := ⟨_, rfl, alloc1 _ _, IsRow.made _ _ _⟩
      have HW1 := Lib.hid hw1
      have R1 := Lib.hid r1
      have O1 := Lib.hid (HO.out.below b1)
      have C1 := Lib.hid (HC.out.below b1)
      have G1 := Lib.hid (HK.out.trans (b1.mono (Nat.le_trans ZB.out HK.out.size)))
      have RD1 := Lib.hid (read_any a1 n1 c1 wr.heap.size l1 key w1' N1.out ((A1.out.below G1.out (Nat.le_refl _)).more (Nat.le_trans ZB.out G1.out.size)) X1.out (by have := M1.out; omega) (R1.out.get 0))
      have y1 := R1.out.get 0
      clear hw1 r1 b1 HO HC HK
      go_upto_region 8 with fail
      rw [HW1.out]
      go_wp2_with fail
      refine RD1.out.mono ?_
      rintro e w2' ⟨rfl, b2⟩
      have R2 := Lib.hid (R1.out.below b2 R1.out.inside)
      have O2 := Lib.hid (O1.out.below b2)
      have C2 := Lib.hid (C1.out.below b2)
      have G2 := Lib.hid (G1.out.trans (b2.mono (Nat.le_trans ZB.out G1.out.size)))
      have RD2 := Lib.hid (read_any a2 n2 c2 wr.heap.size l2 key w2' N2.out ((A2.out.below G2.out (Nat.le_refl _)).more (Nat.le_trans ZB.out G2.out.size)) X2.out (by have := M2.out; omega) (R2.out.get 0))
      clear b2 RD1 R1 O1 C1 G1 y1 HW1
      go_wp2_with fail
      refine RD2.out.mono ?_
      rintro e w3' ⟨rfl, b3⟩
      have R3 := Lib.hid (R2.out.below b3 R2.out.inside)
      have O3 := Lib.hid (O2.out.below b3)
      have C3 := Lib.hid (C2.out.below b3)
      have G3 := Lib.hid (G2.out.trans (b3.mono (Nat.le_trans ZB.out G2.out.size)))
      have RD3 := Lib.hid (read_any a3 n3 c3 wr.heap.size l3 key w3' N3.out ((A3.out.below G3.out (Nat.le_refl _)).more (Nat.le_trans ZB.out G3.out.size)) X3.out (by have := M3.out; omega) (R3.out.get 0))
      clear b3 RD2 R2 O2 C2 G2
      go_wp2_with fail
      refine RD3.out.mono ?_
      rintro e w4' ⟨rfl, b4⟩
      have R4 := Lib.hid (R3.out.below b4 R3.out.inside)
      have O4 := Lib.hid (O3.out.below b4)
      have C4 := Lib.hid (C3.out.below b4)
      have G4 := Lib.hid (G3.out.trans (b4.mono (Nat.le_trans ZB.out G3.out.size)))
      have KD := Lib.hid (decide_any (getV l1 key) (getV l2 key) (getV l3 key) w4')
      rw [FKK.out] at KD
      clear b4 RD3 R3 O3 C3 G3
      go_wp2_with fail
      refine KD.out.mono ?_
      rintro e w5 ⟨rfl, b5⟩
      have K5 := Lib.hid (R4.out.below b5 R4.out.inside)
      have O5 := Lib.hid (O4.out.below b5)
      have C5 := Lib.hid (C4.out.below b5)
      have B5x := Lib.hid (G4.out.trans (b5.mono (Nat.le_trans ZB.out G4.out.size)))
      have x5 := K5.out.get 0
      have ZW := Nat.le_trans ZB.out B5x.out.size
      obtain ⟨kb, hkb⟩ : ∃ b, wr.heap.size = b := ⟨_, rfl⟩
      have KB5 := Lib.hid (show IsRow w5 kb 9 #[.string ⟨key.toArray⟩] from hkb ▸ K5.out)
      rw [hkb] at x5 ⊢
      have ZW5 := Lib.hid ZW
      clear b5 KD R4 O4 C4 G4 K5 hkb ZW
      by_cases hp0 : p = []
      · subst hp0
        have ST1 : mrgL f (ks.take (k + 1)) = (L, C ++ if q then [key] else []) := by
          rw [ST0.out, if_neg (fun h => h.1 rfl)]
          unfold midT
          rw [if_pos rfl, List.append_nil]
        cases q with
        | true =>
          have ST := Lib.hid (show mrgL f (ks.take (k + 1)) = (L, C ++ [key]) from ST1)
          clear ST1 ST0
          have R5 := KB5
          have B5 := B5x
          clear KB5 B5x x5
          have cown6 := C5.out.below (alloc1 w5 (.cells #[.string ⟨key.toArray⟩] 9))
          have x5 := IsRow.get R5.out 0
          have hz6 := Nat.le_trans ZW5.out (alloc1 w5 (.cells #[.string ⟨key.toArray⟩] 9)).size
          go_wp2_with (at_builtin; refine wpList_appC rfl _ _ (by rfl) bs _ C key w5.heap.size (by rfl) cown6 (by rfl) (IsRow.get (IsRow.made w5 9 #[.string ⟨key.toArray⟩]) 0) (by omega) hz6 ?_; intro v6 w6 ho6 hg6 hlt6)
          have C6 := Lib.hid ho6
          have O6 := Lib.hid ((O5.out.below (alloc1 w5 _)).kept hg6 ((O5.out.below (alloc1 w5 _)).apart cown6).1)
          have B6 := Lib.hid ((B5.out.trans ((alloc1 w5 _).mono ZW5.out)).grown hg6 hz6 (fun k hk => (hlt6 k hk).1))
          clear cown6 ho6 hg6 hlt6 hz6 O5 C5 R5 B5 x5
          go_wp2
          go_roundw
          case rel => exact ⟨k + 1, by omega, by go_num, Lib.hid (by rw [ST.out]; exact O6.out), Lib.hid (by rw [ST.out]; exact C6.out), B6⟩
          case measure => simp [Lx.intOf]; omega
        | false =>
          have ST := Lib.hid (show mrgL f (ks.take (k + 1)) = (L, C) by rw [ST1]; simp)
          clear ST1 ST0
          have B5 := B5x
          go_wp2
          go_roundw
          case rel => exact ⟨k + 1, by omega, by go_num, Lib.hid (by rw [ST.out]; exact O5.out), Lib.hid (by rw [ST.out]; exact C5.out), B5⟩
          case measure => simp [Lx.intOf]; omega
      · have e1 : (p == []) = false := by rw [beq_eq_false_iff_ne]; exact hp0
        have e2 : p.isEmpty = false := by cases p with | nil => exact absurd rfl hp0 | cons => rfl
        by_cases h60 : L.length = 60
        · have e3 : ((L.length : Int) == 60) = true := by rw [h60]; rfl
          have ST := Lib.hid (show mrgL f (ks.take (k + 1)) = (L, C ++ [key]) by rw [ST0.out, if_pos ⟨hp0, h60⟩])
          clear ST0 hp0
          have H60 := Lib.hid h60
          clear h60
          have R5 := KB5
          have B5 := B5x
          clear KB5 B5x x5
          have cown6 := C5.out.below (alloc1 w5 (.cells #[.string ⟨key.toArray⟩] 9))
          have x5 := IsRow.get R5.out 0
          have hz6 := Nat.le_trans ZW5.out (alloc1 w5 (.cells #[.string ⟨key.toArray⟩] 9)).size
          go_wp2_with (at_builtin; refine wpList_appC rfl _ _ (by rfl) bs _ C key w5.heap.size (by rfl) cown6 (by rfl) (IsRow.get (IsRow.made w5 9 #[.string ⟨key.toArray⟩]) 0) (by omega) hz6 ?_; intro v6 w6 ho6 hg6 hlt6)
          have C6 := Lib.hid ho6
          have O6 := Lib.hid ((O5.out.below (alloc1 w5 _)).kept hg6 ((O5.out.below (alloc1 w5 _)).apart cown6).1)
          have B6 := Lib.hid ((B5.out.trans ((alloc1 w5 _).mono ZW5.out)).grown hg6 hz6 (fun k hk => (hlt6 k hk).1))
          clear cown6 ho6 hg6 hlt6 hz6 O5 C5 R5 B5 x5
          go_wp2
          go_roundw
          case rel => exact ⟨k + 1, by omega, by go_num, Lib.hid (by rw [ST.out]; exact O6.out), Lib.hid (by rw [ST.out]; exact C6.out), B6⟩
          case measure => simp [Lx.intOf]; omega
        · have e3 : ((L.length : Int) == 60) = false := by rw [beq_eq_false_iff_ne]; omega
          have ST1 : mrgL f (ks.take (k + 1)) = (L ++ [(key, p)], C ++ if q then [key] else []) := by
            rw [ST0.out, if_neg (fun h => h60 h.2)]
            unfold midT
            rw [if_neg hp0]
          clear ST0 hp0 h60
          cases q with
          | true =>
            have ST := Lib.hid (show mrgL f (ks.take (k + 1)) = (L ++ [(key, p)], C ++ [key]) from ST1)
            clear ST1
            have hown6 := O5.out.below (alloc1 w5 (.cells #[.string ⟨key.toArray⟩, .string ⟨p.toArray⟩] 43))
            have hp6 := tags_one w5 key p
            have hz6 := Nat.le_trans ZW5.out (alloc1 w5 (.cells #[.string ⟨key.toArray⟩, .string ⟨p.toArray⟩] 43)).size
            go_upto_if 68 with (at_builtin; refine wpList_appG rfl _ _ (by rfl) bs _ L [(key, p)] (some ⟨w5.heap.size, 0, none⟩) 1 1 (by rfl) hown6 (by rfl) hp6 rfl (by omega) hz6 ?_; intro v6 w6 ho6 hg6 hlt6)
            have O6 := Lib.hid ho6
            have C6 := Lib.hid ((C5.out.below (alloc1 w5 _)).kept hg6 (hown6.apart (C5.out.below (alloc1 w5 _))).2)
            have R6 := Lib.hid (IsRow.grown (KB5.out.below (alloc1 w5 _) KB5.out.inside) hg6 (hown6.ne (KB5.out.below (alloc1 w5 _) KB5.out.inside) (by decide)))
            have B6 := Lib.hid ((B5x.out.trans ((alloc1 w5 _).mono ZW5.out)).grown hg6 hz6 (fun k hk => (hlt6 k hk).1))
            have ZW6 := Lib.hid (Nat.le_trans ZB.out B6.out.size)
            clear hown6 hp6 ho6 hg6 hlt6 hz6 O5 C5 KB5 B5x x5
            have cown7 := C6.out.below (alloc1 w6 (.cells #[.string ⟨key.toArray⟩] 9))
            have x6 := IsRow.get R6.out 0
            have hz7 := Nat.le_trans ZW6.out (alloc1 w6 (.cells #[.string ⟨key.toArray⟩] 9)).size
            go_wp2_with (at_builtin; refine wpList_appC rfl _ _ (by rfl) bs _ C key w6.heap.size (by rfl) cown7 (by rfl) (IsRow.get (IsRow.made w6 9 #[.string ⟨key.toArray⟩]) 0) (by omega) hz7 ?_; intro v7 w7 ho7 hg7 hlt7)
            have C7 := Lib.hid ho7
            have O7 := Lib.hid ((O6.out.below (alloc1 w6 _)).kept hg7 ((O6.out.below (alloc1 w6 _)).apart cown7).1)
            have B7 := Lib.hid ((B6.out.trans ((alloc1 w6 _).mono ZW6.out)).grown hg7 hz7 (fun k hk => (hlt7 k hk).1))
            clear cown7 ho7 hg7 hlt7 hz7 O6 C6 R6 B6 x6
            go_wp2
            go_roundw
            case rel => exact ⟨k + 1, by omega, by go_num, Lib.hid (by rw [ST.out]; exact O7.out), Lib.hid (by rw [ST.out]; exact C7.out), B7⟩
            case measure => simp [Lx.intOf]; omega
          | false =>
            have ST := Lib.hid (show mrgL f (ks.take (k + 1)) = (L ++ [(key, p)], C) by rw [ST1]; simp)
            clear ST1
            have hown6 := O5.out.below (alloc1 w5 (.cells #[.string ⟨key.toArray⟩, .string ⟨p.toArray⟩] 43))
            have hp6 := tags_one w5 key p
            have hz6 := Nat.le_trans ZW5.out (alloc1 w5 (.cells #[.string ⟨key.toArray⟩, .string ⟨p.toArray⟩] 43)).size
            go_wp2_with (at_builtin; refine wpList_appG rfl _ _ (by rfl) bs _ L [(key, p)] (some ⟨w5.heap.size, 0, none⟩) 1 1 (by rfl) hown6 (by rfl) hp6 rfl (by omega) hz6 ?_; intro v6 w6 ho6 hg6 hlt6)
            have O6 := Lib.hid ho6
            have C6 := Lib.hid ((C5.out.below (alloc1 w5 _)).kept hg6 (hown6.apart (C5.out.below (alloc1 w5 _))).2)
            have R6 := Lib.hid (IsRow.grown (KB5.out.below (alloc1 w5 _) KB5.out.inside) hg6 (hown6.ne (KB5.out.below (alloc1 w5 _) KB5.out.inside) (by decide)))
            have B6 := Lib.hid ((B5x.out.trans ((alloc1 w5 _).mono ZW5.out)).grown hg6 hz6 (fun k hk => (hlt6 k hk).1))
            have ZW6 := Lib.hid (Nat.le_trans ZB.out B6.out.size)
            clear hown6 hp6 ho6 hg6 hlt6 hz6 O5 C5 KB5 B5x x5
            go_wp2
            go_roundw
            case rel => exact ⟨k + 1, by omega, by go_num, Lib.hid (by rw [ST.out]; exact O6.out), Lib.hid (by rw [ST.out]; exact C6.out), B6⟩
            case measure => simp [Lx.intOf]; omega
    · obtain rfl : nk = k := by omega
      have O9 := HO.out
      have C9 := HC.out
      rw [← NK.out, List.take_length, HR2.out] at O9 C9
      have O9' := Lib.hid (O9.down BZ.out)
      have C9' := Lib.hid (C9.down BZ.out)
      clear O9 C9
      go_wp2
      go_ret2
      exact ⟨⟨_, _, rfl, O9'.out, C9'.out⟩, B5.out.trans (HK.out.mono BZ.out)⟩
end Go.Proofs.Ytlknbjaippfemaa.Tg
