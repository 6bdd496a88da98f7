/- hours: the law HoursGaps. -/
import Derived.Test.YtgbkjdpjilldmaaDoorHrPartsWalk
import Derived.Test.YtgbkjdpjilldmaaDoorHrGapsM
namespace Go.Proofs.YtgbkjdpjilldmaaDoor.Hr
open Go.RowKit Go.Sort Go.Shelf
open Lx (IsRow alloc1 drew_below B str_size Tk lexR)
open St (Sp encS encS_len encS_one)
set_option maxRecDepth 100000 in
set_option maxHeartbeats 8000000 in
theorem gapsLaw_any (s : B) (w : World) (hd : Dn w.heap.size w) :
    Calls Tryd.prog 7 #[.string ⟨s.toArray⟩] w fun e w' => e = .returned (.bool true) ∧ Below w.heap.size w w' := by
  obtain ⟨Z, hZ⟩ : ∃ Z, w.heap.size = Z := ⟨_, rfl⟩
  have KH := Lib.hid (head_any w hd)
  have HD := Lib.hid (hZ ▸ hd)
  have HZ := Lib.hid hZ
  obtain ⟨bs, hbs⟩ : ∃ x, ByteArray.mk s.toArray = x := ⟨_, rfl⟩
  have hs : (bs.size : Int) = (s.length : Int) := by rw [← hbs, str_size]
  have HBS := Lib.hid hbs
  have HS := Lib.hid hs
  have hdat : bs.data.toList = s := by rw [← hbs]
  rw [hbs, hZ]
  clear hd hbs hs hZ
  go_enter Tryd.func7, Tryd.ntmps7
  go_wp2_with fail
  refine KH.out.mono ?_
  rintro e w1 ⟨rfl, h⟩
  have B1 := Lib.hid (HZ.out ▸ h)
  clear h KH
  by_cases l1 : s.length ≤ 1500
  rotate_left
  · have h1 : (1500 : Int) < (bs.size : Int) := by have := HS.out; omega
    go_wp2
    go_ret
    exact ⟨rfl, B1.out⟩
  have h1 : ¬ (1500 : Int) < (bs.size : Int) := by have := HS.out; omega
  have LS := Lib.hid l1
  rcases hl : lexR s with ⟨ts, le, la⟩
  have KL := Lib.hid (Lx.lex_of bs w1 ts le la (by rw [hdat]; exact hl))
  rcases hA : parseR s with ⟨al, ae, at_⟩
  have KP := Lib.hid (fun W hd => parseS s bs HBS.out _ hA W (by omega) hd)
  have GP := Lib.hid (gaps_parse l1)
  have GL := Lib.hid (fun h : (lexR s).2.1 = 0 => lex_toks (s := s) (by omega) h)
  have he2 : le ≠ 0 → ae = le := fun h => by
    have := hA
    unfold parseR at this
    rw [hl, if_pos h] at this
    injection this with _ this
    injection this with this _
    exact this.symm
  rw [hl, hA] at GP
  rw [hl] at GL
  dsimp only at GP GL
  have hts : ts.length ≤ 1500 := by
    have := (lexR_dg s (by omega)).2
    rw [hl] at this
    dsimp only at this
    omega
  have HE := Lib.hid he2
  clear hl hA he2 l1 hdat
  go_wp2_with fail
  refine KL.out.mono ?_
  rintro e w2 ⟨⟨ao, c, rfl, hc, ht⟩, h⟩
  have B2 := Lib.hid (stp HZ.out B1.out h)
  have T2 := Lib.hid ht
  have hc' : (ts.length : Int) ≤ (c : Int) := by omega
  have KP := Lib.hid (KP.out w2 (dn_later HZ.out HD.out B2.out))
  clear h ht KL hc B1
  go_wp2_with fail
  refine KP.out.mono ?_
  rintro e w3 ⟨⟨pA, cA, rfl, hc, ht⟩, h⟩
  dsimp only at hc ht ⊢
  have B3 := Lib.hid (stp HZ.out B2.out h)
  have T3 := Lib.hid ((T2.out.below h (Nat.le_refl _)).more h.size)
  have CA := Lib.hid hc
  have TA := Lib.hid ht
  clear h KP B2 T2 hc ht
  by_cases e1 : le = 0
  rotate_left
  · have e2 : (le == 0) = false := by rw [beq_eq_false_iff_ne]; exact e1
    obtain rfl := HE.out e1
    go_wp2
    go_ret
    exact ⟨rfl, B3.out⟩
  subst e1
  have GL2 := Lib.hid (GL.out rfl)
  have GP2 := Lib.hid (GP.out rfl)
  have SL := Lib.hid (spc_len GL2.out)
  clear GL GP HE
  obtain ⟨n, hn⟩ : ∃ n, ts.length = n := ⟨_, rfl⟩
  have HN := Lib.hid hn
  rw [hn] at hc' GP2 ⊢
  have n5 : (n : Int) ≤ 1500 := by omega
  clear hn hts
  go_wp2_with fail
  go_loopw [10, 11, 12] (fun sp pl i wr => ∃ k : Nat, k ≤ n ∧ sp = .string ⟨(spc (ts.take k)).toArray⟩ ∧ pl = .int .i64 (plF at_ ts k) ∧ i = .int .i64 (k : Int) ∧ Hid (∀ t ∈ ts.take k, t.k ≠ 3) ∧ Hid (w3 = wr)) (fun _ _ i _ => n - (Lx.intOf i).toNat)
  case atStart => exact ⟨0, by omega, rfl, rfl, rfl, Lib.hid (fun t h => by cases h), Lib.hid rfl⟩
  case round =>
    obtain ⟨k, hk, rfl, rfl, rfl, H3, HW⟩ := hrel
    obtain rfl := HW.out
    by_cases hlt : k < n
    · have hkl : k < ts.length := by rw [HN.out]; exact hlt
      have hlt2 : (k : Int) < (n : Int) := by omega
      obtain ⟨g, off, rfl, hg, hcell⟩ := T3.out (by omega)
      obtain ⟨c0, c1, c2⟩ := hcell k _ (List.getElem?_eq_getElem hkl)
      have SN := Lib.hid (spc_snoc hkl)
      have PS := Lib.hid (plF_succ (x := at_) hkl)
      have TK := Lib.hid (show ts.take (k + 1) = ts.take k ++ [ts[k]] from List.take_succ_eq_append_getElem hkl)
      have b1 := spc_take ts (k + 1)
      have b0 := spc_take ts k
      have SL2 := SL.out
      rw [SN.out, List.length_append, List.length_append] at b1
      generalize ts[k] = t at *
      obtain ⟨tk, tt, ta⟩ := t
      dsimp only at c0 c1 c2 b1 SN PS
      have H3' := Lib.hid (fun (q : tk ≠ 3) => show ∀ t ∈ ts.take (k + 1), t.k ≠ 3 from fun u hu => by
        rw [TK.out] at hu
        rcases List.mem_append.1 hu with hu | hu
        · exact H3.out u hu
        · rw [List.mem_singleton.1 hu]; exact q)
      obtain ⟨P, hP⟩ : ∃ P, plF at_ ts k = P := ⟨_, rfl⟩
      obtain ⟨bx, hbx⟩ : ∃ x, ByteArray.mk (spc (ts.take k)).toArray = x := ⟨_, rfl⟩
      obtain ⟨bt, hbt⟩ : ∃ x, ByteArray.mk tt.toArray = x := ⟨_, rfl⟩
      have sx : bx.size = (spc (ts.take k)).length := by rw [← hbx, str_size]
      have st : bt.size = tt.length := by rw [← hbt, str_size]
      have z1 : (bt ++ ⟨#[10]⟩).size = bt.size + 1 := by rw [ByteArray.size_append]; rfl
      have EQ := Lib.hid (show bx ++ (bt ++ ⟨#[10]⟩) = ⟨(spc (ts.take (k + 1))).toArray⟩ from by
        apply ByteArray.ext
        rw [SN.out, ← hbx, ← hbt]
        simp [ByteArray.data_append])
      have g1 : bx.size ≤ 3000 := by have := LS.out; omega
      have g2 : bt.size ≤ 3000 := by have := LS.out; simp only [List.length_cons, List.length_nil] at b1; omega
      have SX := Lib.hid sx
      rw [hbt] at c1
      rw [hP] at PS ⊢
      rw [hbx]
      clear hbx hbt sx st hP SN SL2 b0 b1 hcell TK
      by_cases q3 : tk = 3
      · subst q3
        go_wp2
        go_ret
        exact ⟨rfl, B3.out⟩
      have q4 : (tk == 3) = false := by rw [beq_eq_false_iff_ne]; exact q3
      have H4 := Lib.hid (H3'.out q3)
      clear H3' q3
      by_cases q5 : (ta : Int) = at_
      · have PS2 := Lib.hid (PS.out.trans (if_pos q5))
        have q6 : ((ta : Int) == at_) = true := by rw [beq_iff_eq]; exact q5
        clear PS
        go_wp2
        go_roundw
        case rel => exact ⟨k + 1, by omega, by rw [EQ.out], by rw [PS2.out, SX.out], by go_num, H4, Lib.hid trivial⟩
        case measure => simp [Lx.intOf]; omega
      · have PS2 := Lib.hid (PS.out.trans (if_neg q5))
        have q6 : ((ta : Int) == at_) = false := by rw [beq_eq_false_iff_ne]; exact q5
        clear PS
        go_wp2
        go_roundw
        case rel => exact ⟨k + 1, by omega, by rw [EQ.out], by rw [PS2.out], by go_num, H4, Lib.hid trivial⟩
        case measure => simp [Lx.intOf]; omega
    · obtain rfl : k = n := by omega
      have hlt2 : ¬ (k : Int) < (k : Int) := by omega
      have tk : ts.take k = ts := List.take_of_length_le (by rw [HN.out]; exact Nat.le_refl _)
      have h3 := H3.out
      rw [tk] at h3 ⊢
      obtain ⟨g1, g2, g3, g4, g5⟩ := GP2.out h3
      obtain ⟨bx, hbx⟩ : ∃ x, ByteArray.mk (spc ts).toArray = x := ⟨_, rfl⟩
      have sx : (bx.size : Int) = ((spc ts).length : Int) := by rw [← hbx, str_size]
      obtain ⟨P, hP⟩ : ∃ P, plF at_ ts k = P := ⟨_, rfl⟩
      rcases hB : parseR (spc ts) with ⟨bl, be, tq⟩
      rw [hB] at g1 g2 g3 g4 g5
      dsimp only at g1 g2 g3 g4 g5
      subst g1 g2
      have KQ := Lib.hid (parseS (spc ts) bx hbx _ hB w3 (by have := SL.out; have := LS.out; omega) (dn_later HZ.out HD.out B3.out))
      rw [hP] at g5 ⊢
      rw [hbx]
      have G3 := Lib.hid g3
      have G4 := Lib.hid g4
      have G5 := Lib.hid g5
      have SX := Lib.hid sx
      have LB := Lib.hid (show bl.length ≤ 900 from by
        by_cases q : be = 0
        · have := (parse_ok (s := spc ts) (by rw [hB]; exact q)).2.1
          rw [hB] at this
          dsimp only at this
          omega
        · have := (parse_err (s := spc ts) (by have := SL.out; have := LS.out; omega) (by rw [hB]; exact q)).1
          rw [hB] at this
          dsimp only at this
          rw [this]
          simp)
      clear g3 g4 g5 sx hB hP hbx h3 GP2 H3 HW tk
      go_wp2_with fail
      refine KQ.out.mono ?_
      rintro e w4 ⟨⟨pB, cB, rfl, hc, ht⟩, h⟩
      dsimp only at hc ht ⊢
      have B4 := Lib.hid (stp HZ.out B3.out h)
      have TA := Lib.hid (TA.out.later h)
      have KS := Lib.hid (sameS (show bl = bl from rfl) TA.out ht CA.out hc LB.out)
      clear h hc ht KQ B3
      go_wp2_with fail
      refine KS.out.mono ?_
      rintro e w5 ⟨rfl, h⟩
      have B5 := Lib.hid (stp HZ.out B4.out h)
      clear h KS B4
      by_cases q : be = 0
      · subst q
        obtain ⟨rfl, rfl⟩ := G3.out rfl
        go_wp2
        go_ret
        exact ⟨rfl, B5.out⟩
      · have q1 : (be == 0) = false := by rw [beq_eq_false_iff_ne]; exact q
        by_cases q2 : at_ = (s.length : Int)
        · have q3 := G4.out q q2
          have q4 : at_ = (bs.size : Int) := by rw [q2, HS.out]
          have q5 : tq = (bx.size : Int) := by rw [q3, SX.out]
          subst q4 q5
          clear q2 q3
          go_wp2
          go_ret
          exact ⟨rfl, B5.out⟩
        · obtain ⟨q3, q4⟩ := G5.out q q2
          have q5 : (at_ == (bs.size : Int)) = false := by rw [beq_eq_false_iff_ne, HS.out]; exact q2
          subst q4
          clear q2
          go_wp2
          go_ret
          exact ⟨rfl, B5.out⟩
end Go.Proofs.YtgbkjdpjilldmaaDoor.Hr
