/- P7.1: GridMatchesReference walks. -/
import Derived.Test.YtenacgeahaoglaaDoorGdRefW
import Derived.Test.YtenacgeahaoglaaDoorGdTextWalk
import Derived.Test.YtenacgeahaoglaaDoorGdPixWalk
namespace Go.Proofs.YtenacgeahaoglaaDoor.Gd
open Go.RowKit Go.Sort
theorem refUp_to (t : Tl) {q : Tl} {e : Int} (h : upR t = (q, e)) : Answers Tryd.prog 15 #[.agg #[.int .i64 t.z, .int .i64 t.x, .int .i64 t.y]] (.tuple #[.agg #[.int .i64 q.z, .int .i64 q.x, .int .i64 q.y], .int .i64 e]) := by
  have k := refUp_any t
  rw [h] at k
  exact k
theorem refText_to (t : Tl) {l : List UInt8} {e : Int} (h : textR t = (l, e)) : Answers Tryd.prog 24 #[.agg #[.int .i64 t.z, .int .i64 t.x, .int .i64 t.y]] (.tuple #[.string ⟨l.toArray⟩, .int .i64 e]) := by
  have k := refText_any t
  rw [h] at k
  exact k
theorem refPixel_to (t : Tl) (p : Pn) {q : Pn} {e : Int} (h : pixR t p = (q, e)) : Answers Tryd.prog 22 #[.agg #[.int .i64 t.z, .int .i64 t.x, .int .i64 t.y], .agg #[.int .i64 p.x, .int .i64 p.y]] (.tuple #[.agg #[.int .i64 q.x, .int .i64 q.y], .int .i64 e]) := by
  have k := refPixel_any t p
  rw [h] at k
  exact k
theorem refParse_to (l : List UInt8) (hl : l.length ≤ 100) {q : Tl} {e : Int} (h : parseR l = (q, e)) : Answers Tryd.prog 26 #[.string ⟨l.toArray⟩] (.tuple #[.agg #[.int .i64 q.z, .int .i64 q.x, .int .i64 q.y], .int .i64 e]) := by
  have k := refParse_any l hl
  rw [h] at k
  exact k
theorem refKids_to (t : Tl) {L : List Tl} {e : Int} (h : kidsR t = (L, e)) (w : World) : Calls Tryd.prog 17 #[.agg #[.int .i64 t.z, .int .i64 t.x, .int .i64 t.y]] w fun e' w' => (∃ v, e' = .returned (.tuple #[v, .int .i64 e]) ∧ OwnT w' w.heap.size v L) ∧ Below w.heap.size w w' := by
  have k := refKids_any t w
  rw [h] at k
  exact k
theorem refCover_to (b : Bb) (z : Int) {L : List Tl} {e : Int} (h : coverR b z = (L, e)) (w : World) : Calls Tryd.prog 20 #[.agg #[.int .i64 b.a.x, .int .i64 b.a.y, .int .i64 b.b.x, .int .i64 b.b.y], .int .i64 z] w fun e' w' => (∃ v, e' = .returned (.tuple #[v, .int .i64 e]) ∧ OwnT w' w.heap.size v L) ∧ Below w.heap.size w w' := by
  have k := refCover_any b z w
  rw [h] at k
  exact k
theorem kids_few (t : Tl) {L : List Tl} {e : Int} (h : kidsR t = (L, e)) : L.length ≤ 5000 := by
  unfold kidsR at h
  (repeat' split at h) <;> (injection h with h _; subst h; simp [kidsN])
theorem cover_few (b : Bb) (z : Int) {L : List Tl} {e : Int} (h : coverR b z = (L, e)) : L.length ≤ 5000 := by
  unfold coverR at h
  by_cases hf : fitB b z
  · rw [if_pos hf] at h
    have := many_len hf
    split at h <;> (injection h with h _; subst h; first | (simp; done) | omega)
  · rw [if_neg hf] at h
    injection h with h _
    subst h
    simp
theorem grown3 (w : World) (g : Nat) (a b c : Value) : w.grownBy (((w.setCell ⟨g, 0, none⟩ a).setCell ⟨g, 1, none⟩ b).setCell ⟨g, 2, none⟩ c) (some g) :=
  grown_put (grown_put (grown_put ⟨rfl, rfl, rfl, Nat.le_refl _, fun _ _ _ => rfl⟩ 0 a) 1 b) 2 c
theorem own_put {w w' : World} {base g : Nat} {v : Value} {L : List Tl} (h : OwnT w base v L) (hg : w.grownBy w' (some g)) (hb : g < base) : OwnT w' base v L :=
  OwnT.kept h hg (.inr fun e => by have := (h.row g e).1; omega)
set_option maxRecDepth 100000 in
set_option maxHeartbeats 8000000 in
theorem gridMatches_any (p : Pn) (z : Int) (t : Tl) (b : Bb) (l : List UInt8) (w : World) (hG : Gw w) :
    Calls Tryd.prog 3 #[.agg #[.int .i64 p.x, .int .i64 p.y], .int .i64 z, .agg #[.int .i64 t.z, .int .i64 t.x, .int .i64 t.y], .agg #[.int .i64 b.a.x, .int .i64 b.a.y, .int .i64 b.b.x, .int .i64 b.b.y], .string ⟨l.toArray⟩] w fun e w' => e = .returned (.bool true) ∧ Below w.heap.size w w' := by
  have HG := Lib.hid hG
  obtain ⟨W2, hW, hB, hP, hQ⟩ := two_made w 23 25 #[.int .i64 p.x, .int .i64 p.y] #[.int .i64 t.z, .int .i64 t.x, .int .i64 t.y]
  have hz2 : W2.heap.size = w.heap.size + 1 + 1 := by rw [← hW]; simp
  obtain ⟨W, hV⟩ : ∃ W, W2.alloc (.cells #[.int .i64 b.a.x, .int .i64 b.a.y, .int .i64 b.b.x, .int .i64 b.b.y] 27) = W := ⟨_, rfl⟩
  obtain ⟨hb3, RB⟩ := rowB W2 _ _ hV
  have B0 := Lib.hid (hB.trans (hb3.out.mono hB.size))
  have RP := Lib.hid (hP.below hb3.out hP.inside)
  have RT := Lib.hid (hQ.below hb3.out hQ.inside)
  rw [hz2] at RB
  have HW := Lib.hid hW
  have HV := Lib.hid hV
  have hsz := str_size l
  have PT := fun (q : Tl) (e : Int) (h : parseR l = (q, e)) (hl : l.length ≤ 100) => parse_to l (by omega) h
  have PR := fun (q : Tl) (e : Int) (h : parseR l = (q, e)) (hl : l.length ≤ 100) => refParse_to l hl h
  obtain ⟨s, hs⟩ : ∃ s, ByteArray.mk l.toArray = s := ⟨_, rfl⟩
  rw [hs] at hsz PT PR ⊢
  clear hG hW hV hB hP hQ hb3 hz2 hs
  go_enter Tryd.func3, Tryd.ntmps3
  go_wp2_with fail
  rw [HW.out, HV.out]
  clear HW HV
  refine (head_any _ (HG.out.below B0.out)).mono ?_
  rintro e w1 ⟨rfl, b1⟩
  have B1 := Lib.hid (B0.out.trans (b1.mono B0.out.size))
  replace RP := Lib.hid (RP.out.below b1 RP.out.inside)
  replace RT := Lib.hid (RT.out.below b1 RT.out.inside)
  replace RB := Lib.hid (RB.out.below b1 RB.out.inside)
  clear b1 B0
  by_cases hl : l.length ≤ 100
  case neg =>
    have h1 : ¬ s.size ≤ 100 := by omega
    have h2 : 100 < s.size := by omega
    clear hsz hl
    go_wp2
    go_ret
    exact ⟨rfl, B1.out⟩
  have h1 : s.size ≤ 100 := by omega
  have h2 : ¬ 100 < s.size := by omega
  clear hsz
  obtain ⟨⟨A, e0⟩, ho⟩ : ∃ R, ofR p z = R := ⟨_, rfl⟩
  obtain ⟨⟨C, e1⟩, hx⟩ : ∃ R, boxR t = R := ⟨_, rfl⟩
  obtain ⟨⟨U, e2⟩, hu⟩ : ∃ R, upR t = R := ⟨_, rfl⟩
  obtain ⟨⟨K, e3⟩, hk⟩ : ∃ R, kidsR t = R := ⟨_, rfl⟩
  obtain ⟨⟨M, e4⟩, hm⟩ : ∃ R, coverR b z = R := ⟨_, rfl⟩
  obtain ⟨⟨Q, e5⟩, hq⟩ : ∃ R, pixR t p = R := ⟨_, rfl⟩
  obtain ⟨⟨X, e6⟩, ht⟩ : ∃ R, textR t = R := ⟨_, rfl⟩
  obtain ⟨⟨Y, e7⟩, hy⟩ : ∃ R, parseR l = R := ⟨_, rfl⟩
  have hkl := Lib.hid (kids_few t hk)
  have hml := Lib.hid (cover_few b z hm)
  have CO := Lib.hid (of_to p z ho)
  have CP := Lib.hid (refOf_to p z ho).g
  have CX := Lib.hid (box_to t hx)
  have CY := Lib.hid (refBox_to t hx).g
  have CU := Lib.hid (up_to t hu)
  have CV := Lib.hid (refUp_to t hu).g
  have CK := Lib.hid (kids_to t hk)
  have CL := Lib.hid (refKids_to t hk)
  have CM := Lib.hid (cover_to b z hm)
  have CN := Lib.hid (refCover_to b z hm)
  have CQ := Lib.hid (pixel_to t p hq)
  have CR := Lib.hid (refPixel_to t p hq).g
  have CT := Lib.hid (text_to t ht)
  have CS := Lib.hid (refText_to t ht).g
  have CA := Lib.hid (PT _ _ hy hl)
  have CB := Lib.hid (PR _ _ hy hl).g
  clear PT PR ho hx hu hk hm hq ht hy hl
  obtain ⟨RP0, RP1, _, _⟩ := facts2 RP.out
  have RPi := RP.out.inside
  go_wp2_with fail
  refine (CO.out _ (HG.out.below B1.out)).mono ?_
  rintro e w2 ⟨rfl, b2⟩
  have B2 := Lib.hid (B1.out.trans (b2.mono B1.out.size))
  clear RP0 RP1 RPi
  replace RP := Lib.hid (RP.out.below b2 RP.out.inside)
  replace RT := Lib.hid (RT.out.below b2 RT.out.inside)
  replace RB := Lib.hid (RB.out.below b2 RB.out.inside)
  clear b2 B1
  obtain ⟨RP0, RP1, _, _⟩ := facts2 RP.out
  have RPi := RP.out.inside
  go_wp2_with fail
  obtain ⟨v2, hv, V, L, R⟩ := made w 25 #[.int .i64 A.z, .int .i64 A.x, .int .i64 A.y] B2.out B2.out.size
  rw [hv]
  clear RP0 RP1 RPi
  replace RP := Lib.hid (RP.out.below L.out RP.out.inside)
  replace RT := Lib.hid (RT.out.below L.out RT.out.inside)
  replace RB := Lib.hid (RB.out.below L.out RB.out.inside)
  obtain ⟨gRA, hg⟩ : ∃ g, w2.heap.size = g := ⟨_, rfl⟩
  rw [hg] at R  ⊢
  have NRA := Lib.hid (show w.heap.size ≤ gRA from hg ▸ B2.out.size)
  have RA := R
  clear hv L hg B2 R
  have B2 := V
  clear V
  refine (CP.out _ (HG.out.below B2.out)).mono ?_
  rintro e w3 ⟨rfl, b3⟩
  have B3 := Lib.hid (B2.out.trans (b3.mono B2.out.size))
  replace RP := Lib.hid (RP.out.below b3 RP.out.inside)
  replace RT := Lib.hid (RT.out.below b3 RT.out.inside)
  replace RB := Lib.hid (RB.out.below b3 RB.out.inside)
  replace RA := Lib.hid (RA.out.below b3 RA.out.inside)
  clear b3 B2
  obtain ⟨RT0, RT1, RT2, _, _, _⟩ := facts3 RT.out
  have RTi := RT.out.inside
  go_wp2_with fail
  obtain ⟨v3, hv, V, L, R⟩ := made w 25 #[.int .i64 A.z, .int .i64 A.x, .int .i64 A.y] B3.out B3.out.size
  rw [hv]
  clear RT0 RT1 RT2 RTi
  have LRCRA := RA.out.inside
  replace RP := Lib.hid (RP.out.below L.out RP.out.inside)
  replace RT := Lib.hid (RT.out.below L.out RT.out.inside)
  replace RB := Lib.hid (RB.out.below L.out RB.out.inside)
  replace RA := Lib.hid (RA.out.below L.out RA.out.inside)
  obtain ⟨gRC, hg⟩ : ∃ g, w3.heap.size = g := ⟨_, rfl⟩
  rw [hg] at R LRCRA ⊢
  replace LRCRA := Lib.hid LRCRA
  have NRC := Lib.hid (show w.heap.size ≤ gRC from hg ▸ B3.out.size)
  have RC := R
  clear hv L hg B3 R
  have B3 := V
  clear V
  refine (CX.out _ (HG.out.below B3.out)).mono ?_
  rintro e w4 ⟨rfl, b4⟩
  have B4 := Lib.hid (B3.out.trans (b4.mono B3.out.size))
  replace RP := Lib.hid (RP.out.below b4 RP.out.inside)
  replace RT := Lib.hid (RT.out.below b4 RT.out.inside)
  replace RB := Lib.hid (RB.out.below b4 RB.out.inside)
  replace RA := Lib.hid (RA.out.below b4 RA.out.inside)
  replace RC := Lib.hid (RC.out.below b4 RC.out.inside)
  clear b4 B3
  obtain ⟨RT0, RT1, RT2, _, _, _⟩ := facts3 RT.out
  have RTi := RT.out.inside
  go_wp2_with fail
  obtain ⟨v4, hv, V, L, R⟩ := made w 27 #[.int .i64 C.a.x, .int .i64 C.a.y, .int .i64 C.b.x, .int .i64 C.b.y] B4.out B4.out.size
  rw [hv]
  clear RT0 RT1 RT2 RTi
  have LRXRA := RA.out.inside
  have LRXRC := RC.out.inside
  replace RP := Lib.hid (RP.out.below L.out RP.out.inside)
  replace RT := Lib.hid (RT.out.below L.out RT.out.inside)
  replace RB := Lib.hid (RB.out.below L.out RB.out.inside)
  replace RA := Lib.hid (RA.out.below L.out RA.out.inside)
  replace RC := Lib.hid (RC.out.below L.out RC.out.inside)
  obtain ⟨gRX, hg⟩ : ∃ g, w4.heap.size = g := ⟨_, rfl⟩
  rw [hg] at R LRXRA LRXRC ⊢
  replace LRXRA := Lib.hid LRXRA
  replace LRXRC := Lib.hid LRXRC
  have NRX := Lib.hid (show w.heap.size ≤ gRX from hg ▸ B4.out.size)
  have RX := R
  clear hv L hg B4 R
  have B4 := V
  clear V
  refine (CY.out _ (HG.out.below B4.out)).mono ?_
  rintro e w5 ⟨rfl, b5⟩
  have B5 := Lib.hid (B4.out.trans (b5.mono B4.out.size))
  replace RP := Lib.hid (RP.out.below b5 RP.out.inside)
  replace RT := Lib.hid (RT.out.below b5 RT.out.inside)
  replace RB := Lib.hid (RB.out.below b5 RB.out.inside)
  replace RA := Lib.hid (RA.out.below b5 RA.out.inside)
  replace RC := Lib.hid (RC.out.below b5 RC.out.inside)
  replace RX := Lib.hid (RX.out.below b5 RX.out.inside)
  clear b5 B4
  obtain ⟨RT0, RT1, RT2, _, _, _⟩ := facts3 RT.out
  have RTi := RT.out.inside
  go_wp2_with fail
  obtain ⟨v5, hv, V, L, R⟩ := made w 27 #[.int .i64 C.a.x, .int .i64 C.a.y, .int .i64 C.b.x, .int .i64 C.b.y] B5.out B5.out.size
  rw [hv]
  clear RT0 RT1 RT2 RTi
  have LRYRA := RA.out.inside
  have LRYRC := RC.out.inside
  replace RP := Lib.hid (RP.out.below L.out RP.out.inside)
  replace RT := Lib.hid (RT.out.below L.out RT.out.inside)
  replace RB := Lib.hid (RB.out.below L.out RB.out.inside)
  replace RA := Lib.hid (RA.out.below L.out RA.out.inside)
  replace RC := Lib.hid (RC.out.below L.out RC.out.inside)
  replace RX := Lib.hid (RX.out.below L.out RX.out.inside)
  obtain ⟨gRY, hg⟩ : ∃ g, w5.heap.size = g := ⟨_, rfl⟩
  rw [hg] at R LRYRA LRYRC ⊢
  replace LRYRA := Lib.hid LRYRA
  replace LRYRC := Lib.hid LRYRC
  have NRY := Lib.hid (show w.heap.size ≤ gRY from hg ▸ B5.out.size)
  have RY := R
  clear hv L hg B5 R
  have B5 := V
  clear V
  refine (CU.out _ (HG.out.below B5.out)).mono ?_
  rintro e w6 ⟨rfl, b6⟩
  have B6 := Lib.hid (B5.out.trans (b6.mono B5.out.size))
  replace RP := Lib.hid (RP.out.below b6 RP.out.inside)
  replace RT := Lib.hid (RT.out.below b6 RT.out.inside)
  replace RB := Lib.hid (RB.out.below b6 RB.out.inside)
  replace RA := Lib.hid (RA.out.below b6 RA.out.inside)
  replace RC := Lib.hid (RC.out.below b6 RC.out.inside)
  replace RX := Lib.hid (RX.out.below b6 RX.out.inside)
  replace RY := Lib.hid (RY.out.below b6 RY.out.inside)
  clear b6 B5
  obtain ⟨RT0, RT1, RT2, _, _, _⟩ := facts3 RT.out
  have RTi := RT.out.inside
  go_wp2_with fail
  obtain ⟨v6, hv, V, L, R⟩ := made w 25 #[.int .i64 U.z, .int .i64 U.x, .int .i64 U.y] B6.out B6.out.size
  rw [hv]
  clear RT0 RT1 RT2 RTi
  have LRURA := RA.out.inside
  have LRURC := RC.out.inside
  replace RP := Lib.hid (RP.out.below L.out RP.out.inside)
  replace RT := Lib.hid (RT.out.below L.out RT.out.inside)
  replace RB := Lib.hid (RB.out.below L.out RB.out.inside)
  replace RA := Lib.hid (RA.out.below L.out RA.out.inside)
  replace RC := Lib.hid (RC.out.below L.out RC.out.inside)
  replace RX := Lib.hid (RX.out.below L.out RX.out.inside)
  replace RY := Lib.hid (RY.out.below L.out RY.out.inside)
  obtain ⟨gRU, hg⟩ : ∃ g, w6.heap.size = g := ⟨_, rfl⟩
  rw [hg] at R LRURA LRURC ⊢
  replace LRURA := Lib.hid LRURA
  replace LRURC := Lib.hid LRURC
  have NRU := Lib.hid (show w.heap.size ≤ gRU from hg ▸ B6.out.size)
  have RU := R
  clear hv L hg B6 R
  have B6 := V
  clear V
  refine (CV.out _ (HG.out.below B6.out)).mono ?_
  rintro e w7 ⟨rfl, b7⟩
  have B7 := Lib.hid (B6.out.trans (b7.mono B6.out.size))
  replace RP := Lib.hid (RP.out.below b7 RP.out.inside)
  replace RT := Lib.hid (RT.out.below b7 RT.out.inside)
  replace RB := Lib.hid (RB.out.below b7 RB.out.inside)
  replace RA := Lib.hid (RA.out.below b7 RA.out.inside)
  replace RC := Lib.hid (RC.out.below b7 RC.out.inside)
  replace RX := Lib.hid (RX.out.below b7 RX.out.inside)
  replace RY := Lib.hid (RY.out.below b7 RY.out.inside)
  replace RU := Lib.hid (RU.out.below b7 RU.out.inside)
  clear b7 B6
  obtain ⟨RT0, RT1, RT2, _, _, _⟩ := facts3 RT.out
  have RTi := RT.out.inside
  go_wp2_with fail
  obtain ⟨v7, hv, V, L, R⟩ := made w 25 #[.int .i64 U.z, .int .i64 U.x, .int .i64 U.y] B7.out B7.out.size
  rw [hv]
  clear RT0 RT1 RT2 RTi
  have LRVRA := RA.out.inside
  have LRVRC := RC.out.inside
  replace RP := Lib.hid (RP.out.below L.out RP.out.inside)
  replace RT := Lib.hid (RT.out.below L.out RT.out.inside)
  replace RB := Lib.hid (RB.out.below L.out RB.out.inside)
  replace RA := Lib.hid (RA.out.below L.out RA.out.inside)
  replace RC := Lib.hid (RC.out.below L.out RC.out.inside)
  replace RX := Lib.hid (RX.out.below L.out RX.out.inside)
  replace RY := Lib.hid (RY.out.below L.out RY.out.inside)
  replace RU := Lib.hid (RU.out.below L.out RU.out.inside)
  obtain ⟨gRV, hg⟩ : ∃ g, w7.heap.size = g := ⟨_, rfl⟩
  rw [hg] at R LRVRA LRVRC ⊢
  replace LRVRA := Lib.hid LRVRA
  replace LRVRC := Lib.hid LRVRC
  have NRV := Lib.hid (show w.heap.size ≤ gRV from hg ▸ B7.out.size)
  have RV := R
  clear hv L hg B7 R
  have B7 := V
  clear V
  refine (CK.out _ (HG.out.below B7.out)).mono ?_
  rintro e w8 ⟨⟨v1, rfl, hv1⟩, b8⟩
  replace hv1 := Lib.hid hv1
  have B8 := Lib.hid (B7.out.trans (b8.mono B7.out.size))
  replace RP := Lib.hid (RP.out.below b8 RP.out.inside)
  replace RT := Lib.hid (RT.out.below b8 RT.out.inside)
  replace RB := Lib.hid (RB.out.below b8 RB.out.inside)
  replace RA := Lib.hid (RA.out.below b8 RA.out.inside)
  replace RC := Lib.hid (RC.out.below b8 RC.out.inside)
  replace RX := Lib.hid (RX.out.below b8 RX.out.inside)
  replace RY := Lib.hid (RY.out.below b8 RY.out.inside)
  replace RU := Lib.hid (RU.out.below b8 RU.out.inside)
  replace RV := Lib.hid (RV.out.below b8 RV.out.inside)
  clear b8 B7
  obtain ⟨RT0, RT1, RT2, _, _, _⟩ := facts3 RT.out
  have RTi := RT.out.inside
  go_wp2_with fail
  refine (CL.out _).mono ?_
  rintro e w9 ⟨⟨v2, rfl, hv2⟩, b9⟩
  replace hv2 := Lib.hid hv2
  replace hv1 := Lib.hid (hv1.out.below b9)
  have B9 := Lib.hid (B8.out.trans (b9.mono B8.out.size))
  clear RT0 RT1 RT2 RTi
  replace RP := Lib.hid (RP.out.below b9 RP.out.inside)
  replace RT := Lib.hid (RT.out.below b9 RT.out.inside)
  replace RB := Lib.hid (RB.out.below b9 RB.out.inside)
  replace RA := Lib.hid (RA.out.below b9 RA.out.inside)
  replace RC := Lib.hid (RC.out.below b9 RC.out.inside)
  replace RX := Lib.hid (RX.out.below b9 RX.out.inside)
  replace RY := Lib.hid (RY.out.below b9 RY.out.inside)
  replace RU := Lib.hid (RU.out.below b9 RU.out.inside)
  replace RV := Lib.hid (RV.out.below b9 RV.out.inside)
  clear b9 B8
  obtain ⟨RA0, RA1, RA2, _, _, _⟩ := facts3 RA.out
  have RAi := RA.out.inside
  obtain ⟨RC0, RC1, RC2, _, _, _⟩ := facts3 RC.out
  have RCi := RC.out.inside
  obtain ⟨RX0, RX1, RX2, RX3, _, _, _, _⟩ := facts4 RX.out
  have RXi := RX.out.inside
  obtain ⟨RY0, RY1, RY2, RY3, _, _, _, _⟩ := facts4 RY.out
  have RYi := RY.out.inside
  obtain ⟨RU0, RU1, RU2, _, _, _⟩ := facts3 RU.out
  have RUi := RU.out.inside
  obtain ⟨RV0, RV1, RV2, _, _, _⟩ := facts3 RV.out
  have RVi := RV.out.inside
  go_wp2_with fail
  refine (same_any _ _ K _ _ _ hv1.out hv2.out hkl.out).mono ?_
  rintro e w10 ⟨rfl, b10⟩
  have B10 := Lib.hid (B9.out.trans (b10.mono B9.out.size))
  clear RA0 RA1 RA2 RAi RC0 RC1 RC2 RCi RX0 RX1 RX2 RX3 RXi RY0 RY1 RY2 RY3 RYi RU0 RU1 RU2 RUi RV0 RV1 RV2 RVi
  replace RP := Lib.hid (RP.out.below b10 RP.out.inside)
  replace RT := Lib.hid (RT.out.below b10 RT.out.inside)
  replace RB := Lib.hid (RB.out.below b10 RB.out.inside)
  replace RA := Lib.hid (RA.out.below b10 RA.out.inside)
  replace RC := Lib.hid (RC.out.below b10 RC.out.inside)
  replace RX := Lib.hid (RX.out.below b10 RX.out.inside)
  replace RY := Lib.hid (RY.out.below b10 RY.out.inside)
  replace RU := Lib.hid (RU.out.below b10 RU.out.inside)
  replace RV := Lib.hid (RV.out.below b10 RV.out.inside)
  clear b10 B9 hv1 hv2
  clear RX RY RU RV NRX NRY NRU NRV
  obtain ⟨RB0, RB1, RB2, RB3, _, _, _, _⟩ := facts4 RB.out
  have RBi := RB.out.inside
  go_wp2_with fail
  have Lhv3RA := Lib.hid RA.out.inside
  have Lhv3RC := Lib.hid RC.out.inside
  refine (CM.out _ (HG.out.below B10.out)).mono ?_
  rintro e w11 ⟨⟨v3, rfl, hv3⟩, b11⟩
  replace hv3 := Lib.hid hv3
  have B11 := Lib.hid (B10.out.trans (b11.mono B10.out.size))
  clear RB0 RB1 RB2 RB3 RBi
  replace RP := Lib.hid (RP.out.below b11 RP.out.inside)
  replace RT := Lib.hid (RT.out.below b11 RT.out.inside)
  replace RB := Lib.hid (RB.out.below b11 RB.out.inside)
  replace RA := Lib.hid (RA.out.below b11 RA.out.inside)
  replace RC := Lib.hid (RC.out.below b11 RC.out.inside)
  clear b11 B10
  obtain ⟨RB0, RB1, RB2, RB3, _, _, _, _⟩ := facts4 RB.out
  have RBi := RB.out.inside
  go_wp2_with fail
  have Lhv4RA := Lib.hid RA.out.inside
  have Lhv4RC := Lib.hid RC.out.inside
  refine (CN.out _).mono ?_
  rintro e w12 ⟨⟨v4, rfl, hv4⟩, b12⟩
  replace hv4 := Lib.hid hv4
  replace hv3 := Lib.hid (hv3.out.below b12)
  have B12 := Lib.hid (B11.out.trans (b12.mono B11.out.size))
  clear RB0 RB1 RB2 RB3 RBi
  replace RP := Lib.hid (RP.out.below b12 RP.out.inside)
  replace RT := Lib.hid (RT.out.below b12 RT.out.inside)
  replace RB := Lib.hid (RB.out.below b12 RB.out.inside)
  replace RA := Lib.hid (RA.out.below b12 RA.out.inside)
  replace RC := Lib.hid (RC.out.below b12 RC.out.inside)
  clear b12 B11
  obtain ⟨RT0, RT1, RT2, _, _, _⟩ := facts3 RT.out
  have RTi := RT.out.inside
  obtain ⟨RP0, RP1, _, _⟩ := facts2 RP.out
  have RPi := RP.out.inside
  go_wp2_with fail
  refine (CQ.out _ (HG.out.below B12.out)).mono ?_
  rintro e w13 ⟨rfl, b13⟩
  replace hv3 := Lib.hid (hv3.out.below b13)
  replace hv4 := Lib.hid (hv4.out.below b13)
  have B13 := Lib.hid (B12.out.trans (b13.mono B12.out.size))
  clear RT0 RT1 RT2 RTi RP0 RP1 RPi
  replace RP := Lib.hid (RP.out.below b13 RP.out.inside)
  replace RT := Lib.hid (RT.out.below b13 RT.out.inside)
  replace RB := Lib.hid (RB.out.below b13 RB.out.inside)
  replace RA := Lib.hid (RA.out.below b13 RA.out.inside)
  replace RC := Lib.hid (RC.out.below b13 RC.out.inside)
  clear b13 B12
  obtain ⟨RT0, RT1, RT2, _, _, _⟩ := facts3 RT.out
  have RTi := RT.out.inside
  obtain ⟨RP0, RP1, _, _⟩ := facts2 RP.out
  have RPi := RP.out.inside
  go_wp2_with fail
  obtain ⟨v13, hv, V, L, R⟩ := made w 23 #[.int .i64 Q.x, .int .i64 Q.y] B13.out B13.out.size
  rw [hv]
  clear RT0 RT1 RT2 RTi RP0 RP1 RPi
  have LRQRA := RA.out.inside
  have LRQRC := RC.out.inside
  replace RP := Lib.hid (RP.out.below L.out RP.out.inside)
  replace RT := Lib.hid (RT.out.below L.out RT.out.inside)
  replace RB := Lib.hid (RB.out.below L.out RB.out.inside)
  replace RA := Lib.hid (RA.out.below L.out RA.out.inside)
  replace RC := Lib.hid (RC.out.below L.out RC.out.inside)
  replace hv3 := Lib.hid (hv3.out.below L.out)
  replace hv4 := Lib.hid (hv4.out.below L.out)
  obtain ⟨gRQ, hg⟩ : ∃ g, w13.heap.size = g := ⟨_, rfl⟩
  rw [hg] at R LRQRA LRQRC ⊢
  replace LRQRA := Lib.hid LRQRA
  replace LRQRC := Lib.hid LRQRC
  have NRQ := Lib.hid (show w.heap.size ≤ gRQ from hg ▸ B13.out.size)
  have RQ := R
  clear hv L hg B13 R
  have B13 := V
  clear V
  refine (CR.out _ (HG.out.below B13.out)).mono ?_
  rintro e w14 ⟨rfl, b14⟩
  replace hv3 := Lib.hid (hv3.out.below b14)
  replace hv4 := Lib.hid (hv4.out.below b14)
  have B14 := Lib.hid (B13.out.trans (b14.mono B13.out.size))
  replace RP := Lib.hid (RP.out.below b14 RP.out.inside)
  replace RT := Lib.hid (RT.out.below b14 RT.out.inside)
  replace RB := Lib.hid (RB.out.below b14 RB.out.inside)
  replace RA := Lib.hid (RA.out.below b14 RA.out.inside)
  replace RC := Lib.hid (RC.out.below b14 RC.out.inside)
  replace RQ := Lib.hid (RQ.out.below b14 RQ.out.inside)
  clear b14 B13
  obtain ⟨RT0, RT1, RT2, _, _, _⟩ := facts3 RT.out
  have RTi := RT.out.inside
  go_wp2_with fail
  obtain ⟨v14, hv, V, L, R⟩ := made w 23 #[.int .i64 Q.x, .int .i64 Q.y] B14.out B14.out.size
  rw [hv]
  clear RT0 RT1 RT2 RTi
  have LRRRA := RA.out.inside
  have LRRRC := RC.out.inside
  replace RP := Lib.hid (RP.out.below L.out RP.out.inside)
  replace RT := Lib.hid (RT.out.below L.out RT.out.inside)
  replace RB := Lib.hid (RB.out.below L.out RB.out.inside)
  replace RA := Lib.hid (RA.out.below L.out RA.out.inside)
  replace RC := Lib.hid (RC.out.below L.out RC.out.inside)
  replace RQ := Lib.hid (RQ.out.below L.out RQ.out.inside)
  replace hv3 := Lib.hid (hv3.out.below L.out)
  replace hv4 := Lib.hid (hv4.out.below L.out)
  obtain ⟨gRR, hg⟩ : ∃ g, w14.heap.size = g := ⟨_, rfl⟩
  rw [hg] at R LRRRA LRRRC ⊢
  replace LRRRA := Lib.hid LRRRA
  replace LRRRC := Lib.hid LRRRC
  have NRR := Lib.hid (show w.heap.size ≤ gRR from hg ▸ B14.out.size)
  have RR := R
  clear hv L hg B14 R
  have B14 := V
  clear V
  refine (CT.out _ (HG.out.below B14.out)).mono ?_
  rintro e w15 ⟨rfl, b15⟩
  replace hv3 := Lib.hid (hv3.out.below b15)
  replace hv4 := Lib.hid (hv4.out.below b15)
  have B15 := Lib.hid (B14.out.trans (b15.mono B14.out.size))
  replace RP := Lib.hid (RP.out.below b15 RP.out.inside)
  replace RT := Lib.hid (RT.out.below b15 RT.out.inside)
  replace RB := Lib.hid (RB.out.below b15 RB.out.inside)
  replace RA := Lib.hid (RA.out.below b15 RA.out.inside)
  replace RC := Lib.hid (RC.out.below b15 RC.out.inside)
  replace RQ := Lib.hid (RQ.out.below b15 RQ.out.inside)
  replace RR := Lib.hid (RR.out.below b15 RR.out.inside)
  clear b15 B14
  obtain ⟨RT0, RT1, RT2, _, _, _⟩ := facts3 RT.out
  have RTi := RT.out.inside
  go_wp2_with fail
  refine (CS.out _ (HG.out.below B15.out)).mono ?_
  rintro e w16 ⟨rfl, b16⟩
  replace hv3 := Lib.hid (hv3.out.below b16)
  replace hv4 := Lib.hid (hv4.out.below b16)
  have B16 := Lib.hid (B15.out.trans (b16.mono B15.out.size))
  clear RT0 RT1 RT2 RTi
  replace RP := Lib.hid (RP.out.below b16 RP.out.inside)
  replace RT := Lib.hid (RT.out.below b16 RT.out.inside)
  replace RB := Lib.hid (RB.out.below b16 RB.out.inside)
  replace RA := Lib.hid (RA.out.below b16 RA.out.inside)
  replace RC := Lib.hid (RC.out.below b16 RC.out.inside)
  replace RQ := Lib.hid (RQ.out.below b16 RQ.out.inside)
  replace RR := Lib.hid (RR.out.below b16 RR.out.inside)
  clear b16 B15
  clear RP RT RB
  go_wp2_with fail
  refine (CA.out _ (HG.out.below B16.out)).mono ?_
  rintro e w17 ⟨rfl, b17⟩
  replace hv3 := Lib.hid (hv3.out.below b17)
  replace hv4 := Lib.hid (hv4.out.below b17)
  have B17 := Lib.hid (B16.out.trans (b17.mono B16.out.size))
  replace RA := Lib.hid (RA.out.below b17 RA.out.inside)
  replace RC := Lib.hid (RC.out.below b17 RC.out.inside)
  replace RQ := Lib.hid (RQ.out.below b17 RQ.out.inside)
  replace RR := Lib.hid (RR.out.below b17 RR.out.inside)
  clear b17 B16
  obtain ⟨RA0, RA1, RA2, _, _, _⟩ := facts3 RA.out
  have RAi := RA.out.inside
  go_wp2_with fail
  obtain ⟨w18, hw⟩ : ∃ v, ((w17.setCell ⟨gRA, 0, none⟩ (.int .i64 Y.z)).setCell ⟨gRA, 1, none⟩ (.int .i64 Y.x)).setCell ⟨gRA, 2, none⟩ (.int .i64 Y.y) = v := ⟨_, rfl⟩
  rw [hw]
  have B18 := Lib.hid (show Below w.heap.size w w18 from hw ▸ below3 B17.out NRA.out (.int .i64 Y.z) (.int .i64 Y.x) (.int .i64 Y.y))
  have PG := grown3 w17 gRA (.int .i64 Y.z) (.int .i64 Y.x) (.int .i64 Y.y)
  rw [hw] at PG
  clear RA0 RA1 RA2 RAi
  replace RC := Lib.hid (row_grown PG RC.out (by have := LRCRA.out; omega))
  replace RQ := Lib.hid (row_grown PG RQ.out (by have := LRQRA.out; omega))
  replace RR := Lib.hid (row_grown PG RR.out (by have := LRRRA.out; omega))
  replace RA := Lib.hid (show IsRow w18 gRA 25 #[.int .i64 Y.z, .int .i64 Y.x, .int .i64 Y.y] from hw ▸ set3 RA.out (.int .i64 Y.z) (.int .i64 Y.x) (.int .i64 Y.y))
  replace hv3 := Lib.hid (own_put hv3.out PG Lhv3RA.out)
  replace hv4 := Lib.hid (own_put hv4.out PG Lhv4RA.out)
  clear hw PG B17
  refine (CB.out _ (HG.out.below B18.out)).mono ?_
  rintro e w19 ⟨rfl, b19⟩
  replace hv3 := Lib.hid (hv3.out.below b19)
  replace hv4 := Lib.hid (hv4.out.below b19)
  have B19 := Lib.hid (B18.out.trans (b19.mono B18.out.size))
  replace RA := Lib.hid (RA.out.below b19 RA.out.inside)
  replace RC := Lib.hid (RC.out.below b19 RC.out.inside)
  replace RQ := Lib.hid (RQ.out.below b19 RQ.out.inside)
  replace RR := Lib.hid (RR.out.below b19 RR.out.inside)
  clear b19 B18
  obtain ⟨RC0, RC1, RC2, _, _, _⟩ := facts3 RC.out
  have RCi := RC.out.inside
  go_wp2_with fail
  obtain ⟨w20, hw⟩ : ∃ v, ((w19.setCell ⟨gRC, 0, none⟩ (.int .i64 Y.z)).setCell ⟨gRC, 1, none⟩ (.int .i64 Y.x)).setCell ⟨gRC, 2, none⟩ (.int .i64 Y.y) = v := ⟨_, rfl⟩
  rw [hw]
  have B20 := Lib.hid (show Below w.heap.size w w20 from hw ▸ below3 B19.out NRC.out (.int .i64 Y.z) (.int .i64 Y.x) (.int .i64 Y.y))
  have PG := grown3 w19 gRC (.int .i64 Y.z) (.int .i64 Y.x) (.int .i64 Y.y)
  rw [hw] at PG
  clear RC0 RC1 RC2 RCi
  replace RA := Lib.hid (row_grown PG RA.out (by have := LRCRA.out; omega))
  replace RQ := Lib.hid (row_grown PG RQ.out (by have := LRQRC.out; omega))
  replace RR := Lib.hid (row_grown PG RR.out (by have := LRRRC.out; omega))
  replace RC := Lib.hid (show IsRow w20 gRC 25 #[.int .i64 Y.z, .int .i64 Y.x, .int .i64 Y.y] from hw ▸ set3 RC.out (.int .i64 Y.z) (.int .i64 Y.x) (.int .i64 Y.y))
  replace hv3 := Lib.hid (own_put hv3.out PG Lhv3RC.out)
  replace hv4 := Lib.hid (own_put hv4.out PG Lhv4RC.out)
  clear hw PG B19
  refine (same_any _ _ M _ _ _ hv3.out hv4.out hml.out).mono ?_
  rintro e w21 ⟨rfl, b21⟩
  have B21 := Lib.hid (B20.out.trans (b21.mono B20.out.size))
  replace RA := Lib.hid (RA.out.below b21 RA.out.inside)
  replace RC := Lib.hid (RC.out.below b21 RC.out.inside)
  replace RQ := Lib.hid (RQ.out.below b21 RQ.out.inside)
  replace RR := Lib.hid (RR.out.below b21 RR.out.inside)
  clear b21 B20 hv3 hv4
  obtain ⟨RA0, RA1, RA2, _, _, _⟩ := facts3 RA.out
  have RAi := RA.out.inside
  obtain ⟨RC0, RC1, RC2, _, _, _⟩ := facts3 RC.out
  have RCi := RC.out.inside
  obtain ⟨RQ0, RQ1, _, _⟩ := facts2 RQ.out
  have RQi := RQ.out.inside
  obtain ⟨RR0, RR1, _, _⟩ := facts2 RR.out
  have RRi := RR.out.inside
  go_wp2
  go_ret
  exact ⟨rfl, B21.out⟩
end Go.Proofs.YtenacgeahaoglaaDoor.Gd
