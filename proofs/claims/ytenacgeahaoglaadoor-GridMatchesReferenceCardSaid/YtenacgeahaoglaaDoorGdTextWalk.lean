/- P7.6: GridTexts walks. -/
import Derived.Test.YtenacgeahaoglaaDoorGdOfWalk
namespace Go.Proofs.YtenacgeahaoglaaDoor.Gd
open Go.RowKit Go.Sort
theorem text_to (t : Tl) {l : List UInt8} {e : Int} (h : textR t = (l, e)) : AnsG Tryd.prog 23 #[.agg #[.int .i64 t.z, .int .i64 t.x, .int .i64 t.y]] (.tuple #[.string ⟨l.toArray⟩, .int .i64 e]) := by
  have k := text_any t
  rw [h] at k
  exact k
theorem parse_to (l : List UInt8) (hl : l.length ≤ 1000) {q : Tl} {e : Int} (h : parseR l = (q, e)) : AnsG Tryd.prog 25 #[.string ⟨l.toArray⟩] (.tuple #[.agg #[.int .i64 q.z, .int .i64 q.x, .int .i64 q.y], .int .i64 e]) := by
  have k := parse_any l hl
  rw [h] at k
  exact k
set_option maxRecDepth 100000 in
set_option maxHeartbeats 4000000 in
theorem gridTexts_any (t : Tl) (l : List UInt8) (w : World) (hG : Gw w) :
    Calls Tryd.prog 8 #[.agg #[.int .i64 t.z, .int .i64 t.x, .int .i64 t.y], .string ⟨l.toArray⟩] w fun e w' => e = .returned (.bool true) ∧ Below w.heap.size w w' := by
  have HG := Lib.hid hG
  obtain ⟨W, hW⟩ : ∃ W, w.alloc (.cells #[.int .i64 t.z, .int .i64 t.x, .int .i64 t.y] 25) = W := ⟨_, rfl⟩
  obtain ⟨B0, RT⟩ := rowB w _ _ hW
  have HW := Lib.hid hW
  have hsz := str_size l
  have PT := fun (q : Tl) (e : Int) (h : parseR l = (q, e)) (hl : l.length ≤ 100) => parse_to l (by omega) h
  have TT := fun (q : Tl) (h : textR q = (l, 0)) => text_to q h
  obtain ⟨s, hs⟩ : ∃ s, ByteArray.mk l.toArray = s := ⟨_, rfl⟩
  rw [hs] at hsz PT TT ⊢
  clear hG hW hs
  go_enter Tryd.func8, Tryd.ntmps8
  go_wp2_with fail
  rw [HW.out]
  clear HW
  refine (head_any _ (HG.out.below B0.out)).mono ?_
  rintro e w1 ⟨rfl, b1⟩
  have B1 := Lib.hid (B0.out.trans (b1.mono B0.out.size))
  replace RT := Lib.hid (RT.out.below b1 RT.out.inside)
  clear b1 B0
  by_cases hl : l.length ≤ 100
  case neg =>
    have h1 : ¬ s.size ≤ 100 := by omega
    have h2 : 100 < s.size := by omega
    clear hsz hl
    go_wp2
    go_ret
    exact ⟨rfl, B1.out⟩
  case pos =>
    have h1 : s.size ≤ 100 := by omega
    have h2 : ¬ 100 < s.size := by omega
    clear hsz
    obtain ⟨⟨l1, e0⟩, ht⟩ : ∃ R, textR t = R := ⟨_, rfl⟩
    obtain ⟨RT0, RT1, RT2, _, _, _⟩ := facts3 RT.out
    have RTi := RT.out.inside
    go_wp2_with fail
    refine (text_to t ht _ (HG.out.below B1.out)).mono ?_
    rintro e w2 ⟨rfl, b2⟩
    have B2 := Lib.hid (B1.out.trans (b2.mono B1.out.size))
    clear RT0 RT1 RT2 RTi
    replace RT := Lib.hid (RT.out.below b2 RT.out.inside)
    clear b2 B1
    by_cases hok : okT t
    case neg =>
      obtain ⟨rfl, rfl⟩ : l1 = [] ∧ e0 = 1 := by
        unfold textR at ht; rw [if_neg hok] at ht; injection ht with h1 h2; exact ⟨h1.symm, h2.symm⟩
      have hb : boxR t = (zB, 1) := by unfold boxR; rw [if_neg hok]
      clear ht hok
      obtain ⟨RT0, RT1, RT2, _, _, _⟩ := facts3 RT.out
      have RTi := RT.out.inside
      go_wp2_with fail
      refine (box_to t hb _ (HG.out.below B2.out)).mono ?_
      rintro e w3 ⟨rfl, b3⟩
      have B3 := Lib.hid (B2.out.trans (b3.mono B2.out.size))
      clear RT0 RT1 RT2 RTi
      replace RT := Lib.hid (RT.out.below b3 RT.out.inside)
      clear b3 B2
      go_wp2_with fail
      obtain ⟨v3, hv, V, L, R⟩ := made w 27 #[.int .i64 zB.a.x, .int .i64 zB.a.y, .int .i64 zB.b.x, .int .i64 zB.b.y] B3.out B3.out.size
      rw [hv]
      replace RT := Lib.hid (RT.out.below L.out RT.out.inside)
      obtain ⟨gRD, hg⟩ : ∃ g, w3.heap.size = g := ⟨_, rfl⟩
      rw [hg] at R ⊢
      have RD := R
      clear hv L hg B3 R
      have B3 := V
      clear V
      by_cases hp : okT (cp l) ∧ txtN (cp l) = l
      case neg =>
        have hq : parseR l = (zT, 5) := by unfold parseR; rw [if_neg hp]
        clear hp
        refine (PT _ _ hq hl _ (HG.out.below B3.out)).mono ?_
        rintro e w4 ⟨rfl, b4⟩
        have B4 := Lib.hid (B3.out.trans (b4.mono B3.out.size))
        replace RT := Lib.hid (RT.out.below b4 RT.out.inside)
        replace RD := Lib.hid (RD.out.below b4 RD.out.inside)
        clear b4 B3
        unfold zT
        dsimp only
        go_wp2
        go_ret
        exact ⟨rfl, B4.out.alloc B4.out.size _⟩
      case pos =>
        have hq : parseR l = (cp l, 0) := by unfold parseR; rw [if_pos hp]
        have hx : textR (cp l) = (l, 0) := by unfold textR; rw [if_pos hp.1, hp.2]
        have TX := TT _ hx
        clear hp hx
        generalize cp l = X at *
        refine (PT _ _ hq hl _ (HG.out.below B3.out)).mono ?_
        rintro e w4 ⟨rfl, b4⟩
        have B4 := Lib.hid (B3.out.trans (b4.mono B3.out.size))
        replace RT := Lib.hid (RT.out.below b4 RT.out.inside)
        replace RD := Lib.hid (RD.out.below b4 RD.out.inside)
        clear b4 B3
        go_wp2_with fail
        obtain ⟨v4, hv, V, L, R⟩ := made w 25 #[.int .i64 X.z, .int .i64 X.x, .int .i64 X.y] B4.out B4.out.size
        rw [hv]
        replace RT := Lib.hid (RT.out.below L.out RT.out.inside)
        replace RD := Lib.hid (RD.out.below L.out RD.out.inside)
        obtain ⟨gRX, hg⟩ : ∃ g, w4.heap.size = g := ⟨_, rfl⟩
        rw [hg] at R ⊢
        have RX := R
        clear hv L hg B4 R
        have B4 := V
        clear V
        refine (TX _ (HG.out.below B4.out)).mono ?_
        rintro e w5 ⟨rfl, b5⟩
        have B5 := Lib.hid (B4.out.trans (b5.mono B4.out.size))
        replace RT := Lib.hid (RT.out.below b5 RT.out.inside)
        replace RD := Lib.hid (RD.out.below b5 RD.out.inside)
        replace RX := Lib.hid (RX.out.below b5 RX.out.inside)
        clear b5 B4
        go_wp2
        go_ret
        exact ⟨rfl, B5.out⟩
    case pos =>
      obtain ⟨rfl, rfl⟩ : l1 = txtN t ∧ e0 = 0 := by
        unfold textR at ht; rw [if_pos hok] at ht; injection ht with h1 h2; exact ⟨h1.symm, h2.symm⟩
      have hb : boxR t = (boxN t, 0) := by unfold boxR; rw [if_pos hok]
      have hq := parse_text hok
      have hll := txt_len hok
      clear ht hok
      generalize txtN t = l1 at *
      generalize boxN t = D at *
      go_wp2_with fail
      refine (parse_to l1 (by omega) hq _ (HG.out.below B2.out)).mono ?_
      rintro e w3 ⟨rfl, b3⟩
      have B3 := Lib.hid (B2.out.trans (b3.mono B2.out.size))
      replace RT := Lib.hid (RT.out.below b3 RT.out.inside)
      clear b3 B2
      obtain ⟨RT0, RT1, RT2, _, _, _⟩ := facts3 RT.out
      have RTi := RT.out.inside
      go_wp2_with fail
      obtain ⟨v3, hv, V, L, R⟩ := made w 25 #[.int .i64 t.z, .int .i64 t.x, .int .i64 t.y] B3.out B3.out.size
      rw [hv]
      clear RT0 RT1 RT2 RTi
      replace RT := Lib.hid (RT.out.below L.out RT.out.inside)
      obtain ⟨gR8, hg⟩ : ∃ g, w3.heap.size = g := ⟨_, rfl⟩
      rw [hg] at R ⊢
      have R8 := R
      clear hv L hg B3 R
      have B3 := V
      clear V
      refine (box_to t hb _ (HG.out.below B3.out)).mono ?_
      rintro e w4 ⟨rfl, b4⟩
      have B4 := Lib.hid (B3.out.trans (b4.mono B3.out.size))
      replace RT := Lib.hid (RT.out.below b4 RT.out.inside)
      replace R8 := Lib.hid (R8.out.below b4 R8.out.inside)
      clear b4 B3
      go_wp2_with fail
      obtain ⟨v4, hv, V, L, R⟩ := made w 27 #[.int .i64 D.a.x, .int .i64 D.a.y, .int .i64 D.b.x, .int .i64 D.b.y] B4.out B4.out.size
      rw [hv]
      replace RT := Lib.hid (RT.out.below L.out RT.out.inside)
      replace R8 := Lib.hid (R8.out.below L.out R8.out.inside)
      obtain ⟨gRD, hg⟩ : ∃ g, w4.heap.size = g := ⟨_, rfl⟩
      rw [hg] at R ⊢
      have RD := R
      clear hv L hg B4 R
      have B4 := V
      clear V
      clear hq hll
      by_cases hp : okT (cp l) ∧ txtN (cp l) = l
      case neg =>
        have hq : parseR l = (zT, 5) := by unfold parseR; rw [if_neg hp]
        clear hp
        refine (PT _ _ hq hl _ (HG.out.below B4.out)).mono ?_
        rintro e w5 ⟨rfl, b5⟩
        have B5 := Lib.hid (B4.out.trans (b5.mono B4.out.size))
        replace RT := Lib.hid (RT.out.below b5 RT.out.inside)
        replace R8 := Lib.hid (R8.out.below b5 R8.out.inside)
        replace RD := Lib.hid (RD.out.below b5 RD.out.inside)
        clear b5 B4
        unfold zT
        dsimp only
        go_wp2
        go_ret
        exact ⟨rfl, B5.out.alloc B5.out.size _⟩
      case pos =>
        have hq : parseR l = (cp l, 0) := by unfold parseR; rw [if_pos hp]
        have hx : textR (cp l) = (l, 0) := by unfold textR; rw [if_pos hp.1, hp.2]
        have TX := TT _ hx
        clear hp hx
        generalize cp l = X at *
        refine (PT _ _ hq hl _ (HG.out.below B4.out)).mono ?_
        rintro e w5 ⟨rfl, b5⟩
        have B5 := Lib.hid (B4.out.trans (b5.mono B4.out.size))
        replace RT := Lib.hid (RT.out.below b5 RT.out.inside)
        replace R8 := Lib.hid (R8.out.below b5 R8.out.inside)
        replace RD := Lib.hid (RD.out.below b5 RD.out.inside)
        clear b5 B4
        go_wp2_with fail
        obtain ⟨v5, hv, V, L, R⟩ := made w 25 #[.int .i64 X.z, .int .i64 X.x, .int .i64 X.y] B5.out B5.out.size
        rw [hv]
        replace RT := Lib.hid (RT.out.below L.out RT.out.inside)
        replace R8 := Lib.hid (R8.out.below L.out R8.out.inside)
        replace RD := Lib.hid (RD.out.below L.out RD.out.inside)
        obtain ⟨gRX, hg⟩ : ∃ g, w5.heap.size = g := ⟨_, rfl⟩
        rw [hg] at R ⊢
        have RX := R
        clear hv L hg B5 R
        have B5 := V
        clear V
        refine (TX _ (HG.out.below B5.out)).mono ?_
        rintro e w6 ⟨rfl, b6⟩
        have B6 := Lib.hid (B5.out.trans (b6.mono B5.out.size))
        replace RT := Lib.hid (RT.out.below b6 RT.out.inside)
        replace R8 := Lib.hid (R8.out.below b6 R8.out.inside)
        replace RD := Lib.hid (RD.out.below b6 RD.out.inside)
        replace RX := Lib.hid (RX.out.below b6 RX.out.inside)
        clear b6 B5
        go_wp2
        go_ret
        exact ⟨rfl, B6.out⟩
end Go.Proofs.YtenacgeahaoglaaDoor.Gd
