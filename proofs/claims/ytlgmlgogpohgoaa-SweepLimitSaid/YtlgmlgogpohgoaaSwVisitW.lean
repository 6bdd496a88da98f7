/- sweep.visit by contract. -/
import Derived.Test.YtlgmlgogpohgoaaSwVisit
import Derived.StillTailTactics
import Derived.Deep.RegionHeld3
namespace Go.Proofs.Ytlgmlgogpohgoaa.Sw
open Go.RowKit Go.Sort Go.Shelf
open Go.Proofs.Ytlgmlgogpohgoaa.Geo hiding intOf
theorem below_drew {B : Nat} {w w' : World} (h : Below B w w') (n : Nat) : Below B w (w'.drewN n) := h.trans ⟨rfl, rfl, rfl, Nat.le_refl _, fun _ _ => rfl⟩
set_option maxRecDepth 100000 in
set_option maxHeartbeats 8000000 in
theorem visit_any {w0 : World} {base lb fb : Nat} {a : Option Addr} {n cap : Nat} {l : List Sg} {F : List Met} (b2 : Nat) (ao : Option Addr) (no cO : Nat) (O : List Ent) (x : Ent) (W : World)
    (hst : St w0 base lb fb a n cap l F W) (ho : OwnE W b2 (.slice ao no cO) O) (hb2 : base ≤ b2) (hn : n = l.length) (hcap : n ≤ 20000) (hx : x.i < n) (hO : ∀ e ∈ O, e.i < n) (hOl : O.length ≤ 20000) (hF : F.length ≤ 800000000) :
    Calls Try.prog 56 #[.slice ao no cO, .agg (encE x).toArray, .func (.func 53) #[] #[.pointer (some ⟨lb, 0, none⟩), .pointer (some ⟨fb, 0, none⟩)]] W
      fun e W' => e = .returned (.slice ao (keptN x O).length cO) ∧ OwnE W' b2 (.slice ao (keptN x O).length cO) (keptN x O) ∧ St w0 base lb fb a n cap l (F ++ notesN l x O) W' ∧ Kp (ao.map Addr.block) W W' := by
  obtain ⟨a', cap', hsh, hc1, hc2, hc3⟩ := Own.shape ho
  injection hsh with e1 e2 e3
  subst e1 e2 e3
  have hsz : b2 ≤ W.heap.size ∨ ao = none := by
    rcases hc3 with ⟨h, _, _⟩ | ⟨g, _, h2, h3⟩
    · exact .inr h
    · exact .inl (by omega)
  have hgx : ∀ g, ao = some ⟨g, 0, none⟩ → W.heap.size ≠ g := by
    intro g e
    rcases hc3 with ⟨h, _, _⟩ | ⟨g', h1, h2, h3⟩
    · rw [h] at e; cases e
    · rw [h1] at e
      injection e with e
      injection e with e
      omega
  have hsome : 0 < O.length → ∃ g, ao = some ⟨g, 0, none⟩ := by
    intro h0
    rcases hc3 with ⟨_, _, h⟩ | ⟨g', h1, h2, h3⟩
    · rw [h] at h0; simp at h0
    · exact ⟨g', h1⟩
  obtain ⟨V, hV⟩ : ∃ V, W.alloc (.cells (encE x).toArray 85) = V := ⟨_, rfl⟩
  have hbV : Below W.heap.size W V := hV ▸ alloc1 _ _
  have hI : Hid (VI w0 base lb fb a n cap l F b2 ao O.length cO O x W.heap.size W 0 0 V) :=
    ⟨O, Comp.start x O, Own.below ho hbV, by simpa [notesN] using hst.later hbV, hV ▸ IsRow.made _ _ _, Kp.of_below hbV⟩
  have HV := Lib.hid hV
  have HO := Lib.hid hO
  have HF := Lib.hid hF
  have HS := Lib.hid hsome
  have HG := Lib.hid hgx
  clear hV hbV hst ho hO hF hsome hgx hc3 hsz
  go_enter Try.func56, Try.ntmps56
  go_upto_region 1 with fail
  rw [HV.out]
  go_wp2
  go_loopw [7, 12] (fun s i wr => ∃ k j : Nat, j ≤ O.length ∧ k ≤ j ∧ s = .int .i64 k ∧ i = .int .i64 j ∧ Hid (VI w0 base lb fb a n cap l F b2 ao O.length cO O x W.heap.size W k j wr)) (fun _ i _ => O.length - (intOf i).toNat)
  case atStart => exact ⟨0, 0, by omega, by omega, rfl, rfl, hI⟩
  case round =>
    obtain ⟨k, j, hj, hkj, rfl, rfl, hi⟩ := hrel
    by_cases hlt : j < O.length
    · obtain ⟨g, rfl⟩ := HS.out (by omega)
      obtain ⟨e, he⟩ : ∃ e, O[j]? = some e := ⟨_, List.getElem?_eq_getElem hlt⟩
      obtain ⟨⟨c0, c1, c2, c3, c4⟩, ⟨d0, d1, d2, d3, d4⟩, o0, o1, o2, o3, o4, p0, p1, p2, p3, p4, q0, q1, q2, q3, q4⟩ := VI.facts hi.out he
      have HE := Lib.hid he
      have hgx := HG.out g rfl
      clear he
      by_cases hc : e.hi.x < x.lo.x
      · have ha : Hid (alive x e = false) := by show alive x e = false; unfold alive; simp [hc]
        have hi2 := Lib.hid (VI.skip hi.out HE.out ha.out)
        go_upto_region 6 with fail
        go_quiet (fail)
        have hi3 := Lib.hid (VI.later hi2.out (below_drew (Below.refl _ wr) nq))
        obtain ⟨W3, hW3⟩ : ∃ W3, wr.drewN nq = W3 := ⟨_, rfl⟩
        rw [hW3] at hi3 ⊢
        clear hW3 c0 c1 c2 c3 c4 d0 d1 d2 d3 d4 p0 p1 p2 p3 p4 q0 q1 q2 q3 q4 hi hi2
        go_wp2
        go_roundw
        case rel => exact ⟨k, j + 1, by omega, by omega, rfl, by go_num, hi3⟩
        case measure => simp [intOf]; omega
      · have ha : Hid (alive x e = true) := by show alive x e = true; unfold alive; simp [hc]
        go_upto_region 6 with fail
        go_quiet (fail)
        have hi3 := Lib.hid (VI.later hi.out (below_drew (Below.refl _ wr) nq))
        obtain ⟨W3, hW3⟩ : ∃ W3, wr.drewN nq = W3 := ⟨_, rfl⟩
        rw [hW3] at hi3 ⊢
        clear hW3 c0 c1 c2 c3 c4 d0 d1 d2 d3 d4 p0 p1 p2 p3 p4 q0 q1 q2 q3 q4 hi
        go_upto_if 31 with fail
        go_cut [32] from 31 to 37 (fun s32 wx => s32 = s32 ∧ Hid (VK w0 base lb fb a n cap l F b2 g O.length cO O e x W.heap.size W k j wx))
        case first =>
          by_cases hki : k < j
          · obtain ⟨⟨c0, c1, c2, c3, c4⟩, ⟨d0, d1, d2, d3, d4⟩, o0, o1, o2, o3, o4, p0, p1, p2, p3, p4, q0, q1, q2, q3, q4⟩ := VI.facts hi3.out HE.out
            have hki' : (k : Int) < (O.length : Int) := by omega
            have hk2 := Lib.hid (VI.moved hi3.out HE.out ha.out hb2 hgx)
            unfold put5 at hk2
            go_wp2_with fail
            go_meet
            case rel => exact ⟨trivial, hk2⟩
          · have hk2 := Lib.hid (VI.same hi3.out HE.out ha.out hki)
            go_wp2_with fail
            go_meet
            case rel => exact ⟨trivial, hk2⟩
        obtain ⟨_, hk3⟩ := hcut
        clear hi3
        go_upto_region 10 with fail
        go_cut [63] from 40 to 62 (fun s63 wx => s63 = .bool (levelB x e) ∧ Hid (VK w0 base lb fb a n cap l F b2 g O.length cO O e x W.heap.size W k j wx))
        case first =>
          obtain ⟨⟨c0, c1, c2, c3, c4⟩, ⟨d0, d1, d2, d3, d4⟩⟩ := VK.facts hk3.out
          by_cases h1 : e.lo.y ≤ x.hi.y
          · have h1' : decide (e.lo.y ≤ x.hi.y) = true := decide_eq_true h1
            by_cases h2 : x.lo.y ≤ e.hi.y
            · have h2' : decide (x.lo.y ≤ e.hi.y) = true := decide_eq_true h2
              have hL : Hid (true = levelB x e) := by show true = levelB x e; unfold levelB; rw [h1', h2']; rfl
              go_quiet (fail)
              go_wp2
              go_meet
              exact ⟨congrArg Value.bool hL.out, Lib.hid (VK.later hk3.out (below_drew (Below.refl _ _) _))⟩
            · have h2' : decide (x.lo.y ≤ e.hi.y) = false := decide_eq_false h2
              have hL : Hid (false = levelB x e) := by show false = levelB x e; unfold levelB; rw [h1', h2']; rfl
              go_quiet (fail)
              go_wp2
              go_meet
              exact ⟨congrArg Value.bool hL.out, Lib.hid (VK.later hk3.out (below_drew (Below.refl _ _) _))⟩
          · have h1' : decide (e.lo.y ≤ x.hi.y) = false := decide_eq_false h1
            have hL : Hid (false = levelB x e) := by show false = levelB x e; unfold levelB; rw [h1']; rfl
            go_quiet (fail)
            go_wp2
            go_meet
            exact ⟨congrArg Value.bool hL.out, Lib.hid (VK.later hk3.out (below_drew (Below.refl _ _) _))⟩
        obtain ⟨rfl, hk4⟩ := hcut
        clear hk3
        have hFl : Hid ((F ++ notesN l x (O.take j)).length ≤ 900000000) := by
          show _ ≤ _
          have h1 := notes_le l x (O.take j)
          have h2 := HF.out
          rw [List.length_take] at h1
          rw [List.length_append]
          omega
        cases hl : levelB x e with
        | false =>
          have hz : Hid (VI w0 base lb fb a n cap l F b2 (some ⟨g, 0, none⟩) O.length cO O x W.heap.size W (k + 1) (j + 1) wc) := by
            obtain ⟨L, h1, h2, h3, h4, h5, h6⟩ := id hk4.out
            exact VK.fin hk4.out HE.out ha.out (by rw [hl]; simpa using h4) (Kp.refl _ _)
          clear hk4 hFl
          go_wp2
          go_roundw
          case rel => exact ⟨k + 1, j + 1, by omega, by omega, by go_num, by go_num, hz⟩
          case measure => simp [intOf]; omega
        | true =>
          go_upto_region 11 with fail
          obtain ⟨⟨c0, c1, c2, c3, c4⟩, ⟨d0, d1, d2, d3, d4⟩⟩ := VK.facts hk4.out
          go_still_tail 7, (by kernel_rfl)
          change wpList _ _ _ _ _ wc.drew
          have hk5 := Lib.hid (VK.later hk4.out (drew_below wc))
          generalize wc.drew = w2 at *
          clear c0 c1 c2 c3 c4 d0 d1 d2 d3 d4 hk4
          have hei := HO.out e (List.mem_of_getElem? HE.out)
          have hN := Lib.hid hl
          obtain ⟨L, h1, h2, h3, h4, h5, h6⟩ := id hk5.out
          have hC := Lib.hid (note_any w2 e.i x.i h4 hn hei hx hcap hFl.out)
          clear h1 h2 h3 h4 h5 h6 hl
          go_wp2_with fail
          refine hC.out.mono ?_
          rintro e' w3 ⟨rfl, hs3, hk6⟩
          have hz : Hid (VI w0 base lb fb a n cap l F b2 (some ⟨g, 0, none⟩) O.length cO O x W.heap.size W (k + 1) (j + 1) w3) :=
            VK.fin hk5.out HE.out ha.out (by rw [hN.out]; exact hs3) hk6
          clear hs3 hk6 hk5 hC
          go_wp2
          go_roundw
          case rel => exact ⟨k + 1, j + 1, by omega, by omega, by go_num, by go_num, hz⟩
          case measure => simp [intOf]; omega
    · obtain rfl : j = O.length := by omega
      obtain ⟨L, h1, h2, h3, h4, h5⟩ := id hi.out
      have ek : keptN x (O.take O.length) = keptN x O := by rw [List.take_length]
      have en : notesN l x (O.take O.length) = notesN l x O := by rw [List.take_length]
      have e1 : k = (keptN x O).length := by rw [← ek]; exact h1.num
      have h7 := Own.take h2 encE_len (k := k) (by rw [h1.len]; exact hkj)
      have e2 : L.take k = keptN x O := by rw [h1.kept, ek]
      rw [e2] at h7
      rw [en] at h3
      have HZ := Lib.hid (And.intro h7 (And.intro h3 h5))
      have HK := Lib.hid e1
      clear h1 h2 h3 h4 h5 h7 ek en e1 e2 hi
      go_wp2_with fail
      go_ret
      rw [← HK.out]
      exact ⟨rfl, HZ.out⟩
end Go.Proofs.Ytlgmlgogpohgoaa.Sw
