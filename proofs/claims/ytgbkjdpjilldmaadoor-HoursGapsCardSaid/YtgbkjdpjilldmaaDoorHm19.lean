/- Merged: HrCatch, HrReadW, HrReadS, HrParseM, HrParse. -/
import Derived.Test.YtgbkjdpjilldmaaDoorHm18
import Derived.Tactics
import Derived.Tactics2
import Derived.Defers
import Derived.Recover
import Derived.Laws.Pointers
import Derived.Test.YtgbkjdpjilldmaaDoorHm7
/- hours: read's deferred closure. -/
namespace Go.Proofs.YtgbkjdpjilldmaaDoor.Hr
open Go.RowKit
open Lx (IsRow alloc1)
theorem ta_yes (a b : Int) : ∀ w : World, (Instr.typeAssert (.iface 73 (.agg #[.int .i64 a, .int .i64 b])) 20 73 true).run Tryd.prog w = .ok (.tuple #[.agg #[.int .i64 a, .int .i64 b], .bool true]) w := fun _ => by kernel_rfl
theorem ta_no : ∀ w : World, (Instr.typeAssert .nilIface 20 73 true).run Tryd.prog w = .ok (.tuple #[.agg #[.int .i64 0, .int .i64 0], .bool false]) w := fun _ => by kernel_rfl
theorem fail_made (w : World) (a b : Value) : IsRow (w.alloc (.cells #[a, b] 73)) w.heap.size 73 #[a, b] := IsRow.made w _ _
set_option maxRecDepth 100000 in
set_option maxHeartbeats 400000 in
theorem catch_panicking (g : Nat) (f1 f2 : Int) (w : World) (v0 v1 v2 : Value) (r0 : IsRow w g 22 #[v0]) (r1 : IsRow w (g + 1) 25 #[v1]) (r2 : IsRow w (g + 2) 3 #[v2]) :
    CallsD Tryd.prog 33 #[.pointer (some ⟨g, 0, none⟩), .pointer (some ⟨g + 1, 0, none⟩), .pointer (some ⟨g + 2, 0, none⟩)] (.panicking [{ v := .iface 73 (.agg #[.int .i64 f1, .int .i64 f2]), recovered := false }]) w fun e u' w' =>
      e = .returned (.tuple #[]) ∧ u' = .panicking [{ v := .iface 73 (.agg #[.int .i64 f1, .int .i64 f2]), recovered := true }] ∧ IsRow w' g 22 #[.slice none 0 0] ∧ IsRow w' (g + 1) 25 #[.int .i64 f1] ∧ IsRow w' (g + 2) 3 #[.int .i64 f2] ∧ Below g w w' := by
  have hta := ta_yes f1 f2
  refine callsD_of_wpS Tryd.func33 rfl fun c₀ cs hu => ?_
  have c0 := r0.get 0
  have c1 := r1.get 0
  have c2 := r2.get 0
  simp only [Tryd.ntmps33]
  rw [show (#[.pointer (some ⟨g, 0, none⟩), .pointer (some ⟨g + 1, 0, none⟩), .pointer (some ⟨g + 2, 0, none⟩)] : Array Value) ++ Array.replicate (15 - (#[.pointer (some ⟨g, 0, none⟩), .pointer (some ⟨g + 1, 0, none⟩), .pointer (some ⟨g + 2, 0, none⟩)] : Array Value).size) undef = #[.pointer (some ⟨g, 0, none⟩), .pointer (some ⟨g + 1, 0, none⟩), .pointer (some ⟨g + 2, 0, none⟩), undef, undef, undef, undef, undef, undef, undef, undef, undef, undef, undef, undef] from rfl]
  apply wpS_seq
  apply wpS_region
  simp [wpOpsS, go_sem, recoverD, hu, hta, Exit.thenS]
  obtain ⟨w1, hw1⟩ : ∃ w1, w.alloc (.cells #[.int .i64 f1, .int .i64 f2] 73) = w1 := ⟨_, rfl⟩
  have b1 : Below w.heap.size w w1 := hw1 ▸ alloc1 w _
  have r3 : IsRow w1 w.heap.size 73 #[.int .i64 f1, .int .i64 f2] := hw1 ▸ IsRow.made w _ _
  have q0 := r0.below b1 r0.inside
  have q1 := r1.below b1 r1.inside
  have q2 := r2.below b1 r2.inside
  have hg3 := r2.inside
  refine wpS_of_wp ?_
  simp only [hw1]
  have d0 := q0.get 0
  have d1 := q1.get 0
  have d2 := q2.get 0
  have z0 := q0.open_ 0
  have z1 := q1.open_ 0
  have z2 := q2.open_ 0
  obtain ⟨y0, y1, _, _⟩ := facts2 r3
  simp only [List.getElem?_toArray, List.getElem?_cons_zero] at d0 d1 d2
  obtain ⟨n3, hn3⟩ : ∃ n, w.heap.size = n := ⟨_, rfl⟩
  simp only [hn3] at y0 y1 hg3 ⊢
  have ne0 : g ≠ n3 := by omega
  have B1 := Lib.hid b1
  have Q0 := Lib.hid q0
  have Q1 := Lib.hid q1
  have Q2 := Lib.hid q2
  clear b1 q0 q1 q2 r0 r1 r2 r3 c0 c1 c2 hw1 hta
  generalize hPost : (fun e a' w' => bodyPostS Tryd.prog Tryd.f33 c₀ cs _ e a' _ w') = Post
  go_upto_region 2 with fail
  go_region
  have R0 : IsRow (((w1.setCell ⟨g, 0, none⟩ (.slice none 0 0)).setCell ⟨g + 1, 0, none⟩ (.int .i64 f1)).setCell ⟨g + 2, 0, none⟩ (.int .i64 f2)).drew g 22 #[.slice none 0 0] := by
    have h : IsRow (w1.setCell ⟨g, 0, none⟩ (.slice none 0 0)) g 22 #[.slice none 0 0] := by simpa using Q0.out.put 0 (.slice none 0 0)
    exact ((h.putOther (p := ⟨g + 1, 0, none⟩) (by simp) _).putOther (p := ⟨g + 2, 0, none⟩) (by simp) _).drew
  have R1 : IsRow (((w1.setCell ⟨g, 0, none⟩ (.slice none 0 0)).setCell ⟨g + 1, 0, none⟩ (.int .i64 f1)).setCell ⟨g + 2, 0, none⟩ (.int .i64 f2)).drew (g + 1) 25 #[.int .i64 f1] := by
    have h : IsRow ((w1.setCell ⟨g, 0, none⟩ (.slice none 0 0)).setCell ⟨g + 1, 0, none⟩ (.int .i64 f1)) (g + 1) 25 #[.int .i64 f1] := by simpa using (Q1.out.putOther (p := ⟨g, 0, none⟩) (by simp) (.slice none 0 0)).put 0 (.int .i64 f1)
    exact (h.putOther (p := ⟨g + 2, 0, none⟩) (by simp) _).drew
  have R2 : IsRow (((w1.setCell ⟨g, 0, none⟩ (.slice none 0 0)).setCell ⟨g + 1, 0, none⟩ (.int .i64 f1)).setCell ⟨g + 2, 0, none⟩ (.int .i64 f2)).drew (g + 2) 3 #[.int .i64 f2] := by
    have h : IsRow (((w1.setCell ⟨g, 0, none⟩ (.slice none 0 0)).setCell ⟨g + 1, 0, none⟩ (.int .i64 f1)).setCell ⟨g + 2, 0, none⟩ (.int .i64 f2)) (g + 2) 3 #[.int .i64 f2] := by simpa using ((Q2.out.putOther (p := ⟨g, 0, none⟩) (by simp) (.slice none 0 0)).putOther (p := ⟨g + 1, 0, none⟩) (by simp) (.int .i64 f1)).put 0 (.int .i64 f2)
    exact h.drew
  have bb : Below g w w1 := by
    have h := B1.out
    rw [hn3] at h
    exact h.mono (by omega)
  have R3 : Below g w (((w1.setCell ⟨g, 0, none⟩ (.slice none 0 0)).setCell ⟨g + 1, 0, none⟩ (.int .i64 f1)).setCell ⟨g + 2, 0, none⟩ (.int .i64 f2)).drew :=
    ((((bb).setCell (p := ⟨g, 0, none⟩) (Nat.le_refl _) _).setCell (p := ⟨g + 1, 0, none⟩) (by simp) _).setCell (p := ⟨g + 2, 0, none⟩) (by simp) _).drew
  rw [← hPost]
  generalize (((w1.setCell ⟨g, 0, none⟩ (.slice none 0 0)).setCell ⟨g + 1, 0, none⟩ (.int .i64 f1)).setCell ⟨g + 2, 0, none⟩ (.int .i64 f2)).drew = w9 at *
  simp [bodyPostS, results, Tryd.results33, go_sem]
  exact ⟨R0, R1, R2, R3⟩
set_option maxRecDepth 100000 in
set_option maxHeartbeats 400000 in
theorem catch_idle (g : Nat) (w : World) :
    CallsD Tryd.prog 33 #[.pointer (some ⟨g, 0, none⟩), .pointer (some ⟨g + 1, 0, none⟩), .pointer (some ⟨g + 2, 0, none⟩)] .returning w fun e u' w' =>
      e = .returned (.tuple #[]) ∧ u' = .returning ∧ Below w.heap.size w w' := by
  have hta := ta_no
  refine callsD_of_wpS Tryd.func33 rfl fun c₀ cs hu => ?_
  simp only [Tryd.ntmps33]
  rw [show (#[.pointer (some ⟨g, 0, none⟩), .pointer (some ⟨g + 1, 0, none⟩), .pointer (some ⟨g + 2, 0, none⟩)] : Array Value) ++ Array.replicate (15 - (#[.pointer (some ⟨g, 0, none⟩), .pointer (some ⟨g + 1, 0, none⟩), .pointer (some ⟨g + 2, 0, none⟩)] : Array Value).size) undef = #[.pointer (some ⟨g, 0, none⟩), .pointer (some ⟨g + 1, 0, none⟩), .pointer (some ⟨g + 2, 0, none⟩), undef, undef, undef, undef, undef, undef, undef, undef, undef, undef, undef, undef] from rfl]
  apply wpS_seq
  apply wpS_region
  simp [wpOpsS, go_sem, recoverD, hu, hta, Exit.thenS]
  have b1 := alloc1 w (.cells #[.int .i64 0, .int .i64 0] 73)
  generalize w.alloc (.cells #[.int .i64 0, .int .i64 0] 73) = w1 at *
  refine wpS_of_wp ?_
  generalize hPost : (fun e a' w' => bodyPostS Tryd.prog Tryd.f33 c₀ cs _ e a' _ w') = Post
  clear hta
  go_wp2
  rw [← hPost]
  cases c₀
  simp_all [bodyPostS, results, Tryd.results33, go_sem]
end Go.Proofs.YtgbkjdpjilldmaaDoor.Hr
/- hours: read. -/
namespace Go.Proofs.YtgbkjdpjilldmaaDoor.Hr
open Go.RowKit Go.Sort Go.Shelf
open Lx (IsRow alloc1 drew_below Tk B Toks)
open St (Sp encS encS_len encS_one)
/-- what read answers and leaves. -/
def ReadP (w : World) (R : Except Fl (List Sp)) (x : Ending) (w' : World) : Prop :=
  match R with
  | .ok L => (∃ v, x = .returned (.tuple #[v, .int .i64 0, .int .i64 0]) ∧ OwnS w' w.heap.size v L) ∧ Below w.heap.size w w'
  | .error f => x = .returned (.tuple #[.slice none 0 0, .int .i64 f.1, .int .i64 f.2]) ∧ Below w.heap.size w w'
set_option maxRecDepth 100000 in
set_option maxHeartbeats 1000000 in
theorem read_any (ao : Option Addr) (n c e : Nat) (ts : List Tk) (w : World) (hn : ts.length = n) (hc : n ≤ c) (ht : Toks w w.heap.size ao ts) (hdg : DgA ts) (hd : Dn w.heap.size w) (h14 : 14 * n ≤ 79000) :
    Calls Tryd.prog 24 #[.slice ao n c, .int .i64 (e : Int)] w (ReadP w (textR e ts)) := by
  have hmf : ∀ (fn : Fn) (first cap : Array Value) (w : World), (Instr.makeFunc fn first cap).run Tryd.prog w = .ok (.func fn first cap) w := fun _ _ _ _ => rfl
  obtain ⟨W, hW, bW, q0, q1, q2, q3, hs⟩ := Lx.four_made w 22 25 3 78 #[.slice none 0 0] #[.int .i64 0] #[.int .i64 0] #[.slice ao n c, .int .i64 (e : Int), .slice none 0 0]
  have hr : Rh W (w.heap.size + 3) w.heap.size e ts [] := ⟨by omega, ao, n, c, _, q3, hn, hc, ht.below bW (Nat.le_refl _), OwnS.nil _ _, hdg⟩
  have KT := Lib.hid (text_any (w.heap.size + 3) w.heap.size e ts W hr (hd.below bW) (by rw [hn]; exact h14))
  have HW := Lib.hid hW
  have BW := Lib.hid bW
  have Q0 := Lib.hid q0
  have Q1 := Lib.hid q1
  have Q2 := Lib.hid q2
  obtain ⟨R, hR⟩ : ∃ R, textR e ts = R := ⟨_, rfl⟩
  rw [hR] at KT ⊢
  clear hr q0 q1 q2 q3 hW bW hR
  go_enter_defers Tryd.func24, Tryd.ntmps24
  go_upto_region 3 with fail
  rw [HW.out]
  go_wp2_with fail
  refine KT.out.mono ?_
  intro x w5 hx
  cases R with
  | error f =>
    obtain ⟨rfl, k5⟩ := hx
    have r0 := k5.2 _ _ _ (by decide) (by decide) Q0.out
    have r1 := k5.2 _ _ _ (by decide) (by decide) Q1.out
    have r2 := k5.2 _ _ _ (by decide) (by decide) Q2.out
    refine leaves_cons (f := 33) (args := #[.pointer (some ⟨w.heap.size, 0, none⟩), .pointer (some ⟨w.heap.size + 1, 0, none⟩), .pointer (some ⟨w.heap.size + 2, 0, none⟩)]) (by simp) (by simp [go_sem]) ?_
    refine (catch_panicking w.heap.size f.1 f.2 w5 _ _ _ r0 r1 r2).mono ?_
    rintro x u' w6 ⟨rfl, rfl, R0, R1, R2, B6⟩
    have c0 := R0.get 0
    have c1 := R1.get 0
    have c2 := R2.get 0
    have FIN := Lib.hid (show Below w.heap.size w w6 from (BW.out.trans k5.1).trans B6)
    simp [Leaves, settle, results, Tryd.results24, go_sem, c0, c1, c2]
    exact ⟨rfl, FIN.out⟩
  | ok L =>
    obtain ⟨⟨rfl, h5⟩, k5⟩ := hx
    have r0 := k5.2 _ _ _ (by decide) (by decide) Q0.out
    have r1 := k5.2 _ _ _ (by decide) (by decide) Q1.out
    have r2 := k5.2 _ _ _ (by decide) (by decide) Q2.out
    obtain ⟨h1, ao', n', c', sv, rr, _, _, _, ho, _⟩ := h5
    obtain ⟨sa, sk, sc, rfl⟩ := Own.slc ho
    have c0 := r0.get 0
    have c1 := r1.get 0
    have c2 := r2.get 0
    have c3 := rr.get 2
    have z0 := r0.open_ 0
    have z1 := r1.open_ 0
    have z2 := r2.open_ 0
    simp only [List.getElem?_toArray, List.getElem?_cons_zero, List.getElem?_cons_succ] at c0 c1 c2 c3
    have FIN := Lib.hid (fun w9 (h9 : w9 = ((w5.setCell ⟨w.heap.size, 0, none⟩ (.slice sa sk sc)).setCell ⟨w.heap.size + 1, 0, none⟩ (.int .i64 0)).setCell ⟨w.heap.size + 2, 0, none⟩ (.int .i64 0)) => (show IsRow w9 w.heap.size 22 #[.slice sa sk sc] ∧ IsRow w9 (w.heap.size + 1) 25 #[.int .i64 0] ∧ IsRow w9 (w.heap.size + 2) 3 #[.int .i64 0] ∧ OwnS w9 w.heap.size (.slice sa sk sc) L ∧ Below w.heap.size w w9 from by
      subst h9
      have g0 : IsRow (w5.setCell ⟨w.heap.size, 0, none⟩ (.slice sa sk sc)) w.heap.size 22 #[.slice sa sk sc] := by simpa using r0.put 0 (.slice sa sk sc)
      have o0 : OwnS (w5.setCell ⟨w.heap.size, 0, none⟩ (.slice sa sk sc)) w.heap.size (.slice sa sk sc) L := Own.kept ho (Lx.grown_put w5 _ 0 _) (.inr (OwnS.off ho r0 (by decide)))
      have g1 := r1.putOther (p := ⟨w.heap.size, 0, none⟩) (by simp) (.slice sa sk sc)
      have g2 := r2.putOther (p := ⟨w.heap.size, 0, none⟩) (by simp) (.slice sa sk sc)
      have h0 := g0.putOther (p := ⟨w.heap.size + 1, 0, none⟩) (by simp) (.int .i64 0)
      have h1 : IsRow ((w5.setCell ⟨w.heap.size, 0, none⟩ (.slice sa sk sc)).setCell ⟨w.heap.size + 1, 0, none⟩ (.int .i64 0)) (w.heap.size + 1) 25 #[.int .i64 0] := by simpa using g1.put 0 (.int .i64 0)
      have h2 := g2.putOther (p := ⟨w.heap.size + 1, 0, none⟩) (by simp) (.int .i64 0)
      have o1 : OwnS ((w5.setCell ⟨w.heap.size, 0, none⟩ (.slice sa sk sc)).setCell ⟨w.heap.size + 1, 0, none⟩ (.int .i64 0)) w.heap.size (.slice sa sk sc) L := Own.kept o0 (Lx.grown_put _ _ 0 _) (.inr (OwnS.off o0 g1 (by decide)))
      refine ⟨h0.putOther (p := ⟨w.heap.size + 2, 0, none⟩) (by simp) _, h1.putOther (p := ⟨w.heap.size + 2, 0, none⟩) (by simp) _, by simpa using h2.put 0 (.int .i64 0), Own.kept o1 (Lx.grown_put _ _ 0 _) (.inr (OwnS.off o1 h2 (by decide))), ?_⟩
      exact ((((BW.out.trans k5.1)).setCell (p := ⟨w.heap.size, 0, none⟩) (Nat.le_refl _) _).setCell (p := ⟨w.heap.size + 1, 0, none⟩) (by simp) _).setCell (p := ⟨w.heap.size + 2, 0, none⟩) (by simp) _))
    go_wp2
    obtain ⟨R0, R1, R2, O9, B9⟩ := FIN.out _ rfl
    refine leaves_cons (f := 33) (args := #[.pointer (some ⟨w.heap.size, 0, none⟩), .pointer (some ⟨w.heap.size + 1, 0, none⟩), .pointer (some ⟨w.heap.size + 2, 0, none⟩)]) (by simp) (by simp [go_sem]) ?_
    refine (catch_idle w.heap.size _).mono ?_
    rintro x u' w6 ⟨rfl, rfl, b6⟩
    have c0 := (R0.below b6 R0.inside).get 0
    have c1 := (R1.below b6 R1.inside).get 0
    have c2 := (R2.below b6 R2.inside).get 0
    have GG := Lib.hid (show OwnS w6 w.heap.size (.slice sa sk sc) L ∧ Below w.heap.size w w6 from ⟨Own.below O9 b6, B9.trans (b6.mono B9.size)⟩)
    clear R0 R1 R2 O9 B9 b6 FIN
    simp [Leaves, settle, results, Tryd.results24, go_sem, c0, c1, c2]
    exact ⟨⟨_, rfl, GG.out.1⟩, GG.out.2⟩
end Go.Proofs.YtgbkjdpjilldmaaDoor.Hr
/- Plain: the spans that are read are of the week, and few. -/
namespace Go.Proofs.YtgbkjdpjilldmaaDoor.Hr
open Lx (Tk B)
theorem clockR_is {most e a at_ : Nat} {ts r : List Tk} (h : clockR most e ts = .ok ((a, at_), r)) : ∃ x y, a = x * 60 + y ∧ x ≤ most ∧ y < 60 ∧ ¬ (x = 24 ∧ 0 < y) := by
  unfold clockR at h
  split at h
  · cases h
  · split at h
    · cases h
    · rename_i c1
      split at h
      · cases h
      · split at h
        · cases h
        · split at h
          · cases h
          · rename_i c2
            injection h with h
            injection h with h _
            injection h with h _
            refine ⟨_, _, h.symm, by omega, Nat.lt_of_not_le (fun q => c2 (.inr (.inl q))), fun q => c2 (.inr (.inr q))⟩
theorem add_ok {f t : Int} (h0 : 0 ≤ f) (h1 : f < t) (h2 : f < 10080) (h3 : t ≤ 20160) : ∀ s ∈ addS f t, okS s := by
  intro s hs
  unfold addS at hs
  by_cases h : 10080 < t
  · rw [if_pos h] at hs
    simp at hs
    rcases hs with rfl | rfl
    · exact (show (0 : Int) ≤ 0 ∧ 0 < t - 10080 ∧ t - 10080 ≤ 10080 from ⟨by omega, by omega, by omega⟩)
    · exact (show 0 ≤ f ∧ f < 10080 ∧ (10080 : Int) ≤ 10080 from ⟨h0, h2, by omega⟩)
  · rw [if_neg h] at hs
    simp at hs
    subst hs
    exact (show 0 ≤ f ∧ f < t ∧ t ≤ 10080 from ⟨h0, h1, by omega⟩)
theorem timeR_okS {e : Nat} {days : List Nat} {m : List Sq} {ts r : List Tk} (h : timeR e days ts = .ok (m, r)) (h7 : ∀ d ∈ days, d < 7) : ∀ s ∈ m, okS s := by
  unfold timeR at h
  split at h
  · cases h
  · rename_i a a2 ts1 h1
    obtain ⟨x, y, ha, hx, hy, _⟩ := clockR_is h1
    split at h
    · cases h
    · split at h
      · cases h
      · rename_i z z2 ts3 h3
        obtain ⟨u, v, hz, hu, hv, huv⟩ := clockR_is h3
        split at h
        · cases h
        · rename_i hne
          injection h with h
          injection h with h4 _
          subst h4
          intro s hs
          obtain ⟨d, hd, hs⟩ := List.mem_flatMap.1 hs
          have d7 := h7 d hd
          have hz2 : z ≤ 1440 := by
            by_cases q : u = 24
            · have : ¬ 0 < v := fun w => huv ⟨q, w⟩
              omega
            · omega
          refine add_ok (by omega) ?_ (by omega) ?_ s hs
          · split <;> omega
          · split <;> omega
theorem partsL_ok (e : Nat) : ∀ (f : Nat) (days : List Nat) (L : List Sq) (ts : List Tk) (M : List Sq) (r : List Tk), partsL e f days L ts = .ok (M, r) → (∀ d ∈ days, d < 7) → days.length ≤ 7 → (∀ s ∈ L, okS s) → (∀ s ∈ M, okS s) ∧ M.length + 14 * r.length ≤ L.length + 14 * ts.length
  | 0, days, L, ts, M, r, h, _, _, hL => by
    rw [partsL] at h
    injection h with h
    injection h with h1 h2
    subst h1 h2
    exact ⟨hL, Nat.le_refl _⟩
  | f + 1, days, L, ts, M, r, h, h7, hl, hL => by
    rw [partsL] at h
    split at h
    · injection h with h
      injection h with h1 h2
      subst h1 h2
      exact ⟨hL, Nat.le_refl _⟩
    · rename_i ts1 ha
      have la := acc_len ha
      split at h
      · split at h
        · cases h
        · rename_i d2 ts2 hd
          obtain ⟨n1, n2, n3⟩ := daysR_ok hd
          split at h
          · cases h
          · rename_i m ts3 ht
            obtain ⟨p1, p2⟩ := timeR_ok ht
            obtain ⟨q1, q2⟩ := partsL_ok e f d2 (L ++ m) ts3 M r h n3 n2 (fun s hs => (List.mem_append.1 hs).elim (hL s) (timeR_okS ht n3 s))
            rw [List.length_append] at q2
            exact ⟨q1, by omega⟩
      · split at h
        · cases h
        · rename_i m ts3 ht
          obtain ⟨p1, p2⟩ := timeR_ok ht
          obtain ⟨q1, q2⟩ := partsL_ok e f days (L ++ m) ts3 M r h h7 hl (fun s hs => (List.mem_append.1 hs).elim (hL s) (timeR_okS ht h7 s))
          rw [List.length_append] at q2
          exact ⟨q1, by omega⟩
theorem textR_ok {e : Nat} {ts : List Tk} {L : List Sq} (h : textR e ts = .ok L) : (∀ s ∈ L, okS s) ∧ L.length ≤ 14 * ts.length := by
  unfold textR at h
  split at h
  · rename_i r ha
    have la := acc_len ha
    split at h
    · injection h with h
      subst h
      exact ⟨fun s hs => by simp at hs; subst hs; exact (show (0 : Int) ≤ 0 ∧ (0 : Int) < 10080 ∧ (10080 : Int) ≤ 10080 from ⟨by omega, by omega, by omega⟩), by simp; omega⟩
    · cases h
  · split at h
    · split at h
      · injection h with h
        subst h
        exact ⟨fun s hs => (by cases hs), by simp⟩
      · cases h
    · split at h
      · cases h
      · rename_i M r hp
        split at h
        · injection h with h
          subst h
          unfold partsR at hp
          split at hp
          · cases hp
          · rename_i d ts1 hd
            obtain ⟨n1, n2, n3⟩ := daysR_ok hd
            split at hp
            · cases hp
            · rename_i m ts2 ht
              obtain ⟨p1, p2⟩ := timeR_ok ht
              obtain ⟨q1, q2⟩ := partsL_ok e _ d ([] ++ m) ts2 M r hp n3 n2 (fun s hs => timeR_okS ht n3 s (by simpa using hs))
              simp at q2
              exact ⟨q1, by omega⟩
        · cases h
end Go.Proofs.YtgbkjdpjilldmaaDoor.Hr
/- Plain: Parse's answer; the errors of reading. -/
namespace Go.Proofs.YtgbkjdpjilldmaaDoor.Hr
open Lx (Tk B lexR)
def Ec (f : Fl) : Prop := f.1 = 5 ∨ f.1 = 6 ∨ f.1 = 10
theorem unexp_ec (e : Nat) : ∀ ts, Ec (unexp e ts)
  | [] => .inr (.inl rfl)
  | _ :: _ => .inl rfl
theorem symR_ec {s : B} {e : Nat} {ts : List Tk} {f : Fl} (h : symR s e ts = .error f) : Ec f := by
  unfold symR at h
  split at h
  · cases h
  · injection h with h; subst h; exact unexp_ec e ts
theorem numR_ec {e : Nat} {ts : List Tk} {f : Fl} (h : numR e ts = .error f) : Ec f := by
  cases ts with
  | nil => rw [numR] at h; injection h with h; subst h; exact .inr (.inl rfl)
  | cons t q =>
    rw [numR] at h
    split at h
    · cases h
    · injection h with h; subst h; exact .inl rfl
theorem clockR_ec {most e : Nat} {ts : List Tk} {f : Fl} (h : clockR most e ts = .error f) : Ec f := by
  unfold clockR at h
  split at h
  · rename_i f2 hf; injection h with h; subst h; exact numR_ec hf
  · split at h
    · injection h with h; subst h; exact .inr (.inr rfl)
    · split at h
      · rename_i f2 hf; injection h with h; subst h; exact symR_ec hf
      · split at h
        · rename_i f2 hf; injection h with h; subst h; exact numR_ec hf
        · split at h
          · injection h with h; subst h; exact .inr (.inr rfl)
          · cases h
theorem dayR_ec {e : Nat} {ts : List Tk} {f : Fl} (h : dayR e ts = .error f) : Ec f := by
  unfold dayR at h
  split at h
  · cases h
  · injection h with h; subst h; exact unexp_ec e ts
theorem daysR_ec {e : Nat} {ts : List Tk} {f : Fl} (h : daysR e ts = .error f) : Ec f := by
  unfold daysR at h
  split at h
  · rename_i f2 hf; injection h with h; subst h; exact dayR_ec hf
  · split at h
    · cases h
    · split at h
      · rename_i f2 hf; injection h with h; subst h; exact dayR_ec hf
      · cases h
theorem timeR_ec {e : Nat} {days : List Nat} {ts : List Tk} {f : Fl} (h : timeR e days ts = .error f) : Ec f := by
  unfold timeR at h
  split at h
  · rename_i f2 hf; injection h with h; subst h; exact clockR_ec hf
  · split at h
    · rename_i f2 hf; injection h with h; subst h; exact symR_ec hf
    · split at h
      · rename_i f2 hf; injection h with h; subst h; exact clockR_ec hf
      · split at h
        · injection h with h; subst h; exact .inr (.inr rfl)
        · cases h
theorem partsL_ec (e : Nat) : ∀ (n : Nat) (days : List Nat) (L : List Sq) (ts : List Tk) (f : Fl), partsL e n days L ts = .error f → Ec f
  | 0, days, L, ts, f, h => by rw [partsL] at h; cases h
  | n + 1, days, L, ts, f, h => by
    rw [partsL] at h
    split at h
    · cases h
    · split at h
      · split at h
        · rename_i f2 hf; injection h with h; subst h; exact daysR_ec hf
        · split at h
          · rename_i f2 hf; injection h with h; subst h; exact timeR_ec hf
          · exact partsL_ec e n _ _ _ f h
      · split at h
        · rename_i f2 hf; injection h with h; subst h; exact timeR_ec hf
        · exact partsL_ec e n _ _ _ f h
theorem textR_ec {e : Nat} {ts : List Tk} {f : Fl} (h : textR e ts = .error f) : Ec f := by
  unfold textR at h
  split at h
  · split at h
    · cases h
    · injection h with h; subst h; exact unexp_ec e _
  · split at h
    · split at h
      · cases h
      · injection h with h; subst h; exact unexp_ec e _
    · split at h
      · rename_i f2 hf
        injection h with h
        subst h
        unfold partsR at hf
        split at hf
        · rename_i f3 hf3; injection hf with hf; subst hf; exact daysR_ec hf3
        · split at hf
          · rename_i f3 hf3; injection hf with hf; subst hf; exact timeR_ec hf3
          · exact partsL_ec e _ _ _ _ _ hf
      · split at h
        · cases h
        · injection h with h; subst h; exact unexp_ec e _
/-- what Parse answers: the spans, the error, the offset. -/
def parseR (s : B) : List Sq × Int × Int :=
  if (lexR s).2.1 ≠ 0 then ([], (lexR s).2.1, (lexR s).2.2)
  else match textR s.length (lexR s).1 with
    | .error f => ([], f.1, f.2)
    | .ok L => if 60 < (uni L).length then ([], 2, (s.length : Int)) else (uni L, 0, 0)
end Go.Proofs.YtgbkjdpjilldmaaDoor.Hr
/- hours: Parse. -/
namespace Go.Proofs.YtgbkjdpjilldmaaDoor.Hr
open Go.RowKit Go.Sort Go.Shelf
open Lx (IsRow alloc1 drew_below Tk B Toks lexR lex_any LOut str_size str_eq)
open St (Sp encS encS_len encS_one)
/-- what Parse answers and leaves. -/
def ParseP (w : World) (r : List Sp × Int × Int) (x : Ending) (w' : World) : Prop :=
  (∃ v, x = .returned (.tuple #[v, .int .i64 r.2.1, .int .i64 r.2.2]) ∧ OwnS w' w.heap.size v r.1) ∧ Below w.heap.size w w'
theorem ParseP.fin {w w' : World} {r q : List Sp × Int × Int} {x : Ending} (h : r = q) (h2 : ParseP w q x w') : ParseP w r x w' := h ▸ h2
theorem uni_len (L : List Sq) : (uni L).length ≤ L.length := by
  have := join_len (srtB L) (srtB L).length
  rw [List.take_length, (srtB_perm L).length_eq] at this
  exact this
set_option maxRecDepth 100000 in
set_option maxHeartbeats 1000000 in
theorem parse_any (s : B) (w : World) (hs : s.length ≤ 5000) (hlen : (lexR s).1.length ≤ 5000) (hdg : DgA (lexR s).1) (hd : Dn w.heap.size w) :
    Calls Tryd.prog 12 #[.string ⟨s.toArray⟩] w (ParseP w (parseR s)) := by
  have KL := Lib.hid (lex_any ⟨s.toArray⟩ w)
  rw [str_eq] at KL
  rcases hl : lexR s with ⟨ts, e, at_⟩
  rw [hl] at KL hlen hdg
  obtain ⟨R, hR⟩ : ∃ R, parseR s = R := ⟨_, rfl⟩
  rw [hR]
  unfold parseR at hR
  rw [hl] at hR
  dsimp only at hR hlen hdg
  rw [← str_size s] at hR hs
  generalize ByteArray.mk s.toArray = bm at *
  have hs' : (bm.size : Int) ≤ 5000 := by omega
  have HD := Lib.hid hd
  have HDG := Lib.hid hdg
  have HLN := Lib.hid hlen
  clear hl hd hdg
  go_enter Tryd.func12, Tryd.ntmps12
  go_wp2_with fail
  refine KL.out.mono ?_
  rintro x w2 ⟨⟨v, rfl, ov⟩, b2⟩
  dsimp only at ov ⊢
  obtain ⟨ao, c, rfl, hc, ht⟩ := ov.toks
  have B2 := Lib.hid b2
  by_cases he : e = 0
  rotate_left
  · rw [if_pos he] at hR
    have HR := Lib.hid hR.symm
    have he2 : (e == 0) = false := by rw [beq_eq_false_iff_ne]; exact he
    clear hR ov ht b2 KL
    go_wp2
    go_ret3
    exact ParseP.fin HR.out ⟨⟨_, rfl, OwnS.nil _ _⟩, B2.out⟩
  subst he
  rw [if_neg (by simp)] at hR
  have DN2 := HD.out.below b2
  have KR := Lib.hid (read_any ao ts.length c bm.size ts w2 rfl hc ht HDG.out ⟨Nat.lt_of_lt_of_le DN2.1 b2.size, DN2.2⟩ (by omega))
  obtain ⟨n, hn⟩ : ∃ n, ts.length = n := ⟨_, rfl⟩
  rw [hn] at KR hc ⊢
  clear hn hlen
  clear ov ht b2 KL DN2
  go_wp2_with fail
  refine KR.out.mono ?_
  intro x w3 hx
  cases hT : textR bm.size ts with
  | error f =>
    rw [hT] at hx hR
    have ec := textR_ec hT
    obtain ⟨f1, f2⟩ := f
    obtain ⟨rfl, b3⟩ := hx
    have HR := Lib.hid (show R = ([], f1, f2) from hR.symm)
    have B3 := Lib.hid (B2.out.trans (b3.mono B2.out.size))
    dsimp only [Ec] at ec ⊢
    have hf1 : (f1 == 0) = false := by rw [beq_eq_false_iff_ne]; omega
    have hf2 : ¬ f1 = 0 := by omega
    clear hR hT b3 KR ec
    go_wp2
    go_ret3
    exact ParseP.fin HR.out ⟨⟨_, rfl, OwnS.nil _ _⟩, B3.out⟩
  | ok L =>
    rw [hT] at hx hR
    obtain ⟨ok1, ok2⟩ := textR_ok hT
    obtain ⟨⟨v3, rfl, o3⟩, b3⟩ := hx
    have B3 := Lib.hid (B2.out.trans (b3.mono B2.out.size))
    obtain ⟨a3, c3, hv3, hc3, _, _, t3⟩ := spt_of o3
    obtain ⟨k, hk⟩ : ∃ k, L.length = k := ⟨_, rfl⟩
    rw [hk] at hv3 hc3
    subst hv3
    have KJ := Lib.hid (joined_any a3 k c3 L w3 hk t3 (by have := HLN.out; omega))
    have OK1 := Lib.hid ok1
    have HR := Lib.hid (show (if 60 < (uni L).length then ([], 2, (bm.size : Int)) else (uni L, 0, 0)) = R from hR)
    clear hR hT b3 KR o3 t3 ok1
    go_wp2_with fail
    refine KJ.out.mono ?_
    rintro x w4 ⟨⟨v4, l2, rfl, j1, j2, j3⟩, b4⟩
    rw [join_uni OK1.out j1 j2] at j3
    have B4 := Lib.hid (B3.out.trans (b4.mono B3.out.size))
    have O4 := Lib.hid (show OwnS w4 w.heap.size v4 (uni L) from Own.base_le j3 B3.out.size)
    have ul := uni_len L
    obtain ⟨a4, c4, hv4, hc4, _⟩ := Own.shape O4.out
    generalize hU : uni L = U at *
    obtain ⟨m, hm⟩ : ∃ m, U.length = m := ⟨_, rfl⟩
    rw [hm] at hv4 hc4 HR ul
    subst hv4
    clear j1 j2 j3 b4 KJ hU
    by_cases h60 : 60 < m
    · have h1 : (60 : Int) < (m : Int) := by omega
      have HR2 := Lib.hid (HR.out.symm.trans (if_pos h60))
      clear HR
      go_wp2
      go_ret3
      exact ParseP.fin HR2.out ⟨⟨_, rfl, OwnS.nil _ _⟩, B4.out⟩
    · have h1 : ¬ (60 : Int) < (m : Int) := by omega
      have HR2 := Lib.hid (HR.out.symm.trans (if_neg h60))
      clear HR
      go_wp2
      go_ret3
      exact ParseP.fin HR2.out ⟨⟨_, rfl, O4.out⟩, B4.out⟩
end Go.Proofs.YtgbkjdpjilldmaaDoor.Hr
