/- Merged: HrDayIt, HrOwnT, HrClock, HrDay. -/
import Derived.Test.YtgbkjdpjilldmaaGreatDoorHz15
import Derived.Test.YtgbkjdpjilldmaaGreatDoorHz3
import Derived.Test.YtgbkjdpjilldmaaGreatDoorHz13
import Derived.Test.YtgbkjdpjilldmaaGreatDoorHz8
import Derived.Deep.AppendSrc
/- hours: byDay. -/
namespace Go.Proofs.YtgbkjdpjilldmaaGreatDoor.Hr
open Go.RowKit Go.Sort Go.Shelf
open Lx (IsRow alloc1 drew_below keeps_of_below)
attribute [local go_sem] Oper.semAt_some
/-- what the body of a loop over the days keeps: spans. -/
def KpS (W W' : World) : Prop := W.heap.size ≤ W'.heap.size ∧ ∀ (k : Nat) (cs : Array Value) (f : Nat × Nat), W.heap[k]? = some (.cells cs 54 f) → W'.heap[k]? = some (.cells cs 54 f)
section
variable {W W' W'' : World}
theorem KpS.refl (W : World) : KpS W W := ⟨Nat.le_refl _, fun _ _ _ h => h⟩
theorem KpS.trans (h : KpS W W') (k : KpS W' W'') : KpS W W'' := ⟨Nat.le_trans h.1 k.1, fun _ _ _ hc => k.2 _ _ _ (h.2 _ _ _ hc)⟩
theorem KpS.of_below (h : Below W.heap.size W W') : KpS W W' := ⟨h.size, fun i _ _ hc => (h.block i (Array.getElem?_eq_some_iff.1 hc).1).trans hc⟩
theorem KpS.grown {row : Option Nat} (hg : W.grownBy W' row) (hr : ∀ k, row = some k → ∃ cs t, t ≠ 54 ∧ IsRow W k t cs) : KpS W W' :=
  ⟨hg.size, fun i cs f hc => (hg.block i (Array.getElem?_eq_some_iff.1 hc).1 (fun e => by
    obtain ⟨cs', t', h1, h3⟩ := hr i e.symm
    rw [show W.heap[i]? = _ from h3] at hc
    injection hc with hc
    injection hc with _ e2 _
    exact h1 e2)).trans hc⟩
theorem KpS.row {g : Nat} {cs : Array Value} (h : KpS W W') (hr : IsRow W g 54 cs) : IsRow W' g 54 cs := h.2 g cs (0, 0) hr
theorem kpS_b {w : World} (W : World) (l : Nat) (o o' : Obj) (_ : w.heap.size ≤ l) (h : W.heap[l]? = some o) (hc : o.isCells = false) (_ : o.isWalk = false) : KpS W (W.putObj l o') := by
  have hg := grownBy_putObj' W l o'
  refine ⟨hg.size, fun i cs f hi => ?_⟩
  refine (hg.block i (Array.getElem?_eq_some_iff.1 hi).1 (fun e => ?_)).trans hi
  injection e with e
  subst e
  rw [h] at hi
  injection hi with hi
  subst hi
  cases hc
end
def upto (n k : Nat) : List (Fin n) := (List.finRange n).take k
theorem upto_succ (n k : Nat) (hk : k < n) : upto n (k + 1) = upto n k ++ [⟨k, hk⟩] := by
  unfold upto
  rw [List.take_succ_eq_append_getElem (by simpa using hk)]
  simp
theorem upto_len (n k : Nat) (hk : k ≤ n) : (upto n k).length = k := by simp [upto]; omega
theorem upto_full (n : Nat) : upto n n = List.finRange n := List.take_of_length_le (by simp)
set_option maxRecDepth 100000 in
set_option maxHeartbeats 1000000 in
theorem byday_any (f t : Int) (w : World) : Calls Tryz.prog 40 #[.agg #[.int .i64 f, .int .i64 t]] w fun e w' => e = .returned (.func (.func 72) #[] #[.pointer (some ⟨w.heap.size, 0, none⟩)]) ∧ w.alloc (.cells #[.int .i64 f, .int .i64 t] 54) = w' := by
  go_enter Tryz.func40, Tryz.ntmps40
  go_wp2
  go_ret
  exact ⟨rfl, rfl⟩
/-- what the iterator hands to a round. -/
abbrev encD (f t : Nat) {q : Nat} (k : Fin q) : Array Value := #[.int .i64 (dyN f k.val : Int), .agg #[.int .i64 (loN f t k.val : Int), .int .i64 (hiN f t k.val : Int)]]
set_option maxRecDepth 100000 in
set_option maxHeartbeats 2000000 in
theorem byday_stops (m : Nat) (hm : 1 ≤ m) (b f t q : Nat) (hq : nD f t = q) (w : World) (h1 : IsRow w b 54 #[.int .i64 (f : Int), .int .i64 (t : Int)]) (hft : f < t) (ht : t ≤ 10080) :
    SeqStopsK Fence.wide m Tryz.prog 72 #[.pointer (some ⟨b, 0, none⟩)] (encD f t) KpS (fun xs => xs = List.finRange q) (fun _ => True) q w := fun y J Jx W hW hJ hJx hY h0 => by
  have R1 : IsRow W b 54 #[.int .i64 (f : Int), .int .i64 (t : Int)] := h1.below hW h1.inside
  have H0 := Lib.hid (show J (upto q 0) W from h0)
  have HR1 := Lib.hid R1
  have c0 := R1.get 0
  have ht' : (t : Int) ≤ 10080 := by omega
  have HQ := Lib.hid hq
  clear R1 h1 hW h0 hq
  refine callsIn_of_wp Tryz.func72 rfl trivial ?_ rfl
  simp only [Tryz.ntmps72, List.size_toArray, List.length_cons, List.length_nil, Nat.reduceAdd, Nat.reduceSub, Array.replicate_succ, Array.replicate_zero, List.push_toArray, List.append_toArray, List.nil_append, List.cons_append]
  gi_wp2
  clear c0
  gi_loopw [3] (fun s wr => ∃ k : Nat, k ≤ q ∧ s = .int .i64 ((min t (frm f k) : Nat) : Int) ∧ Hid (KpS W wr) ∧ Hid (J (upto q k) wr)) (fun s _ => (t - intOf s).toNat)
  case atStart => exact ⟨0, by omega, by unfold frm; congr 2; omega, Lib.hid (KpS.refl _), H0⟩
  case round =>
    obtain ⟨k, hk, rfl, hb, hJs⟩ := hrel
    have c0 := (hb.out.row HR1.out).get 0
    have d0 := (hb.out.row HR1.out).get 1
    by_cases hlt : k < q
    · have hh := HQ.out
      unfold nD at hh
      obtain ⟨d, hd⟩ : ∃ d, f / 1440 + k = d := ⟨_, rfl⟩
      obtain ⟨c, hc⟩ : ∃ c, min t (frm f k) = c := ⟨_, rfl⟩
      obtain ⟨e, he⟩ : ∃ e, too f t k = e := ⟨_, rfl⟩
      have fc : c < t ∧ d * 1440 ≤ c ∧ c < d * 1440 + 1440 ∧ c < e ∧ e ≤ t ∧ e = min t (d * 1440 + 1440) := by
        unfold frm at hc
        unfold too at he
        omega
      have hn : min t (frm f (k + 1)) = e := by
        unfold frm
        unfold too at he
        omega
      obtain ⟨f1, f2, f3, f4, f5, f6⟩ := fc
      have i1 : (c : Int) < (t : Int) := by omega
      have i2 : (c : Int) / 1440 = (d : Int) := by omega
      have i3 : (c : Int).tdiv 1440 = (d : Int) := by rw [Int.tdiv_eq_ediv_of_nonneg (by omega)]; exact i2
      have i4 : (d : Int) ≤ 7 := by omega
      have i5 : min (t : Int) ((d : Int) * 1440 + 1440) = (e : Int) := by omega
      have i6 : (e : Int) ≤ 10080 := by omega
      have HF := Lib.hid (And.intro f4 hn)
      have HST := Lib.hid (show upto q (k + 1) = upto q k ++ [⟨k, hlt⟩] from upto_succ q k hlt)
      obtain ⟨fn, tmps, assign, body, hy, hR⟩ := hY (upto q k) ⟨k, hlt⟩ wr hJs.out (by rw [upto_len q k hk]; exact hlt)
      dsimp only [encD] at hy
      have g1 : (dyN f k : Int) = (d : Int) := by unfold dyN; rw [hd]
      have g2 : (loN f t k : Int) = (c : Int) - (d : Int) * 1440 := by unfold loN; rw [hd, hc]; omega
      have g3 : (hiN f t k : Int) = (e : Int) - (d : Int) * 1440 := by unfold hiN; rw [hd, he]; omega
      rw [g1, g2, g3] at hy
      clear g1 g2 g3
      rw [hc]
      clear f2 f3 f4 f5 f6 hn hd hc he hh hY
      gi_wp2_with fail
      refine hR.mono ?_
      rintro x W3 (⟨rfl, hJ3, hK3⟩ | ⟨rfl, hJx3⟩)
      · have HK3 := Lib.hid (hb.out.trans hK3)
        have HJ3 := Lib.hid hJ3
        rw [← HST.out] at HJ3
        clear hJ3 hK3 hR hy c0 d0 hb hJs hJ hJx
        gi_wp2
        go_roundw
        case rel => exact ⟨k + 1, by omega, by rw [HF.out.2], HK3, HJ3⟩
        case measure => have := HF.out.1; simp [intOf]; omega
      · clear hR hy c0 d0
        gi_wp2
        refine bodyPost_ret (results_none rfl _ _ _) rfl ?_
        exact ⟨⟨_, rfl⟩, .inr ⟨_, trivial, hJx3⟩⟩
    · obtain rfl : k = q := by omega
      have hh : min t (frm f k) = t := by
        have := HQ.out
        unfold nD at this
        unfold frm
        omega
      rw [hh]
      have hlt2 : ¬ (t : Int) < (t : Int) := by omega
      have HJ := Lib.hid hJs.out
      rw [upto_full] at HJ
      clear hJs hJ hJx hY
      gi_wp2
      go_end0
      exact ⟨⟨_, rfl⟩, .inl HJ.out⟩
end Go.Proofs.YtgbkjdpjilldmaaGreatDoor.Hr
/- hours: owned lists of texts; append of one. -/
namespace Go.Proofs.YtgbkjdpjilldmaaGreatDoor.Hr
open Go.RowKit Go.Sort Go.Shelf
open Lx (IsRow alloc1 B)
def encT (y : B) : List Value := [.string ⟨y.toArray⟩]
theorem encT_len (y : B) : (encT y).length = 1 := rfl
theorem encT_one (y : B) : ∀ u ∈ encT y, u.oneCell' = true := by intro u hu; simp [encT] at hu; subst hu; rfl
abbrev OwnT (w : World) (base : Nat) (v : Value) (l : List B) : Prop := Own encT 1 9 w base v l
theorem OwnT.nil (w : World) (base : Nat) : OwnT w base (.slice none 0 0) [] := World.ownsRow_nil w base _ _
theorem str_info : (Tryz.prog.info? 9).map (fun i => (i.size, i.bytes, i.zero)) = some (1, 16, some (.string ⟨#[]⟩)) := by kernel_rfl
theorem OwnT.row {w : World} {base : Nat} {v : Value} {l : List B} (h : OwnT w base v l) : ∀ k, v.ownBlock = some k → ∃ cs t, t ≠ 54 ∧ IsRow w k t cs := by
  intro k hk
  obtain ⟨_, ⟨rfl, _⟩ | ⟨g, cap, cur, rfl, hb, hg, _⟩⟩ := h
  · cases hk
  · injection hk with hk
    subst hk
    exact ⟨cur, _, by decide, hg⟩
theorem OwnT.ne {w : World} {base : Nat} {v : Value} {l : List B} (h : OwnT w base v l) {g : Nat} {t : TypeId} {cs : Array Value} (hr : IsRow w g t cs) (ht : t ≠ 9) : v.ownBlock ≠ some g := fun e => by
  obtain ⟨_, ⟨rfl, _⟩ | ⟨g', cap, cur, rfl, hb, hg, _⟩⟩ := h
  · cases e
  · injection e with e
    subst e
    rw [show w.heap[g']? = some (.cells cs t (0, 0)) from hr] at hg
    injection hg with hg
    injection hg with _ e2 _
    exact ht e2
theorem ownT_awayH {B' : Nat} {W W' : World} {base : Nat} {v : Value} {l : List B} (h : OwnT W base v l) (ha : AwayH B' W W') : OwnT W' base v l := by
  obtain ⟨row, hg, hr⟩ := ha
  refine Own.kept h hg ?_
  cases hv : v.ownBlock with
  | none => exact .inl rfl
  | some g =>
    refine .inr fun e => ?_
    obtain ⟨_, o, ho, hc⟩ := hr g e.symm
    obtain ⟨cs, t, _, h1⟩ := OwnT.row h g hv
    rw [show W.heap[g]? = some (.cells cs t (0, 0)) from h1] at ho
    injection ho with ho
    subst ho
    cases hc
section
variable {ops : Array Oper} {o : Oper} {a : Act} {Q : Exit → Act → World → Prop} {w : World}
theorem step_appT {K : Act → World → Prop} {E : Prop} (hgd : o.guard = none) (s x : Operand) (ho : o.op = .call { callee := .builtin .append, args := #[s, x], argTypes := #[44, 44] }) (base : Nat) (v : Value) (l : List B) (y : B) (H : Nat)
    (hs : a.eval s = v) (hown : OwnT w base v l) (hx : a.eval x = .slice (some ⟨H, 0, none⟩) 1 1) (hrow : w.heap[H]? = some (.cells (encT y).toArray 9 (0, 0))) (hlen : l.length ≤ 100000) (hbase : base ≤ w.heap.size)
    (h : ∀ g cap w', OwnT w' base (.slice (some ⟨g, 0, none⟩) (l.length + 1) cap) (l ++ [y]) → w.grownBy w' v.ownBlock → (∀ k, v.ownBlock = some k → base ≤ k ∧ k < w.heap.size) →
      K (a.put o.dst (.slice (some ⟨g, 0, none⟩) (l.length + 1) cap)) w') : if Region.wanted o (yielded ops a.tmps) = true then Oper.wp Tryz.prog o a w K Q else E := by
  obtain ⟨i0, hi, hz0, hz1, hz2⟩ := info_of str_info
  refine step_append_lies (P := Tryz.prog) w hgd s x _ ho base 9 i0 _ 1 16 Tryz.underlying44 hi hz2 hz0 hz1 rfl (by decide) v l.length (l.flatMap encT) hs hown _ 1 1 (encT y) hx rfl (World.news_of_block hrow) (encT_one y) (by decide) (by unfold maxLen; omega) (by omega) hbase w.heap.size rfl ?_
  intro g cap w1 h1 h2 _ _
  refine h g cap w1 ?_ h2 hown.lt
  show World.ownsRow _ _ _ _ _ (l ++ [y]).length ((l ++ [y]).flatMap encT)
  rw [List.flatMap_append, List.length_append]
  exact h1
end
end Go.Proofs.YtgbkjdpjilldmaaGreatDoor.Hr
/- hours: reader.clock. -/
namespace Go.Proofs.YtgbkjdpjilldmaaGreatDoor.Hr
open Go.RowKit Go.Sort Go.Shelf
open Lx (IsRow alloc1 drew_below Tk B Toks vTok set3 below3 facts3 infoTok str_size str_eq results_rowU)
open St (Sp encS encS_len encS_one)
/-- number, with the token spelt out. -/
theorem num_any' (g b e : Nat) (ts : List Tk) (L : List Sp) (w : World) (h : Rh w g b e ts L) :
    Calls Tryz.prog 164 #[.pointer (some ⟨g, 0, none⟩)] w (RdP b w (numR e ts) (fun r x w' => x = .returned (.tuple #[.agg #[.int .i64 r.1.k, .string ⟨r.1.t.toArray⟩, .int .i64 (r.1.a : Int)], .int .i64 (valN r.1.t : Int)]) ∧ Rh w' g b e r.2 L ∧ Dg r.1.t)) := num_any g b e ts L w h
set_option maxRecDepth 100000 in
set_option maxHeartbeats 2000000 in
theorem clock_any (g b e most : Nat) (ts : List Tk) (L : List Sp) (w : World) (h : Rh w g b e ts L) (hmost : most ≤ 24) :
    Calls Tryz.prog 147 #[.pointer (some ⟨g, 0, none⟩), .int .i64 most] w (RdP b w (clockR most e ts) (fun r x w' => x = .returned (.tuple #[.int .i64 (r.1.1 : Int), .int .i64 (r.1.2 : Int)]) ∧ Rh w' g b e r.2 L)) := by
  have KN := Lib.hid (num_any' g b e ts L w h)
  have hb0 := Lib.hid h.inside
  obtain ⟨R, hR⟩ : ∃ R, clockR most e ts = R := ⟨_, rfl⟩
  rw [hR]
  unfold clockR at hR
  cases hN : numR e ts with
  | error f =>
    rw [hN] at KN hR
    have HR := Lib.hid (show R = .error f from hR.symm)
    clear hR hN h
    go_enter Tryz.func147, Tryz.ntmps147
    go_wp2_with fail
    refine KN.out.mono ?_
    rintro x w2 ⟨rfl, k2⟩
    exact ⟨rfl, RdP.no HR.out rfl k2⟩
  | ok r1 =>
  obtain ⟨⟨hk, ht, ha⟩, ts1⟩ := r1
  rw [hN] at KN hR
  dsimp only at hR
  clear hN h
  go_enter Tryz.func147, Tryz.ntmps147
  go_wp2_with fail
  refine KN.out.mono ?_
  rintro x w2 ⟨⟨rfl, h2, dg2⟩, k2⟩
  dsimp only at h2 dg2
  have HD := Lib.hid dg2
  obtain ⟨v, hv⟩ : ∃ v, valN ht = v := ⟨_, rfl⟩
  have hv1 : v ≤ 9999999 := by rw [← hv]; exact dg2.2.2
  rw [hv] at hR
  simp only [hv]
  have b3 := alloc1 w2 (.cells #[.int .i64 hk, .string ⟨ht.toArray⟩, .int .i64 (ha : Int)] 108)
  have r3 := IsRow.made w2 108 #[.int .i64 hk, .string ⟨ht.toArray⟩, .int .i64 (ha : Int)]
  have H3 := Lib.hid (h2.later b3)
  have K3 := Lib.hid (k2.trans (Kf.of_below b3 h2.inside))
  clear KN h2 k2 dg2 hv
  go_upto_region 2 with fail
  obtain ⟨w3, hw3⟩ : ∃ w3, w2.alloc (.cells #[.int .i64 hk, .string ⟨ht.toArray⟩, .int .i64 (ha : Int)] 108) = w3 := ⟨_, rfl⟩
  rw [hw3] at H3 K3 r3 ⊢
  obtain ⟨y0, y1, y2, _, _, _⟩ := facts3 r3
  obtain ⟨g3, hg3⟩ : ∃ g3, w2.heap.size = g3 := ⟨_, rfl⟩
  rw [hg3] at r3 y0 y1 y2 ⊢
  have R3 := Lib.hid r3
  clear b3 hw3 r3 hg3
  by_cases c1 : most < v
  · rw [if_pos c1] at hR
    have HR := Lib.hid hR.symm
    have c2 : (most : Int) < (v : Int) := by omega
    clear hR
    go_wp2
    exact ⟨rfl, RdP.no HR.out rfl K3.out⟩
  rw [if_neg c1] at hR
  have c2 : ¬ (most : Int) < (v : Int) := by omega
  have hv24 : v ≤ 24 := by omega
  have KS := Lib.hid (sym_any g b e [58] ts1 L w3 H3.out)
  cases hS : symR [58] e ts1 with
  | error f =>
    rw [hS] at KS hR
    have HR := Lib.hid (show R = .error f from hR.symm)
    clear hR hS
    go_wp2_with fail
    refine KS.out.mono ?_
    rintro x w4 ⟨rfl, k4⟩
    exact ⟨rfl, RdP.no HR.out rfl (K3.out.trans k4)⟩
  | ok ts2 =>
  rw [hS] at KS hR
  dsimp only at hR
  clear hS
  go_wp2_with fail
  refine KS.out.mono ?_
  rintro x w4 ⟨⟨rfl, h4⟩, k4⟩
  have R4 := Lib.hid (k4.2 _ _ _ (by decide) (by decide) R3.out)
  have K4 := Lib.hid (K3.out.trans k4)
  have KN := Lib.hid (num_any' g b e ts2 L w4 h4)
  clear KS K3 H3 h4 k4 y0 y1 y2 R3 c1 c2
  cases hN : numR e ts2 with
  | error f =>
    rw [hN] at KN hR
    have HR := Lib.hid (show R = .error f from hR.symm)
    clear hR hN
    go_wp2_with fail
    refine KN.out.mono ?_
    rintro x w5 ⟨rfl, k5⟩
    exact ⟨rfl, RdP.no HR.out rfl (K4.out.trans k5)⟩
  | ok r1 =>
  obtain ⟨⟨mk, mt, ma⟩, ts3⟩ := r1
  rw [hN] at KN hR
  dsimp only at hR
  clear hN
  go_wp2_with fail
  refine KN.out.mono ?_
  rintro x w5 ⟨⟨rfl, h5, dg5⟩, k5⟩
  dsimp only at h5 dg5
  obtain ⟨u, hu⟩ : ∃ u, valN mt = u := ⟨_, rfl⟩
  have hu1 : u ≤ 9999999 := by rw [← hu]; exact dg5.2.2
  rw [hu] at hR
  simp only [hu]
  have b6 := alloc1 w5 (.cells #[.int .i64 mk, .string ⟨mt.toArray⟩, .int .i64 (ma : Int)] 108)
  have r6 := IsRow.made w5 108 #[.int .i64 mk, .string ⟨mt.toArray⟩, .int .i64 (ma : Int)]
  have H6 := Lib.hid (h5.later b6)
  have R5 := k5.2 _ _ _ (by decide) (by decide) R4.out
  have R6 := Lib.hid (R5.below b6 R5.inside)
  have K6 := Lib.hid ((K4.out.trans k5).trans (Kf.of_below b6 h5.inside))
  clear KN h5 k5 dg5 hu R5 R4 K4
  go_upto_region 6 with fail
  obtain ⟨w6, hw6⟩ : ∃ w6, w5.alloc (.cells #[.int .i64 mk, .string ⟨mt.toArray⟩, .int .i64 (ma : Int)] 108) = w6 := ⟨_, rfl⟩
  rw [hw6] at H6 K6 R6 r6 ⊢
  obtain ⟨g6, hg6⟩ : ∃ g6, w5.heap.size = g6 := ⟨_, rfl⟩
  rw [hg6] at r6 ⊢
  obtain ⟨y0, y1, y2, _, _, _⟩ := facts3 r6
  obtain ⟨x0, x1, x2, _, _, _⟩ := facts3 R6.out
  clear b6 hw6 r6 hg6
  have HSZ := Lib.hid (str_size mt)
  generalize hbm : ByteArray.mk mt.toArray = bm at *
  have e2 : bm.size = mt.length := HSZ.out
  by_cases d1 : mt.length = 2
  rotate_left
  · rw [if_pos (Or.inl d1)] at hR
    have HR := Lib.hid hR.symm
    have d2 : ((bm.size : Int) == 2) = false := by rw [beq_eq_false_iff_ne]; omega
    have d3 : (bm.size == 2) = false := by rw [beq_eq_false_iff_ne]; omega
    clear hR
    go_wp2
    exact ⟨rfl, RdP.no HR.out rfl K6.out⟩
  have d2 : ((bm.size : Int) == 2) = true := by rw [beq_iff_eq]; omega
  have d3 : bm.size = 2 := by omega
  by_cases d4 : 60 ≤ u
  · rw [if_pos (Or.inr (Or.inl d4))] at hR
    have HR := Lib.hid hR.symm
    have d5 : (60 : Int) ≤ (u : Int) := by omega
    clear hR
    go_wp2
    exact ⟨rfl, RdP.no HR.out rfl K6.out⟩
  have d5 : ¬ (60 : Int) ≤ (u : Int) := by omega
  by_cases d6 : v = 24 ∧ 0 < u
  · rw [if_pos (Or.inr (Or.inr d6))] at hR
    have HR := Lib.hid hR.symm
    obtain ⟨rfl, d7⟩ := d6
    have d8 : (0 : Int) < (u : Int) := by omega
    clear hR
    go_wp2
    exact ⟨rfl, RdP.no HR.out rfl K6.out⟩
  rw [if_neg (by rintro (q | q | q); exact q d1; exact d4 q; exact d6 q)] at hR
  have HR := Lib.hid hR.symm
  have e1 : ((v * 60 + u : Nat) : Int) = (v : Int) * 60 + (u : Int) := by omega
  have E1 := Lib.hid e1
  have FINW := Lib.hid (fun j => (show Rh (w6.drewN j) g b e ts3 L ∧ Kf b w (w6.drewN j) from by
    have bb : Below w6.heap.size w6 (w6.drewN j) := ⟨rfl, rfl, rfl, Nat.le_refl _, fun _ _ => rfl⟩
    exact ⟨H6.out.later bb, K6.out.trans (Kf.of_below bb H6.out.inside)⟩))
  clear hR e1
  by_cases d7 : v = 24
  · have d8 : ¬ 0 < u := fun q => d6 ⟨d7, q⟩
    obtain rfl : u = 0 := by omega
    subst d7
    clear d6 d8
    go_upto_region 8 with fail
    go_quiet (fail)
    go_wp2
    go_ret2
    exact RdP.yes HR.out ⟨rfl, (FINW.out _).1⟩ (FINW.out _).2
  · have d8 : ((v : Int) == 24) = false := by rw [beq_eq_false_iff_ne]; omega
    have d9 : (v == 24) = false := by rw [beq_eq_false_iff_ne]; omega
    clear d6
    go_upto_region 8 with fail
    go_quiet (fail)
    go_wp2
    go_ret2
    exact RdP.yes HR.out ⟨(congrArg (fun z => Ending.returned (.tuple #[.int .i64 z, .int .i64 (ha : Int)])) E1.out).symm, (FINW.out _).1⟩ (FINW.out _).2
end Go.Proofs.YtgbkjdpjilldmaaGreatDoor.Hr
/- hours: reader.day. -/
namespace Go.Proofs.YtgbkjdpjilldmaaGreatDoor.Hr
open Go.RowKit Go.Sort Go.Shelf
open Lx (IsRow alloc1 drew_below Tk B Toks vTok set3 below3 facts3 infoTok str_size str_eq results_rowU)
open St (Sp encS encS_len encS_one)
/-- the names of the days lie as they were laid, ahead of b. -/
def Dn (b : Nat) (w : World) : Prop := 0 < b ∧ ∀ i, i < 7 → w.cell? ⟨0, i, none⟩ = some (.string ⟨(dayB i).toArray⟩)
theorem Dn.below {b : Nat} {w w' : World} (h : Dn b w) (hb : Below b w w') : Dn b w' := ⟨h.1, fun i hi => (hb.cell (p := ⟨_, i, none⟩) h.1).trans (h.2 i hi)⟩
theorem dayAt_step (k : Nat) (hk : k < 7) (ts : List Tk) : dayAt k (7 - k) ts = match acc 1 (dayB k) ts with | some r => some (k, r) | none => dayAt (k + 1) (7 - (k + 1)) ts := by
  obtain ⟨f, hf⟩ : ∃ f, 7 - k = f + 1 := ⟨6 - k, by omega⟩
  rw [hf, dayAt, show 7 - (k + 1) = f by omega]
  cases acc 1 (dayB k) ts <;> rfl
theorem day_ix0 (w : World) : (Instr.index 74 (.agg #[.string ⟨#[109, 111]⟩, .string ⟨#[116, 117]⟩, .string ⟨#[119, 101]⟩, .string ⟨#[116, 104]⟩, .string ⟨#[102, 114]⟩, .string ⟨#[115, 97]⟩, .string ⟨#[115, 117]⟩]) (.int .i64 (0 : Int))).run Tryz.prog w = .ok (.string ⟨(dayB 0).toArray⟩) w := by kernel_rfl
theorem day_ix1 (w : World) : (Instr.index 74 (.agg #[.string ⟨#[109, 111]⟩, .string ⟨#[116, 117]⟩, .string ⟨#[119, 101]⟩, .string ⟨#[116, 104]⟩, .string ⟨#[102, 114]⟩, .string ⟨#[115, 97]⟩, .string ⟨#[115, 117]⟩]) (.int .i64 (1 : Int))).run Tryz.prog w = .ok (.string ⟨(dayB 1).toArray⟩) w := by kernel_rfl
theorem day_ix2 (w : World) : (Instr.index 74 (.agg #[.string ⟨#[109, 111]⟩, .string ⟨#[116, 117]⟩, .string ⟨#[119, 101]⟩, .string ⟨#[116, 104]⟩, .string ⟨#[102, 114]⟩, .string ⟨#[115, 97]⟩, .string ⟨#[115, 117]⟩]) (.int .i64 (2 : Int))).run Tryz.prog w = .ok (.string ⟨(dayB 2).toArray⟩) w := by kernel_rfl
theorem day_ix3 (w : World) : (Instr.index 74 (.agg #[.string ⟨#[109, 111]⟩, .string ⟨#[116, 117]⟩, .string ⟨#[119, 101]⟩, .string ⟨#[116, 104]⟩, .string ⟨#[102, 114]⟩, .string ⟨#[115, 97]⟩, .string ⟨#[115, 117]⟩]) (.int .i64 (3 : Int))).run Tryz.prog w = .ok (.string ⟨(dayB 3).toArray⟩) w := by kernel_rfl
theorem day_ix4 (w : World) : (Instr.index 74 (.agg #[.string ⟨#[109, 111]⟩, .string ⟨#[116, 117]⟩, .string ⟨#[119, 101]⟩, .string ⟨#[116, 104]⟩, .string ⟨#[102, 114]⟩, .string ⟨#[115, 97]⟩, .string ⟨#[115, 117]⟩]) (.int .i64 (4 : Int))).run Tryz.prog w = .ok (.string ⟨(dayB 4).toArray⟩) w := by kernel_rfl
theorem day_ix5 (w : World) : (Instr.index 74 (.agg #[.string ⟨#[109, 111]⟩, .string ⟨#[116, 117]⟩, .string ⟨#[119, 101]⟩, .string ⟨#[116, 104]⟩, .string ⟨#[102, 114]⟩, .string ⟨#[115, 97]⟩, .string ⟨#[115, 117]⟩]) (.int .i64 (5 : Int))).run Tryz.prog w = .ok (.string ⟨(dayB 5).toArray⟩) w := by kernel_rfl
theorem day_ix6 (w : World) : (Instr.index 74 (.agg #[.string ⟨#[109, 111]⟩, .string ⟨#[116, 117]⟩, .string ⟨#[119, 101]⟩, .string ⟨#[116, 104]⟩, .string ⟨#[102, 114]⟩, .string ⟨#[115, 97]⟩, .string ⟨#[115, 117]⟩]) (.int .i64 (6 : Int))).run Tryz.prog w = .ok (.string ⟨(dayB 6).toArray⟩) w := by kernel_rfl
theorem day_ix (k : Nat) (hk : k < 7) (w : World) : (Instr.index 74 (.agg #[.string ⟨#[109, 111]⟩, .string ⟨#[116, 117]⟩, .string ⟨#[119, 101]⟩, .string ⟨#[116, 104]⟩, .string ⟨#[102, 114]⟩, .string ⟨#[115, 97]⟩, .string ⟨#[115, 117]⟩]) (.int .i64 (k : Int))).run Tryz.prog w = .ok (.string ⟨(dayB k).toArray⟩) w := by
  match k, hk with
  | 0, _ => exact day_ix0 w
  | 1, _ => exact day_ix1 w
  | 2, _ => exact day_ix2 w
  | 3, _ => exact day_ix3 w
  | 4, _ => exact day_ix4 w
  | 5, _ => exact day_ix5 w
  | 6, _ => exact day_ix6 w
set_option maxRecDepth 100000 in
set_option maxHeartbeats 4000000 in
theorem day_any (g b e : Nat) (ts : List Tk) (L : List Sp) (w : World) (h : Rh w g b e ts L) (hd : Dn b w) :
    Calls Tryz.prog 146 #[.pointer (some ⟨g, 0, none⟩)] w (RdP b w (dayR e ts) (fun r x w' => x = .returned (.int .i64 (r.1 : Int)) ∧ Rh w' g b e r.2 L)) := by
  obtain ⟨R, hR⟩ : ∃ R, dayR e ts = R := ⟨_, rfl⟩
  rw [hR]
  unfold dayR at hR
  have HR := Lib.hid hR
  have H := Lib.hid h
  have HD := Lib.hid hd
  have n0 := hd.2 0 (by omega)
  have n1 := hd.2 1 (by omega)
  have n2 := hd.2 2 (by omega)
  have n3 := hd.2 3 (by omega)
  have n4 := hd.2 4 (by omega)
  have n5 := hd.2 5 (by omega)
  have n6 := hd.2 6 (by omega)
  simp only [dayB] at n0 n1 n2 n3 n4 n5 n6
  clear h hd hR
  go_enter Tryz.func146, Tryz.ntmps146
  go_wp2
  go_loopw [6] (fun i wr => ∃ k : Nat, k ≤ 7 ∧ i = .int .i64 k ∧ Hid (dayAt k (7 - k) ts = dayAt 0 7 ts) ∧ Hid (Rh wr g b e ts L) ∧ Hid (Kf b w wr)) (fun i _ => 7 - (Lx.intOf i).toNat)
  case atStart => exact ⟨0, by omega, rfl, Lib.hid rfl, H, Lib.hid (Kf.refl _ _)⟩
  case round =>
    obtain ⟨k, hk, rfl, HC, HH, HK⟩ := hrel
    by_cases hlt : k < 7
    · have AC := Lib.hid (acc_any g b e 1 (dayB k) ts L wr HH.out (by decide))
      have ST := Lib.hid (dayAt_step k hlt ts)
      have hlt2 : (k : Int) < 7 := by omega
      cases ho : acc 1 (dayB k) ts with
      | some r =>
        rw [ho] at AC ST
        have HE := Lib.hid (show R = .ok (k, r) from by rw [← HR.out, ← HC.out, ST.out])
        clear ho ST HC n0 n1 n2 n3 n4 n5 n6
        have hix := fun w => day_ix k hlt w
        all_goals
          go_wp2_with fail
          refine AC.out.mono ?_
          rintro x w2 ⟨rfl, h2, k2⟩
          have H2 := Lib.hid h2
          have K2 := Lib.hid (HK.out.trans k2)
          clear h2 k2
          go_wp2
          go_ret
          exact RdP.yes HE.out ⟨rfl, H2.out⟩ K2.out
      | none =>
        rw [ho] at AC ST
        have HE := Lib.hid (show dayAt (k + 1) (7 - (k + 1)) ts = dayAt 0 7 ts from by rw [← HC.out, ST.out])
        clear ho ST HC n0 n1 n2 n3 n4 n5 n6
        have hix := fun w => day_ix k hlt w
        all_goals
          go_wp2_with fail
          refine AC.out.mono ?_
          rintro x w2 ⟨rfl, h2, k2⟩
          have H2 := Lib.hid h2
          have K2 := Lib.hid (HK.out.trans k2)
          clear h2 k2
          go_wp2
          go_roundw
          case rel => exact ⟨_, by omega, by go_num, HE, H2, K2⟩
          case measure => simp [Lx.intOf]; omega
    · obtain rfl : k = 7 := by omega
      have HE := Lib.hid (show R = .error (unexp e ts) from by rw [← HR.out, ← HC.out]; rfl)
      have UN := Lib.hid (unexp_rh HH.out)
      have hz := Lib.hid HH.out.inside
      clear HC
      go_wp2_with fail
      refine UN.out.mono ?_
      rintro x w3 ⟨rfl, b3⟩
      have K3 := Lib.hid (HK.out.trans (Kf.of_below b3 hz.out))
      clear b3 UN
      go_wp2
      exact ⟨rfl, RdP.no HE.out rfl K3.out⟩
end Go.Proofs.YtgbkjdpjilldmaaGreatDoor.Hr
