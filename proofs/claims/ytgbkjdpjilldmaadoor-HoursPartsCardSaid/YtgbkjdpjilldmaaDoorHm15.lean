/- Merged: HrAcc, HrSym, HrAdd, HrNum. -/
import Derived.Test.YtgbkjdpjilldmaaDoorHm14
import Derived.Lib.Atoi
import Derived.Test.YtgbkjdpjilldmaaDoorHnShelf
import Derived.Lib.AtoiErrMem
/- hours: the reader in memory; tokens.accept. -/
namespace Go.Proofs.YtgbkjdpjilldmaaDoor.Hr
open Go.RowKit Go.Sort Go.Shelf
open Lx (IsRow alloc1 drew_below Tk B Toks vTok set3 below3 facts3 infoTok)
open St (Sp encS encS_len encS_one)
/-- a number's text: at most seven digits. -/
def Dg (t : B) : Prop := t.length ≤ 7 ∧ Lib.atoi t = some (valN t : Int) ∧ valN t ≤ 9999999
def DgA (ts : List Tk) : Prop := ∀ t ∈ ts, t.k = 2 → Dg t.t
/-- a reader at g, with what it made from b on. -/
def Rh (w : World) (g b e : Nat) (ts : List Tk) (L : List Sp) : Prop :=
  b ≤ g ∧ ∃ ao n c sv, IsRow w g 78 #[.slice ao n c, .int .i64 (e : Int), sv] ∧ ts.length = n ∧ n ≤ c ∧ Toks w b ao ts ∧ OwnS w b sv L ∧ DgA ts
/-- what a reader keeps: all ahead of b, and each row that is neither a reader nor spans. -/
def Kf (b : Nat) (w w' : World) : Prop := Below b w w' ∧ ∀ k t cs, t ≠ 78 → t ≠ 40 → IsRow w k t cs → IsRow w' k t cs
theorem Kf.refl (b : Nat) (w : World) : Kf b w w := ⟨Below.refl _ _, fun _ _ _ _ _ h => h⟩
theorem Kf.trans {b : Nat} {w w1 w2 : World} (h : Kf b w w1) (k : Kf b w1 w2) : Kf b w w2 := ⟨h.1.trans k.1, fun i t cs h1 h2 r => k.2 i t cs h1 h2 (h.2 i t cs h1 h2 r)⟩
theorem Kf.of_below {b : Nat} {w w' : World} (h : Below w.heap.size w w') (hb : b ≤ w.heap.size) : Kf b w w' := ⟨h.mono hb, fun _ _ _ _ _ r => r.below h r.inside⟩
theorem Rh.inside {w : World} {g b e : Nat} {ts : List Tk} {L : List Sp} (h : Rh w g b e ts L) : b ≤ w.heap.size := by
  obtain ⟨h1, _, _, _, _, r, _⟩ := h
  have := r.inside
  omega
theorem Rh.later {w w' : World} {g b e : Nat} {ts : List Tk} {L : List Sp} (h : Rh w g b e ts L) (hb : Below w.heap.size w w') : Rh w' g b e ts L := by
  have hz := h.inside
  obtain ⟨h1, ao, n, c, sv, r, hn, hc, ht, ho, hdg⟩ := h
  exact ⟨h1, ao, n, c, sv, r.below hb r.inside, hn, hc, ht.below hb hz, Own.below ho hb, hdg⟩
theorem Toks.tail {w : World} {b : Nat} {g off : Nat} {t : Tk} {r : List Tk} (h : Toks w b (some ⟨g, off, none⟩) (t :: r)) : Toks w b (some ⟨g, off + 3, none⟩) r := fun h0 => by
  obtain ⟨g2, o2, e, hg, hc⟩ := h (by simp)
  injection e with e
  injection e with e1 e2
  subst e1 e2
  refine ⟨g, off + 3, rfl, hg, fun k t hk => ?_⟩
  have := hc (k + 1) t (by simpa using hk)
  rw [show off + (k + 1) * 3 = off + 3 + k * 3 by omega] at this
  exact this
theorem OwnS.off {w : World} {b g : Nat} {sv : Value} {L : List Sp} {T : TypeId} {cs : Array Value} (h : OwnS w b sv L) (r : IsRow w g T cs) (hT : T ≠ 40) : sv.ownBlock ≠ some g := by
  obtain ⟨h1, ⟨hv, _⟩ | ⟨g', cap', cur, hv, hbase, hb, hc1, hc2, hc3, ht⟩⟩ := h
  · subst hv
    intro e
    cases e
  · subst hv
    intro e
    have e2 : g' = g := by
      injection e
    subst e2
    unfold IsRow at r
    rw [r] at hb
    injection hb with hb
    injection hb with _ hb _
    exact hT hb
theorem Kf.put {b g : Nat} {w : World} {cs : Array Value} (r : IsRow w g 78 cs) (hb : b ≤ g) (i : Nat) (v : Value) : Kf b w (w.setCell ⟨g, i, none⟩ v) := by
  refine ⟨(Below.refl _ _).setCell (p := ⟨g, i, none⟩) hb v, fun k t cs' h1 _ r' => r'.putOther (fun e => ?_) v⟩
  subst e
  unfold IsRow at r r'
  rw [r] at r'
  injection r' with r'
  injection r' with _ r' _
  exact h1 r'.symm
theorem Rh.step {w : World} {g b e n c : Nat} {ts : List Tk} {L : List Sp} {v0 sv : Value} {ao : Option Addr} (r : IsRow w g 78 #[v0, .int .i64 (e : Int), sv]) (ho : OwnS w b sv L) (ht : Toks w b ao ts) (hb : b ≤ g) (hn : ts.length = n) (hc : n ≤ c) (hdg : DgA ts) :
    Rh (w.setCell ⟨g, 0, none⟩ (.slice ao n c)) g b e ts L := by
  have r2 : IsRow (w.setCell ⟨g, 0, none⟩ (.slice ao n c)) g 78 #[.slice ao n c, .int .i64 (e : Int), sv] := by
    have := r.put 0 (.slice ao n c)
    simpa using this
  refine ⟨hb, ao, n, c, sv, r2, hn, hc, ht.below ((Below.refl b w).setCell (p := ⟨g, 0, none⟩) hb _) (Nat.le_refl _), ?_, hdg⟩
  exact Own.kept ho (Lx.grown_put w g 0 _) (.inr (ho.off r (by decide)))
/-- what accept answers and leaves. -/
def AccP (g b e : Nat) (L : List Sp) (ts : List Tk) (w : World) (o : Option (List Tk)) (x : Ending) (w' : World) : Prop :=
  match o with
  | some r => x = .returned (.bool true) ∧ Rh w' g b e r L ∧ Kf b w w'
  | none => x = .returned (.bool false) ∧ Rh w' g b e ts L ∧ Kf b w w'
theorem AccP.no {g b e : Nat} {L : List Sp} {ts : List Tk} {w w' : World} {o : Option (List Tk)} {x : Ending} (ho : o = none) (hx : x = .returned (.bool false)) (h1 : Rh w' g b e ts L) (h2 : Kf b w w') : AccP g b e L ts w o x w' := by
  subst ho
  exact ⟨hx, h1, h2⟩
theorem AccP.yes {g b e : Nat} {L : List Sp} {ts r : List Tk} {w w' : World} {o : Option (List Tk)} {x : Ending} (ho : o = some r) (hx : x = .returned (.bool true)) (h1 : Rh w' g b e r L) (h2 : Kf b w w') : AccP g b e L ts w o x w' := by
  subst ho
  exact ⟨hx, h1, h2⟩
set_option maxRecDepth 100000 in
set_option maxHeartbeats 1000000 in
theorem acc_any (g b e : Nat) (k : Int) (s : B) (ts : List Tk) (L : List Sp) (w : World) (h : Rh w g b e ts L) (hk : k ≠ 0) :
    Calls Tryd.prog 45 #[.pointer (some ⟨g, 0, none⟩), .int .i64 k, .string ⟨s.toArray⟩] w (AccP g b e L ts w (acc k s ts)) := by
  have H := Lib.hid h
  have hz := Lib.hid h.inside
  obtain ⟨h1, ao, n, c, sv, r, hn, hc, ht, ho, hdg⟩ := h
  obtain ⟨c0, c1, _, f0, _, _⟩ := facts3 r
  have NX := Lib.hid (tnext_any g e n c ts ao w c0 c1 hn (ht.more hz.out) hc r.inside)
  have hgw := Lib.hid r.inside
  cases ts with
  | nil =>
    have hk0 : ((0 : Int) == k) = false := by rw [beq_eq_false_iff_ne]; exact fun e => hk e.symm
    have N2 := Lib.hid (show Calls Tryd.prog 62 #[.pointer (some ⟨g, 0, none⟩)] w fun x w' => x = .returned (.agg #[.int .i64 0, .string ⟨#[]⟩, .int .i64 (e : Int)]) ∧ Below w.heap.size w w' from NX.out)
    clear NX r hn ht ho c0 c1 f0 hdg
    go_enter Tryd.func45, Tryd.ntmps45
    go_wp2_with fail
    refine N2.out.mono ?_
    rintro x w2 ⟨rfl, b2⟩
    have b3 := alloc1 w2 (.cells #[.int .i64 0, .string ⟨#[]⟩, .int .i64 (e : Int)] 47)
    have r3 := IsRow.made w2 47 #[.int .i64 0, .string ⟨#[]⟩, .int .i64 (e : Int)]
    have B3 := Lib.hid (b2.trans (b3.mono b2.size))
    clear N2 b2
    go_upto_region 2 with fail
    obtain ⟨w3, hw3⟩ : ∃ w3, w2.alloc (.cells #[.int .i64 0, .string ⟨#[]⟩, .int .i64 (e : Int)] 47) = w3 := ⟨_, rfl⟩
    rw [hw3] at B3 r3 ⊢
    obtain ⟨y0, y1, y2, _, _, _⟩ := facts3 r3
    clear b3 r3 hw3
    go_wp2
    go_ret
    exact AccP.no rfl rfl (H.out.later B3.out) (Kf.of_below B3.out hz.out)
  | cons t q =>
    obtain ⟨g2, o2, rfl, hg2, hcells⟩ := ht (by simp)
    obtain ⟨k', tt, a⟩ := t
    have N2 := Lib.hid (show Calls Tryd.prog 62 #[.pointer (some ⟨g, 0, none⟩)] w fun x w' => x = .returned (.agg #[.int .i64 k', .string ⟨tt.toArray⟩, .int .i64 (a : Int)]) ∧ Below w.heap.size w w' from NX.out)
    have AC := Lib.hid (show acc k s (⟨k', tt, a⟩ :: q) = if k' = k ∧ tt = s then some q else none from rfl)
    have HT := Lib.hid (Toks.tail ht)
    have HN := Lib.hid (show q.length = n - 1 from by have := hn; simp at this; omega)
    have hn1 : 1 ≤ n := by have := hn; simp at this; omega
    have hn1' : (1 : Int) ≤ (n : Int) := by omega
    have hc' : (n : Int) ≤ (c : Int) := by omega
    have HO := Lib.hid ho
    have HDG := Lib.hid (show DgA q from fun t ht => hdg t (List.mem_cons_of_mem _ ht))
    have HR := Lib.hid r
    clear NX r hn ht ho hcells hdg
    go_enter Tryd.func45, Tryd.ntmps45
    go_wp2_with fail
    refine N2.out.mono ?_
    rintro x w2 ⟨rfl, b2⟩
    have b3 := alloc1 w2 (.cells #[.int .i64 k', .string ⟨tt.toArray⟩, .int .i64 (a : Int)] 47)
    have r3 := IsRow.made w2 47 #[.int .i64 k', .string ⟨tt.toArray⟩, .int .i64 (a : Int)]
    have B3 := Lib.hid (b2.trans (b3.mono b2.size))
    clear N2 b2
    go_upto_region 2 with fail
    obtain ⟨w3, hw3⟩ : ∃ w3, w2.alloc (.cells #[.int .i64 k', .string ⟨tt.toArray⟩, .int .i64 (a : Int)] 47) = w3 := ⟨_, rfl⟩
    rw [hw3] at B3 r3 ⊢
    obtain ⟨y0, y1, y2, _, _, _⟩ := facts3 r3
    clear b3 r3 hw3
    by_cases e1 : k' = k
    · subst e1
      by_cases e2 : tt = s
      · subst e2
        have d0 := (B3.out.cell (p := ⟨g, 0, none⟩) hgw.out).trans c0
        have R3 := Lib.hid (HR.out.below B3.out hgw.out)
        have f3 := R3.out.open_ 0
        clear c0 c1 f0
        have hlast : ¬ (n : Int) < 1 := by omega
        have FIN := Lib.hid (fun (v : Value) (hv : ∃ ao, v = .slice ao (n - 1) (c - 1) ∧ Toks w b ao q) => (show Rh (w3.setCell ⟨g, 0, none⟩ v) g b e q L ∧ Kf b w (w3.setCell ⟨g, 0, none⟩ v) from by
          obtain ⟨ao, rfl, hq⟩ := hv
          exact ⟨Rh.step R3.out (Own.below HO.out B3.out) (hq.below B3.out hz.out) h1 HN.out (by omega) HDG.out, (Kf.of_below B3.out hz.out).trans (Kf.put R3.out h1 _ _)⟩))
        by_cases hcap : (c : Int) = 1
        · obtain rfl : q = [] := List.eq_nil_of_length_eq_zero (by rw [HN.out]; omega)
          go_wp2
          go_ret
          obtain ⟨z1, z2⟩ := FIN.out _ ⟨some ⟨g2, o2, none⟩, rfl, fun h => by cases h⟩
          exact AccP.yes (by rw [AC.out]; simp) rfl z1 z2
        go_wp2
        go_ret
        obtain ⟨z1, z2⟩ := FIN.out _ ⟨_, rfl, HT.out⟩
        exact AccP.yes (by rw [AC.out]; simp) rfl z1 z2
      · have e3 : (tt == s) = false := by rw [beq_eq_false_iff_ne]; exact e2
        go_wp2
        go_ret
        exact AccP.no (by rw [AC.out, if_neg (fun h => e2 h.2)]) rfl (H.out.later B3.out) (Kf.of_below B3.out hz.out)
    · have e3 : (k' == k) = false := by rw [beq_eq_false_iff_ne]; exact e1
      go_wp2
      go_ret
      exact AccP.no (by rw [AC.out, if_neg (fun h => e1 h.1)]) rfl (H.out.later B3.out) (Kf.of_below B3.out hz.out)
end Go.Proofs.YtgbkjdpjilldmaaDoor.Hr
/- hours: tokens.symbol. -/
namespace Go.Proofs.YtgbkjdpjilldmaaDoor.Hr
open Go.RowKit Go.Sort Go.Shelf
open Lx (IsRow alloc1 drew_below Tk B Toks vTok set3 below3 facts3 infoTok)
open St (Sp encS encS_len encS_one)
/-- what a reading answers and leaves: its result, or a panic with the failure. -/
def RdP {α : Type} (b : Nat) (w : World) (R : Except Fl α) (ok : α → Ending → World → Prop) (x : Ending) (w' : World) : Prop :=
  match R with
  | .ok a => ok a x w' ∧ Kf b w w'
  | .error f => x = .panicked [{ v := .iface 73 (vFl f), recovered := false }] ∧ Kf b w w'
theorem RdP.yes {α : Type} {b : Nat} {w w' : World} {R : Except Fl α} {ok : α → Ending → World → Prop} {x : Ending} {a : α} (h : R = .ok a) (h1 : ok a x w') (h2 : Kf b w w') : RdP b w R ok x w' := by
  subst h; exact ⟨h1, h2⟩
theorem RdP.no {α : Type} {b : Nat} {w w' : World} {R : Except Fl α} {ok : α → Ending → World → Prop} {x : Ending} {f : Fl} (h : R = .error f) (h1 : x = .panicked [{ v := .iface 73 (vFl f), recovered := false }]) (h2 : Kf b w w') : RdP b w R ok x w' := by
  subst h; exact ⟨h1, h2⟩
/-- unexpected, of a reader. -/
theorem unexp_rh {g b e : Nat} {ts : List Tk} {L : List Sp} {w : World} (h : Rh w g b e ts L) :
    Calls Tryd.prog 48 #[.pointer (some ⟨g, 0, none⟩)] w fun x w' => x = .returned (vFl (unexp e ts)) ∧ Below w.heap.size w w' := by
  have hz := h.inside
  obtain ⟨h1, ao, n, c, sv, r, hn, hc, ht, ho, _⟩ := h
  obtain ⟨c0, c1, _, f0, _, _⟩ := facts3 r
  exact unexp_any g e n c ts ao w c0 c1 hn (ht.more hz) hc r.inside
set_option maxRecDepth 100000 in
set_option maxHeartbeats 1000000 in
theorem sym_any (g b e : Nat) (s : B) (ts : List Tk) (L : List Sp) (w : World) (h : Rh w g b e ts L) :
    Calls Tryd.prog 76 #[.pointer (some ⟨g, 0, none⟩), .string ⟨s.toArray⟩] w (RdP b w (symR s e ts) (fun r x w' => x = .returned (.tuple #[]) ∧ Rh w' g b e r L)) := by
  have AC := Lib.hid (acc_any g b e 4 s ts L w h (by decide))
  obtain ⟨R, hR⟩ : ∃ R, symR s e ts = R := ⟨_, rfl⟩
  rw [hR]
  unfold symR at hR
  cases ho : acc 4 s ts with
  | some r =>
    rw [ho] at AC hR
    have HR := Lib.hid hR
    clear ho hR h
    go_enter Tryd.func76, Tryd.ntmps76
    go_wp2_with fail
    refine AC.out.mono ?_
    rintro x w2 ⟨rfl, h2, k2⟩
    go_wp2
    exact bodyPost_end (results_none rfl _ _ _) rfl (RdP.yes HR.out.symm ⟨rfl, h2⟩ k2)
  | none =>
    rw [ho] at AC hR
    have HR := Lib.hid hR
    clear ho hR h
    go_enter Tryd.func76, Tryd.ntmps76
    go_wp2_with fail
    refine AC.out.mono ?_
    rintro x w2 ⟨rfl, h2, k2⟩
    have UN := Lib.hid (unexp_rh h2)
    have hz := Lib.hid h2.inside
    have K2 := Lib.hid k2
    clear AC k2
    go_wp2_with fail
    refine UN.out.mono ?_
    rintro x w3 ⟨rfl, b3⟩
    have K3 := Lib.hid (K2.out.trans (Kf.of_below b3 hz.out))
    clear b3 K2 UN h2
    go_wp2
    exact ⟨rfl, RdP.no HR.out.symm rfl K3.out⟩
end Go.Proofs.YtgbkjdpjilldmaaDoor.Hr
/- hours: reader.add. -/
namespace Go.Proofs.YtgbkjdpjilldmaaDoor.Hr
open Go.RowKit Go.Sort Go.Shelf
open Lx (IsRow alloc1 drew_below Tk B Toks vTok set3 below3 facts3 infoTok)
open St (Sp encS encS_len encS_one)
theorem Kf.own {b : Nat} {w w' : World} {sv : Value} {L : List Sp} (h : OwnS w b sv L) (hg : w.grownBy w' sv.ownBlock) (hb : b ≤ w.heap.size) : Kf b w w' :=
  ⟨(Below.refl b w).grown hg hb (fun k hk => (World.ownsRow.lt h k hk).1), fun _ _ _ _ h2 r => r.grown hg (h.off r h2)⟩
/-- what an append of one span and its store leave. -/
theorem app3 {w w3 w7 : World} {g b e n c : Nat} {L M : List Sp} {sv v7 : Value} {ao : Option Addr} (r : IsRow w g 78 #[.slice ao n c, .int .i64 (e : Int), sv]) (ho : OwnS w b sv L) (hb : b ≤ g)
    (h3 : Below w.heap.size w w3) (hg : w3.grownBy w7 sv.ownBlock) (h7 : OwnS w7 b v7 M) :
    IsRow (w7.setCell ⟨g, 2, none⟩ v7) g 78 #[.slice ao n c, .int .i64 (e : Int), v7] ∧ OwnS (w7.setCell ⟨g, 2, none⟩ v7) b v7 M ∧ Kf b w (w7.setCell ⟨g, 2, none⟩ v7) := by
  have hz : b ≤ w.heap.size := by have := r.inside; omega
  have r3 := r.below h3 r.inside
  have o3 : OwnS w3 b sv L := Own.below ho h3
  have r7 := r3.grown hg (OwnS.off o3 r3 (by decide))
  have k7 := (Kf.of_below h3 hz).trans (Kf.own o3 hg (Nat.le_trans hz h3.size))
  have r8 : IsRow (w7.setCell ⟨g, 2, none⟩ v7) g 78 #[.slice ao n c, .int .i64 (e : Int), v7] := by
    have := r7.put 2 v7
    simpa using this
  exact ⟨r8, Own.kept h7 (Lx.grown_put w7 g 2 _) (.inr (OwnS.off h7 r7 (by decide))), k7.trans (Kf.put r7 hb _ _)⟩
theorem Own.slc {w : World} {b : Nat} {v : Value} {L : List Sp} (h : OwnS w b v L) : ∃ a k c, v = .slice a k c := by
  obtain ⟨a, c, hv, _⟩ := Own.shape h
  exact ⟨a, _, c, hv⟩
theorem open3 {w w3 w7 : World} {g b e n c : Nat} {L : List Sp} {sv : Value} {ao : Option Addr} (r : IsRow w g 78 #[.slice ao n c, .int .i64 (e : Int), sv]) (ho : OwnS w b sv L)
    (h3 : Below w.heap.size w w3) (hg : w3.grownBy w7 sv.ownBlock) : w7.frozen? ⟨g, 2, none⟩ = false ∧ ∃ v, w7.cell? ⟨g, 2, none⟩ = some v := by
  have r3 := r.below h3 r.inside
  have o3 : OwnS w3 b sv L := Own.below ho h3
  have r7 := r3.grown hg (OwnS.off o3 r3 (by decide))
  exact ⟨r7.open_ 2, _, r7.get 2⟩
set_option maxRecDepth 100000 in
set_option maxHeartbeats 1000000 in
theorem add_any (g b e : Nat) (f t : Int) (ts : List Tk) (L : List Sp) (w : World) (h : Rh w g b e ts L) (hL : L.length ≤ 80000) (h0 : 0 ≤ t) (h1 : t ≤ 100000) :
    Calls Tryd.prog 46 #[.pointer (some ⟨g, 0, none⟩), .int .i64 f, .int .i64 t] w (fun x w' => x = .returned (.tuple #[]) ∧ Rh w' g b e ts (L ++ addS f t) ∧ Kf b w w') := by
  have hz := Lib.hid h.inside
  obtain ⟨hb, ao, n, c, sv, r, hn, hc, ht, ho, hdg⟩ := h
  have HDG := Lib.hid hdg
  clear hdg
  obtain ⟨c0, c1, c2, f0, f1, f2⟩ := facts3 r
  have HR := Lib.hid r
  have HO := Lib.hid ho
  have HT := Lib.hid ht
  have HN := Lib.hid hn
  have HC := Lib.hid hc
  obtain ⟨M, hM⟩ : ∃ M, L ++ addS f t = M := ⟨_, rfl⟩
  rw [hM]
  have HM := Lib.hid hM
  clear r ho ht hn hc c0 c1 f0 f1 hM
  by_cases ht : 10080 < t
  · have HG := Lib.hid (show (L ++ [(0, t - 10080)]) ++ [(f, 10080)] = M from by rw [← HM.out]; unfold addS; rw [if_pos ht]; simp)
    have b3 := alloc1 w (.cells #[.int .i64 0, .int .i64 (t - 10080)] 40)
    have ow := Own.below HO.out b3
    have tg := sps_one w 0 (t - 10080)
    have hz3 := Nat.le_trans hz.out b3.size
    have FK := Lib.hid (fun (w7 : World) (hg : (w.alloc (.cells #[.int .i64 0, .int .i64 (t - 10080)] 40)).grownBy w7 sv.ownBlock) => open3 HR.out HO.out b3 hg)
    go_enter Tryd.func46, Tryd.ntmps46
    go_upto_region 3 with (at_builtin; refine wpList_appS rfl _ _ (by rfl) b _ L [(0, t - 10080)] (some ⟨w.heap.size, 0, none⟩) 1 1 (by rfl) ow (by rfl) tg rfl (by omega) hz3 ?_; intro v7 w7 ho7 hg7 hlt7; obtain ⟨aa, k7, c7, rfl⟩ := Own.slc ho7; obtain ⟨ff, vv, cc⟩ := FK.out w7 hg7; obtain ⟨z1, z2, z3⟩ := app3 HR.out HO.out hb b3 hg7 ho7)
    obtain ⟨_, _, d2, _, _, e2⟩ := facts3 z1
    have Z1 := Lib.hid z1
    have Z2 := Lib.hid z2
    have Z3 := Lib.hid z3
    clear ow tg hz3 FK b3 ho7 hg7 hlt7 ff vv cc z1 z2 z3 c2 f2
    generalize w7.setCell ⟨g, 2, none⟩ (.slice aa k7 c7) = wA at *
    have hA := Nat.le_trans hz.out Z3.out.1.size
    have b3 := alloc1 wA (.cells #[.int .i64 f, .int .i64 10080] 40)
    have ow := Own.below Z2.out b3
    have tg := sps_one wA f 10080
    have hz3 := Nat.le_trans hA b3.size
    have FK := Lib.hid (fun (w7 : World) (hg : (wA.alloc (.cells #[.int .i64 f, .int .i64 10080] 40)).grownBy w7 (Value.slice aa k7 c7).ownBlock) => open3 Z1.out Z2.out b3 hg)
    have hlen : (L ++ [((0 : Int), t - 10080)]).length + 1 ≤ 100000 := by simp; omega
    go_wp2_with (at_builtin; refine wpList_appS rfl _ _ (by rfl) b _ (L ++ [(0, t - 10080)]) [(f, 10080)] (some ⟨wA.heap.size, 0, none⟩) 1 1 (by rfl) ow (by rfl) tg rfl hlen hz3 ?_; intro v8 w8 ho8 hg8 hlt8; obtain ⟨a8, k8, c8, rfl⟩ := Own.slc ho8; obtain ⟨ff, vv, cc⟩ := FK.out w8 hg8; obtain ⟨z1, z2, z3⟩ := app3 Z1.out Z2.out hb b3 hg8 ho8)
    have z4 := Z3.out.trans z3
    exact bodyPost_end (results_none rfl _ _ _) rfl ⟨rfl, ⟨hb, ao, n, c, _, z1, HN.out, HC.out, HT.out.below z4.1 (Nat.le_refl _), HG.out ▸ z2, HDG.out⟩, z4⟩
  · have HG := Lib.hid (show L ++ [(f, t)] = M from by rw [← HM.out]; unfold addS; rw [if_neg ht])
    have b3 := alloc1 w (.cells #[.int .i64 f, .int .i64 t] 40)
    have ow := Own.below HO.out b3
    have tg := sps_one w f t
    have hz3 := Nat.le_trans hz.out b3.size
    have FK := Lib.hid (fun (w7 : World) (hg : (w.alloc (.cells #[.int .i64 f, .int .i64 t] 40)).grownBy w7 sv.ownBlock) => open3 HR.out HO.out b3 hg)
    go_enter Tryd.func46, Tryd.ntmps46
    go_wp2_with (at_builtin; refine wpList_appS rfl _ _ (by rfl) b _ L [(f, t)] (some ⟨w.heap.size, 0, none⟩) 1 1 (by rfl) ow (by rfl) tg rfl (by omega) hz3 ?_; intro v7 w7 ho7 hg7 hlt7; obtain ⟨aa, k7, c7, rfl⟩ := Own.slc ho7; obtain ⟨ff, vv, cc⟩ := FK.out w7 hg7; obtain ⟨z1, z2, z3⟩ := app3 HR.out HO.out hb b3 hg7 ho7)
    exact bodyPost_end (results_none rfl _ _ _) rfl ⟨rfl, ⟨hb, ao, n, c, _, z1, HN.out, HC.out, HT.out.below z3.1 (Nat.le_refl _), HG.out ▸ z2, HDG.out⟩, z3⟩
end Go.Proofs.YtgbkjdpjilldmaaDoor.Hr
/- hours: tokens.number. -/
namespace Go.Proofs.YtgbkjdpjilldmaaDoor.Hr
open Go.RowKit Go.Sort Go.Shelf
open Lx (IsRow alloc1 drew_below Tk B Toks vTok set3 below3 facts3 infoTok str_size str_eq results_rowU)
open St (Sp encS encS_len encS_one)
/-- a store into a token's row that is not the reader's. -/
theorem Rh.off1 {w : World} {g b e k : Nat} {ts : List Tk} {L : List Sp} {cs : Array Value} (r : IsRow w k 47 cs) (h : Rh w g b e ts L) (hk : b ≤ k) (i : Nat) (v : Value) : Rh (w.setCell ⟨k, i, none⟩ v) g b e ts L := by
  obtain ⟨h1, ao, n, c, sv, rr, hn, hc, ht, ho, hdg⟩ := h
  refine ⟨h1, ao, n, c, sv, rr.putOther (fun e => ?_) v, hn, hc, ht.below ((Below.refl b w).setCell (p := ⟨k, i, none⟩) hk _) (Nat.le_refl _), Own.kept ho (Lx.grown_put w k i _) (.inr (OwnS.off ho r (by decide))), hdg⟩
  have e : g = k := e
  subst e
  unfold IsRow at rr r
  rw [rr] at r
  injection r with r
  injection r with _ r _
  exact absurd r (by decide)
theorem Rh.off3 {w : World} {g b e k : Nat} {ts : List Tk} {L : List Sp} {x y z : Value} (r : IsRow w k 47 #[x, y, z]) (h : Rh w g b e ts L) (hk : b ≤ k) (u v t : Value) : Rh (((w.setCell ⟨k, 0, none⟩ u).setCell ⟨k, 1, none⟩ v).setCell ⟨k, 2, none⟩ t) g b e ts L :=
  Rh.off1 ((r.put 0 u).put 1 v) (Rh.off1 (r.put 0 u) (Rh.off1 r h hk 0 u) hk 1 v) hk 2 t
theorem Kf.fresh {b k : Nat} {w w' : World} (h : Kf b w w') (hk : w.heap.size ≤ k) (hb : b ≤ w.heap.size) (i : Nat) (v : Value) : Kf b w (w'.setCell ⟨k, i, none⟩ v) :=
  ⟨h.1.setCell (p := ⟨k, i, none⟩) (Nat.le_trans hb hk) v, fun j t cs h1 h2 r => (h.2 j t cs h1 h2 r).putOther (fun e => by have e : j = k := e; have := r.inside; omega) v⟩
theorem atoi_any (l : B) (h : Dg l) (w : World) : Calls Tryd.prog 92 #[.string ⟨l.toArray⟩] w fun e w' => e = .returned (.tuple #[.int .i64 (valN l : Int), .nilIface]) ∧ Below w.heap.size w w' := by
  refine (Tryd.strconv_Atoi ⟨l.toArray⟩ (valN l) (by rw [str_size]; have := h.1; omega) (by rw [str_eq]; exact h.2.1) w).mono ?_
  rintro e w' ⟨rfl, t, rfl⟩
  exact ⟨rfl, Lib.bytesWorld_below _ _ _⟩
set_option maxRecDepth 100000 in
set_option maxHeartbeats 1000000 in
theorem num_any (g b e : Nat) (ts : List Tk) (L : List Sp) (w : World) (h : Rh w g b e ts L) :
    Calls Tryd.prog 86 #[.pointer (some ⟨g, 0, none⟩)] w (RdP b w (numR e ts) (fun r x w' => x = .returned (.tuple #[vTok r.1.k r.1.t r.1.a, .int .i64 (valN r.1.t : Int)]) ∧ Rh w' g b e r.2 L ∧ Dg r.1.t)) := by
  obtain ⟨W, hW⟩ : ∃ W, w.alloc (.cells #[.int .i64 0, .string ⟨#[]⟩, .int .i64 0] 47) = W := ⟨_, rfl⟩
  have B0 : Below w.heap.size w W := hW ▸ alloc1 w _
  have T0 : IsRow W w.heap.size 47 #[.int .i64 0, .string ⟨#[]⟩, .int .i64 0] := hW ▸ IsRow.made w _ _
  have hb0 := h.inside
  have hW2 := h.later B0
  have k0 := Kf.of_below B0 hb0
  have hz := Lib.hid hW2.inside
  have H := Lib.hid hW2
  obtain ⟨h1, ao, n, c, sv, r, hn, hc, ht, ho, hdg⟩ := hW2
  obtain ⟨c0, c1, _, f0, _, _⟩ := facts3 r
  have NX := Lib.hid (tnext_any g e n c ts ao W c0 c1 hn (ht.more hz.out) hc r.inside)
  have HT := Lib.hid T0
  have HB := Lib.hid B0
  have HW := Lib.hid hW
  have K0 := Lib.hid k0
  have HR := Lib.hid r
  have HO := Lib.hid ho
  obtain ⟨R, hR⟩ : ∃ R, numR e ts = R := ⟨_, rfl⟩
  rw [hR]
  cases ts with
  | nil =>
    have N2 := Lib.hid (show Calls Tryd.prog 62 #[.pointer (some ⟨g, 0, none⟩)] W fun x w' => x = .returned (.agg #[.int .i64 0, .string ⟨#[]⟩, .int .i64 (e : Int)]) ∧ Below W.heap.size W w' from NX.out)
    have HR2 := Lib.hid (show R = .error (unexp e []) from hR.symm)
    clear NX B0 T0 k0 hW r ho h hR
    go_enter Tryd.func86, Tryd.ntmps86
    go_upto_region 1 with fail
    rw [HW.out]
    go_wp2_with fail
    refine N2.out.mono ?_
    rintro x w2 ⟨rfl, b2⟩
    have b3 := alloc1 w2 (.cells #[.int .i64 0, .string ⟨#[]⟩, .int .i64 (e : Int)] 47)
    have r3 := IsRow.made w2 47 #[.int .i64 0, .string ⟨#[]⟩, .int .i64 (e : Int)]
    have B3 := Lib.hid (b2.trans (b3.mono b2.size))
    clear N2 b2
    go_upto_region 2 with fail
    obtain ⟨w3, hw3⟩ : ∃ w3, w2.alloc (.cells #[.int .i64 0, .string ⟨#[]⟩, .int .i64 (e : Int)] 47) = w3 := ⟨_, rfl⟩
    rw [hw3] at B3 r3 ⊢
    obtain ⟨y0, y1, y2, _, _, _⟩ := facts3 r3
    clear b3 r3 hw3
    have UN := Lib.hid (unexp_rh (H.out.later B3.out))
    have K3 := Lib.hid (K0.out.trans (Kf.of_below B3.out hz.out))
    have hz3 := Lib.hid (Nat.le_trans hz.out B3.out.size)
    go_wp2_with fail
    refine UN.out.mono ?_
    rintro x w4 ⟨rfl, b4⟩
    have K4 := Lib.hid (K3.out.trans (Kf.of_below b4 hz3.out))
    clear b4 UN
    go_wp2
    exact ⟨rfl, RdP.no HR2.out rfl K4.out⟩
  | cons t q =>
    obtain ⟨k', tt, a⟩ := t
    have N2 := Lib.hid (show Calls Tryd.prog 62 #[.pointer (some ⟨g, 0, none⟩)] W fun x w' => x = .returned (.agg #[.int .i64 k', .string ⟨tt.toArray⟩, .int .i64 (a : Int)]) ∧ Below W.heap.size W w' from NX.out)
    clear NX B0 T0 k0 hW r ho h
    by_cases e1 : k' = 2
    · subst e1
      have HR2 := Lib.hid (show R = .ok (⟨2, tt, a⟩, q) from by rw [← hR]; rfl)
      have DG := Lib.hid (hdg _ (List.mem_cons_self ..) rfl)
      have HDG := Lib.hid (show DgA q from fun t ht => hdg t (List.mem_cons_of_mem _ ht))
      have hn1 : 1 ≤ n := by have := hn; simp at this; omega
      have hn1' : (1 : Int) ≤ (n : Int) := by omega
      have hc' : (n : Int) ≤ (c : Int) := by omega
      have HN := Lib.hid (show q.length = n - 1 from by have := hn; simp at this; omega)
      obtain ⟨g2, o2, rfl, hg2, _⟩ := ht (by simp)
      have HTT := Lib.hid (Toks.tail ht)
      clear hR hdg hn ht
      go_enter Tryd.func86, Tryd.ntmps86
      go_upto_region 1 with fail
      rw [HW.out]
      go_wp2_with fail
      refine N2.out.mono ?_
      rintro x w2 ⟨rfl, b2⟩
      have b3 := alloc1 w2 (.cells #[.int .i64 2, .string ⟨tt.toArray⟩, .int .i64 (a : Int)] 47)
      have r3 := IsRow.made w2 47 #[.int .i64 2, .string ⟨tt.toArray⟩, .int .i64 (a : Int)]
      have B3 := Lib.hid (b2.trans (b3.mono b2.size))
      clear N2 b2
      go_upto_region 2 with fail
      obtain ⟨w3, hw3⟩ : ∃ w3, w2.alloc (.cells #[.int .i64 2, .string ⟨tt.toArray⟩, .int .i64 (a : Int)] 47) = w3 := ⟨_, rfl⟩
      rw [hw3] at B3 r3 ⊢
      obtain ⟨y0, y1, y2, _, _, _⟩ := facts3 r3
      have R3 := Lib.hid r3
      have hgW := HR.out.inside
      have d0 := (B3.out.cell (p := ⟨g, 0, none⟩) hgW).trans c0
      have RR := Lib.hid (HR.out.below B3.out hgW)
      have f3 := RR.out.open_ 0
      have T3 := Lib.hid (HT.out.below B3.out HT.out.inside)
      have FIN := Lib.hid (fun (v : Value) (hv : ∃ ao, v = .slice ao (n - 1) (c - 1) ∧ Toks W b ao q) => (show Rh (w3.setCell ⟨g, 0, none⟩ v) g b e q L ∧ Kf b w3 (w3.setCell ⟨g, 0, none⟩ v) from by
        obtain ⟨ao, rfl, hq⟩ := hv
        exact ⟨Rh.step RR.out (Own.below HO.out B3.out) (hq.below B3.out hz.out) h1 HN.out (by omega) HDG.out, Kf.put RR.out h1 _ _⟩))
      have K3 := Lib.hid (K0.out.trans (Kf.of_below B3.out hz.out))
      have AT := Lib.hid (fun w => atoi_any tt DG.out w)
      clear b3 r3 hw3 c0 c1 f0
      have hz3 := Lib.hid (Nat.le_trans hz.out B3.out.size)
      by_cases hcap : (c : Int) = 1
      · obtain rfl : q = [] := List.eq_nil_of_length_eq_zero (by rw [HN.out]; omega)
        go_upto_region 5 with fail
        obtain ⟨z1, z2⟩ := FIN.out (.slice (some ⟨g2, o2, none⟩) (n - 1) (c - 1)) ⟨some ⟨g2, o2, none⟩, rfl, fun h => by cases h⟩
        obtain ⟨w4, hw4⟩ : ∃ w4, w3.setCell ⟨g, 0, none⟩ (.slice (some ⟨g2, o2, none⟩) (n - 1) (c - 1)) = w4 := ⟨_, rfl⟩
        rw [hw4] at z1 z2 ⊢
        have Z1 := Lib.hid z1
        have R4 := Lib.hid (z2.2 _ _ _ (by decide) (by decide) R3.out)
        have T4 := Lib.hid (z2.2 _ _ _ (by decide) (by decide) T3.out)
        have K4 := Lib.hid (K3.out.trans z2)
        obtain ⟨x0, x1, x2, _, _, _⟩ := facts3 R4.out
        obtain ⟨t0, t1, t2, q0, q1, q2⟩ := facts3 T4.out
        clear z1 z2 hw4 y0 y1 y2 d0 f3 FIN K3 T3 R3 RR
        go_wp2_with fail
        refine (AT.out w4).mono ?_
        rintro x w5 ⟨rfl, b5⟩
        have Z5 := Lib.hid (Z1.out.later b5)
        have R5 := Lib.hid (R4.out.below b5 R4.out.inside)
        have T5 := Lib.hid (T4.out.below b5 T4.out.inside)
        have K5 := Lib.hid (K4.out.trans (Kf.of_below b5 Z1.out.inside))
        obtain ⟨x0, x1, x2, _, _, _⟩ := facts3 R5.out
        obtain ⟨t0, t1, t2, q0, q1, q2⟩ := facts3 T5.out
        clear b5 AT
        go_wp2
        have hr := set3 T5.out (.int .i64 2) (.string ⟨tt.toArray⟩) (.int .i64 (a : Int))
        have zz := Rh.off3 T5.out Z5.out hb0 (.int .i64 2) (.string ⟨tt.toArray⟩) (.int .i64 (a : Int))
        have kk := Kf.fresh (Kf.fresh (Kf.fresh K5.out (Nat.le_refl _) hb0 0 (.int .i64 2)) (Nat.le_refl _) hb0 1 (.string ⟨tt.toArray⟩)) (Nat.le_refl _) hb0 2 (.int .i64 (a : Int))
        refine bodyPost_ret (results_rowU rfl _ _ w.heap.size _ _ rfl hr Tryd.underlying47 infoTok) rfl ?_
        exact RdP.yes HR2.out ⟨rfl, zz, DG.out⟩ kk
      · go_upto_region 5 with fail
        obtain ⟨z1, z2⟩ := FIN.out (.slice (some ⟨g2, o2 + 3, none⟩) (n - 1) (c - 1)) ⟨_, rfl, HTT.out⟩
        obtain ⟨w4, hw4⟩ : ∃ w4, w3.setCell ⟨g, 0, none⟩ (.slice (some ⟨g2, o2 + 3, none⟩) (n - 1) (c - 1)) = w4 := ⟨_, rfl⟩
        rw [hw4] at z1 z2 ⊢
        have Z1 := Lib.hid z1
        have R4 := Lib.hid (z2.2 _ _ _ (by decide) (by decide) R3.out)
        have T4 := Lib.hid (z2.2 _ _ _ (by decide) (by decide) T3.out)
        have K4 := Lib.hid (K3.out.trans z2)
        obtain ⟨x0, x1, x2, _, _, _⟩ := facts3 R4.out
        obtain ⟨t0, t1, t2, q0, q1, q2⟩ := facts3 T4.out
        clear z1 z2 hw4 y0 y1 y2 d0 f3 FIN K3 T3 R3 RR
        go_wp2_with fail
        refine (AT.out w4).mono ?_
        rintro x w5 ⟨rfl, b5⟩
        have Z5 := Lib.hid (Z1.out.later b5)
        have R5 := Lib.hid (R4.out.below b5 R4.out.inside)
        have T5 := Lib.hid (T4.out.below b5 T4.out.inside)
        have K5 := Lib.hid (K4.out.trans (Kf.of_below b5 Z1.out.inside))
        obtain ⟨x0, x1, x2, _, _, _⟩ := facts3 R5.out
        obtain ⟨t0, t1, t2, q0, q1, q2⟩ := facts3 T5.out
        clear b5 AT
        go_wp2
        have hr := set3 T5.out (.int .i64 2) (.string ⟨tt.toArray⟩) (.int .i64 (a : Int))
        have zz := Rh.off3 T5.out Z5.out hb0 (.int .i64 2) (.string ⟨tt.toArray⟩) (.int .i64 (a : Int))
        have kk := Kf.fresh (Kf.fresh (Kf.fresh K5.out (Nat.le_refl _) hb0 0 (.int .i64 2)) (Nat.le_refl _) hb0 1 (.string ⟨tt.toArray⟩)) (Nat.le_refl _) hb0 2 (.int .i64 (a : Int))
        refine bodyPost_ret (results_rowU rfl _ _ w.heap.size _ _ rfl hr Tryd.underlying47 infoTok) rfl ?_
        exact RdP.yes HR2.out ⟨rfl, zz, DG.out⟩ kk
    · have HR2 := Lib.hid (show R = .error (unexp e (⟨k', tt, a⟩ :: q)) from by rw [← hR]; show (if k' = 2 then _ else _) = _; rw [if_neg e1]; rfl)
      have e3 : (k' == 2) = false := by rw [beq_eq_false_iff_ne]; exact e1
      clear hR
      go_enter Tryd.func86, Tryd.ntmps86
      go_upto_region 1 with fail
      rw [HW.out]
      go_wp2_with fail
      refine N2.out.mono ?_
      rintro x w2 ⟨rfl, b2⟩
      have b3 := alloc1 w2 (.cells #[.int .i64 k', .string ⟨tt.toArray⟩, .int .i64 (a : Int)] 47)
      have r3 := IsRow.made w2 47 #[.int .i64 k', .string ⟨tt.toArray⟩, .int .i64 (a : Int)]
      have B3 := Lib.hid (b2.trans (b3.mono b2.size))
      clear N2 b2
      go_upto_region 2 with fail
      obtain ⟨w3, hw3⟩ : ∃ w3, w2.alloc (.cells #[.int .i64 k', .string ⟨tt.toArray⟩, .int .i64 (a : Int)] 47) = w3 := ⟨_, rfl⟩
      rw [hw3] at B3 r3 ⊢
      obtain ⟨y0, y1, y2, _, _, _⟩ := facts3 r3
      clear b3 r3 hw3
      have UN := Lib.hid (unexp_rh (H.out.later B3.out))
      have K3 := Lib.hid (K0.out.trans (Kf.of_below B3.out hz.out))
      have hz3 := Lib.hid (Nat.le_trans hz.out B3.out.size)
      go_wp2_with fail
      refine UN.out.mono ?_
      rintro x w4 ⟨rfl, b4⟩
      have K4 := Lib.hid (K3.out.trans (Kf.of_below b4 hz3.out))
      clear b4 UN
      go_wp2
      exact ⟨rfl, RdP.no HR2.out rfl K4.out⟩
end Go.Proofs.YtgbkjdpjilldmaaDoor.Hr
