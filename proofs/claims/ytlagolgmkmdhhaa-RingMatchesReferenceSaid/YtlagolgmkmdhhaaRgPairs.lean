/- ring.pairs: the iterator's contract. -/
import Derived.Test.YtlagolgmkmdhhaaRgSorted
namespace Go.Proofs.Ytlagolgmkmdhhaa.Rg
open Go.RowKit Go.Sort Go.Shelf
open Go.Proofs.Ytlagolgmkmdhhaa.Geo hiding intOf
attribute [local go_sem] Oper.semAt_some
set_option maxRecDepth 100000 in
theorem pairs_any (a : Option Addr) (n c : Nat) (w : World) :
    Calls Try.prog 21 #[.slice a n c] w fun e w' => e = .returned (.func (.func 38) #[] #[.pointer (some ⟨w.heap.size, 0, none⟩)]) ∧ w.alloc (.cells #[.slice a n c] 42) = w' := by
  go_enter Try.func21, Try.ntmps21
  go_wp2
  go_ret
  exact ⟨rfl, rfl⟩
def sdAt (L : List Sd) (k : Nat) : Sd := L.getD k default
theorem sdAt_get {L : List Sd} {k : Nat} (h : k < L.length) : L[k]? = some (sdAt L k) := by
  unfold sdAt; rw [List.getD_eq_getElem?_getD, List.getElem?_eq_getElem h]; rfl
/-- what a round of a loop over the pairs is handed. -/
abbrev encp (L : List Sd) (x : Fin L.length × Fin L.length) : Array Value := #[.agg (encSd (sdAt L x.1.val)).toArray, .agg (encSd (sdAt L x.2.val)).toArray]
/-- the pairs whose boxes have a common point. -/
def Cond (L : List Sd) (x : Fin L.length × Fin L.length) : Prop := x.1.val < x.2.val ∧ (sdAt L x.2.val).a.x ≤ (sdAt L x.1.val).b.x ∧ levelN (sdAt L x.1.val) (sdAt L x.2.val) = true
theorem asc_x {L : List Sd} (h : Asc L) {i j : Nat} (hij : i ≤ j) (hj : j < L.length) : (sdAt L i).a.x ≤ (sdAt L j).a.x := by
  rcases Nat.lt_or_eq_of_le hij with h1 | rfl
  · have := List.pairwise_iff_getElem.1 h i j (by omega) hj h1
    have e1 := sdAt_get (L := L) (k := i) (by omega)
    have e2 := sdAt_get hj
    rw [List.getElem?_eq_getElem (by omega)] at e1 e2
    injection e1 with e1
    injection e2 with e2
    rw [e1, e2] at this
    rw [cmp_le] at this
    omega
  · exact Int.le_refl _
/-- the sides in a block of their own kind. -/
def SdsT (W : World) (g : Nat) (L : List Sd) : Prop := ∃ cs, IsRow W g 45 cs ∧ ∀ k s, L[k]? = some s → ∀ j u, (encSd s)[j]? = some u → cs[k * 6 + j]? = some u
theorem ownS_sdsT {w : World} {base : Nat} {v : Value} {l : List Sd} (h : OwnS w base v l) (h0 : 0 < l.length) : ∃ g cap, v = .slice (some ⟨g, 0, none⟩) l.length cap ∧ base ≤ g ∧ l.length ≤ cap ∧ SdsT w g l := by
  obtain ⟨h1, ⟨_, hz⟩ | ⟨g, cap, cur, rfl, hb, hg, hc1, _, _, ht⟩⟩ := h
  · omega
  · refine ⟨g, cap, rfl, hb, hc1, cur, hg, fun k s hk j u hj => ?_⟩
    have hkl := (List.getElem?_eq_some_iff.1 hk).1
    have hj6 : j < 6 := by have := (List.getElem?_eq_some_iff.1 hj).1; rwa [encSd_len] at this
    have e := flatS_get l (k * 6 + j)
    rw [show (k * 6 + j) / 6 = k by omega, show (k * 6 + j) % 6 = j by omega, hk] at e
    simp only [Option.bind_some] at e
    rw [hj, ← ht, List.getElem?_take, if_pos (by omega)] at e
    simpa using e
theorem SdsT.cells {W : World} {g k : Nat} {L : List Sd} (h : SdsT W g L) (hk : k < L.length) : W.cell? ⟨g, k * 6, none⟩ = some (.int .i64 (sdAt L k).a.x) ∧ W.cell? ⟨g, k * 6 + 1, none⟩ = some (.int .i64 (sdAt L k).a.y) ∧ W.cell? ⟨g, k * 6 + 2, none⟩ = some (.int .i64 (sdAt L k).b.x) ∧
    W.cell? ⟨g, k * 6 + 3, none⟩ = some (.int .i64 (sdAt L k).b.y) ∧ W.cell? ⟨g, k * 6 + 4, none⟩ = some (.int .i64 (sdAt L k).r) ∧ W.cell? ⟨g, k * 6 + 5, none⟩ = some (.int .i64 (sdAt L k).p) := by
  obtain ⟨cs, hr, hc⟩ := h
  have := hc k _ (sdAt_get hk)
  exact ⟨(hr.get _).trans (this 0 _ rfl), (hr.get _).trans (this 1 _ rfl), (hr.get _).trans (this 2 _ rfl), (hr.get _).trans (this 3 _ rfl), (hr.get _).trans (this 4 _ rfl), (hr.get _).trans (this 5 _ rfl)⟩
theorem SdsT.kept {A : Nat} {W W' : World} {g : Nat} {L : List Sd} (h : SdsT W g L) (hk : KpT A 45 42 W W') : SdsT W' g L := by
  obtain ⟨cs, hr, hc⟩ := h
  exact ⟨cs, hk.row hr (.inr (.inl rfl)), hc⟩
set_option maxRecDepth 100000 in
set_option maxHeartbeats 2000000 in
theorem pairs_stops (m : Nat) (hm : 1 ≤ m) (g cap : Nat) (L : List Sd) (n box : Nat) (w : World) (hbox : IsRow w box 42 #[.slice (some ⟨g, 0, none⟩) n cap]) (hL : SdsT w g L) (hn : n = L.length) (h2 : n ≤ 5000) (hcap : n ≤ cap) (hasc : Asc L) :
    SeqStopsK Fence.wide m Try.prog 38 #[.pointer (some ⟨box, 0, none⟩)] (encp L) (KpT 0 45 42) (fun xs => ∀ x, x ∈ xs ↔ Cond L x) (fun pre => ∀ x ∈ pre, Cond L x) (L.length * L.length) w := fun y J Jx W hW hJ hJx hY h0 => by
  have RB : IsRow W box 42 #[.slice (some ⟨g, 0, none⟩) n cap] := hbox.below hW hbox.inside
  have HS : Hid (SdsT W g L) := hL.kept (A := 0) (KpT.of_below hW)
  have c0 := RB.get 0
  have HRB := Lib.hid RB
  have HN := Lib.hid hn
  have HA := Lib.hid hasc
  clear hn RB hL hbox hasc
  refine callsIn_of_wp Try.func38 rfl trivial ?_ rfl
  simp only [Try.ntmps38, List.size_toArray, List.length_cons, List.length_nil, Nat.reduceAdd, Nat.reduceSub, Array.replicate_succ, Array.replicate_zero, List.push_toArray, List.append_toArray, List.nil_append, List.cons_append]
  gi_wp2
  gi_loopw [9] (fun i wr => ∃ k : Nat, k ≤ n ∧ i = .int .i64 k ∧ Hid (KpT 0 45 42 W wr) ∧ Hid (∃ pre, J pre wr ∧ (∀ x, x ∈ pre ↔ (x.1.val < k ∧ Cond L x)) ∧ pre.length ≤ k * n)) (fun i _ => n - (intOf i).toNat)
  case atStart => exact ⟨0, by omega, rfl, Lib.hid (KpT.refl _), [], h0, fun x => by simp, by simp⟩
  case round =>
    obtain ⟨k, hk, rfl, hb, hp⟩ := hrel
    by_cases hlt : k < n
    · have hlt' : k < L.length := HN.out ▸ hlt
      obtain ⟨e0, e1, e2, e3, e4, e5⟩ := (HS.out.kept hb.out).cells hlt'
      have HJ0 := Lib.hid hJ
      have HJx0 := Lib.hid hJx
      have HY0 := Lib.hid hY
      clear hJ hJx hY
      gi_upto_region 3 with fail
      obtain ⟨V, hV⟩ : ∃ V, wr.alloc (.cells #[.int .i64 (sdAt L k).a.x, .int .i64 (sdAt L k).a.y, .int .i64 (sdAt L k).b.x, .int .i64 (sdAt L k).b.y, .int .i64 (sdAt L k).r, .int .i64 (sdAt L k).p] 45) = V := ⟨_, rfl⟩
      have BV : Below wr.heap.size wr V := hV ▸ alloc1 _ _
      have R4 : Hid (IsRow V wr.heap.size 45 (encSd (sdAt L k)).toArray) := hV ▸ IsRow.made wr _ _
      have hb' : Hid (KpT 0 45 42 W V) := hb.out.trans (KpT.of_below BV)
      have hp' : Hid (∃ pre, J pre V ∧ (∀ x, x ∈ pre ↔ (x.1.val < k ∧ Cond L x) ∨ (x.1.val = k ∧ x.2.val < k + 1 + 0 ∧ Cond L x)) ∧ pre.length ≤ k * n + 0) := by
        obtain ⟨pre, p1, p2, p3⟩ := hp.out
        refine ⟨pre, HJ0.out _ _ _ none p1 (grown_of_below BV none) (fun r e => by cases e), fun x => ?_, p3⟩
        rw [p2]
        refine ⟨.inl, fun h => h.elim id (fun h => ?_)⟩
        have := h.2.2.1
        omega
      rw [hV]
      have HBK := Lib.hid (show wr.heap.size < V.heap.size from R4.out.inside)
      generalize wr.heap.size = bk at *
      clear hV BV e0 e1 e2 e3 e4 e5 hb hp
      have cb : V.cell? ⟨box, 0, none⟩ = some (.slice (some ⟨g, 0, none⟩) n cap) := (hb'.out.row HRB.out (.inr (.inr rfl))).get 0
      have i1 : ((k : Int) + 1) ≤ (n : Int) := by omega
      have i2 : (n : Int) ≤ (cap : Int) := by omega
      by_cases hlast : cap = k + 1
      · obtain rfl : n = k + 1 := by omega
        have hz : Hid (k + 1 - (k + 1) = 0) := Nat.sub_self _
        gi_wp2_with fail
        gi_loopw [19] (fun i wr => i = .int .i64 0 ∧ Hid (KpT 0 45 42 V wr) ∧ Hid (∃ pre, J pre wr ∧ (∀ x, x ∈ pre ↔ (x.1.val < k ∧ Cond L x) ∨ (x.1.val = k ∧ x.2.val < k + 1 + 0 ∧ Cond L x)) ∧ pre.length ≤ k * (k + 1) + 0)) (fun _ _ => 0)
        case atStart => exact ⟨rfl, Lib.hid (KpT.refl _), hp'⟩
        case round =>
          obtain ⟨rfl, hkv, hpq⟩ := hrel
          have HO : Hid (∃ pre, J pre wr ∧ (∀ x, x ∈ pre ↔ (x.1.val < k + 1 ∧ Cond L x)) ∧ pre.length ≤ (k + 1) * (k + 1)) := by
            obtain ⟨pre, p1, p2, p3⟩ := hpq.out
            refine ⟨pre, p1, fun x => ?_, by have : (k + 1) * (k + 1) = k * (k + 1) + (k + 1) := by rw [Nat.add_mul, Nat.one_mul]
                                             omega⟩
            rw [p2]
            refine ⟨fun h => h.elim (fun h => ⟨by omega, h.2⟩) (fun h => ⟨by omega, h.2.2⟩), fun h => ?_⟩
            have h1 := x.2.isLt
            have h2 := h.2.1
            have h3 := HN.out
            exact .inl ⟨by omega, h.2⟩
          have HKV := Lib.hid (hb'.out.trans hkv.out)
          clear hpq hp' hkv hb' cb
          gi_wp2
          go_roundw
          case rel => exact ⟨k + 1, by omega, by go_num, HKV, HO⟩
          case measure => simp [intOf]
      · gi_wp2_with fail
        gi_loopw [19] (fun i wr => ∃ q : Nat, q ≤ n - (k + 1) ∧ i = .int .i64 q ∧ Hid (KpT 0 45 42 V wr) ∧ Hid (∃ pre, J pre wr ∧ (∀ x, x ∈ pre ↔ (x.1.val < k ∧ Cond L x) ∨ (x.1.val = k ∧ x.2.val < k + 1 + q ∧ Cond L x)) ∧ pre.length ≤ k * n + q)) (fun i _ => n - (intOf i).toNat)
        case atStart => exact ⟨0, by omega, rfl, Lib.hid (KpT.refl _), hp'⟩
        case round =>
          obtain ⟨q, hq, rfl, hkv, hpq⟩ := hrel
          by_cases hlq : q < n - (k + 1)
          · obtain ⟨j, hj⟩ : ∃ j, k + 1 + q = j := ⟨_, rfl⟩
            have hjn : j < n := by omega
            have hjL : j < L.length := by have := HN.out; omega
            have hsum : (k + 1) * 6 + q * 6 = j * 6 := by omega
            obtain ⟨e0, e1, e2, e3, e4, e5⟩ := (HS.out.kept (hb'.out.trans hkv.out)).cells hjL
            rw [← hsum] at e0 e1 e2 e3 e4 e5
            have HJQ := Lib.hid hj
            clear hj hsum
            gi_upto_region 6 with fail
            obtain ⟨U, hU⟩ : ∃ U, wr.alloc (.cells #[.int .i64 (sdAt L j).a.x, .int .i64 (sdAt L j).a.y, .int .i64 (sdAt L j).b.x, .int .i64 (sdAt L j).b.y, .int .i64 (sdAt L j).r, .int .i64 (sdAt L j).p] 45) = U := ⟨_, rfl⟩
            have BU : Below wr.heap.size wr U := hU ▸ alloc1 _ _
            have R6 : Hid (IsRow U wr.heap.size 45 (encSd (sdAt L j)).toArray) := hU ▸ IsRow.made wr _ _
            have kU : Hid (KpT 0 45 42 V U) := hkv.out.trans (KpT.of_below BU)
            have R4U : Hid (IsRow U bk 45 (encSd (sdAt L k)).toArray) := kU.out.row R4.out (.inr (.inl rfl))
            have pU : Hid (∃ pre, J pre U ∧ (∀ x, x ∈ pre ↔ (x.1.val < k ∧ Cond L x) ∨ (x.1.val = k ∧ x.2.val < j ∧ Cond L x)) ∧ pre.length ≤ k * n + q) := by
              obtain ⟨pre, p1, p2, p3⟩ := hpq.out
              refine ⟨pre, HJ0.out _ _ _ none p1 (grown_of_below BU none) (fun r e => by cases e), fun x => ?_, p3⟩
              rw [p2, HJQ.out]
            rw [hU]
            generalize wr.heap.size = b6 at *
            clear hU BU e0 e1 e2 e3 e4 e5 hpq hkv hp'
            obtain ⟨c0, c1, c2, c3, c4, c5⟩ : U.cell? ⟨bk, 0, none⟩ = some (.int .i64 (sdAt L k).a.x) ∧ U.cell? ⟨bk, 1, none⟩ = some (.int .i64 (sdAt L k).a.y) ∧ U.cell? ⟨bk, 2, none⟩ = some (.int .i64 (sdAt L k).b.x) ∧ U.cell? ⟨bk, 3, none⟩ = some (.int .i64 (sdAt L k).b.y) ∧ U.cell? ⟨bk, 4, none⟩ = some (.int .i64 (sdAt L k).r) ∧ U.cell? ⟨bk, 5, none⟩ = some (.int .i64 (sdAt L k).p) := ⟨R4U.out.get 0, R4U.out.get 1, R4U.out.get 2, R4U.out.get 3, R4U.out.get 4, R4U.out.get 5⟩
            obtain ⟨d0, d1, d2, d3, d4, d5⟩ : U.cell? ⟨b6, 0, none⟩ = some (.int .i64 (sdAt L j).a.x) ∧ U.cell? ⟨b6, 1, none⟩ = some (.int .i64 (sdAt L j).a.y) ∧ U.cell? ⟨b6, 2, none⟩ = some (.int .i64 (sdAt L j).b.x) ∧ U.cell? ⟨b6, 3, none⟩ = some (.int .i64 (sdAt L j).b.y) ∧ U.cell? ⟨b6, 4, none⟩ = some (.int .i64 (sdAt L j).r) ∧ U.cell? ⟨b6, 5, none⟩ = some (.int .i64 (sdAt L j).p) := ⟨R6.out.get 0, R6.out.get 1, R6.out.get 2, R6.out.get 3, R6.out.get 4, R6.out.get 5⟩
            have hmul : k * n + n = (k + 1) * n := by rw [Nat.add_mul, Nat.one_mul]
            by_cases hbr : (sdAt L j).a.x > (sdAt L k).b.x
            · have HO : Hid (∃ pre, J pre U ∧ (∀ x, x ∈ pre ↔ (x.1.val < k + 1 ∧ Cond L x)) ∧ pre.length ≤ (k + 1) * n) := by
                obtain ⟨pre, p1, p2, p3⟩ := pU.out
                refine ⟨pre, p1, fun x => ?_, by omega⟩
                rw [p2]
                refine ⟨fun h => h.elim (fun h => ⟨by omega, h.2⟩) (fun h => ⟨by omega, h.2.2⟩), fun h => ?_⟩
                by_cases hx : x.1.val < k
                · exact .inl ⟨hx, h.2⟩
                · have hxk : x.1.val = k := by omega
                  refine .inr ⟨hxk, Nat.lt_of_not_le (fun hle => ?_), h.2⟩
                  have h1 := asc_x HA.out hle x.2.isLt
                  have h2 := h.2.2.1
                  rw [hxk] at h2
                  omega
              have HKV := Lib.hid (hb'.out.trans kU.out)
              clear pU hb' kU cb hmul
              gi_wp2
              go_roundw
              case rel => exact ⟨k + 1, by omega, by go_num, HKV, HO⟩
              case measure => simp [intOf]; omega
            · have hbr' : (sdAt L j).a.x ≤ (sdAt L k).b.x := by omega
              obtain ⟨lv, hlv⟩ : ∃ lv, levelN (sdAt L k) (sdAt L j) = lv := ⟨_, rfl⟩
              have LV := Lib.hid ((isLevel_any (sdAt L k) (sdAt L j)).to (by rw [hlv]))
              have HLV := Lib.hid hlv
              clear hlv
              gi_wp2_with fail
              refine ⟨trivial, ?_⟩
              refine (callsIn_wide.2 (LV.out _)).mono ?_
              rintro e U2 ⟨rfl, hb2⟩
              have kU2 : Hid (KpT 0 45 42 V U2) := kU.out.trans (KpT.of_below hb2)
              have R4' : Hid (IsRow U2 bk 45 (encSd (sdAt L k)).toArray) := R4U.out.below hb2 R4U.out.inside
              have R6' : Hid (IsRow U2 b6 45 (encSd (sdAt L j)).toArray) := R6.out.below hb2 R6.out.inside
              have pU2 : Hid (∃ pre, J pre U2 ∧ (∀ x, x ∈ pre ↔ (x.1.val < k ∧ Cond L x) ∨ (x.1.val = k ∧ x.2.val < j ∧ Cond L x)) ∧ pre.length ≤ k * n + q) := by
                obtain ⟨pre, p1, p2, p3⟩ := pU.out
                exact ⟨pre, HJ0.out _ _ _ none p1 (grown_of_below hb2 none) (fun r e => by cases e), p2, p3⟩
              clear c0 c1 c2 c3 c4 c5 d0 d1 d2 d3 d4 d5 hb2 pU kU R4U R6
              cases lv with
              | false =>
                have HO : Hid (∃ pre, J pre U2 ∧ (∀ x, x ∈ pre ↔ (x.1.val < k ∧ Cond L x) ∨ (x.1.val = k ∧ x.2.val < k + 1 + (q + 1) ∧ Cond L x)) ∧ pre.length ≤ k * n + (q + 1)) := by
                  obtain ⟨pre, p1, p2, p3⟩ := pU2.out
                  refine ⟨pre, p1, fun x => ?_, by omega⟩
                  rw [p2]
                  have hjq := HJQ.out
                  refine ⟨fun h => h.elim .inl (fun h => .inr ⟨h.1, by omega, h.2.2⟩), fun h => h.elim .inl (fun h => .inr ⟨h.1, Nat.lt_of_not_le (fun hle => ?_), h.2.2⟩)⟩
                  have hx2 : x.2.val = j := by omega
                  have h3 := h.2.2.2.2
                  rw [h.1, hx2, HLV.out] at h3
                  cases h3
                clear pU2 cb hmul
                gi_wp2
                refine ⟨fun _ h => (by cases h), ?_⟩
                gi_wp2
                go_roundw
                case rel => exact ⟨q + 1, by omega, by go_num, kU2, HO⟩
                case measure => simp [intOf]; omega
              | true =>
                obtain ⟨c0, c1, c2, c3, c4, c5⟩ : U2.cell? ⟨bk, 0, none⟩ = some (.int .i64 (sdAt L k).a.x) ∧ U2.cell? ⟨bk, 1, none⟩ = some (.int .i64 (sdAt L k).a.y) ∧ U2.cell? ⟨bk, 2, none⟩ = some (.int .i64 (sdAt L k).b.x) ∧ U2.cell? ⟨bk, 3, none⟩ = some (.int .i64 (sdAt L k).b.y) ∧ U2.cell? ⟨bk, 4, none⟩ = some (.int .i64 (sdAt L k).r) ∧ U2.cell? ⟨bk, 5, none⟩ = some (.int .i64 (sdAt L k).p) := ⟨R4'.out.get 0, R4'.out.get 1, R4'.out.get 2, R4'.out.get 3, R4'.out.get 4, R4'.out.get 5⟩
                obtain ⟨d0, d1, d2, d3, d4, d5⟩ : U2.cell? ⟨b6, 0, none⟩ = some (.int .i64 (sdAt L j).a.x) ∧ U2.cell? ⟨b6, 1, none⟩ = some (.int .i64 (sdAt L j).a.y) ∧ U2.cell? ⟨b6, 2, none⟩ = some (.int .i64 (sdAt L j).b.x) ∧ U2.cell? ⟨b6, 3, none⟩ = some (.int .i64 (sdAt L j).b.y) ∧ U2.cell? ⟨b6, 4, none⟩ = some (.int .i64 (sdAt L j).r) ∧ U2.cell? ⟨b6, 5, none⟩ = some (.int .i64 (sdAt L j).p) := ⟨R6'.out.get 0, R6'.out.get 1, R6'.out.get 2, R6'.out.get 3, R6'.out.get 4, R6'.out.get 5⟩
                obtain ⟨pre, p1, p2, p3⟩ := pU2.out
                have hC : Cond L (⟨k, hlt'⟩, ⟨j, hjL⟩) := ⟨by have := HJQ.out; simp only; omega, hbr', HLV.out⟩
                have hNN : pre.length < L.length * L.length := by
                  have h5 : n * n = L.length * L.length := by rw [HN.out]
                  rw [← h5]
                  have : (k + 1) * n ≤ n * n := Nat.mul_le_mul_right n (by omega)
                  omega
                obtain ⟨fn, tmps, assign, body, hy, hR⟩ := HY0.out pre (⟨k, hlt'⟩, ⟨j, hjL⟩) U2 p1 hNN
                dsimp only [encp, encSd] at hy
                have P2 := Lib.hid p2
                have P3 := Lib.hid p3
                have HC := Lib.hid hC
                clear p1 p2 p3 hC hNN pU2 cb hmul
                gi_wp2_with fail
                refine hR.mono ?_
                rintro e W3 (⟨rfl, hJ3, hK3⟩ | ⟨rfl, hJx3⟩)
                · have HK3 := Lib.hid (kU2.out.trans hK3)
                  have HO : Hid (∃ pre, J pre W3 ∧ (∀ x, x ∈ pre ↔ (x.1.val < k ∧ Cond L x) ∨ (x.1.val = k ∧ x.2.val < k + 1 + (q + 1) ∧ Cond L x)) ∧ pre.length ≤ k * n + (q + 1)) := by
                    refine ⟨_, hJ3, fun x => ?_, by rw [List.length_append]; have := P3.out; simp; omega⟩
                    rw [List.mem_append, P2.out, List.mem_singleton]
                    have hjq := HJQ.out
                    constructor
                    · rintro ((h | h) | rfl)
                      · exact .inl h
                      · exact .inr ⟨h.1, by omega, h.2.2⟩
                      · exact .inr ⟨rfl, by simp only; omega, HC.out⟩
                    · rintro (h | h)
                      · exact .inl (.inl h)
                      · by_cases hx : x.2.val < j
                        · exact .inl (.inr ⟨h.1, hx, h.2.2⟩)
                        · exact .inr (Prod.ext (Fin.ext h.1) (Fin.ext (by simp only; omega)))
                  clear hJ3 hK3 c0 c1 c2 c3 c4 c5 d0 d1 d2 d3 d4 d5 hR hy
                  gi_wp2
                  go_roundw
                  case rel => exact ⟨q + 1, by omega, by go_num, HK3, HO⟩
                  case measure => simp [intOf]; omega
                · have HSP : Hid (∀ x ∈ pre ++ [(⟨k, hlt'⟩, ⟨j, hjL⟩)], Cond L x) := fun x hx => by
                    rcases List.mem_append.1 hx with hx | hx
                    · exact ((P2.out x).1 hx).elim (fun h => h.2) (fun h => h.2.2)
                    · rw [List.mem_singleton] at hx; subst hx; exact HC.out
                  clear c0 c1 c2 c3 c4 c5 d0 d1 d2 d3 d4 d5 hR hy
                  gi_wp2
                  refine bodyPost_ret (results_none rfl _ _ _) rfl ?_
                  exact ⟨⟨_, rfl⟩, .inr ⟨_, HSP.out, hJx3⟩⟩
          · have HO : Hid (∃ pre, J pre wr ∧ (∀ x, x ∈ pre ↔ (x.1.val < k + 1 ∧ Cond L x)) ∧ pre.length ≤ (k + 1) * n) := by
              obtain ⟨pre, p1, p2, p3⟩ := hpq.out
              have hmul : k * n + n = (k + 1) * n := by rw [Nat.add_mul, Nat.one_mul]
              refine ⟨pre, p1, fun x => ?_, by omega⟩
              rw [p2]
              refine ⟨fun h => h.elim (fun h => ⟨by omega, h.2⟩) (fun h => ⟨by omega, h.2.2⟩), fun h => ?_⟩
              have h1 := x.2.isLt
              have h3 := HN.out
              by_cases hx : x.1.val < k
              · exact .inl ⟨hx, h.2⟩
              · exact .inr ⟨by omega, by omega, h.2⟩
            have HKV := Lib.hid (hb'.out.trans hkv.out)
            clear hpq hp' hkv hb' cb
            gi_wp2
            go_roundw
            case rel => exact ⟨k + 1, by omega, by go_num, HKV, HO⟩
            case measure => simp [intOf]; omega
    · have HO : Hid (∃ pre, J pre wr ∧ (∀ x, x ∈ pre ↔ Cond L x)) := by
        obtain ⟨pre, p1, p2, _⟩ := hp.out
        refine ⟨pre, p1, fun x => ?_⟩
        rw [p2]
        have h1 := x.1.isLt
        have h3 := HN.out
        exact ⟨fun h => h.2, fun h => ⟨by omega, h⟩⟩
      clear hp hJ hJx hY
      gi_wp2
      go_end0
      obtain ⟨pre, p1, p2⟩ := HO.out
      exact ⟨⟨_, rfl⟩, .inl ⟨pre, p2, p1⟩⟩
end Go.Proofs.Ytlagolgmkmdhhaa.Rg
