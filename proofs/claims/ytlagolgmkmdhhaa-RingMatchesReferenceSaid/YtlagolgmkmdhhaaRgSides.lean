/- ring.sides: the iterator's contract. -/
import Derived.Test.YtlagolgmkmdhhaaRgTurn
import Derived.Test.YtlagolgmkmdhhaaRgRound
import Derived.RangeFuncNested
import Derived.RangeFuncBound
import Derived.RangeFuncCalls
import Derived.RangeFuncLeaves
import Derived.Shelf.Abstract
import Derived.Shelf.RegionOpen
import Derived.OwnWalkIn
import Derived.TacticsInMore
import Derived.LoopNIn
import Derived.LoopIn
namespace Go.Proofs.Ytlagolgmkmdhhaa.Rg
open Go.RowKit Go.Sort Go.Shelf
open Go.Proofs.Ytlagolgmkmdhhaa.Geo hiding intOf
attribute [local go_sem] Oper.semAt_some
set_option maxRecDepth 100000 in
theorem sides_any (a : Option Addr) (n cap : Nat) (w : World) :
    Calls Try.prog 18 #[.slice a n cap] w fun e w' => e = .returned (.func (.func 36) #[] #[.pointer (some ⟨w.heap.size, 0, none⟩)]) ∧ w.alloc (.cells #[.slice a n cap] 22) = w' := by
  go_enter Try.func18, Try.ntmps18
  go_wp2
  go_ret
  exact ⟨rfl, rfl⟩
/-- what the body of a loop over the sides keeps: all that lies below A, and each block of a kind that it never writes. -/
def KpT (A : Nat) (t1 t2 : TypeId) (W W' : World) : Prop := W.heap.size ≤ W'.heap.size ∧ ∀ k cs t f, (k < A ∨ t = t1 ∨ t = t2) → W.heap[k]? = some (.cells cs t f) → W'.heap[k]? = some (.cells cs t f)
section
variable {A : Nat} {t1 t2 : TypeId} {W W' W'' : World}
theorem KpT.refl (W : World) : KpT A t1 t2 W W := ⟨Nat.le_refl _, fun _ _ _ _ _ h => h⟩
theorem KpT.trans (h : KpT A t1 t2 W W') (k : KpT A t1 t2 W' W'') : KpT A t1 t2 W W'' := ⟨Nat.le_trans h.1 k.1, fun _ _ _ _ hi hc => k.2 _ _ _ _ hi (h.2 _ _ _ _ hi hc)⟩
theorem KpT.of_below (h : Below W.heap.size W W') : KpT A t1 t2 W W' := ⟨h.size, fun i _ _ _ _ hc => (h.block i (Array.getElem?_eq_some_iff.1 hc).1).trans hc⟩
theorem KpT.set {p : Addr} {cs : Array Value} {t : TypeId} (hA : A ≤ p.block) (hb : IsRow W p.block t cs) (h1 : t ≠ t1) (h2 : t ≠ t2) (v : Value) : KpT A t1 t2 W (W.setCell p v) := by
  refine ⟨by simp, fun i ds u f hi hc => ?_⟩
  by_cases e : i = p.block
  · subst e
    rw [show W.heap[p.block]? = some (.cells cs t (0, 0)) from hb] at hc
    injection hc with hc
    injection hc with _ e2 _
    rcases hi with hi | hi | hi
    · omega
    · exact absurd (e2.trans hi) h1
    · exact absurd (e2.trans hi) h2
  · exact (Below.heap_setCell W p v i e).trans hc
theorem kpT_b {w : World} (W : World) (l : Nat) (o o' : Obj) (_ : w.heap.size ≤ l) (h : W.heap[l]? = some o) (hc : o.isCells = false) (_ : o.isWalk = false) : KpT A t1 t2 W (W.putObj l o') := by
  have hg := grownBy_putObj' W l o'
  refine ⟨hg.size, fun i cs t f _ hi => ?_⟩
  refine (hg.block i (Array.getElem?_eq_some_iff.1 hi).1 (fun e => ?_)).trans hi
  injection e with e
  subst e
  rw [h] at hi
  injection hi with hi
  subst hi
  cases hc
theorem KpT.row {g : Nat} {t : TypeId} {cs : Array Value} (h : KpT A t1 t2 W W') (hr : IsRow W g t cs) (hi : g < A ∨ t = t1 ∨ t = t2) : IsRow W' g t cs := h.2 g cs t (0, 0) hi hr
theorem cell_block {p : Addr} {v : Value} (h : W.cell? p = some v) : ∃ cs t f, W.heap[p.block]? = some (.cells cs t f) := by
  unfold World.cell? at h
  cases hb : W.heap[p.block]? with
  | none => rw [hb] at h; cases h
  | some o =>
    cases o with
    | cells cs t f => exact ⟨cs, t, f, rfl⟩
    | _ => rw [hb] at h; cases h
theorem KpT.cell {p : Addr} {v : Value} (h : KpT A t1 t2 W W') (hp : p.block < A) (hc : W.cell? p = some v) : W'.cell? p = some v := by
  obtain ⟨cs, t, f, hb⟩ := cell_block hc
  have hb' := h.2 _ cs t f (.inl hp) hb
  unfold World.cell? at hc ⊢
  rw [hb'] 
  rw [hb] at hc
  exact hc
theorem KpT.pts {a : Option Addr} {l : List Pt} (h : KpT A t1 t2 W W') (hp : Pts W A a l) : Pts W' A a l := fun h0 => by
  obtain ⟨b, off, rfl, hb, hc⟩ := hp h0
  exact ⟨b, off, rfl, hb, fun k p hk => ⟨h.cell hb (hc k p hk).1, h.cell hb (hc k p hk).2⟩⟩
end
/-- points in a block of their own kind. -/
def PtsT (W : World) (a : Option Addr) (l : List Pt) : Prop := 0 < l.length → ∃ g cs, a = some ⟨g, 0, none⟩ ∧ IsRow W g 24 cs ∧ ∀ k p, l[k]? = some p → cs[k * 2]? = some (.int .i64 p.x) ∧ cs[k * 2 + 1]? = some (.int .i64 p.y)
theorem PtsT.kept {A : Nat} {t : TypeId} {W W' : World} {a : Option Addr} {l : List Pt} (h : PtsT W a l) (hk : KpT A 24 t W W') : PtsT W' a l := fun h0 => by
  obtain ⟨g, cs, rfl, hr, hc⟩ := h h0
  exact ⟨g, cs, rfl, hk.row hr (.inr (.inl rfl)), hc⟩
theorem PtsT.pts {W : World} {a : Option Addr} {l : List Pt} (h : PtsT W a l) : Pts W W.heap.size a l := fun h0 => by
  obtain ⟨g, cs, rfl, hr, hc⟩ := h h0
  exact ⟨g, 0, rfl, hr.inside, fun k p hk => by rw [Nat.zero_add, hr.get, hr.get]; exact hc k p hk⟩
theorem ownP_ptsT {w : World} {base : Nat} {v : Value} {l : List Pt} (h : OwnP w base v l) : ∃ a cap, v = .slice a l.length cap ∧ PtsT w a l := by
  obtain ⟨h1, h2⟩ := h
  rcases h2 with ⟨rfl, h0⟩ | ⟨g, cap, cur, rfl, hb, hg, _, _, _, ht⟩
  · exact ⟨none, 0, by rw [h0], fun hp => by omega⟩
  · refine ⟨some ⟨g, 0, none⟩, cap, rfl, fun _ => ⟨g, cur, rfl, hg, fun k p hk => ?_⟩⟩
    obtain ⟨f0, f1⟩ := flat_get hk
    have hkl := (List.getElem?_eq_some_iff.1 hk).1
    rw [← ht, List.getElem?_take, if_pos (by omega)] at f0
    rw [← ht, List.getElem?_take, if_pos (by omega)] at f1
    exact ⟨by simpa using f0, by simpa using f1⟩
theorem turned_ptsT (a : Option Addr) (n cap k : Nat) (l : List Pt) (w : World) (hl : Pts w w.heap.size a l) (hn : n = l.length) (hc : n ≤ cap) (h0 : 0 < k) (hk : k < n) (h2 : n ≤ 2000) :
    Calls Try.prog 37 #[.slice a n cap, .int .i64 k] w fun e w' => (∃ a' c', e = .returned (.slice a' n c') ∧ PtsT w' a' (l.drop k ++ l.take k)) ∧ Below w.heap.size w w' := by
  refine (turned_any a n cap k l w hl hn hc h0 hk h2).mono ?_
  rintro e w' ⟨⟨v, rfl, hv⟩, hb⟩
  obtain ⟨a', c', rfl, hp⟩ := ownP_ptsT hv
  rw [turned_len k hn (by omega)]
  exact ⟨⟨a', c', rfl, hp⟩, hb⟩
/-- the corner at a place, and the next one. -/
def cor (l : List Pt) (k : Nat) : Pt := l.getD k ⟨0, 0⟩
def nxt (l : List Pt) (k : Nat) : Pt := cor (l.drop 1 ++ l.take 1) k
theorem cor_get {l : List Pt} {k : Nat} (h : k < l.length) : l[k]? = some (cor l k) := by
  unfold cor; rw [List.getD_eq_getElem?_getD, List.getElem?_eq_getElem h]; rfl
/-- what the iterator hands to a round. -/
abbrev encs (l : List Pt) (k : Fin l.length) : Array Value := #[.int .i64 (k.val : Int), .agg #[.int .i64 (cor l k.val).x, .int .i64 (cor l k.val).y, .int .i64 (nxt l k.val).x, .int .i64 (nxt l k.val).y]]
def upto (n k : Nat) : List (Fin n) := (List.finRange n).take k
theorem upto_succ (n k : Nat) (hk : k < n) : upto n (k + 1) = upto n k ++ [⟨k, hk⟩] := by
  unfold upto
  rw [List.take_succ_eq_append_getElem (by simpa using hk)]
  simp
theorem upto_len (n k : Nat) (hk : k ≤ n) : (upto n k).length = k := by simp [upto]; omega
theorem upto_full (n : Nat) : upto n n = List.finRange n := List.take_of_length_le (by simp)
theorem upto_all {n k : Nat} {J : List (Fin n) → World → Prop} {w : World} (e : k = n) (h : J (upto n k) w) : J (List.finRange n) w := by subst e; rw [← upto_full]; exact h
theorem yieldAt_args {F : Fence} {m l : Nat} {P : Program} {args args' : Array Value} {W : World} {R : Ending → World → Prop} (h : YieldAt F m P l args W R) (e : args = args') : YieldAt F m P l args' W R := e ▸ h
theorem grown_of_below {w w' : World} (h : Below w.heap.size w w') (row : Option Nat) : w.grownBy w' row := ⟨h.os, h.tape, h.output, h.size, fun i hi _ => h.block i hi⟩
set_option maxRecDepth 100000 in
set_option maxHeartbeats 2000000 in
theorem sides_stops (m : Nat) (hm : 1 ≤ m) (a : Option Addr) (n cap : Nat) (l : List Pt) (A box : Nat) (w : World) (hbox : IsRow w box 22 #[.slice a n cap]) (hl : Pts w A a l) (hA : A ≤ w.heap.size) (hn : n = l.length) (h3 : 2 ≤ n) (h2 : n ≤ 2000) (hcap : n ≤ cap) :
    SeqStopsK Fence.wide m Try.prog 36 #[.pointer (some ⟨box, 0, none⟩)] (encs l) (KpT A 24 22) (fun xs => xs = List.finRange l.length) (fun _ => True) l.length w := fun y J Jx W hW hJ hJx hY h0 => by
  have RB : IsRow W box 22 #[.slice a n cap] := hbox.below hW hbox.inside
  have c0 : W.cell? ⟨box, 0, none⟩ = some (.slice a n cap) := RB.get 0
  have HA : Hid (A ≤ W.heap.size) := Nat.le_trans hA hW.size
  have HL : Hid (Pts W A a l) := hl.below (hW.mono hA)
  have HRB := Lib.hid RB
  have HN := Lib.hid hn
  clear hn RB hl hW hA hbox
  refine callsIn_of_wp Try.func36 rfl trivial ?_ rfl
  simp only [Try.ntmps36, List.size_toArray, List.length_cons, List.length_nil, Nat.reduceAdd, Nat.reduceSub, Array.replicate_succ, Array.replicate_zero, List.push_toArray, List.append_toArray, List.nil_append, List.cons_append]
  gi_wp2_with (refine ⟨trivial, ?_⟩; gi_at_call 37; refine (callsIn_wide.2 (turned_ptsT a n cap 1 l _ (HL.out.more HA.out) HN.out hcap (by omega) (by omega) h2)).mono ?_; rintro e W1 ⟨⟨a2, cap2, rfl, hv⟩, hb1⟩)
  have J1 : J [] W1 := hJ [] W W1 none h0 (grown_of_below hb1 none) (fun r e => by cases e)
  have HV := Lib.hid hv
  have HL1 : Hid (Pts W1 A a l) := HL.out.below (hb1.mono HA.out)
  have HR1 := Lib.hid (HRB.out.below hb1 HRB.out.inside)
  have HA1 : Hid (A ≤ W1.heap.size) := Nat.le_trans HA.out hb1.size
  clear hv hb1 c0 h0 HL HRB HA
  gi_loopw [8] (fun i wr => ∃ k : Nat, k ≤ n ∧ i = .int .i64 k ∧ Hid (KpT A 24 22 W1 wr) ∧ J (upto l.length k) wr) (fun i _ => n - (intOf i).toNat)
  case atStart => exact ⟨0, by omega, rfl, Lib.hid (KpT.refl _), J1⟩
  case round =>
    obtain ⟨k, hk, rfl, hb, hJs⟩ := hrel
    by_cases hlt : k < n
    · have hlt' : k < l.length := HN.out ▸ hlt
      have PL := hb.out.pts HL1.out
      obtain ⟨b1, off1, rfl, hb1N, e0, e1⟩ := PL.at_ (cor_get hlt')
      have PV := (HV.out.kept hb.out).pts
      obtain ⟨b2, off2, rfl, hb2N, d0, d1⟩ := PV.at_ (cor_get (l := l.drop 1 ++ l.take 1) (k := k) (by rw [turned_len 1 HN.out (by omega)]; exact hlt))
      have RB := hb.out.row HR1.out (.inr (.inr rfl))
      have cb : wr.cell? ⟨box, 0, none⟩ = some (.slice (some ⟨b1, off1, none⟩) n cap) := RB.get 0
      have nx : cor (l.drop 1 ++ l.take 1) k = nxt l k := rfl
      rw [nx] at d0 d1
      have HS := Lib.hid RB.inside
      clear nx PL PV RB hb2N
      gi_wp2_with fail
      obtain ⟨V, hV⟩ : ∃ V, wr.alloc (.cells #[.int .i64 (nxt l k).x, .int .i64 (nxt l k).y] 24) = V := ⟨_, rfl⟩
      have BV : Below wr.heap.size wr V := hV ▸ alloc1 _ _
      have BD : Below wr.heap.size wr V.drew := BV.trans ((drew_below V).mono BV.size)
      obtain ⟨_, v0, v1⟩ := hV ▸ Has.made wr 24 (nxt l k)
      have SS : V.drew.cell? ⟨box, 0, none⟩ = some (.slice (some ⟨b1, off1, none⟩) n cap) ∧ V.drew.cell? ⟨b1, off1 + k * 2, none⟩ = some (.int .i64 (cor l k).x) ∧ V.drew.cell? ⟨b1, off1 + k * 2 + 1, none⟩ = some (.int .i64 (cor l k).y) ∧ V.drew.cell? ⟨wr.heap.size, 0, none⟩ = some (.int .i64 (nxt l k).x) ∧ V.drew.cell? ⟨wr.heap.size, 1, none⟩ = some (.int .i64 (nxt l k).y) :=
        ⟨kept BD cb, kept BD e0, kept BD e1, v0, v1⟩
      have KV : Hid (KpT A 24 22 W1 V.drew) := hb.out.trans (KpT.of_below BD)
      have JV : J (upto l.length k) V.drew := hJ _ _ _ none hJs (grown_of_below BD none) (fun r e => by cases e)
      rw [hV]
      clear hV v0 v1 cb e0 e1 d0 d1 hb hJs HS
      refine Round.wpIn_region_iter (fun w' => w'.cell? ⟨box, 0, none⟩ = some (.slice (some ⟨b1, off1, none⟩) n cap) ∧ w'.cell? ⟨b1, off1 + k * 2, none⟩ = some (.int .i64 (cor l k).x) ∧ w'.cell? ⟨b1, off1 + k * 2 + 1, none⟩ = some (.int .i64 (cor l k).y) ∧ w'.cell? ⟨wr.heap.size, 0, none⟩ = some (.int .i64 (nxt l k).x) ∧ w'.cell? ⟨wr.heap.size, 1, none⟩ = some (.int .i64 (nxt l k).y)) 8 (by kernel_rfl) (fun ⟨_, _, h⟩ => by obtain ⟨⟨_, h⟩, _⟩ := h; cases h) ?_
      generalize V.drew = V1 at *
      refine Round.I_take 0 [] (.func (.yield y) #[] #[]) rfl (by kernel_rfl) (by kernel_rfl) (by kernel_rfl) (by kernel_rfl) (by kernel_rfl) (by rfl) (by decide) (by kernel_rfl) (fun _ _ _ h => h) (Or.inl ⟨by rfl, fun w hSw => by (try dsimp only at hSw); go_simp⟩) SS ?_
      try simp only [Act.put, List.setIfInBounds_toArray]
      refine Round.I_take 1 [] (.int .i64 k) rfl (by kernel_rfl) (by kernel_rfl) (by kernel_rfl) (by kernel_rfl) (by kernel_rfl) (by rfl) (by decide) (by kernel_rfl) (fun _ _ _ h => h) (Or.inl ⟨by rfl, fun w hSw => by (try dsimp only at hSw); go_simp⟩) SS ?_
      try simp only [Act.put]
      refine Round.I_take 2 [7, 5, 4] (.slice (some ⟨b1, off1, none⟩) n cap) rfl (by kernel_rfl) (by kernel_rfl) (by kernel_rfl) (by kernel_rfl) (by kernel_rfl) (by rfl) (by decide) (by kernel_rfl) (fun _ _ _ h => h) (Or.inl ⟨by rfl, fun w hSw => by (try dsimp only at hSw); go_simp⟩) SS ?_
      try simp only [Act.put]
      refine Round.I_take 3 [7, 5, 4] (.int .i64 k) rfl (by kernel_rfl) (by kernel_rfl) (by kernel_rfl) (by kernel_rfl) (by kernel_rfl) (by rfl) (by decide) (by kernel_rfl) (fun _ _ _ h => h) (Or.inl ⟨by rfl, fun w hSw => by (try dsimp only at hSw); go_simp⟩) SS ?_
      try simp only [Act.put]
      refine Round.I_take 4 [7, 5] (.pointer (some ⟨b1, off1 + k * 2, none⟩)) rfl (by kernel_rfl) (by kernel_rfl) (by kernel_rfl) (by kernel_rfl) (by kernel_rfl) (by rfl) (by decide) (by kernel_rfl) (fun _ _ _ h => h) (Or.inl ⟨by rfl, fun w hSw => by (try dsimp only at hSw); go_simp⟩) SS ?_
      try simp only [Act.put]
      refine Round.I_take 5 [7] (.agg #[.int .i64 (cor l k).x, .int .i64 (cor l k).y]) rfl (by kernel_rfl) (by kernel_rfl) (by kernel_rfl) (by kernel_rfl) (by kernel_rfl) (by rfl) (by decide) (by kernel_rfl) (fun _ _ _ h => h) (Or.inl ⟨by rfl, fun w hSw => by (try dsimp only at hSw); go_simp⟩) SS ?_
      try simp only [Act.put]
      refine Round.I_take 6 [7] (.agg #[.int .i64 (nxt l k).x, .int .i64 (nxt l k).y]) rfl (by kernel_rfl) (by kernel_rfl) (by kernel_rfl) (by kernel_rfl) (by kernel_rfl) (by rfl) (by decide) (by kernel_rfl) (fun _ _ _ h => h) (Or.inl ⟨by rfl, fun w hSw => by (try dsimp only at hSw); go_simp⟩) SS ?_
      try simp only [Act.put]
      refine Round.I_take 7 [] (.agg #[.int .i64 (cor l k).x, .int .i64 (cor l k).y, .int .i64 (nxt l k).x, .int .i64 (nxt l k).y]) rfl (by kernel_rfl) (by kernel_rfl) (by kernel_rfl) (by kernel_rfl) (by kernel_rfl) (by rfl) (by decide) (by kernel_rfl) (fun _ _ _ h => h) (Or.inl ⟨by rfl, fun w hSw => by (try dsimp only at hSw); go_simp⟩) SS ?_
      try simp only [Act.put]
      clear SS
      refine Round.I_call 8 (by kernel_rfl) rfl rfl (fun K hK => ?_)
      obtain ⟨fn, tmps, assign, body, hy, hR⟩ := hY (upto l.length k) ⟨k, hlt'⟩ V1 JV (by rw [upto_len _ k (by omega)]; exact hlt')
      dsimp only [encs] at hy
      rw [if_pos (by rfl)]
      refine ⟨fun _ _ => trivial, ?_⟩
      go_simp
      have HU := Lib.hid (upto_succ l.length k hlt')
      have HY := Lib.hid hY
      have HJ := Lib.hid hJ
      have HJx := Lib.hid hJx
      refine hR.mono ?_
      clear hY hJ hJx hR hy JV
      rintro e W3 (⟨rfl, hJ3, hK3⟩ | ⟨rfl, hJx3⟩)
      · have HJ3 : J (upto l.length (k + 1)) W3 := by rw [HU.out]; exact hJ3
        have HK3 := Lib.hid (KV.out.trans hK3)
        clear hJ3 hK3 KV
        dsimp only
        refine hK.out _ _ ?_
        clear hK K
        try simp only [Act.put, List.setIfInBounds_toArray, List.set_cons_zero, List.set_cons_succ]
        refine Round.I_one 9 (by kernel_rfl) rfl (by decide) (fun K hK => ?_)
        go_simp
        refine hK.out _ _ (fun h => absurd (h.symm.trans (by kernel_rfl : _ = true)) (by decide)) ?_
        clear hK K
        refine Round.I_done (by kernel_rfl) ?_ _
        gi_wp2
        go_roundw
        case rel => exact ⟨k + 1, by omega, by go_num, HK3, HJ3⟩
        case measure => simp [intOf]; omega
      · dsimp only
        refine hK.out _ _ ?_
        clear hK K
        try simp only [Act.put, List.setIfInBounds_toArray, List.set_cons_zero, List.set_cons_succ]
        refine Round.I_one 9 (by kernel_rfl) rfl (by decide) (fun K hK => ?_)
        go_simp
        refine hK.out _ _ (fun h => absurd (h.symm.trans (by kernel_rfl : _ = true)) (by decide)) ?_
        clear hK K
        refine Round.I_done (by kernel_rfl) ?_ _
        gi_wp2
        refine bodyPost_ret (results_none rfl _ _ _) rfl ?_
        exact ⟨⟨_, rfl⟩, .inr ⟨_, trivial, hJx3⟩⟩
    · obtain rfl : k = n := by omega
      have HJ : J (List.finRange l.length) wr := upto_all HN.out hJs
      clear hJs hJ hJx hY
      gi_wp2
      go_end0
      exact ⟨⟨_, rfl⟩, .inl ⟨_, rfl, HJ⟩⟩
end Go.Proofs.Ytlagolgmkmdhhaa.Rg
