/- slices.Grow of nil, slices.Concat of two lists of points, ring.turned. -/
import Derived.Test.YtlagolgmkmdhhaaRgA
import Derived.Lib.AppendZerosOnto
import Derived.Deep.AppendLies
import Derived.Deep.AppendSrc
import Derived.Deep.RegionHeld3
namespace Go.Proofs.Ytlagolgmkmdhhaa.Rg
open Go.RowKit Go.Sort
open Go.Proofs.Ytlagolgmkmdhhaa.Geo hiding intOf
set_option maxRecDepth 100000 in
set_option maxHeartbeats 2000000 in
theorem grow_any (n : Nat) (w : World) (h0 : 0 < n) (hn : n ≤ 100000) :
    Calls Try.prog 74 #[.slice none 0 0, .int .i64 n] w fun e w' => (∃ v, e = .returned v ∧ w'.ownsRow w.heap.size 24 2 v 0 []) ∧ Below w.heap.size w w' := by
  obtain ⟨i0, hi0, hs0, hb0, hz0⟩ := info_of point_info
  have hrz : ∀ ty, (Builtin.append_ #[22, 3] ty #[.slice none 0 0, .int .i64 (n : Int)]).run Try.prog w =
      .ok (.slice (some ⟨w.heap.size, 0, none⟩) n (grownCap w n 0 24)) (w.drew.alloc (.cells ((#[] : Array Value) ++ Builtin.zeroCells (Value.agg #[.int .i64 0, .int .i64 0]).cells n ++ Builtin.zeroCells (Value.agg #[.int .i64 0, .int .i64 0]).cells (grownCap w n 0 24 - n)) 24)) := fun ty => by
    have h := Lib.run_append_grow_zeros (P := Try.prog) w 22 3 ty 24 i0 _ .i64 .i64 Try.underlying22 Try.underlying3 hi0 hz0 none 0 0 [] (run_firstCells_none w.drew i0.size 0 0 0) n h0 (by omega) (by omega) (by omega) (by rw [hb0]; omega)
      (growslice_fits (by omega) (by rw [hb0]; omega))
    rw [Nat.zero_add] at h
    exact h
  have hGn : n ≤ grownCap w n 0 24 := grownCap_ge w _ _ _
  have hG63 := grownCap_le_maxLen w n 0 24 (by unfold maxLen; omega)
  obtain ⟨G, hG⟩ : ∃ G, G = grownCap w n 0 24 := ⟨_, rfl⟩
  rw [← hG] at hrz hGn hG63
  clear hG hi0 hs0 hb0 hz0
  have HG63 := Lib.hid hG63
  unfold maxLen at hG63
  go_enter Try.func74, Try.ntmps74
  go_wp2_with (at_builtin; refine Lib.wpList_append_run _ rfl _ _ _ _ rfl _ _ rfl rfl _ _ (hrz _) ?_)
  all_goals
    go_ret
    have hsz : (Builtin.zeroCells #[Value.int IntKind.i64 0, Value.int IntKind.i64 0] n ++ Builtin.zeroCells #[Value.int IntKind.i64 0, Value.int IntKind.i64 0] (G - n)).size = G * 2 := by
      simp [Builtin.zeroCells]
      omega
    exact ⟨⟨_, rfl, World.ownsRow_made (base := w.heap.size) w _ G (Nat.le_refl _) HG63.out hsz⟩, (alloc1 w _).trans ((drew_below _).mono (by simp))⟩
theorem pts_news {w : World} {b off : Nat} {l : List Pt} (h : ∀ k p, l[k]? = some p → w.cell? ⟨b, off + k * 2, none⟩ = some (.int .i64 p.x) ∧ w.cell? ⟨b, off + k * 2 + 1, none⟩ = some (.int .i64 p.y)) :
    ∀ j u, (flat l)[j]? = some u → w.cell? ((⟨b, off, none⟩ : Addr).add j) = some u := by
  intro j u hj
  have e : (⟨b, off, none⟩ : Addr).add j = ⟨b, off + j, none⟩ := by unfold Addr.add; split <;> simp_all
  rw [e]
  have hlt : j < 2 * l.length := by rw [← flat_length]; exact (List.getElem?_eq_some_iff.1 hj).1
  obtain ⟨p, hp⟩ : ∃ p, l[j / 2]? = some p := ⟨_, List.getElem?_eq_getElem (by omega)⟩
  obtain ⟨f0, f1⟩ := flat_get hp
  obtain ⟨c0, c1⟩ := h _ _ hp
  rcases Nat.mod_two_eq_zero_or_one j with h2 | h2
  · have e2 : j / 2 * 2 = j := by omega
    rw [e2] at f0 c0
    rw [f0] at hj
    injection hj with hj
    rw [← hj]; exact c0
  · have e2 : j / 2 * 2 + 1 = j := by omega
    have e3 : off + j / 2 * 2 + 1 = off + j := by omega
    rw [e2] at f1
    rw [e3] at c1
    rw [f1] at hj
    injection hj with hj
    rw [← hj]; exact c1
theorem flat_one : ∀ (l : List Pt), ∀ u ∈ flat l, u.oneCell' = true := by
  intro l u hu
  unfold flat at hu
  obtain ⟨p, _, hu⟩ := List.mem_flatMap.1 hu
  simp at hu
  rcases hu with rfl | rfl <;> rfl
theorem flat_app (l m : List Pt) : flat (l ++ m) = flat l ++ flat m := by unfold flat; rw [List.flatMap_append]
section
variable {ops : Array Oper} {rest : List Oper} {o : Oper} {a : Act} {Q : Exit → Act → World → Prop} {w : World}
/-- append of a list of points that lie anywhere in memory. -/
theorem wpList_appPs (hgd : o.guard = none) (s x : Operand) (ho : o.op = .call { callee := .builtin .append, args := #[s, x], argTypes := #[22, 22] }) (base : Nat) (v : Value) (l m : List Pt) (ad : Option Addr) (n c : Nat)
    (hs : a.eval s = v) (hown : OwnP w base v l) (hx : a.eval x = .slice ad n c) (hp : Pts w w.heap.size ad m) (hm : n = m.length) (h0 : 0 < n) (hlen : l.length + n ≤ 100000) (hbase : base ≤ w.heap.size)
    (h : ∀ v' w', OwnP w' base v' (l ++ m) → w.grownBy w' v.ownBlock → (∀ k, v.ownBlock = some k → base ≤ k ∧ k < w.heap.size) → wpList Try.prog ops Q rest (a.put o.dst v') w') : wpList Try.prog ops Q (o :: rest) a w := by
  obtain ⟨i0, hi, hz0, hz1, hz2⟩ := info_of point_info
  obtain ⟨b, off, rfl, hb, hc⟩ := hp (by omega)
  refine wpList_append_lies w hgd s x _ ho base 24 i0 _ 2 16 Try.underlying22 hi hz2 hz0 hz1 (by decide) (by decide) v l.length (flat l) hs hown ⟨b, off, none⟩ n c (flat m) hx (by rw [flat_length]; omega) (pts_news hc) (flat_one m) h0 (by unfold maxLen; omega) (by omega) hbase _ rfl ?_
  intro g cap w' h1 h2 _ _
  refine h _ w' ?_ h2 hown.lt
  unfold OwnP
  rw [flat_app, List.length_append, ← hm]
  exact h1
end
theorem OwnP.down {w : World} {base base' : Nat} {v : Value} {l : List Pt} (h : OwnP w base v l) (hb : base' ≤ base) : OwnP w base' v l := by
  obtain ⟨h2, ⟨hv, h0⟩ | ⟨g, cap, cur, hv, hg, rest⟩⟩ := h
  · exact ⟨h2, .inl ⟨hv, h0⟩⟩
  · exact ⟨h2, .inr ⟨g, cap, cur, hv, by omega, rest⟩⟩
/-- an owned list read as points in memory. -/
theorem OwnP.pts {w : World} {base : Nat} {v : Value} {l : List Pt} (h : OwnP w base v l) : ∃ a cap, v = .slice a l.length cap ∧ Pts w w.heap.size a l := by
  obtain ⟨a, cap, rfl, h2⟩ := h.shape
  refine ⟨a, cap, rfl, fun h0 => ?_⟩
  obtain ⟨g, rfl, _, hg, hc⟩ := h2 h0
  exact ⟨g, 0, rfl, hg, fun k p hk => by rw [Nat.zero_add]; exact hc k p hk⟩
set_option maxRecDepth 100000 in
set_option maxHeartbeats 4000000 in
theorem concat_any (g ca : Nat) (a1 a2 : Option Addr) (n1 n2 c1 c2 : Nat) (l1 l2 : List Pt) (w : World) (hg : IsRow w g 22 #[.slice a1 n1 c1, .slice a2 n2 c2]) (h1 : Pts w w.heap.size a1 l1) (h2 : Pts w w.heap.size a2 l2)
    (e1 : n1 = l1.length) (e2 : n2 = l2.length) (p1 : 0 < n1) (p2 : 0 < n2) (b1 : n1 + n2 ≤ 10000) :
    Calls Try.prog 60 #[.slice (some ⟨g, 0, none⟩) 2 ca] w fun e w' => (∃ v, e = .returned v ∧ OwnP w' w.heap.size v (l1 ++ l2)) ∧ Below w.heap.size w w' := by
  have HG := Lib.hid hg
  have H1 := Lib.hid h1
  have H2 := Lib.hid h2
  have E1 := Lib.hid e1
  have E2 := Lib.hid e2
  clear hg h1 h2 e1 e2
  obtain ⟨g0, g1⟩ : w.cell? ⟨g, 0, none⟩ = some (.slice a1 n1 c1) ∧ w.cell? ⟨g, 1, none⟩ = some (.slice a2 n2 c2) := ⟨HG.out.get 0, HG.out.get 1⟩
  go_enter Try.func60, Try.ntmps60
  go_wp2
  go_loop [3, 11] (fun s i => ∃ k : Nat, k ≤ 2 ∧ i = .int .i64 k ∧ s = .int .i64 (((if 0 < k then n1 else 0) + (if 1 < k then n2 else 0) : Nat) : Int)) (fun _ i => 2 - (intOf i).toNat)
  case atStart => exact ⟨0, by omega, rfl, rfl⟩
  case round =>
    obtain ⟨k, hk, rfl, rfl⟩ := hrel
    match k, hk with
    | 0, _ =>
      go_wp2
      go_round
      case rel => exact ⟨1, by omega, by go_num, by simp⟩
      case measure => simp [intOf]
    | 1, _ =>
      go_wp2
      go_round
      case rel => exact ⟨2, by omega, by go_num, by simp⟩
      case measure => simp [intOf]
    | 2, _ =>
      have hnn := Lib.hid (show (if 0 < 2 then n1 else 0) + (if 1 < 2 then n2 else 0) = n1 + n2 by simp)
      rw [hnn.out]
      go_wp2_with fail
      refine (grow_any (n1 + n2) _ (by omega) (by omega)).mono ?_
      rintro e w1 ⟨⟨v, rfl, hv⟩, hb1⟩
      have O1 : Hid (OwnP w1 w.heap.size v []) := hv
      have B1 := Lib.hid hb1
      clear hv hb1 g0 g1
      go_wp2
      go_loopw [6, 27] (fun u i wr => ∃ k : Nat, k ≤ 2 ∧ i = .int .i64 k ∧ Hid (OwnP wr w.heap.size u ((if 0 < k then l1 else []) ++ (if 1 < k then l2 else []))) ∧ Hid (Below w.heap.size w wr)) (fun _ i _ => 2 - (intOf i).toNat)
      case atStart => exact ⟨0, by omega, rfl, O1, B1⟩
      case round =>
        obtain ⟨k, hk, rfl, ho, hb⟩ := hrel
        match k, hk with
        | 0, _ =>
          have G9 : IsRow wr g 22 #[.slice a1 n1 c1, .slice a2 n2 c2] := HG.out.below hb.out HG.out.inside
          obtain ⟨g0, g1⟩ : wr.cell? ⟨g, 0, none⟩ = some (.slice a1 n1 c1) ∧ wr.cell? ⟨g, 1, none⟩ = some (.slice a2 n2 c2) := ⟨G9.get 0, G9.get 1⟩
          clear G9
          have P1 := Lib.hid (H1.out.later hb.out)
          have ho' : Hid (OwnP wr w.heap.size u6 []) := ho
          go_wp2_with (at_builtin; refine wpList_appPs rfl _ _ (by rfl) w.heap.size _ [] l1 a1 n1 c1 (by rfl) ho'.out (by rfl) P1.out E1.out p1 (by simp; omega) hb.out.size ?_; intro v' w2 ho2 hg2 hlt2)
          have O2 : Hid (OwnP w2 w.heap.size v' (l1 ++ [])) := by
            show OwnP _ _ _ _
            rw [List.append_nil]
            exact ho2
          have B2 := Lib.hid (hb.out.grown hg2 hb.out.size (fun k hk => (hlt2 k hk).1))
          clear ho ho' ho2 hg2 hlt2 g0 g1
          go_wp2
          go_roundw
          case rel => exact ⟨1, by omega, by go_num, O2, B2⟩
          case measure => simp [intOf]
        | 1, _ =>
          have G9 : IsRow wr g 22 #[.slice a1 n1 c1, .slice a2 n2 c2] := HG.out.below hb.out HG.out.inside
          obtain ⟨g0, g1⟩ : wr.cell? ⟨g, 0, none⟩ = some (.slice a1 n1 c1) ∧ wr.cell? ⟨g, 1, none⟩ = some (.slice a2 n2 c2) := ⟨G9.get 0, G9.get 1⟩
          clear G9
          have P2 := Lib.hid (H2.out.later hb.out)
          have ho' : Hid (OwnP wr w.heap.size u6 l1) := by
            have := ho.out
            simp only [Nat.lt_irrefl, Nat.zero_lt_one, if_true, if_false, List.append_nil] at this
            exact this
          have hs1 : l1.length + n2 ≤ 100000 := by rw [← E1.out]; omega
          go_wp2_with (at_builtin; refine wpList_appPs rfl _ _ (by rfl) w.heap.size _ l1 l2 a2 n2 c2 (by rfl) ho'.out (by rfl) P2.out E2.out p2 hs1 hb.out.size ?_; intro v' w2 ho2 hg2 hlt2)
          have O2 := Lib.hid ho2
          have B2 := Lib.hid (hb.out.grown hg2 hb.out.size (fun k hk => (hlt2 k hk).1))
          clear ho ho' ho2 hg2 hlt2 g0 g1
          go_wp2
          go_roundw
          case rel => exact ⟨2, by omega, by go_num, O2, B2⟩
          case measure => simp [intOf]
        | 2, _ =>
          have ho' : Hid (OwnP wr w.heap.size u6 (l1 ++ l2)) := ho
          clear ho
          go_wp2
          go_ret
          exact ⟨⟨_, rfl, ho'.out⟩, hb.out⟩
theorem concat_drew (a1 a2 : Option Addr) (n1 n2 c1 c2 : Nat) (l1 l2 : List Pt) (w : World) (h1 : Pts w w.heap.size a1 l1) (h2 : Pts w w.heap.size a2 l2)
    (e1 : n1 = l1.length) (e2 : n2 = l2.length) (p1 : 0 < n1) (p2 : 0 < n2) (b1 : n1 + n2 ≤ 10000) :
    Calls Try.prog 60 #[.slice (some ⟨w.heap.size, 0, none⟩) 2 2] (w.alloc (.cells #[.slice a1 n1 c1, .slice a2 n2 c2] 22)).drew fun e w' => (∃ v, e = .returned v ∧ OwnP w' w.heap.size v (l1 ++ l2)) ∧ Below w.heap.size w w' := by
  have hb : Below w.heap.size w (w.alloc (.cells #[.slice a1 n1 c1, .slice a2 n2 c2] 22)).drew := (alloc1 w _).trans ((drew_below _).mono (by simp))
  refine (concat_any w.heap.size 2 a1 a2 n1 n2 c1 c2 l1 l2 (w.alloc (.cells #[.slice a1 n1 c1, .slice a2 n2 c2] 22)).drew (IsRow.made w _ _) (h1.later hb) (h2.later hb) e1 e2 p1 p2 b1).mono ?_
  rintro e w' ⟨⟨v, rfl, hv⟩, hb'⟩
  exact ⟨⟨v, rfl, OwnP.down hv (by simp)⟩, hb.trans (hb'.mono (by simp))⟩
theorem Pts.drop {w : World} {N b off : Nat} {l : List Pt} (h : Pts w N (some ⟨b, off, none⟩) l) (k : Nat) (hk : k < l.length) : Pts w N (some ⟨b, off + k * 2, none⟩) (l.drop k) := fun _ => by
  obtain ⟨b', off', e, hb, hc⟩ := h (by omega)
  injection e with e
  injection e with e1 e2
  subst e1 e2
  refine ⟨b, off + k * 2, rfl, hb, fun j p hj => ?_⟩
  rw [List.getElem?_drop] at hj
  have := hc _ _ hj
  rw [show off + k * 2 + j * 2 = off + (k + j) * 2 by omega]
  exact this
theorem Pts.take {w : World} {N : Nat} {a : Option Addr} {l : List Pt} (h : Pts w N a l) (k : Nat) : Pts w N a (l.take k) := fun h0 => by
  rw [List.length_take] at h0
  obtain ⟨b, off, rfl, hb, hc⟩ := h (by omega)
  refine ⟨b, off, rfl, hb, fun j p hj => ?_⟩
  rw [List.getElem?_take] at hj
  split at hj
  · exact hc _ _ hj
  · cases hj
set_option maxRecDepth 100000 in
set_option maxHeartbeats 4000000 in
theorem turned_any (a : Option Addr) (n cap k : Nat) (l : List Pt) (w : World) (hl : Pts w w.heap.size a l) (hn : n = l.length) (hc : n ≤ cap) (h0 : 0 < k) (hk : k < n) (h2 : n ≤ 2000) :
    Calls Try.prog 37 #[.slice a n cap, .int .i64 k] w fun e w' => (∃ v, e = .returned v ∧ OwnP w' w.heap.size v (l.drop k ++ l.take k)) ∧ Below w.heap.size w w' := by
  obtain ⟨b, off, rfl, hb, hcc⟩ := hl (by omega)
  clear hcc
  have HL := Lib.hid hl
  have HN := Lib.hid hn
  have P1 := Lib.hid (hl.drop k (by omega))
  have P2 := Lib.hid (hl.take k)
  clear hl

  have L1 := Lib.hid (show n - k = (l.drop k).length by rw [List.length_drop, ← hn])
  have L2 := Lib.hid (show k = (l.take k).length by rw [List.length_take]; omega)
  have i1 : (0 : Int) ≤ (k : Int) := by omega
  have i2 : (k : Int) ≤ (n : Int) := by omega
  have i3 : (k : Int) ≤ (cap : Int) := by omega
  have i4 : (n : Int) ≤ (cap : Int) := by omega
  have i5 : ¬ cap = k := by omega
  have q1 := Lib.hid (show 0 < n - k by omega)
  have q2 := Lib.hid (show n - k + k ≤ 10000 by omega)
  have h0' := Lib.hid h0
  clear hn hb h0
  go_enter Try.func37, Try.ntmps37
  go_wp2_with fail
  go_region_held3 (fun _ => True) (trivial) (first
    | (go_at_call 60; refine (concat_drew _ _ (n - k) k (cap - k) cap (l.drop k) (l.take k) w P1.out P2.out L1.out L2.out q1.out h0'.out q2.out).mono ?_; rintro e w1 ⟨⟨v, rfl, hv⟩, hb1⟩))
  have HV := Lib.hid hv
  clear hv
  go_wp2
  go_ret
  exact ⟨⟨v, rfl, HV.out⟩, hb1⟩
/-- the list turned, read as points in memory. -/
theorem turned_pts (a : Option Addr) (n cap k : Nat) (l : List Pt) (w : World) (hl : Pts w w.heap.size a l) (hn : n = l.length) (hc : n ≤ cap) (h0 : 0 < k) (hk : k < n) (h2 : n ≤ 2000) :
    Calls Try.prog 37 #[.slice a n cap, .int .i64 k] w fun e w' => (∃ a' c', e = .returned (.slice a' n c') ∧ Pts w' w'.heap.size a' (l.drop k ++ l.take k)) ∧ Below w.heap.size w w' := by
  refine (turned_any a n cap k l w hl hn hc h0 hk h2).mono ?_
  rintro e w' ⟨⟨v, rfl, hv⟩, hb⟩
  obtain ⟨a', c', rfl, hp⟩ := OwnP.pts hv
  have e : (l.drop k ++ l.take k).length = n := by rw [List.length_append, List.length_drop, List.length_take]; omega
  rw [e]
  exact ⟨⟨a', c', rfl, hp⟩, hb⟩
theorem turned_len {l : List Pt} {n : Nat} (k : Nat) (hn : n = l.length) (hk : k ≤ n) : (l.drop k ++ l.take k).length = n := by rw [List.length_append, List.length_drop, List.length_take]; omega
end Go.Proofs.Ytlagolgmkmdhhaa.Rg
