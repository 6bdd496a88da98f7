/- index: the queue's Push, Pop. -/
import Derived.Test.YteghhfkllclghaaIxSwap
import Derived.Deep.RegionLaw
namespace Go.Proofs.Yteghhfkllclghaa.Ix
open Go.RowKit Go.Sort
def itV (y : Qi) : Value := .iface 82 (.agg (encQ y).toArray)
theorem push_end {w w2 : World} {base q g cap : Nat} {v : Value} {L : List Qi} {y : Qi} (h : Qu w base q v L) (hbase : base ≤ w.heap.size) (W : World) (hW : Below w.heap.size w W) (ho : OwnQ w2 base (.slice (some ⟨g, 0, none⟩) (L.length + 1) cap) (L ++ [y]))
    (hg : W.grownBy w2 v.ownBlock) (hgN : v.ownBlock = some g ∨ w.heap.size ≤ g) : IsRow w2 q 79 #[v, .func (.func 39) #[] #[]] ∧
    Qu (w2.setCell ⟨q, 0, none⟩ (.slice (some ⟨g, 0, none⟩) (L.length + 1) cap)) base q (.slice (some ⟨g, 0, none⟩) (L.length + 1) cap) (L ++ [y]) ∧ Bq base q w (w2.setCell ⟨q, 0, none⟩ (.slice (some ⟨g, 0, none⟩) (L.length + 1) cap)) := by
  have hq : some q ≠ v.ownBlock := fun e => by
    have hv : ∃ n c, v = .slice (some ⟨q, 0, none⟩) n c := by
      obtain ⟨_, ⟨hv, _⟩ | ⟨g', cap', cur, hv, _⟩⟩ := h.own
      · rw [hv] at e; cases e
      · rw [hv] at e
        injection e with e
        exact ⟨_, _, by rw [hv, e]⟩
    obtain ⟨n, c, rfl⟩ := hv
    exact h.ne rfl
  have hrW := h.row.below hW h.row.inside
  have hr : IsRow w2 q 79 #[v, .func (.func 39) #[] #[]] := (hg.block q hrW.inside hq).trans hrW
  have hne : g ≠ q := by
    have hx : Qu w2 base q (.slice (some ⟨g, 0, none⟩) (L.length + 1) cap) (L ++ [y]) → g ≠ q := fun h => h.ne
    intro e
    obtain ⟨_, ⟨hv, _⟩ | ⟨g', cap', cur, hv, hb, hgg, _⟩⟩ := ho
    · cases hv
    · injection hv with e1 _ _
      injection e1 with e1
      injection e1 with e1 _ _
      subst e1
      rw [e] at hgg
      unfold IsRow at hr
      rw [hr] at hgg
      injection hgg with hgg
      injection hgg with _ e2 _
      exact absurd e2 (by decide)
  refine ⟨hr, ⟨?_, ?_, h.ge⟩, ?_⟩
  · have := hr.put 0 (.slice (some ⟨g, 0, none⟩) (L.length + 1) cap)
    simpa using this
  · refine ho.kept (row := some q) ⟨rfl, rfl, rfl, by simp, fun k hk hn => Below.heap_setCell _ _ _ k fun e => hn (by rw [e])⟩ (.inr ?_)
    show some g ≠ some q
    exact fun e => hne (by injection e)
  · have b1 := Nat.le_trans hbase hW.size
    have t := (h.own.below hW).typed
    refine ⟨((hW.mono hbase).grown hg b1 fun k e => (t k e).1).setCell (p := ⟨q, 0, none⟩) h.ge _, fun k cur fr e => ?_, fun nb o => ?_⟩
    · have hk := (Array.getElem?_eq_some_iff.1 e).1
      have e1 := (hW.block k hk).trans e
      have e2 : w2.heap[k]? = W.heap[k]? := hg.block k (Nat.lt_of_lt_of_le hk hW.size) fun h2 => by
        obtain ⟨_, c2, t2, f2, e2, n2⟩ := t k h2.symm
        rw [e2] at e1
        injection e1 with e1
        injection e1 with _ e' _
        exact n2 e'
      refine (Below.heap_setCell _ _ _ _ fun h2 => ?_).trans (e2.trans (hW.block k hk))
      have h' : k = q := h2
      subst h'
      have e3 := (hW.block k hk).trans e
      rw [show W.heap[k]? = _ from hrW] at e3
      injection e3 with e3
      injection e3 with _ e' _
      exact absurd e' (by decide)
    · have hv := o.2.2.2 v (h.row.get 0)
      have e2 : w2.heap[nb]? = W.heap[nb]? := hg.block nb (Nat.lt_of_lt_of_le o.1 hW.size) fun h2 => hv h2.symm
      have hs : w.heap.size ≤ w2.heap.size := Nat.le_trans hW.size hg.size
      refine ⟨(Below.heap_setCell _ _ _ _ o.2.2.1).trans (e2.trans (hW.block nb o.1)), by simpa using Nat.lt_of_lt_of_le o.1 hs, by simpa using Nat.lt_of_lt_of_le o.2.1 hs, o.2.2.1, fun u hu => ?_⟩
      rw [(hr.put 0 (.slice (some ⟨g, 0, none⟩) (L.length + 1) cap)).get 0] at hu
      have e : (Value.slice (some ⟨g, 0, none⟩) (L.length + 1) cap) = u := by simpa using hu
      subst e
      intro e
      have e : g = nb := by injection e
      subst e
      rcases hgN with h1 | h1
      · exact hv h1
      · have := o.1; omega
theorem run_item (x : Value) (w : World) : (Instr.typeAssert (.iface 82 x) 20 82 false).run Try.prog w = .ok x w := by kernel_rfl
set_option maxRecDepth 100000 in
set_option maxHeartbeats 2000000 in
theorem push_any (w : World) (base q : Nat) (v : Value) (L : List Qi) (y : Qi) (h : Qu w base q v L) (hlen : L.length ≤ 100000) (hbase : base ≤ w.heap.size) :
    Calls Try.prog 93 #[ptr q, itV y] w fun e w' => e = .returned (.tuple #[]) ∧ (∃ v', Qu w' base q v' (L ++ [y])) ∧ Bq base q w w' := by
  have H := Lib.hid h
  have r0 := h.row.get 0
  have hown := h.own
  have hql := h.row.inside
  have hn1 : ¬ q = w.heap.size := by omega
  have hn2 : ¬ w.heap.size = q := by omega
  have HL := Lib.hid hlen
  have HB := Lib.hid hbase
  obtain ⟨pn, hpn⟩ : ∃ p, ndV y.nd = .pointer p := by cases y.nd <;> exact ⟨_, rfl⟩
  have he : encQ y = [.int .i64 y.sq, .pointer pn, .string ⟨y.id.toArray⟩] := by unfold encQ; rw [hpn]
  have hrow := Lib.hid (fun W : World => (show IsRow (W.alloc (.cells #[.int .i64 y.sq, .pointer pn, .string ⟨y.id.toArray⟩] 82)) W.heap.size 82 (encQ y).toArray by rw [he]; exact IsRow.made _ _ _))
  have hta := fun W => run_item (.agg #[.int .i64 y.sq, .pointer pn, .string ⟨y.id.toArray⟩]) W
  clear h hlen hbase hpn
  unfold ptr itV
  rw [he]
  clear he
  go_enter Try.func93, Try.ntmps93
  go_upto_region 0 with fail
  go_region_law (refine step_appQ (by rfl) _ _ (by rfl) base v L y w.heap.size (by rfl) (hown.below (alloc1 w _).drew) (by rfl) (hrow.out w) HL.out (by have := HB.out; simp; omega) (w.heap.size + 1) (by simp) ?_; intro g cap w2 ho2 hg2 hor2 hlt2; have hfin := push_end H.out HB.out _ (alloc1 w _).drew ho2 hg2 (hor2.imp id (fun e => by omega)); have c0 := hfin.1.get 0; have f0 := hfin.1.open_ 0)
  all_goals
    go_end0
    exact ⟨rfl, ⟨_, hfin.2.1⟩, hfin.2.2⟩
theorem OwnQ.take {w : World} {base g cap : Nat} {L : List Qi} {k : Nat} (h : OwnQ w base (.slice (some ⟨g, 0, none⟩) L.length cap) L) (hk : k ≤ L.length) : OwnQ w base (.slice (some ⟨g, 0, none⟩) k cap) (L.take k) := by
  have hlen : (L.take k).length = k := by rw [List.length_take]; omega
  obtain ⟨h1, ⟨hv, h0⟩ | ⟨g', cap', cur, hv, hb, hg, h2, h3, h4, h5⟩⟩ := h
  · cases hv
  · injection hv with e1 e2 e3
    injection e1 with e1
    injection e1 with e1 _ _
    subst e1 e3
    refine ⟨by rw [flatQ_len], .inr ⟨g, cap, cur, by rw [hlen], hb, hg, by omega, h3, h4, ?_⟩⟩
    rw [hlen, ← flatQ_take, ← h5, List.take_take, Nat.min_eq_left (by omega)]
theorem Qu.set {w : World} {base q g n cap : Nat} {v : Value} {L M : List Qi} (h : Qu w base q v L) (ho : OwnQ w base (.slice (some ⟨g, 0, none⟩) n cap) M) (hne : g ≠ q) : Qu (w.setCell ⟨q, 0, none⟩ (.slice (some ⟨g, 0, none⟩) n cap)) base q (.slice (some ⟨g, 0, none⟩) n cap) M := by
  refine ⟨?_, ?_, h.ge⟩
  · have := h.row.put 0 (.slice (some ⟨g, 0, none⟩) n cap)
    simpa using this
  · refine ho.kept (row := some q) ⟨rfl, rfl, rfl, by simp, fun k hk hn => Below.heap_setCell _ _ _ k fun e => hn (by rw [e])⟩ (.inr ?_)
    show some g ≠ some q
    exact fun e => hne (by injection e)
set_option maxRecDepth 100000 in
set_option maxHeartbeats 2000000 in
theorem pop_any (w : World) (base q : Nat) (v : Value) (L : List Qi) (z : Qi) (h : Qu w base q v L) (hz : L[L.length - 1]? = some z) (hbase : base ≤ w.heap.size) :
    Calls Try.prog 92 #[ptr q] w fun e w' => e = .returned (itV z) ∧ (∃ v', Qu w' base q v' (L.take (L.length - 1))) ∧ Bq base q w w' := by
  have hl := (List.getElem?_eq_some_iff.1 hz).1
  obtain ⟨g, cap, rfl, hbg, hcap, hcm⟩ := h.own.shape (by omega)
  have hne := h.ne
  have H := Lib.hid h
  have HB := Lib.hid hbase
  have hql := h.row.inside
  have hgl := (World.ownsRow.lt h.own g rfl).2
  have r0 := h.row.get 0
  have f0 := h.row.open_ 0
  obtain ⟨m, hm⟩ : ∃ m, L.length = m + 1 := ⟨L.length - 1, by omega⟩
  have hm1 : L.length - 1 = m := by omega
  rw [hm1] at hz ⊢
  obtain ⟨x0, x1, x2⟩ := OwnQ.cells h.own hz
  obtain ⟨pn, hpn⟩ : ∃ p, ndV z.nd = .pointer p := by cases z.nd <;> exact ⟨_, rfl⟩
  have he : encQ z = [.int .i64 z.sq, .pointer pn, .string ⟨z.id.toArray⟩] := by unfold encQ; rw [hpn]
  have ho := Lib.hid (OwnQ.take (k := m) h.own (by omega))
  rw [hpn] at x1
  have hn1 : ¬ q = w.heap.size := by omega
  have hn2 : ¬ w.heap.size = q := by omega
  have hn3 : ¬ g = w.heap.size := by omega
  have hn4 : ¬ w.heap.size = g := by omega
  have hm0 : (0 : Int) ≤ (m : Int) := by omega
  have hm2 : (m : Int) < (m : Int) + 1 := by omega
  have hmc : m ≤ cap := by omega
  have hmc2 : (m : Int) ≤ (cap : Int) := by omega
  have hmw : wrap64 (m : Int) = (m : Int) := by unfold maxLen at hcm; unfold wrap64; omega
  rw [hm] at r0 H
  have HM := Lib.hid hm
  unfold itV
  rw [he]
  clear h hz hl hm hm1 he hpn hbase
  unfold ptr
  go_enter Try.func92, Try.ntmps92
  go_wp2
  go_ret
  have hq := (H.out.set ho.out hne).below (alloc1 _ (.cells #[.int .i64 z.sq, .pointer pn, .string ⟨z.id.toArray⟩] 82))
  have hb := (Bq.hdr H.out.row (by decide) H.out.ge _ (.slice (some ⟨g, 0, none⟩) m cap) rfl rfl).trans ((alloc1 _ (.cells #[.int .i64 z.sq, .pointer pn, .string ⟨z.id.toArray⟩] 82)).q (by simp; exact HB.out))
  exact ⟨rfl, ⟨_, hq⟩, hb⟩
end Go.Proofs.Yteghhfkllclghaa.Ix
