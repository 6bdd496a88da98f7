/- P2.3, SealSound: its walk. -/
import Derived.Test.YtanlpcdljclnmaaDoorSlBindsWalk
namespace Go.Proofs.YtanlpcdljclnmaaDoor.Sl
open Go.RowKit
open Go.Proofs.YtanlpcdljclnmaaDoor.Dg hiding intOf

theorem checked_of8 (m : B) (s : ByteArray) (i : Int) (idx : Nat) (a p : Option Addr) (ca np cp : Nat) (sig ps : List B) (w0 w : World) (hw : Below w0.heap.size w0 w) (hs : s = ⟨m.toArray⟩) (hi0 : i = (idx : Int)) (hm : m.length ≤ 300) (hl : Hid (Txt w0 w0.heap.size a sig)) (hp : Hid (Txt w0 w0.heap.size p ps)) (h18 : Hid (sig.length = 18)) (hnp : Hid (np = ps.length)) (h8 : np ≤ 8)
    (hi : Hid (idx < 1000000)) (hx : Hid (∀ x ∈ sig, x.length ≤ 1000)) (hy : Hid (∀ x ∈ ps, x.length ≤ 1000)) :
    Calls Tryd.prog 12 #[.string s, .agg #[.int .i64 i, .slice a 18 ca, .slice p np cp]] w fun e w' => ∃ g nn c, e = .returned (.slice (some ⟨g, 0, none⟩) nn c) ∧ 0 < nn ∧ nn ≤ 5000 ∧ Hid (Own w' w.heap.size (.slice (some ⟨g, 0, none⟩) nn c) nn (checked m idx sig ps)) ∧ Below w.heap.size w w' := by
  subst hs hi0
  refine (checked_any m idx a p ca np cp sig ps w (by omega) (hl.out.later hw) (hp.out.later hw) h18.out hnp.out h8 hi.out hx.out hy.out).mono ?_
  rintro e w' ⟨a, nn, c, rfl, hn, ho, hb⟩
  have h0 : 0 < nn := by rw [ho.1]; exact List.length_pos_of_mem (mem_checked_ends m idx sig ps)
  obtain ⟨g, c', hv⟩ := ho.pos h0
  rw [hv] at ho ⊢
  exact ⟨g, nn, c', rfl, h0, hn, ho, hb⟩
theorem refsame_eq (x y : Int) (a p a' p' : Option Addr) (na ca np cp na' ca' np' cp' : Nat) (s q s' q' : List B) (r : Bool) (w : World) (h1 : Txt w w.heap.size a s) (h2 : Txt w w.heap.size p q) (h3 : Txt w w.heap.size a' s') (h4 : Txt w w.heap.size p' q')
    (n1 : na = s.length) (n2 : np = q.length) (n3 : na' = s'.length) (n4 : np' = q'.length) (l1 : na ≤ maxLen) (l2 : np ≤ maxLen) (hr : (decide (x = y) && (decide (s = s') && decide (q = q'))) = r) :
    Calls Tryd.prog 8 #[.agg #[.int .i64 x, .slice a na ca, .slice p np cp], .agg #[.int .i64 y, .slice a' na' ca', .slice p' np' cp']] w fun e w' => e = .returned (.bool r) ∧ Below w.heap.size w w' :=
  hr ▸ refsame_any x y a p a' p' na ca np cp na' ca' np' cp' s q s' q' w h1 h2 h3 h4 n1 n2 n3 n4 l1 l2
theorem coll_of {L : List B} {sec m : B} {h : Nat} {idx : Int} {sig ps : List B} (hv : verB (pubOf sec h) m idx sig ps = true) (hm : ∀ x ∈ made sec h 15, x ∈ L) (hc : ∀ x ∈ checked m idx.toNat sig ps, x ∈ L)
    (hne : ¬ (idx.toNat < 2 ^ h ∧ ps = pathOf sec h idx.toNat ∧ sig = sigOf sec idx.toNat m)) : Coll L := Classical.byContradiction fun hn => hne (sound hn hv hm hc)
theorem no_in {idx : Int} {h : Nat} (h0 : 0 ≤ idx) (hn : ¬ idx.toNat < 2 ^ h) : inB idx h = false := by
  unfold inB
  have e : ((2 ^ h : Nat) : Int) = 2 ^ h := by simp
  have : ¬ idx < (2 : Int) ^ h := by rw [← e]; omega
  rw [decide_eq_false this, Bool.and_false]
end Go.Proofs.YtanlpcdljclnmaaDoor.Sl
