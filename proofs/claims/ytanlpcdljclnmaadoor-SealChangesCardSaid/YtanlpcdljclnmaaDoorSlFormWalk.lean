/- P2.6, SealForm: its walk. -/
import Derived.Test.YtanlpcdljclnmaaDoorSlHead2
import Derived.RegionTactic
namespace Go.Proofs.YtanlpcdljclnmaaDoor.Sl
open Go.RowKit
open Go.Proofs.YtanlpcdljclnmaaDoor.Dg hiding intOf

theorem short_of (a : Option Addr) (n cap : Nat) (L : List B) (b : Bool) (w : World) {N : Nat} (hl : Txt w N a L) (hn : n = L.length) (hbig : n ≤ 1000000) (hb : upTo 300 L = b) :
    Calls Tryd.prog 5 #[.slice a n cap] w fun e w' => e = .returned (.bool b) ∧ w = w' := hb ▸ short_any a n cap L w hl hn hbig
theorem few_small {sig ps : List B} (h : fewS sig ps = true) : (∀ x ∈ sig, x.length ≤ 100) ∧ (∀ x ∈ ps, x.length ≤ 100) ∧ sig.length ≤ 30 ∧ ps.length ≤ 30 := by
  unfold fewS at h
  simp only [Bool.and_eq_true, decide_eq_true_eq] at h
  obtain ⟨⟨⟨h1, h2⟩, h3⟩, h4⟩ := h
  rw [List.take_of_length_le h3] at h1
  rw [List.take_of_length_le h4] at h2
  exact ⟨upTo_all h1, upTo_all h2, h3, h4⟩
theorem row_two (w : World) (x y : B) : Txt (w.alloc (.cells #[.string ⟨x.toArray⟩, .string ⟨y.toArray⟩] 9)) (w.alloc (.cells #[.string ⟨x.toArray⟩, .string ⟨y.toArray⟩] 9)).heap.size (some ⟨w.heap.size, 0, none⟩) [x, y] := row_list w _ _ _ rfl
theorem isDig_val (t : B) (ps : List B) (i : Nat) (h : isDig t = true) (k : Nat) : isDig (val t ps i k) = true := by
  cases k with
  | zero => exact h
  | succ k => exact isDig_dsum _
theorem wrap_dec {idx : Int} {np : Nat} (h8 : np ≤ 8) (h : idx < 2 ^ np) : decide (wrap64 (2 ^ np) ≤ idx) = false := by
  rw [wrap_pow np h8]
  exact decide_eq_false (Int.not_le.2 h)
structure Keep3 (Y : World) (g1 g2 g3 : Nat) (c1 c2 c3 : Array Value) (a p : Option Addr) (sig ps : List B) : Prop where
  r1 : IsRow Y g1 29 c1
  r2 : IsRow Y g2 29 c2
  r3 : IsRow Y g3 29 c3
  tab : Tab Y
  ts : Txt Y Y.heap.size a sig
  tp : Txt Y Y.heap.size p ps
theorem Keep3.later {Y Z : World} {g1 g2 g3 : Nat} {c1 c2 c3 : Array Value} {a p : Option Addr} {sig ps : List B} (h : Keep3 Y g1 g2 g3 c1 c2 c3 a p sig ps) (hb : Below Y.heap.size Y Z) : Keep3 Z g1 g2 g3 c1 c2 c3 a p sig ps :=
  ⟨h.r1.below hb h.r1.inside, h.r2.below hb h.r2.inside, h.r3.below hb h.r3.inside, Tab.at_ h.tab hb, h.ts.later hb, h.tp.later hb⟩
theorem keep3_of {w X : World} {c1 c2 c3 : Array Value} {a p : Option Addr} {sig ps : List B} (hX : (((w.alloc (.cells c1 29)).alloc (.cells c2 29)).alloc (.cells c3 29)).drew.drew = X) (ht : Tab w) (hs : Txt w w.heap.size a sig) (hp : Txt w w.heap.size p ps) :
    Keep3 X w.heap.size (w.heap.size + 1) (w.heap.size + 1 + 1) c1 c2 c3 a p sig ps ∧ Below w.heap.size w X := by
  have b1 : Below w.heap.size w (((w.alloc (.cells c1 29)).alloc (.cells c2 29)).alloc (.cells c3 29)) := (((Below.refl _ w).alloc (Nat.le_refl _) _).alloc (by simp) _).alloc (by simp; omega) _
  have bX : Below w.heap.size w X := hX ▸ ⟨b1.os, b1.tape, b1.output, b1.size, b1.block⟩
  refine ⟨⟨?_, ?_, ?_, Tab.at_ ht bX, hs.later bX, hp.later bX⟩, bX⟩
  · exact hX ▸ (((IsRow.made w 29 c1).later _).later _ : IsRow (((w.alloc (.cells c1 29)).alloc (.cells c2 29)).alloc (.cells c3 29)) w.heap.size 29 c1)
  · have := (IsRow.made (w.alloc (.cells c1 29)) 29 c2).later (.cells c3 29)
    rw [World.size_alloc] at this
    exact hX ▸ this
  · have := IsRow.made ((w.alloc (.cells c1 29)).alloc (.cells c2 29)) 29 c3
    rw [World.size_alloc, World.size_alloc] at this
    exact hX ▸ this
theorem ver_len (pub m : B) (idx : Int) (sig ps : List B) (h : sig.length ≠ 18) : verB pub m idx sig ps = false := by
  unfold verB formed
  simp [h]
theorem wrap_id {x : Int} (h : -9223372036854775808 ≤ x) (h' : x ≤ 9223372036854775807) : wrap64 x = x := by unfold wrap64; omega
theorem pow_int (np : Nat) (h8 : np ≤ 8) : (0 : Int) ≤ 2 ^ np ∧ (2 : Int) ^ np ≤ 256 := by
  have := pow_le np 0 h8
  simp only [Nat.sub_zero] at this
  have e : ((2 ^ np : Nat) : Int) = 2 ^ np := by simp
  have h1 : (0 : Int) ≤ ((2 ^ np : Nat) : Int) := Int.natCast_nonneg _
  have h2 : ((2 ^ np : Nat) : Int) ≤ ((256 : Nat) : Int) := Int.ofNat_le.2 this
  rw [e] at h1 h2
  exact ⟨h1, h2⟩
theorem ver_far (pub m : B) {idx : Int} (sig ps : List B) {np : Nat} (hn : np = ps.length) (h8 : np ≤ 8) (h0 : 0 ≤ idx) (hi : idx < 2 ^ np) : verB pub m (wrap64 (idx + wrap64 (2 ^ np))) sig ps = false := by
  obtain ⟨h1, h256⟩ := pow_int np h8
  have e : wrap64 (idx + wrap64 (2 ^ np)) = idx + 2 ^ np := by
    rw [wrap_pow np h8]
    exact wrap_id (by omega) (by omega)
  have : ¬ (idx + (2 : Int) ^ np < 2 ^ np) := by omega
  rw [e, hn] at *
  unfold verB formed
  simp only [decide_eq_false this, Bool.and_false, Bool.false_and]
theorem ver_below (pub m : B) {idx : Int} (sig ps : List B) {np : Nat} (h8 : np ≤ 8) (h0 : 0 ≤ idx) (hi : idx < 2 ^ np) : verB pub m (wrap64 (idx - wrap64 (2 ^ np))) sig ps = false := by
  obtain ⟨h1, h256⟩ := pow_int np h8
  have e : wrap64 (idx - wrap64 (2 ^ np)) = idx - 2 ^ np := by
    rw [wrap_pow np h8]
    exact wrap_id (by omega) (by omega)
  have : ¬ (0 ≤ idx - (2 : Int) ^ np) := by omega
  rw [e]
  unfold verB formed
  simp only [decide_eq_false this, Bool.and_false, Bool.false_and]
theorem isDig_root (m : B) (i : Nat) (sig ps : List B) : isDig (rootBy m i sig ps) = true := isDig_val _ _ _ (isDig_dl _) _
end Go.Proofs.YtanlpcdljclnmaaDoor.Sl
