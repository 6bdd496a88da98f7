/- Lists of points in memory; ring.isFar, fits; slices.IndexFunc and ContainsFunc with isFar. -/
import Derived.Test.YtlagolgmkmdhhaaGmMeets
import Derived.Test.YtlagolgmkmdhhaaGmOwn
namespace Go.Proofs.Ytlagolgmkmdhhaa.Rg
open Go.RowKit Go.Sort
open Go.Proofs.Ytlagolgmkmdhhaa.Geo hiding intOf
/-- the slice at address a holds the points l, in a block below N. -/
def Pts (w : World) (N : Nat) (a : Option Addr) (l : List Pt) : Prop := 0 < l.length → ∃ b off, a = some ⟨b, off, none⟩ ∧ b < N ∧
  ∀ k p, l[k]? = some p → w.cell? ⟨b, off + k * 2, none⟩ = some (.int .i64 p.x) ∧ w.cell? ⟨b, off + k * 2 + 1, none⟩ = some (.int .i64 p.y)
section
variable {w w' : World} {N N' : Nat} {a : Option Addr} {l : List Pt}
theorem Pts.below (h : Pts w N a l) (hb : Below N w w') : Pts w' N a l := fun h0 => by
  obtain ⟨b, off, rfl, hN, hc⟩ := h h0
  exact ⟨b, off, rfl, hN, fun k p hk => ⟨(hb.cell (p := ⟨b, off + k * 2, none⟩) hN).trans (hc k p hk).1, (hb.cell (p := ⟨b, off + k * 2 + 1, none⟩) hN).trans (hc k p hk).2⟩⟩
theorem Pts.more (h : Pts w N a l) (hN : N ≤ N') : Pts w N' a l := fun h0 => by
  obtain ⟨b, off, rfl, hb, hc⟩ := h h0
  exact ⟨b, off, rfl, by omega, hc⟩
theorem Pts.later (h : Pts w w.heap.size a l) (hb : Below w.heap.size w w') : Pts w' w'.heap.size a l := (h.below hb).more hb.size
theorem Pts.at_ (h : Pts w N a l) {k : Nat} {p : Pt} (hk : l[k]? = some p) : ∃ b off, a = some ⟨b, off, none⟩ ∧ b < N ∧ w.cell? ⟨b, off + k * 2, none⟩ = some (.int .i64 p.x) ∧ w.cell? ⟨b, off + k * 2 + 1, none⟩ = some (.int .i64 p.y) := by
  have hl : 0 < l.length := Nat.lt_of_le_of_lt (Nat.zero_le _) (List.getElem?_eq_some_iff.1 hk).1
  obtain ⟨b, off, rfl, hb, hc⟩ := h hl
  exact ⟨b, off, rfl, hb, hc k p hk⟩
end
theorem on_self (p : Pt) : onN p p p = nearB p := by
  unfold onN
  cases nearB p with
  | false => rfl
  | true => simpa using holds_left p p
set_option maxRecDepth 100000 in
set_option maxHeartbeats 1000000 in
theorem isFar_any (p : Pt) : Answers Try.prog 26 #[.agg #[.int .i64 p.x, .int .i64 p.y]] (.bool (!nearB p)) := by
  intro w
  obtain ⟨W, hW⟩ : ∃ W, w.alloc (.cells #[.int .i64 p.x, .int .i64 p.y] 24) = W := ⟨_, rfl⟩
  have HB : Hid (Below w.heap.size w W) := hW ▸ alloc1 _ _
  obtain ⟨_, p0, p1⟩ := hW ▸ Has.made w 24 p
  have HW := Lib.hid hW
  clear hW
  go_enter Try.func26, Try.ntmps26
  go_wp2_with fail
  try rw [HW.out]
  refine (on_any p p p _).mono ?_
  rw [on_self]
  rintro e w1 ⟨rfl, hb1⟩
  have HB1 := Lib.hid (HB.out.trans (hb1.mono HB.out.size))
  clear hb1 p0 p1
  go_wp2
  go_ret
  exact ⟨rfl, HB1.out⟩
def farB (p : Pt) : Bool := !nearB p
theorem far_at {l : List Pt} {k : Nat} {p : Pt} (h : l[k]? = some p) (hp : nearB p = false) : l.any farB = true := List.any_eq_true.2 ⟨p, List.mem_of_getElem? h, by unfold farB; rw [hp]; rfl⟩
theorem far_step {l : List Pt} {k : Nat} {p : Pt} (h : l[k]? = some p) (hp : nearB p = true) (ha : (l.take k).any farB = false) : (l.take (k + 1)).any farB = false := by
  obtain ⟨hk, rfl⟩ := List.getElem?_eq_some_iff.1 h
  rw [List.take_succ_eq_append_getElem hk, List.any_append, ha]
  simpa [farB] using hp
set_option maxRecDepth 100000 in
set_option maxHeartbeats 1000000 in
theorem indexFar_any (a : Option Addr) (cap : Nat) (l : List Pt) (w : World) (hl : Pts w w.heap.size a l) (hn : l.length ≤ maxLen) :
    Calls Try.prog 59 #[.slice a l.length cap, .func (.func 26) #[] #[]] w
      fun e w' => (∃ r : Int, e = .returned (.int .i64 r) ∧ decide (r ≥ 0) = l.any farB) ∧ Below w.heap.size w w' := by
  unfold maxLen at hn
  have HL := Lib.hid hl
  clear hl
  go_enter Try.func59, Try.ntmps59
  go_wp2
  go_loopw [8] (fun i wr => ∃ k : Nat, k ≤ l.length ∧ i = .int .i64 k ∧ Hid ((l.take k).any farB = false) ∧ Hid (Below w.heap.size w wr)) (fun i _ => l.length - (intOf i).toNat)
  case atStart => exact ⟨0, by omega, rfl, rfl, Lib.hid (Below.refl _ _)⟩
  case round =>
    obtain ⟨k, hk, rfl, hall, hb⟩ := hrel
    by_cases hlt : k < l.length
    · obtain ⟨p, hp⟩ : ∃ p, l[k]? = some p := ⟨_, List.getElem?_eq_getElem hlt⟩
      obtain ⟨b, off, rfl, hbN, c0, c1⟩ := (HL.out.below hb.out).at_ hp
      have HP := Lib.hid hp
      clear hp
      go_wp2_with fail
      refine (isFar_any p _).mono ?_
      rintro e w1 ⟨rfl, hb1⟩
      have hb' := Lib.hid (hb.out.trans (hb1.mono hb.out.size))
      clear hb1 c0 c1
      cases hq : nearB p with
      | false =>
        have hf := Lib.hid (far_at HP.out hq)
        go_wp2
        go_ret
        exact ⟨⟨k, rfl, by rw [hf.out, decide_eq_true_iff]; omega⟩, hb'.out⟩
      | true =>
        have hall' := Lib.hid (far_step HP.out hq hall.out)
        clear hall hq
        go_wp2
        go_roundw
        case rel => exact ⟨k + 1, by omega, by go_num, hall', hb'⟩
        case measure => simp [intOf]; omega
    · obtain rfl : k = l.length := by omega
      rw [List.take_length] at hall
      go_wp2
      go_ret
      exact ⟨⟨-1, rfl, by rw [hall.out]; rfl⟩, hb.out⟩
set_option maxRecDepth 100000 in
set_option maxHeartbeats 1000000 in
theorem containsFar_any (a : Option Addr) (cap : Nat) (l : List Pt) (w : World) (hl : Pts w w.heap.size a l) (hn : l.length ≤ maxLen) :
    Calls Try.prog 35 #[.slice a l.length cap, .func (.func 26) #[] #[]] w
      fun e w' => e = .returned (.bool (l.any farB)) ∧ Below w.heap.size w w' := by
  have HI := indexFar_any a cap l w hl hn
  clear hl hn
  go_enter Try.func35, Try.ntmps35
  go_wp2_with fail
  refine HI.mono ?_
  rintro e w1 ⟨⟨r, rfl, hr⟩, hb1⟩
  have HR := Lib.hid hr
  clear hr HI
  go_wp2
  go_ret
  exact ⟨ret_bool HR.out, hb1⟩
def fitsN (l : List Pt) : Bool := decide (3 ≤ l.length) && decide (l.length ≤ 2000) && l.all nearB
theorem not_far (l : List Pt) : (!l.any farB) = l.all nearB := by
  induction l with
  | nil => rfl
  | cons p l ih =>
    rw [List.any_cons, List.all_cons, ← ih]
    unfold farB
    cases nearB p <;> simp
set_option maxRecDepth 100000 in
set_option maxHeartbeats 1000000 in
theorem fits_any (a : Option Addr) (n cap : Nat) (l : List Pt) (w : World) (hl : Pts w w.heap.size a l) (hln : n = l.length) (hn : n ≤ maxLen) :
    Calls Try.prog 17 #[.slice a n cap] w fun e w' => e = .returned (.bool (fitsN l)) ∧ Below w.heap.size w w' := by
  subst hln
  obtain ⟨R, hR⟩ : ∃ R, fitsN l = R := ⟨_, rfl⟩
  have HR := Lib.hid hR
  rw [hR]
  have HC := Lib.hid (containsFar_any a cap l w hl hn)
  unfold maxLen at hn
  clear hR hl
  go_enter Try.func17, Try.ntmps17
  by_cases h1 : 3 ≤ l.length
  · by_cases h2 : l.length ≤ 2000
    · go_wp2_with fail
      refine HC.out.mono ?_
      rintro e w1 ⟨rfl, hb1⟩
      have HE : Hid ((!l.any farB) = R) := by
        show _ = _
        rw [not_far, ← HR.out]
        unfold fitsN
        rw [decide_eq_true h1, decide_eq_true h2]
        rfl
      go_wp2
      go_ret
      exact ⟨ret_bool HE.out, hb1⟩
    · have HE : Hid (false = R) := by
        show _ = _
        rw [← HR.out]
        unfold fitsN
        rw [decide_eq_false h2]
        simp
      go_wp2
      go_ret
      exact ⟨ret_bool HE.out, Below.refl _ _⟩
  · have HE : Hid (false = R) := by
      show _ = _
      rw [← HR.out]
      unfold fitsN
      rw [decide_eq_false h1]
      simp
    go_wp2
    go_ret
    exact ⟨ret_bool HE.out, Below.refl _ _⟩
end Go.Proofs.Ytlagolgmkmdhhaa.Rg
