/- index: Put. -/
import Derived.Test.YteghhfkllclghaaIxUpd
namespace Go.Proofs.Yteghhfkllclghaa.Ix
open Go.RowKit Go.Sort
open Go.Maps (Keyed IsMap has)
def putE (i : Id) (b : Bx) (S : List It) : Int := if validB b then (if (boxS i S).isSome then 9 else 0) else 1
def putR (i : Id) (b : Bx) (S : List It) : List It := if validB b && (boxS i S).isNone then putS i b S else S
/-- what an operation does to an index. -/
def OpQ (w : World) (x m n : Nat) (t : Option (Tr Value)) (S : List It) (w' : World) : Prop :=
  ∃ t' D' lk', Idx w' x m n t' D' lk' S ∧ (∀ k ∈ fpO t', k ∈ fpO t ∨ w.heap.size ≤ k) ∧ Ch (fun k => k = x ∨ k = m ∨ k ∈ fpO t) w w'
theorem OpQ.same {w w' : World} {x m n : Nat} {t : Option (Tr Value)} {D : DataW Value} {lk : Id → Option (Nat × Nat)} {S : List It} (h : Idx w x m n t D lk S) (hb : Below w.heap.size w w') : OpQ w x m (n + 1) t S w' := by
  have h' := h.below hb
  exact ⟨t, D, lk, ⟨h'.row, h'.tree, h'.map.mono (Nat.le_succ n), h'.dat, h'.ok, h'.perm, h'.srt, h'.ax, h'.am, h'.xm, Nat.le_succ_of_le h'.len, Nat.le_succ_of_le h'.few⟩, fun k hk => .inl hk, Ch.of_below hb⟩
set_option maxRecDepth 100000 in
set_option maxHeartbeats 4000000 in
theorem put_bad (w : World) (x m n : Nat) (t : Option (Tr Value)) (D : DataW Value) (lk : Id → Option (Nat × Nat)) (S : List It) (i : Id) (b : Bx) (h : Idx w x m n t D lk S) (hi : i.length ≤ 1000) (hv : validB b = false ∨ lk i ≠ none) :
    Calls Try.prog 29 #[ptr x, .string ⟨i.toArray⟩, vB b] w fun e w' => e = .returned (.int .i64 (if validB b then 9 else 1)) ∧ Below w.heap.size w w' := by
  have HI := Lib.hid hi
  obtain ⟨W, hW, hB, hR⟩ := box_row w 26 b
  have HW := Lib.hid hW
  have B0 := Lib.hid hB
  have R0 := Lib.hid hR
  have H0 := Lib.hid (h.below hB)
  obtain ⟨b0, b1, b2, b3⟩ := box_facts hR
  have k1 := Lib.hid (isValid_any b W)
  clear hW hB hR h
  unfold ptr
  unfold vB at k1 ⊢
  unfold cB at HW
  cases hvv : validB b with
  | false =>
    rw [hvv] at k1
    clear hvv
    go_enter Try.func29, Try.ntmps29
    go_upto_region 1 with fail
    rw [HW.out]
    go_wp2_with fail
    refine k1.out.mono ?_
    rintro e w1 ⟨rfl, bb⟩
    have B1 := Lib.hid (B0.out.trans (bb.mono B0.out.size))
    clear bb k1 H0 R0 b0 b1 b2 b3
    go_wp2
    go_ret
    exact ⟨rfl, B1.out⟩
  | true =>
    obtain ⟨p, j, hl⟩ : ∃ p j, lk i = some (p, j) := by
      rcases hv with e | e
      · rw [hvv] at e; cases e
      · cases hh : lk i with
        | none => exact absurd hh e
        | some pj => exact ⟨pj.1, pj.2, rfl⟩
    have HL := Lib.hid hl
    rw [hvv] at k1
    clear hvv hv hl
    go_enter Try.func29, Try.ntmps29
    go_upto_region 1 with fail
    rw [HW.out]
    go_wp2_with fail
    refine k1.out.mono ?_
    rintro e w1 ⟨rfl, bb⟩
    have B1 := Lib.hid (B0.out.trans (bb.mono B0.out.size))
    have H1 := Lib.hid (H0.out.below bb)
    clear bb k1 H0 R0 b0 b1 b2 b3
    have hmap := H1.out.map
    have hdat := H1.out.dat
    have r1 := H1.out.row.get 1
    go_upto_region 4 with (first | (at_lookup; refine wpList_found rfl _ _ rfl m n D lk rfl hmap hdat i HI.out rfl HL.out ?_))
    have B2 := Lib.hid (B1.out.alloc B1.out.size (.cells #[.pointer (some ⟨p, 0, none⟩), .int .i64 j] 68))
    clear hmap hdat r1 H1
    go_wp2
    go_ret
    exact ⟨rfl, B2.out⟩
end Go.Proofs.Yteghhfkllclghaa.Ix
