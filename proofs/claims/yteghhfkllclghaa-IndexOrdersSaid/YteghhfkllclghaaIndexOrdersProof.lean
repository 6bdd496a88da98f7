/- For every operations, box, point and number, an index to which the boxes that are left in the end are added in the opposite order, after others that are removed again, returns the same: for every argument, with no condition. -/
import Derived.Test.YteghhfkllclghaaRows
import Derived.Test.YteghhfkllclghaaIxOrdersWalk
import Derived.Test.YteghhfkllclghaaIxFr
import Derived.ChangeMaps5
import Derived.WalkKit
import Derived.ProofKit
import Derived.OpenShut
namespace Go.Proofs.Yteghhfkllclghaa.IndexOrders
open Go.ChangeShapes Go.WideShapes Go.ChangeAt Go.RowKit
theorem readable : ∀ t ∈ Try.f6.params.toList, Try.prog.readableRec t = true ∧ t < Try.prog.types.size := by
  have h : (Try.f6.params.toList.all fun t => Try.prog.readableRec t && decide (t < Try.prog.types.size)) = true := by kernel_rfl
  intro t ht
  have := List.all_eq_true.1 h t ht
  simpa using this
theorem cOp : Try.prog.cellsOf 35 = 6 := by kernel_rfl
theorem cBx : Try.prog.cellsOf 26 = 4 := by kernel_rfl
theorem cPt : Try.prog.cellsOf 24 = 2 := by kernel_rfl
theorem cBl : Try.prog.cellsOf 4 = 1 := by kernel_rfl
theorem cSt : Try.prog.cellsOf 9 = 1 := by kernel_rfl
set_option maxRecDepth 100000 in
theorem lifted (os : Os) (started : os.Started) (H : Type) (enc : TypeId × Value → H) :
    ReturnsInHanded {} Try.checked os 6 .any (Rows.indexOrdersSpec.pre6 enc Try.prog Try.f6 Rows.indexOrdersRow.domain false) (Rows.indexOrdersSpec.post enc Try.prog Try.f6 false true false false) := by
  refine returnsInHanded_of_change (C := Try.checked) Frame.own started (by kernel_rfl) Try.func6
    (ChangeSpec.witness6 (enc := enc) (C := Try.checked) false ⟨#[], #[.slice none 0 0, .agg #[.int .i64 0, .int .i64 0, .int .i64 0, .int .i64 0], .agg #[.int .i64 0, .int .i64 0], .int .i64 0], []⟩ 8 (by kernel_rfl) (by kernel_rfl) (by kernel_rfl) (by kernel_rfl)) ?_
  intro W base args ds gs before hval0 hW _ _
  have hval : ∀ (j : Nat) t v, Try.f6.params[j]? = some t → args[j]? = some v → Value.okWide Try.prog W .any base t v := hval0
  have hW' := hW
  obtain ⟨p, q, hA0, _, _, _, _⟩ := hW
  have hA : DataW.TrodAll enc Try.prog W 0 (fun _ => true) true Try.f6.params.toList args.toList ds p := hA0
  rw [Try.params6] at hA hval
  obtain ⟨v0, vs0, d0, ds0, p0, q0, hvs0, _, _, h0, r0⟩ := trodAll_cons hA
  obtain ⟨v1, vs1, d1, ds1, p1, q1, hvs1, _, _, h1, r1⟩ := trodAll_cons r0
  obtain ⟨v2, vs2, d2, ds2, p2, q2, hvs2, _, _, h2, r2⟩ := trodAll_cons r1
  obtain ⟨v3, vs3, d3, ds3, p3, q3, hvs3, _, _, h3, r3⟩ := trodAll_cons r2
  obtain ⟨hvs4, _, _⟩ := trodAll_nil r3
  subst hvs4 hvs3 hvs2 hvs1
  obtain rfl : args = #[v0, v1, v2, v3] := by cases args; simp_all
  obtain ⟨a0, n0, c0, l0, rfl, hl0, hc0, hm0, hp0⟩ := Frame.ixops_of Try.underlying22 Try.underlying35 cOp rfl rfl rfl cBl cSt cBx Try.underlying4 Try.underlying9 Try.underlying26 rfl rfl rfl Try.underlying24 (by kernel_rfl) cPt Try.underlying3 Try.underlying3 (hval 0 22 v0 rfl rfl) h0
  obtain ⟨b1, rfl⟩ := Frame.ixbox_of Try.underlying26 cBx rfl rfl rfl Try.underlying24 (by kernel_rfl) cPt Try.underlying3 Try.underlying3 (hval 1 26 v1 rfl rfl) h1
  obtain ⟨x2, y2, rfl⟩ := Frame.ixpt_of Try.underlying24 (by kernel_rfl) cPt Try.underlying3 Try.underlying3 (hval 2 24 v2 rfl rfl) h2
  obtain ⟨n3, rfl, _, _, _⟩ := open_int Try.underlying3 (hval 3 3 v3 rfl rfl) h3
  refine (Ix.orders_any a0 n0 c0 l0 b1 x2 y2 n3 W hl0 hp0 hc0).mono fun e W' ⟨he, hg⟩ => ?_
  subst he
  exact ⟨_, rfl, Frame.law_post Frame.laidOut readable rfl Try.underlying4 rfl (fun xs hx => by
    match xs, hx with
    | [_, _, _, _], _ => rfl) hW' hg⟩
theorem said : Rows.IndexOrdersSaid :=
  OpenClaim.holds_of_wide 6 Try.f6 rfl rfl rfl rfl rfl rfl rfl ⟨rfl, rfl, rfl, rfl, rfl⟩ rfl rfl rfl rfl rfl (by kernel_rfl) Try.func6 (by kernel_rfl)
    (of_decide_eq_true (by kernel_rfl)) (by unfold Func.isWrapper; first | (rw [if_pos (by decide +kernel)]; kernel_rfl) | (rw [if_neg (by decide +kernel)]; exact ⟨rfl, rfl⟩))
    (fun os started H enc _ => lifted os started H enc)
end Go.Proofs.Yteghhfkllclghaa.IndexOrders
