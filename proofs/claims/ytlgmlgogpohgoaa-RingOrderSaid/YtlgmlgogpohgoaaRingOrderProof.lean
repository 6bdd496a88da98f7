/- Promise P4.4 of chapter 4: for every two rings, point and numbers, RingOrder answers true: with other first corners, and in the opposite order, Simple, Side and Relation are the same. No condition. -/
import Derived.Test.YtlgmlgogpohgoaaRows
import Derived.Test.YtlgmlgogpohgoaaRgOrderWalk
import Derived.Test.YtlgmlgogpohgoaaGmOpen
import Derived.Test.YtlgmlgogpohgoaaRgOpen
import Derived.WalkKit
import Derived.ProofKit
import Derived.OpenShut
namespace Go.Proofs.Ytlgmlgogpohgoaa.RingOrder
open Go.ChangeShapes Go.WideShapes Go.ChangeAt Go.RowKit
theorem readable : ∀ t ∈ Try.f6.params.toList, Try.prog.readableRec t = true ∧ t < Try.prog.types.size := by
  have h : (Try.f6.params.toList.all fun t => Try.prog.readableRec t && decide (t < Try.prog.types.size)) = true := by kernel_rfl
  intro t ht
  have := List.all_eq_true.1 h t ht
  simpa using this
theorem cellsPt : Try.prog.cellsOf 24 = 2 := by kernel_rfl
theorem cellsInt : Try.prog.cellsOf 3 = 1 := by kernel_rfl
set_option maxRecDepth 100000 in
theorem lifted (os : Os) (started : os.Started) (H : Type) (enc : TypeId × Value → H) :
    ReturnsInHanded {} Try.checked os 6 .any (Rows.ringOrderSpec.pre6 enc Try.prog Try.f6 Rows.ringOrderRow.domain false) (Rows.ringOrderSpec.post enc Try.prog Try.f6 false true false false) := by
  refine returnsInHanded_of_change (C := Try.checked) Frame.own started (by kernel_rfl) Try.func6
    (ChangeSpec.witness6 (enc := enc) (C := Try.checked) false ⟨#[], #[.slice none 0 0, .slice none 0 0, .agg #[.int .i64 0, .int .i64 0], .int .u8 0, .int .u8 0], []⟩ 8 (by kernel_rfl) (by kernel_rfl) (by kernel_rfl) (by kernel_rfl)) ?_
  intro W base args ds gs before hval0 hW _ _
  have hval : ∀ (j : Nat) t v, Try.f6.params[j]? = some t → args[j]? = some v → Value.okWide Try.prog W .any base t v := hval0
  have hW' := hW
  obtain ⟨p, q, hA0, _, _, _, _⟩ := hW
  have hA : DataW.TrodAll enc Try.prog W 0 (fun _ => true) true Try.f6.params.toList args.toList ds p := hA0
  rw [Try.params6] at hA hval
  obtain ⟨v0, vs0, d0, ds0, p0, q0, hvs0, _, _, h0, r0⟩ := trodAll_cons hA
  obtain ⟨v1, vs1, d1, ds1, p1, q1, hvs1, _, _, h1, r1⟩ := trodAll_cons r0
  obtain ⟨v2, vs2, d2, ds2, p2, q2, hvs2, _, _, h2, r2⟩ := trodAll_cons r1
  obtain ⟨v3, vs3, d3, ds3, p3, q3, hvs3, _, _, h3, r3⟩ := trodAll_cons r2
  obtain ⟨v4, vs4, d4, ds4, p4, q4, hvs4, _, _, h4, r4⟩ := trodAll_cons r3
  obtain ⟨hvs5, _, _⟩ := trodAll_nil r4
  subst hvs5 hvs4 hvs3 hvs2 hvs1
  obtain rfl : args = #[v0, v1, v2, v3, v4] := by cases args; simp_all
  obtain ⟨a0, n0, c0, l0, rfl, hl0, hc0, hm0, hp0⟩ := Frame.pts_of Try.underlying22 Try.underlying24 cellsPt rfl rfl cellsInt cellsInt Try.underlying3 Try.underlying3 (hval 0 22 v0 rfl rfl) h0
  obtain ⟨a1, n1, c1, l1, rfl, hl1, hc1, hm1, hp1⟩ := Frame.pts_of Try.underlying22 Try.underlying24 cellsPt rfl rfl cellsInt cellsInt Try.underlying3 Try.underlying3 (hval 1 22 v1 rfl rfl) h1
  obtain ⟨q2, rfl⟩ := Frame.pt_of Try.underlying24 (by kernel_rfl) cellsPt Try.underlying3 Try.underlying3 (hval 2 24 v2 rfl rfl) h2
  obtain ⟨n3, rfl, _, _, wn3⟩ := open_int Try.underlying5 (hval 3 5 v3 rfl rfl) h3
  obtain ⟨n4, rfl, _, _, wn4⟩ := open_int Try.underlying5 (hval 4 5 v4 rfl rfl) h4
  refine (Rg.order_u8 a0 a1 n0 c0 n1 c1 l0 l1 q2 n3 n4 W hp0 hp1 hl0 hl1 hc0 hc1 hm0 hm1 (bounds_u8 wn3) (bounds_u8 wn4)).mono fun e W' ⟨he, hg⟩ => ?_
  subst he
  exact ⟨_, rfl, Frame.law_post Frame.laidOut readable rfl Try.underlying4 rfl (fun xs hx => by
    match xs, hx with
    | [_, _, _, _, _], _ => rfl) hW' hg⟩
theorem said : Rows.RingOrderSaid :=
  OpenClaim.holds_of_wide 6 Try.f6 rfl rfl rfl rfl rfl rfl rfl ⟨rfl, rfl, rfl, rfl, rfl⟩ rfl rfl rfl rfl rfl (by kernel_rfl) Try.func6 (by kernel_rfl)
    (of_decide_eq_true (by kernel_rfl)) (by unfold Func.isWrapper; first | (rw [if_pos (by decide +kernel)]; kernel_rfl) | (rw [if_neg (by decide +kernel)]; exact ⟨rfl, rfl⟩))
    (fun os started H enc _ => lifted os started H enc)
end Go.Proofs.Ytlgmlgogpohgoaa.RingOrder
