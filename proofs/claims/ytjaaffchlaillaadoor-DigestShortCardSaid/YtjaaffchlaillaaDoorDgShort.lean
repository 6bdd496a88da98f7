/- P1.3, DigestShort: for every two texts, cut to at most 7 bytes: they have the same digest exactly if they are equal. Every input; the three tables of the library are tied to the program's text. -/
import Derived.Test.YtjaaffchlaillaaDoorDgHead
import Derived.Test.YtjaaffchlaillaaDoorCards
import Derived.Test.YtjaaffchlaillaaDoorLawFrame
import Derived.Test.YtjaaffchlaillaaDoorTie
namespace Go.Proofs.YtjaaffchlaillaaDoor.Dg
open Go.RowKit
set_option maxHeartbeats 1000000 in
theorem short_any (a b : ByteArray) (w : World) (ha : a.size ≤ maxLen) (hb : b.size ≤ maxLen) (ht : Tab w) :
    Calls Tryd.prog 5 #[.string a, .string b] w fun e w' => e = .returned (.bool true) ∧ Below w.heap.size w w' := by
  unfold maxLen at ha hb
  go_enter Tryd.func5, Tryd.ntmps5
  go_wp2_with fail
  refine (head_any w ht).mono ?_
  rintro e w1 ⟨rfl, hb1⟩
  have H1 := Lib.hid hb1
  clear hb1 ht
  go_wp2_with fail
  have hp : (a.extract 0 (min (a.size : Int) 7).toNat).size ≤ 7 := by rw [ByteArray.size_extract]; omega
  have hq : (b.extract 0 (min (b.size : Int) 7).toNat).size ≤ 7 := by rw [ByteArray.size_extract]; omega
  generalize a.extract 0 (min (a.size : Int) 7).toNat = p at *
  generalize b.extract 0 (min (b.size : Int) 7).toNat = q at *
  refine (sum_of p _ _ (by unfold maxLen; omega) rfl).mono ?_
  rintro e w2 ⟨rfl, hb2⟩
  have H2 : Hid (Below w.heap.size w w2) := H1.out.trans (hb2.mono H1.out.size)
  clear H1 hb2
  by_cases e : p = q
  · subst e
    go_wp2_with fail
    refine (sum_of p _ _ (by unfold maxLen; omega) rfl).mono ?_
    rintro e w3 ⟨rfl, hb3⟩
    have H3 : Hid (Below w.heap.size w w3) := H2.out.trans (hb3.mono H2.out.size)
    clear H2 hb3
    go_wp2
    go_ret
    exact ⟨rfl, H3.out⟩
  · have n1 : (p.data.toList == q.data.toList) = false := by
      rw [beq_eq_false_iff_ne]
      exact fun h => e (ByteArray.ext (Array.ext' h))
    have n2 : (dsum p.data.toList == dsum q.data.toList) = false := dsum_ne (by rw [len_data]; exact hp) (by rw [len_data]; exact hq) (beq_eq_false_iff_ne.1 n1)
    have n3 : (p.toList == q.toList) = false := by rw [Lib.toList_data, Lib.toList_data]; exact n1
    clear e
    go_wp2_with fail
    refine (sum_of q _ _ (by unfold maxLen; omega) rfl).mono ?_
    rintro e w3 ⟨rfl, hb3⟩
    have H3 : Hid (Below w.heap.size w w3) := H2.out.trans (hb3.mono H2.out.size)
    clear H2 hb3
    go_wp2
    go_ret
    exact ⟨rfl, H3.out⟩
end Go.Proofs.YtjaaffchlaillaaDoor.Dg
namespace Go.Proofs.YtjaaffchlaillaaDoor.DigestShort
open Go.ChangeShapes Go.WideShapes Go.ChangeAt Go.RowKit
open Go.ChangeMaps (open_string shut_string)
theorem gTabType : (Tryd.prog.globals[0]?).map (·.type) = some 67 := by kernel_rfl
theorem cellsT : Tryd.prog.cellsOf 67 = 20 := by kernel_rfl
theorem cellsE : Tryd.prog.cellsOf 36 = 1 := by kernel_rfl
theorem tab {W : World} (h : laidMetH Tryd.prog Rows.digestShortRow.laid W) : Dg.Tab W :=
  Lib.tabIs_of_head (rest := []) Dg.tab_at gTabType Tryd.underlying67 Tryd.underlying36 cellsE cellsT (laidMet.tail (laidMet.tail h))
theorem readable : ∀ t ∈ Tryd.f5.params.toList, Tryd.prog.readableRec t = true ∧ t < Tryd.prog.types.size := by
  have h : (Tryd.f5.params.toList.all fun t => Tryd.prog.readableRec t && decide (t < Tryd.prog.types.size)) = true := by kernel_rfl
  intro t ht
  have := List.all_eq_true.1 h t ht
  simpa using this
theorem contract (H : Type) (enc : TypeId × Value → H) (W : World) (base : Nat) (args : Array Value) (ds gs : List (DataW H)) (before : List MemPlace)
    (hval : ∀ (j : Nat) t v, Tryd.f5.params[j]? = some t → args[j]? = some v → Value.okWide Tryd.prog W .any base t v)
    (hW : DataW.Whole enc Tryd.prog Tryd.f5.params.toList Rows.digestShortSpec.vars false W args.toList ds gs before) (hL : laidMetH Tryd.prog Rows.digestShortRow.laid W) :
    Calls Tryd.prog 5 args W fun e W' => ∃ v, e = .returned v ∧ Rows.digestShortSpec.post enc Tryd.prog Tryd.f5 false true false false W args v W' := by
  have hW' := hW
  obtain ⟨p, q, hA0, hV, rfl, hfz, hnd⟩ := hW
  have hA : DataW.TrodAll enc Tryd.prog W 0 (fun _ => true) true Tryd.f5.params.toList args.toList ds p := hA0
  rw [Tryd.params5] at hA hval
  obtain ⟨v0, vs0, d0, ds0, p0, q0, hargs, hds0, hp0, h0, r0⟩ := trodAll_cons hA
  obtain ⟨v1, vs1, d1, ds1, p1, q1, hvs1, hds1, hp1, h1, r1⟩ := trodAll_cons r0
  obtain ⟨hvs2, hds2, hp2⟩ := trodAll_nil r1
  subst hvs2 hvs1
  obtain rfl : args = #[v0, v1] := by cases args; simp_all
  obtain ⟨a, rfl, _, _, ha⟩ := open_string Tryd.underlying9 (hval 0 9 v0 rfl rfl) h0
  obtain ⟨b, rfl, _, _, hb⟩ := open_string Tryd.underlying9 (hval 1 9 v1 rfl rfl) h1
  have walk := Dg.short_any a b W ha hb (tab hL)
  refine walk.mono fun e W' ⟨he, hg⟩ => ?_
  subst he
  exact ⟨_, rfl, Frame.law_post Frame.laidOut readable rfl Tryd.underlying4 rfl (fun xs hx => by
    match xs, hx with
    | [_, _], _ => rfl) hW' hg⟩
theorem laid_met (os : Os) : laidMet Tryd.prog Rows.digestShortRow.laid ((World.doorLaid Tryd.prog 24 os).forCall (fun _ _ => 0) ⟨#[], #[.string ⟨#[]⟩, .string ⟨#[]⟩], []⟩).memory :=
  laidMet_of_run' 8 (by kernel_rfl) (by kernel_rfl)
theorem reads (os : Os) {H : Type} (enc : TypeId × Value → H) : ∃ places, DataW.whole enc Tryd.prog ((World.doorLaid Tryd.prog 24 os).forCall (fun _ _ => 0) ⟨#[], #[.string ⟨#[]⟩, .string ⟨#[]⟩], []⟩).memory Tryd.f5.params.toList Rows.digestShortSpec.vars false #[Value.string ⟨#[]⟩, .string ⟨#[]⟩].toList 8 = some ([.lit (.string []), .lit (.string [])], [], places) :=
  ⟨[], by kernel_rfl⟩
set_option maxRecDepth 100000 in
theorem lifted (os : Os) (started : os.Started) (H : Type) (enc : TypeId × Value → H) (F : Stop.Interp) :
    ReturnsInHanded {} Tryd.checked os 5 .any ((OpenSpec.ofChange Rows.digestShortSpec).preRow enc Tryd.prog Tryd.f5 Rows.digestShortRow.domain false Rows.digestShortRow.laid) (((OpenSpec.ofChange Rows.digestShortSpec).at F).post enc Tryd.prog Tryd.f5 false true false false) := by
  obtain ⟨places, hx⟩ := reads os enc
  refine returnsInHanded_of_row (C := Tryd.checked) (s := OpenSpec.ofChange Rows.digestShortSpec) Frame.own started (by kernel_rfl) Tryd.func5
    (witness_row_at (enc := enc) (C := Tryd.checked) false (World.doorLaid Tryd.prog 24 os) #[.string ⟨#[]⟩, .string ⟨#[]⟩] rfl (by kernel_rfl) (by kernel_rfl) (by kernel_rfl)
      (OpenSpec.preRow_of_cond 8 hx (by kernel_rfl) (fun k hk => by cases hk) (by kernel_rfl) (laid_met os))) ?_
  intro W base args ds gs before hval hW _ _ _ hL _ _
  exact contract H enc W base args ds gs before hval hW hL
theorem said : Rows.DigestShortSaid :=
  OpenClaim.holds_of_cond 5 Tryd.f5 rfl rfl rfl rfl rfl rfl rfl ⟨rfl, rfl, rfl, rfl, rfl⟩ rfl rfl rfl rfl rfl (by kernel_rfl) Tryd.func5 (by kernel_rfl)
    (of_decide_eq_true (by kernel_rfl)) (by unfold Func.isWrapper; first | (rw [if_pos (by decide +kernel)]; kernel_rfl) | (rw [if_neg (by decide +kernel)]; exact ⟨rfl, rfl⟩))
    (fun os started H enc _ F => by rw [OpenClaim.pre_eq_preRow]; exact lifted os started H enc F)
theorem plain (f : FuncId) (fn : Func) (hf : Tryd.pinned.checked.prog.funcNamed "planisphere/planispherelaw01.DigestShort" = some f) (hfn : Tryd.pinned.checked.prog.funcs[f]? = some fn) :
    false = Tryd.pinned.checked.prog.looks [] ∧ ∀ (j : Nat) t, fn.params[j]? = some t → Tryd.pinned.checked.prog.wantsStandIn t = false := by
  obtain rfl : f = 5 := Option.some.inj ((show Tryd.prog.funcNamed "planisphere/planispherelaw01.DigestShort" = some 5 by kernel_rfl).symm.trans hf) |>.symm
  obtain rfl : fn = Tryd.f5 := (Option.some.inj (Tryd.func5.symm.trans hfn)).symm
  refine ⟨by kernel_rfl, fun j t ht => ?_⟩
  have h : (Tryd.f5.params.toList.all fun u => !Tryd.prog.wantsStandIn u) = true := by kernel_rfl
  have := List.all_eq_true.1 h t (by simpa using Array.mem_of_getElem? ht)
  exact (show Tryd.prog.wantsStandIn t = false by simpa using this)
theorem card : Rows.DigestShortCardSaid :=
  Claim7.holds_tied_plain_at .later [] _ _ _ _ said (fun _ h => by cases h) (by kernel_rfl) (fun _ h => by cases h) digestShort_row_tie rfl ⟨rfl, rfl⟩ (by kernel_rfl) rfl plain (by kernel_rfl)
end Go.Proofs.YtjaaffchlaillaaDoor.DigestShort
