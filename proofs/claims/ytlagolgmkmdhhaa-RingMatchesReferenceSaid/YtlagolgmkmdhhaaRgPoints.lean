/- The law's points. -/
import Derived.Test.YtlagolgmkmdhhaaRgRelation
import Derived.Deep.AppendLies
namespace Go.Proofs.Ytlagolgmkmdhhaa.Rg
open Go.RowKit Go.Sort Go.Shelf
open Go.Proofs.Ytlagolgmkmdhhaa.Geo hiding intOf Apart
section
variable {w : World} {ops : Array Oper} {o : Oper} {a : Act} {Q : Exit → Act → World → Prop}
theorem step_appP {K : Act → World → Prop} {E : Prop} (hgd : o.guard = none) (s x : Operand)
    (ho : o.op = .call { callee := .builtin .append, args := #[s, x], argTypes := #[22, 22] }) (base : Nat) (v : Value) (l : List Pt) (p : Pt) (g : Nat)
    (hs : a.eval s = v) (hown : OwnP w base v l) (hx : a.eval x = .slice (some ⟨g, 0, none⟩) 1 1) (hrow : IsRow w g 24 #[.int .i64 p.x, .int .i64 p.y]) (hlen : l.length ≤ 1000) (hbase : base ≤ w.heap.size)
    (h : ∀ v' w', OwnP w' base v' (l ++ [p]) → w.grownBy w' v.ownBlock → (∀ k, v.ownBlock = some k → base ≤ k ∧ k < w.heap.size) → K (a.put o.dst v') w') :
    if Region.wanted o (yielded ops a.tmps) = true then Oper.wp Try.prog o a w K Q else E := by
  obtain ⟨i0, hi, hz0, hz1, hz2⟩ := info_of point_info
  refine step_append_lies (P := Try.prog) w hgd s x _ ho base 24 i0 _ 2 16 Try.underlying22 hi hz2 hz0 hz1 rfl (by decide) v l.length (flat l) hs hown ⟨g, 0, none⟩ 1 1 [.int .i64 p.x, .int .i64 p.y] hx rfl ?_ ?_ (by decide) (by unfold maxLen; omega) (by omega) hbase w.heap.size rfl ?_
  · intro j u hj
    have e : (⟨g, 0, none⟩ : Addr).add j = ⟨g, j, none⟩ := by unfold Addr.add; split <;> simp_all
    rw [e]
    match j, hj with
    | 0, hj => simp at hj; subst hj; exact hrow.get 0
    | 1, hj => simp at hj; subst hj; exact hrow.get 1
  · intro u hu
    simp at hu
    rcases hu with rfl | rfl <;> rfl
  · intro g1 cap w1 h1 h2 _ h4
    refine h _ w1 ?_ h2 hown.lt
    unfold OwnP
    rw [flat_append, List.length_append]
    exact h1
end
set_option maxRecDepth 100000 in
set_option maxHeartbeats 4000000 in
theorem points_any (g n c : Nat) (l : List Pt) (w : World) (hg : IsRow w g 3 (flat l).toArray) (hn : n = 2 * l.length) (h5 : l.length ≤ 1000) :
    Calls Try.prog 16 #[.slice (some ⟨g, 0, none⟩) n c] w fun e w' => (∃ v, e = .returned v ∧ OwnP w' w.heap.size v l) ∧ Below w.heap.size w w' := by
  have HG := Lib.hid hg
  have hgi := hg.inside
  clear hg
  go_enter Try.func16, Try.ntmps16
  go_wp2
  go_loopw [3, 4] (fun u i wr => ∃ k j : Nat, k ≤ l.length ∧ j = 2 * k ∧ i = .int .i64 j ∧ Hid (OwnP wr w.heap.size u (l.take k)) ∧ Hid (Below w.heap.size w wr)) (fun _ i _ => n - (intOf i).toNat)
  case atStart => exact ⟨0, 0, by omega, rfl, rfl, OwnP.nil _ _, Lib.hid (Below.refl _ _)⟩
  case round =>
    obtain ⟨k, j, hk, hj, rfl, hown, hb⟩ := hrel
    by_cases hlt : k < l.length
    · obtain ⟨p, hp⟩ : ∃ p, l[k]? = some p := ⟨_, List.getElem?_eq_getElem hlt⟩
      have RG := HG.out.below hb.out hgi
      obtain ⟨f0, f1⟩ := flat_get hp
      have ej : k * 2 = j := by omega
      rw [ej] at f0 f1
      have c0 : wr.cell? ⟨g, j, none⟩ = some (.int .i64 p.x) := by rw [RG.get j]; simpa using f0
      have c1 : wr.cell? ⟨g, j + 1, none⟩ = some (.int .i64 p.y) := by rw [RG.get (j + 1)]; simpa using f1
      have hji : (j : Int) + 1 < (n : Int) := by omega
      have hj0 : (0 : Int) ≤ (j : Int) := by omega
      have hj1 : (j : Int) < (n : Int) := by omega
      have hj2 : (0 : Int) ≤ (j : Int) + 1 := by omega
      have hjw : IntKind.i64.wrap ((j : Int) + 1) = (j : Int) + 1 := IntWalk.i64_in _ (by omega)
      have hjw' : wrap64 ((j : Int) + 1) = (j : Int) + 1 := by unfold wrap64; omega
      have hjt : ((j : Int) + 1).toNat = j + 1 := by omega
      have hti : (l.take k).length ≤ 1000 := by rw [List.length_take]; omega
      have HT := Lib.hid (show l.take k ++ [p] = l.take (k + 1) by
        obtain ⟨h1, rfl⟩ := List.getElem?_eq_some_iff.1 hp
        rw [List.take_succ_eq_append_getElem h1])
      have HJ := Lib.hid hj
      have KA : ∀ o, (wr.drew.alloc o).cell? ⟨g, j, none⟩ = some (.int .i64 p.x) ∧ (wr.drew.alloc o).cell? ⟨g, j + 1, none⟩ = some (.int .i64 p.y) := fun o => by
        have hb9 : Below w.heap.size wr (wr.drew.alloc o) := ((drew_below wr).mono hb.out.size).trans ((alloc1 _ _).mono hb.out.size)
        exact ⟨(hb9.cell (p := ⟨g, j, none⟩) hgi).trans c0, (hb9.cell (p := ⟨g, j + 1, none⟩) hgi).trans c1⟩
      have HNN := Lib.hid hn
      clear RG f0 f1 hp ej hj hn
      go_wp2_with fail
      go_region_held3 (fun w' => w'.cell? ⟨g, j, none⟩ = some (.int .i64 p.x) ∧ w'.cell? ⟨g, j + 1, none⟩ = some (.int .i64 p.y)) (first | go_keep | exact KS | exact KA _)
        (first | (refine step_appP (by rfl) _ _ (by rfl) w.heap.size _ (l.take k) p wr.drew.heap.size (by rfl) ((hown.out.below (drew_below wr)).below (alloc1 _ _)) (by rfl) (IsRow.made wr.drew _ _) hti (by have := hb.out.size; simp; omega) ?_; intro v' w2 ho2 hg2 hlt2; have KS := And.intro (hg2.cell (KA _).1 (fun e => by have h5 := (hlt2 _ e.symm).1; have h6 : w.heap.size ≤ g := h5; omega)) (hg2.cell (KA _).2 (fun e => by have h5 := (hlt2 _ e.symm).1; have h6 : w.heap.size ≤ g := h5; omega))))
      have O2 : Hid (OwnP w2 w.heap.size v' (l.take (k + 1))) := by
        rw [HT.out] at ho2
        exact ho2
      have b9 : Below w.heap.size w (wr.alloc (.cells #[.int .i64 p.x, .int .i64 p.y] 24)).drew := (hb.out.alloc hb.out.size _).trans ((drew_below _).mono (by have := hb.out.size; simp; omega))
      have B2 := Lib.hid (b9.grown hg2 b9.size (fun r hr => (hlt2 r hr).1))
      have hjw2 : IntKind.i64.wrap ((j : Int) + 2) = (j : Int) + 2 := IntWalk.i64_in _ (by have := HNN.out; omega)
      have hjw3 : wrap64 ((j : Int) + 2) = (j : Int) + 2 := by have := HNN.out; unfold wrap64; omega
      clear ho2 hg2 hlt2 hown hb b9 KA KS c0 c1
      go_wp2
      go_roundw
      all_goals clear hjw hjw' hjw2 hjw3 hjt
      case rel => exact ⟨k + 1, j + 2, by omega, by have := HJ.out; omega, congrArg (Value.int .i64) (show (j : Int) + 2 = ((j + 2 : Nat) : Int) by omega), O2, B2⟩
      case measure =>
        show n - ((j : Int) + 2).toNat < n - (j : Int).toNat
        omega
    · obtain rfl : k = l.length := by omega
      have hji : ¬ (j : Int) + 1 < (n : Int) := by omega
      have hjw : IntKind.i64.wrap ((j : Int) + 1) = (j : Int) + 1 := IntWalk.i64_in _ (by omega)
      have hjw' : wrap64 ((j : Int) + 1) = (j : Int) + 1 := by unfold wrap64; omega
      rw [List.take_length] at hown
      clear hn hj
      go_wp2
      go_ret
      exact ⟨⟨_, rfl, hown.out⟩, hb.out⟩
end Go.Proofs.Ytlagolgmkmdhhaa.Rg
