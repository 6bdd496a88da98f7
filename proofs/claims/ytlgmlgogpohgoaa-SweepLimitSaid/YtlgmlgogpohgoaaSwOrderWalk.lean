/- P5.3, P5.5, SweepOrder: its walk. -/
import Derived.Test.YtlgmlgogpohgoaaSwKindC
namespace Go.Proofs.Ytlgmlgogpohgoaa.Sw
open Go.RowKit Go.Sort Go.Shelf
open Go.Proofs.Ytlgmlgogpohgoaa.Geo hiding intOf
section
variable {ops : Array Oper} {rest : List Oper} {o : Oper} {ac : Act} {Q : Exit → Act → World → Prop} {w : World}
theorem wpList_appG (hgd : o.guard = none) (s x : Operand) (ho : o.op = .call { callee := .builtin .append, args := #[s, x], argTypes := #[39, 39] }) (base : Nat) (v : Value) (l ms : List Sg) (g c m : Nat)
    (hs : ac.eval s = v) (hown : OwnG w base v l) (hx : ac.eval x = .slice (some ⟨g, 0, none⟩) m c) (hm : m = ms.length) (hrow : IsRow w g 36 (ms.flatMap encG).toArray) (hlen : l.length + m ≤ 1000000) (hbase : base ≤ w.heap.size)
    (h : ∀ v' w', OwnG w' base v' (l ++ ms) → w.grownBy w' v.ownBlock → wpList Try.prog ops Q rest (ac.put o.dst v') w') : wpList Try.prog ops Q (o :: rest) ac w := by
  obtain ⟨i0, hi, hz0, hz1, hz2⟩ := info_of segm_info
  refine wpList_append_own w hgd s x _ ho base 36 i0 _ 4 32 Try.underlying39 hi hz2 hz0 hz1 (by decide) (by decide) v l.length (l.flatMap encG) hs hown ⟨g, 0, none⟩ m c (ms.flatMap encG) hx (by rw [flat_len encG_len, hm]) ?_ ?_ (by unfold maxLen; omega) (by omega) hbase ?_
  · intro j u hj
    have e : (⟨g, 0, none⟩ : Addr).add j = ⟨g, j, none⟩ := by unfold Addr.add; split <;> simp_all
    rw [e, hrow.get]
    simpa using hj
  · intro u hu
    rw [List.mem_flatMap] at hu
    obtain ⟨s, _, h⟩ := hu
    exact encG_one s u h
  · intro v' w' h1 h2 _
    refine h v' w' ?_ h2
    show World.ownsRow _ _ _ _ _ (l ++ ms).length _
    rw [List.length_append, List.flatMap_append, ← hm]
    exact h1
end
section
variable {w : World} {ops : Array Oper} {o : Oper} {ac : Act} {Q : Exit → Act → World → Prop}
theorem step_appG {K : Act → World → Prop} {X : Prop} (hgd : o.guard = none) (s x : Operand)
    (ho : o.op = .call { callee := .builtin .append, args := #[s, x], argTypes := #[39, 39] }) (base : Nat) (v : Value) (l : List Sg) (e : Sg) (g : Nat)
    (hs : ac.eval s = v) (hown : OwnG w base v l) (hx : ac.eval x = .slice (some ⟨g, 0, none⟩) 1 1) (hrow : IsRow w g 36 (encG e).toArray) (hlen : l.length ≤ 20000) (hbase : base ≤ w.heap.size)
    (h : ∀ v' w', OwnG w' base v' (l ++ [e]) → w.grownBy w' v.ownBlock → K (ac.put o.dst v') w') :
    if Region.wanted o (yielded ops ac.tmps) = true then Oper.wp Try.prog o ac w K Q else X := by
  obtain ⟨i0, hi, hz0, hz1, hz2⟩ := info_of segm_info
  refine step_append_lies (P := Try.prog) w hgd s x _ ho base 36 i0 _ 4 32 Try.underlying39 hi hz2 hz0 hz1 rfl (by decide) v l.length (l.flatMap encG) hs hown ⟨g, 0, none⟩ 1 1 (encG e) hx rfl ?_ (encG_one e) (by decide) (by unfold maxLen; omega) (by omega) hbase w.heap.size rfl ?_
  · intro j u hj
    have e : (⟨g, 0, none⟩ : Addr).add j = ⟨g, j, none⟩ := by unfold Addr.add; split <;> simp_all
    rw [e, hrow.get]
    simpa using hj
  · intro g1 cap w1 h1 h2 _ h4
    exact h _ w1 (own_snoc h1) h2
end
theorem back_take {l : List Sg} {k : Nat} (h : k < l.length) : (backN l).take (k + 1) = (backN l).take k ++ [turnS (sgAt l (l.length - 1 - k))] := by
  have h1 : k < (backN l).length := by rw [back_len]; exact h
  rw [List.take_succ_eq_append_getElem h1, ← sg_get h1, back_at h]
set_option maxRecDepth 100000 in
set_option maxHeartbeats 8000000 in
theorem order_any (a : Option Addr) (n cap : Nat) (l : List Sg) (W : World) (hl : Segs W W.heap.size a l) (hn : n = l.length) :
    Calls Try.prog 11 #[.slice a n cap] W fun e w' => e = .returned (.bool true) ∧ Below W.heap.size W w' := by
  subst hn
  have HL := Lib.hid hl
  clear hl
  by_cases h30 : 30 < l.length
  · have h1 : (30 : Int) < (l.length : Int) := by omega
    go_enter Try.func11, Try.ntmps11
    go_wp2_with fail
    refine (head_any _).mono ?_
    rintro e w1 ⟨rfl, b1⟩
    go_wp2
    go_ret
    exact ⟨rfl, b1⟩
  · have h1 : ¬ (30 : Int) < (l.length : Int) := by omega
    go_enter Try.func11, Try.ntmps11
    go_wp2_with fail
    refine (head_any _).mono ?_
    rintro e w1 ⟨rfl, b1⟩
    have L1 := Lib.hid (HL.out.later b1)
    have B1 := Lib.hid b1
    clear b1 HL
    go_wp2_with fail
    go_loopw [4, 6] (fun s i wr => ∃ k : Nat, k ≤ l.length ∧ i = .int .i64 ((l.length : Int) - 1 - k) ∧ Hid (OwnG wr w1.heap.size s ((backN l).take k)) ∧ Hid (Below w1.heap.size w1 wr)) (fun _ i _ => (intOf i + 1).toNat)
    case atStart => exact ⟨0, by omega, congrArg (Value.int .i64) (by omega), Lib.hid (by rw [List.take_zero]; exact own_nil _ _), Lib.hid (Below.refl _ _)⟩
    case round =>
      obtain ⟨k, hk, rfl, ho, hb⟩ := hrel
      by_cases hkl : k < l.length
      · obtain ⟨j, hj⟩ : ∃ j, l.length - 1 - k = j := ⟨_, rfl⟩
        have hjl : j < l.length := by omega
        have e0 : (l.length : Int) - 1 - (k : Int) = (j : Int) := by omega
        have hbt := back_take hkl
        rw [hj] at hbt
        have HBT := Lib.hid hbt
        obtain ⟨b, off, rfl, hbN, s0, s1, s2, s3⟩ := (L1.out.below hb.out).at_ hjl
        have hlen : ((backN l).take k).length ≤ 30 := by rw [List.length_take]; omega
        clear hbt
        rw [e0]
        have ho2 := Lib.hid (Own.below ho.out (drew_below wr))
        have hb2 := Lib.hid (hb.out.trans ((drew_below wr).mono hb.out.size))
        have O4 := Lib.hid (fun o => Own.below ho2.out (alloc1 wr.drew o))
        have hsz := hb2.out.size
        have hsz0 := hb.out.size
        have hgs : b < w1.heap.size := hbN
        have KA : ∀ o, (wr.drew.alloc o).cell? ⟨b, off + j * 4, none⟩ = some (.int .i64 (sgAt l j).a.x) ∧ (wr.drew.alloc o).cell? ⟨b, off + j * 4 + 1, none⟩ = some (.int .i64 (sgAt l j).a.y) ∧ (wr.drew.alloc o).cell? ⟨b, off + j * 4 + 2, none⟩ = some (.int .i64 (sgAt l j).b.x) ∧ (wr.drew.alloc o).cell? ⟨b, off + j * 4 + 3, none⟩ = some (.int .i64 (sgAt l j).b.y) := fun o => by
          obtain ⟨b', off', he, _, z0, z1, z2, z3⟩ := (L1.out.below (hb2.out.trans ((alloc1 wr.drew o).mono hsz))).at_ hjl
          injection he with he
          injection he with e1 e2 _
          subst e1 e2
          exact ⟨z0, z1, z2, z3⟩
        have KB : ∀ (o : Obj) (w4 : World), (wr.drew.alloc o).grownBy w4 u4.ownBlock → Below w1.heap.size w1 w4 := fun o w4 hg =>
          (hb2.out.trans ((alloc1 wr.drew o).mono hsz)).grown hg (by rw [World.size_alloc]; exact Nat.le_succ_of_le hsz) (fun k e => (Own.row (O4.out o) k e).1)
        have KG : ∀ (o : Obj) (w4 : World), (wr.drew.alloc o).grownBy w4 u4.ownBlock → w4.cell? ⟨b, off + j * 4, none⟩ = some (.int .i64 (sgAt l j).a.x) ∧ w4.cell? ⟨b, off + j * 4 + 1, none⟩ = some (.int .i64 (sgAt l j).a.y) ∧ w4.cell? ⟨b, off + j * 4 + 2, none⟩ = some (.int .i64 (sgAt l j).b.x) ∧ w4.cell? ⟨b, off + j * 4 + 3, none⟩ = some (.int .i64 (sgAt l j).b.y) := fun o w4 hg => by
          have hbb := KB o w4 hg
          obtain ⟨b', off', he, _, z0, z1, z2, z3⟩ := (L1.out.below hbb).at_ hjl
          injection he with he
          injection he with e1 e2 _
          subst e1 e2
          exact ⟨z0, z1, z2, z3⟩
        go_upto_region 9 with fail
        go_region_held3 (fun w' => w'.cell? ⟨b, off + j * 4, none⟩ = some (.int .i64 (sgAt l j).a.x) ∧ w'.cell? ⟨b, off + j * 4 + 1, none⟩ = some (.int .i64 (sgAt l j).a.y) ∧ w'.cell? ⟨b, off + j * 4 + 2, none⟩ = some (.int .i64 (sgAt l j).b.x) ∧ w'.cell? ⟨b, off + j * 4 + 3, none⟩ = some (.int .i64 (sgAt l j).b.y)) (first | go_keep | exact KS | exact KA _)
          (first | (refine step_appG (by rfl) _ _ (by rfl) w1.heap.size u4 ((backN l).take k) (turnS (sgAt l j)) wr.drew.heap.size (by rfl) (O4.out _) (by rfl) (IsRow.made wr.drew _ _) (by omega) (by simp; omega) ?_; intro v2 w4 hown hgrow; have KS := KG _ w4 hgrow))
        have hb4 := Lib.hid (KB _ w4 hgrow)
        rw [← HBT.out] at hown
        have ho4 := Lib.hid hown
        clear hown hgrow O4 KA KG KB KS ho2 hb2 ho hb s0 s1 s2 s3 hbN hgs hlen HBT
        go_wp2
        go_roundw
        case rel => exact ⟨k + 1, by omega, congrArg (Value.int .i64) (by omega), ho4, hb4⟩
        case measure => simp [intOf]
      · obtain rfl : k = l.length := by omega
        have e0 : (l.length : Int) - 1 - (l.length : Int) = -1 := by omega
        have hbk : (backN l).take l.length = backN l := by rw [← back_len l, List.take_length]
        rw [hbk] at ho
        rw [e0]
        clear e0 hbk
        have L2 := Lib.hid (L1.out.later hb.out)
        have B2 := Lib.hid (B1.out.trans (hb.out.mono B1.out.size))
        obtain ⟨a2, cap2, rfl, _, _, hs2⟩ := OwnG.segs ho.out
        have S2 := Lib.hid hs2
        have hbl := back_len l
        rw [hbl]
        clear hb ho hs2 L1 B1
        go_wp2_with fail
        refine (all_any a _ cap l wr L2.out rfl (by omega)).mono ?_
        rintro e w2 ⟨⟨v, rfl, ho⟩, b2⟩
        have S3 := Lib.hid (S2.out.later b2)
        have B3 := Lib.hid (B2.out.trans (b2.mono B2.out.size))
        have O3 := Lib.hid ho
        clear b2 ho L2 B2 S2
        go_wp2_with fail
        refine (all_any a2 _ cap2 (backN l) w2 S3.out hbl.symm (by omega)).mono ?_
        rintro e w3 ⟨⟨v', rfl, ho⟩, b3⟩
        have B4 := Lib.hid (B3.out.trans (b3.mono B3.out.size))
        have O4 := Lib.hid (Own.below O3.out b3)
        have P4 := Lib.hid ho
        have hsame := back_same l
        have hal := ans_len l
        have hll : l.length * l.length ≤ 30 * 30 := Nat.mul_le_mul (by omega) (by omega)
        obtain ⟨a3, c3, rfl, hmet⟩ := mets_at O4.out
        obtain ⟨a4, c4, rfl, hmet'⟩ := mets_at P4.out
        have HM := Lib.hid hmet
        rw [hsame] at P4 ⊢
        clear b3 ho B3 S3 O3 hmet hmet'
        go_wp2_with fail
        go_loopw [11] (fun i wr => ∃ k : Nat, k ≤ (ansN l).length ∧ i = .int .i64 k ∧ Hid (Below w3.heap.size w3 wr)) (fun i _ => (ansN l).length - (intOf i).toNat)
        case atStart => exact ⟨0, by omega, rfl, Lib.hid (Below.refl _ _)⟩
        case round =>
          obtain ⟨k, hk, rfl, hb⟩ := hrel
          by_cases hkl : k < (ansN l).length
          · obtain ⟨m, hmm⟩ : ∃ m, (ansN l)[k]? = some m := ⟨_, List.getElem?_eq_getElem hkl⟩
            obtain ⟨g, rfl, hg, x0, x1, x2⟩ := HM.out k m hmm
            have p0 := (hb.out.cell (p := ⟨g, k * 3, none⟩) hg).trans x0
            have p1 := (hb.out.cell (p := ⟨g, k * 3 + 1, none⟩) hg).trans x1
            have p2 := (hb.out.cell (p := ⟨g, k * 3 + 2, none⟩) hg).trans x2
            have hmem := List.mem_of_getElem? hmm
            obtain ⟨m1, m2, _, _⟩ := mem_ans.1 hmem
            have hfb := find_back hmem
            have C0 := Lib.hid (fun W (hW : Below w3.heap.size w3 W) => kind_any _ _ (ansN (backN l)) (l.length - 1 - m.a) (l.length - 1 - m.b) W (Own.below P4.out hW) (by omega))
            have e1 : ((l.length - 1 - m.a : Nat) : Int) = IntKind.i64.wrap (IntKind.i64.wrap ((l.length : Int) - 1) - (m.a : Int)) := by
              rw [IntWalk.i64_in ((l.length : Int) - 1) (by omega), IntWalk.i64_in _ (by omega)]
              omega
            have e2 : ((l.length - 1 - m.b : Nat) : Int) = IntKind.i64.wrap (IntKind.i64.wrap ((l.length : Int) - 1) - (m.b : Int)) := by
              rw [IntWalk.i64_in ((l.length : Int) - 1) (by omega), IntWalk.i64_in _ (by omega)]
              omega
            rw [hfb, e1, e2] at C0
            have c2 := fun d os => Calls.regrown_of ((C0.out (grow (redrawn wr d) os) (hb.out.trans ((below_regrown wr d os).mono hb.out.size))))
            have Q0 := cell_regrown p0
            have Q1 := cell_regrown p1
            have Q2 := cell_regrown p2
            clear hmm hmem hfb e1 e2 C0 x0 x1 x2
            go_upto_region 17 with fail
            refine wp_region_quiet_below (by kernel_rfl) (by kernel_rfl) ?_
            repeat (quiet_step (first | with_reducible exact c2 _ _))
            refine wpQuiet_nil ?_
            intro _ hw'
            obtain ⟨⟨dq, osq⟩, hw''⟩ := hw'
            subst hw''
            have hb3 := Lib.hid (hb.out.trans ((below_regrown wr dq osq).mono hb.out.size))
            obtain ⟨W3, hW3⟩ : ∃ W3, grow (redrawn wr dq) osq = W3 := ⟨_, rfl⟩
            dsimp only
            rw [hW3] at hb3 ⊢
            clear hW3 c2 Q0 Q1 Q2 p0 p1 p2 hb
            go_wp2
            go_roundw
            case rel => exact ⟨k + 1, by omega, by go_num, hb3⟩
            case measure => simp [intOf]; omega
          · obtain rfl : k = (ansN l).length := by omega
            have B5 := Lib.hid (B4.out.trans (hb.out.mono B4.out.size))
            clear hb
            go_wp2_with fail
            go_ret
            exact ⟨rfl, B5.out⟩
end Go.Proofs.Ytlgmlgogpohgoaa.Sw
