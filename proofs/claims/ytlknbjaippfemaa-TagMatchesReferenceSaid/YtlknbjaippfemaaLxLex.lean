/- lexer.Lex. -/
import Derived.Test.YtlknbjaippfemaaLxOwn
namespace Go.Proofs.Ytlknbjaippfemaa.Lx
open Go.RowKit Go.Sort Go.Shelf
attribute [local go_sem] Oper.semAt_some
theorem four_made (w : World) (t1 t2 t3 t4 : TypeId) (c1 c2 c3 c4 : Array Value) : ∃ W, (((w.alloc (.cells c1 t1)).alloc (.cells c2 t2)).alloc (.cells c3 t3)).alloc (.cells c4 t4) = W ∧ Below w.heap.size w W ∧
    IsRow W w.heap.size t1 c1 ∧ IsRow W (w.heap.size + 1) t2 c2 ∧ IsRow W (w.heap.size + 2) t3 c3 ∧ IsRow W (w.heap.size + 3) t4 c4 ∧ W.heap.size = w.heap.size + 4 := by
  have h1 := IsRow.made w t1 c1
  have h2 := IsRow.made (w.alloc (.cells c1 t1)) t2 c2
  have h3 := IsRow.made ((w.alloc (.cells c1 t1)).alloc (.cells c2 t2)) t3 c3
  have h4 := IsRow.made (((w.alloc (.cells c1 t1)).alloc (.cells c2 t2)).alloc (.cells c3 t3)) t4 c4
  rw [World.size_alloc] at h2
  rw [World.size_alloc, World.size_alloc] at h3
  rw [World.size_alloc, World.size_alloc, World.size_alloc] at h4
  exact ⟨_, rfl, (((((Below.refl _ _).alloc (Nat.le_refl _) _).alloc (by simp) _).alloc (by simp; omega) _).alloc (by simp; omega) _), ((h1.later _).later _).later _, (h2.later _).later _, h3.later _, h4, by simp⟩
theorem away_none {B : Nat} {W W' : World} (h : Below W.heap.size W W') : Away B W W' := ⟨none, grown_of_below h none, fun r e => by cases e⟩
theorem OwnK.shape {w : World} {base : Nat} {v : Value} {l : List Tk} (h : OwnK w base v l) : ∃ ao cap, v = .slice ao l.length cap := by
  obtain ⟨_, h2⟩ := h
  rcases h2 with ⟨rfl, h0⟩ | ⟨g, cap, cur, rfl, _⟩
  · exact ⟨none, 0, by rw [h0]⟩
  · exact ⟨_, _, rfl⟩
theorem InvL.fin {w W w1 : World} {N0 b : Nat} {pre : List (Tk × Int)} {t : Tk} {v v' : Value} (hi : InvL w N0 b pre W) (hv : IsRow W (b + 3) 68 #[v]) (ho : OwnK W b v (pre.map (·.1))) (hlen : pre.length < 5000)
    (hgrow : (W.alloc (.cells (encK t).toArray 75)).grownBy w1 v.ownBlock) (hown : w1.ownsRow b 75 3 v' (pre.length + 1) (flatK (pre.map (·.1)) ++ encK t)) :
    KeepsFrom N0 W (w1.setCell ⟨b + 3, 0, none⟩ v') ∧ KpR W (w1.setCell ⟨b + 3, 0, none⟩ v') ∧ InvL w N0 b (pre ++ [(t, 0)]) (w1.setCell ⟨b + 3, 0, none⟩ v') := by
  obtain ⟨U, hU⟩ : ∃ U, W.alloc (.cells (encK t).toArray 75) = U := ⟨_, rfl⟩
  have hbU : Below W.heap.size W U := hU ▸ alloc1 W _
  rw [hU] at hgrow
  have oU := ho.below hbU
  have hr : ∀ k, v.ownBlock = some k → ∃ cs t, IsRow U k t cs := fun k e => by obtain ⟨_, cs, h⟩ := oU.row k e; exact ⟨cs, _, h⟩
  have row : ∀ {g : Nat} {t : TypeId} {cs : Array Value}, t ≠ 75 → IsRow W g t cs → IsRow w1 g t cs := fun ht h => by
    have h2 := IsRow.below h hbU h.inside
    exact h2.grown hgrow (oU.ne h2 ht)
  have b1 : Below b w w1 := (hi.lo.trans (hbU.mono hi.lo_size)).grown hgrow (Nat.le_trans hi.lo_size hbU.size) (fun k e => (oU.row k e).1)
  have r3 := row (by decide) hv
  refine ⟨((keeps_of_below _ hbU).trans (keeps_grown _ hgrow hr)).trans ((KeepsOthers.setCell _ _ _).from _), ((KpR.of_below hbU).trans (KpR.grown hgrow (fun k e => by obtain ⟨_, cs, h⟩ := oU.row k e; exact ⟨cs, _, ⟨by decide, by decide⟩, h⟩))).trans ?_, ?_⟩
  · exact KpR.grown (grown_put w1 (b + 3) 0 v') (fun k e => by injection e with e; subst e; exact ⟨_, _, ⟨by decide, by decide⟩, r3⟩)
  · have e1 : (pre ++ [(t, (0 : Int))]).map (·.1) = pre.map (·.1) ++ [t] := by simp
    refine ⟨⟨v', r3.put 0 _, ?_⟩, (row (by decide) hi.r2).putOther (by simp) _, (row (by decide) hi.r3).putOther (by simp) _, (row (by decide) hi.r4).putOther (by simp) _, b1.setCell (p := ⟨b + 3, 0, none⟩) (by simp) _, ?_, ?_, ?_⟩
    · rw [e1]
      refine (ownK_snoc (s := t) ?_).put r3 (by decide) 0 _
      rw [List.length_map]
      exact hown
    · have := Nat.le_trans (Nat.le_trans hi.sz hbU.size) hgrow.size
      simpa using this
    · intro x hx
      rcases List.mem_append.1 hx with hx | hx
      · exact hi.ok x hx
      · rw [List.mem_singleton] at hx; subst hx; rfl
    · simp; omega
theorem InvL.ends {w W : World} {N0 b : Nat} {pre : List (Tk × Int)} {t : Tk} {e0 e : Int} (hi : InvL w N0 b pre W) (he : (e0 = 0 ∧ pre.length = 5000 ∧ e = 2) ∨ (e0 ≠ 0 ∧ e = e0)) :
    KeepsFrom N0 W (((W.drew.setCell ⟨b, 0, none⟩ (.slice none 0 0)).setCell ⟨b + 1, 0, none⟩ (.int .i64 e)).setCell ⟨b + 2, 0, none⟩ (.int .i64 (t.a : Int))) ∧
      EndL w N0 b .ret (pre ++ [(t, e0)]) (((W.drew.setCell ⟨b, 0, none⟩ (.slice none 0 0)).setCell ⟨b + 1, 0, none⟩ (.int .i64 e)).setCell ⟨b + 2, 0, none⟩ (.int .i64 (t.a : Int))) := by
  have r2 : IsRow W.drew b 68 #[.slice none 0 0] := hi.r2
  have r3 : IsRow W.drew (b + 1) 25 #[.int .i64 0] := hi.r3
  have r4 : IsRow W.drew (b + 2) 3 #[.int .i64 0] := hi.r4
  refine ⟨(((keeps_of_below _ (drew_below W)).trans ((KeepsOthers.setCell _ _ _).from _)).trans ((KeepsOthers.setCell _ _ _).from _)).trans ((KeepsOthers.setCell _ _ _).from _), rfl, ⟨e, t.a, ?_, ?_, ?_, pre, (t, e0), rfl, hi.ok, hi.few, he, rfl⟩, ?_, ?_⟩
  · exact ((r2.put 0 _).putOther (by simp) _).putOther (by simp) _
  · exact ((r3.putOther (by simp) _).put 0 _).putOther (by simp) _
  · exact ((r4.putOther (by simp) _).putOther (by simp) _).put 0 _
  · exact (((hi.lo.trans ((drew_below W).mono hi.lo_size)).setCell (p := ⟨b, 0, none⟩) (Nat.le_refl _) _).setCell (p := ⟨b + 1, 0, none⟩) (by simp) _).setCell (p := ⟨b + 2, 0, none⟩) (by simp) _
  · have := hi.sz
    simpa using this
/-- what Lex answers. -/
def LOut (w : World) (r : List Tk × Int × Int) (e : Ending) (w' : World) : Prop := (∃ v, e = .returned (.tuple #[v, .int .i64 r.2.1, .int .i64 r.2.2]) ∧ OwnK w' w.heap.size v r.1) ∧ Below w.heap.size w w'
set_option maxRecDepth 100000 in
set_option maxHeartbeats 4000000 in
theorem lex_fit (s : ByteArray) (w : World) (hm : s.size ≤ 20000) : Calls Try.prog 38 #[.string s] w (LOut w (scan [] (evL s.data.toList))) := by
  refine (callsIn_wide (n := 6)).1 ?_
  refine callsIn_of_wp_marks Try.func38 rfl trivial ?_ rfl
  simp only [Try.ntmps38, List.size_toArray, List.length_cons, List.length_nil, Nat.reduceAdd, Nat.reduceSub, Array.replicate_succ, Array.replicate_zero, List.push_toArray, List.append_toArray, List.nil_append, List.cons_append]
  have hlt : ¬ (20000 : Int) < (s.size : Int) := by omega
  gi_wp2_with (refine ⟨trivial, ?_⟩; gi_at_call 52; refine (callsIn_wide.2 (tokens_any s _)).mono ?_; rintro e W1 ⟨rfl, rfl⟩)
  obtain ⟨W1, hW1, B1, R0, R1, R2, R3, hs1⟩ := four_made w 68 25 3 68 #[.slice none 0 0] #[.int .i64 0] #[.int .i64 0] #[.slice none 0 0]
  rw [hW1]
  clear hW1
  obtain ⟨W0, hW0⟩ : ∃ V, W1.alloc (.cells #[.string s] 9) = V := ⟨_, rfl⟩
  have hb := alloc1 W1 (.cells #[.string s] 9)
  have RB := IsRow.made W1 9 #[.string s]
  rw [hW0] at hb RB
  have B0 := B1.trans (hb.mono B1.size)
  have Q0 := R0.below hb R0.inside
  have Q1 := R1.below hb R1.inside
  have Q2 := R2.below hb R2.inside
  have Q3 := R3.below hb R3.inside
  have hs0 : W0.heap.size = w.heap.size + 5 := by rw [← hW0, World.size_alloc, hs1]
  rw [hW0]
  rw [hs1] at RB
  clear hW0 hb B1 R0 R1 R2 R3 hs1
  obtain ⟨b, hb⟩ : ∃ b, w.heap.size = b := ⟨_, rfl⟩
  have HB := Lib.hid hb
  rw [hb] at B0 Q0 Q1 Q2 Q3 RB hs0 ⊢
  rw [show b + 1 + 1 = b + 2 from rfl, show b + 2 + 1 = b + 3 from rfl, show b + 3 + 1 = b + 4 from rfl]
  clear hb
  refine Rule.range_own (t := 103) rfl (by omega) (gf := 62) (lb := #[.pointer (some ⟨b + 4, 0, none⟩)]) rfl trivial (enters_of Try.func62 (by kernel_rfl) rfl)
    (tokens_stops 5 (by omega) (b + 4) s W0 RB hm) KpR.trans (fun W l o o' h1 h2 h3 h4 => kpR_b (w := W0) W l o o' h1 h2 h3 h4) (Below.refl _ _) (fun _ => rfl)
    (InvL w W0.heap.size b) (EndL w W0.heap.size b)
    (own_of_away (InvL.away (by omega))) (fun c => own_of_away (EndL.away (by omega) c)) (lets_of_away (InvL.away (by omega))) (fun c => lets_of_away (EndL.away (by omega) c))
    ⟨⟨_, Q3, ownK_nil _ _⟩, Q0, Q1, Q2, B0, Nat.le_refl _, fun x hx => (by cases hx), Nat.zero_le _⟩
    (fun x a' W => ∃ Bx, W0.heap.size ≤ Bx ∧ IsRow W Bx 75 #[.int .i64 x.1.k, .string ⟨x.1.t.toArray⟩, .int .i64 (x.1.a : Int)] ∧
      a' = { tmps := #[.string s, undef, .pointer (some ⟨b, 0, none⟩), .pointer (some ⟨b + 1, 0, none⟩), .pointer (some ⟨b + 2, 0, none⟩), .pointer (some ⟨b + 3, 0, none⟩), .pointer (some ⟨Bx, 0, none⟩), .int .i64 x.2, .string s, .int .i64 (s.size : Int), .bool false, .string s, .func (.func 62) #[] #[.pointer (some ⟨b + 4, 0, none⟩)],
        .agg #[.int .i64 x.1.k, .string ⟨x.1.t.toArray⟩, .int .i64 (x.1.a : Int)], .int .i64 x.2, undef, undef, undef, undef, undef, undef, undef, undef, undef, undef, undef, undef, undef, undef, undef, undef, undef], defers := [] })
    (fun x a' => own_of_away fun _ X Y hs ha => by
      obtain ⟨Bx, h1, h2, h3⟩ := hs
      exact ⟨Bx, h1, h2.away (by decide) ha, h3⟩) ?assign ?body ?done ?stop
  case assign =>
    rintro y pre x W K hi hK
    gi_wp2
    exact hK _ _ ((KeepsOthers.alloc _ _).from _) (KpR.of_below (alloc1 _ _)) (InvL.away (by omega) _ _ _ hi (away_none (alloc1 _ _))) ⟨W.heap.size, hi.sz, IsRow.made W _ _, rfl⟩
  case body =>
    rintro y pre ⟨⟨k, t, a⟩, e0⟩ a' W hi ⟨Bx, hBx, rx, rfl⟩ hlt
    dsimp only at rx
    obtain ⟨d0, d1, d2, _, _, _⟩ := facts3 rx
    obtain ⟨⟨v, hv, ho⟩, _⟩ := id hi
    obtain ⟨ao, cap, rfl⟩ := ho.shape
    rw [List.length_map] at hv ho
    have q5 := hv.get 0
    have p5 := hv.open_ 0
    have q2 := hi.r2.get 0
    have p2 := hi.r2.open_ 0
    have q3 := hi.r3.get 0
    have p3 := hi.r3.open_ 0
    have q4 := hi.r4.get 0
    have p4 := hi.r4.open_ 0
    have HI := Lib.hid hi
    have hfew := hi.few
    clear hi hlt
    by_cases he : e0 = 0
    · subst he
      by_cases h5 : pre.length = 5000
      · have hl5 : ((pre.length : Int) == 5000) = true := by rw [h5]; rfl
        have HE := Lib.hid (InvL.ends (t := ⟨k, t, a⟩) HI.out (.inl ⟨rfl, h5, rfl⟩))
        clear h5
        gi_wp2
        gi_region
        all_goals
          gi_wp2
          exact HE.out
      · have hl5 : ((pre.length : Int) == 5000) = false := by rw [beq_eq_false_iff_ne]; omega
        obtain ⟨i0, hi0, hs0', hb0', hz0'⟩ := info_of tok_info
        have HT := Lib.hid (And.intro hi0 (And.intro hs0' (And.intro hb0' hz0')))
        have hL := Lib.hid (show pre.length < 5000 by omega)
        have HO := Lib.hid ho
        have HV := Lib.hid hv
        have H9 : Hid ((W.alloc (.cells #[.int .i64 k, .string ⟨t.toArray⟩, .int .i64 (a : Int)] 75)).ownsRow b 75 3 (.slice ao pre.length cap) pre.length (flatK (pre.map (·.1)))) := Lib.hid (by
          have := ho.below (alloc1 W (.cells #[.int .i64 k, .string ⟨t.toArray⟩, .int .i64 (a : Int)] 75))
          unfold OwnK at this
          rw [List.length_map] at this
          exact this)
        have hbs : b < W.heap.size := by have := HI.out.r2.inside; exact this
        have iL := hv.inside
        clear hi0 hs0' hb0' hz0' h5 ho hv rx
        gi_wp2_with (gi_at_builtin; go_loud (refine wpListIn_append_own _ rfl _ _ 68 rfl b 75 i0 _ 3 32 Try.underlying68 HT.out.1 HT.out.2.2.2 HT.out.2.1 HT.out.2.2.1 (by decide) (by decide) (.slice ao pre.length cap) pre.length (flatK (pre.map (·.1))) rfl H9.out ⟨W.heap.size, 0, none⟩ 1 1 [.int .i64 k, .string ⟨t.toArray⟩, .int .i64 (a : Int)] rfl rfl (World.news_of_block (heap_alloc_new W _)) (encK_one ⟨k, t, a⟩) (by have := hL.out; unfold maxLen; omega) (by have := hL.out; omega) (by simp; omega) ?_; intro v' w1 hown' hgrow _; obtain ⟨g', cap', hv'⟩ := ownsRow_succ hown'; subst hv'; have hr1 := (IsRow.later HV.out (.cells #[.int .i64 k, .string ⟨t.toArray⟩, .int .i64 (a : Int)] 75)).grown hgrow (OwnK.ne (OwnK.below (l := pre.map (·.1)) (by unfold OwnK; rw [List.length_map]; have := HO.out; unfold OwnK at this; rw [List.length_map] at this; exact this) (alloc1 W (.cells #[.int .i64 k, .string ⟨t.toArray⟩, .int .i64 (a : Int)] 75))) (IsRow.later HV.out (.cells #[.int .i64 k, .string ⟨t.toArray⟩, .int .i64 (a : Int)] 75)) (by decide)); have hq1 := hr1.get 0; have hp1 := hr1.open_ 0))
        exact HI.out.fin (t := ⟨k, t, a⟩) HV.out HO.out hL.out hgrow hown'
    · have he1 : (e0 == 0) = false := by rw [beq_eq_false_iff_ne]; exact he
      have he2 : (e0 != 0) = true := by simp [bne, he1]
      have HE := Lib.hid (InvL.ends (t := ⟨k, t, a⟩) HI.out (.inr ⟨he, rfl⟩))
      clear he
      gi_wp2
      gi_region
      all_goals
        gi_wp2
        exact HE.out
  case done =>
    rintro D ys W hD rfl hi hK
    obtain ⟨⟨v, hv, ho⟩, _⟩ := id hi
    obtain ⟨ao, cap, rfl⟩ := ho.shape
    obtain ⟨n, hn⟩ : ∃ n, ((evL s.data.toList).map (·.1)).length = n := ⟨_, rfl⟩
    rw [hn] at hv ho
    have q5 := hv.get 0
    have q2 := hi.r2.get 0
    have p2 := hi.r2.open_ 0
    have q3 := hi.r3.get 0
    have p3 := hi.r3.open_ 0
    have q4 := hi.r4.get 0
    have p4 := hi.r4.open_ 0
    have HI := Lib.hid hi
    have HO := Lib.hid ho
    clear hi ho hn
    gi_wp2
    obtain ⟨X, hX⟩ : ∃ X, ((W.setCell ⟨b, 0, none⟩ (.slice ao n cap)).setCell ⟨b + 1, 0, none⟩ (.int .i64 0)).setCell ⟨b + 2, 0, none⟩ (.int .i64 0) = X := ⟨_, rfl⟩
    have X2 : IsRow X b 68 #[.slice ao n cap] := hX ▸ ((HI.out.r2.put 0 _).putOther (by simp) _).putOther (by simp) _
    have X3 : IsRow X (b + 1) 25 #[.int .i64 0] := hX ▸ ((HI.out.r3.putOther (by simp) _).put 0 _).putOther (by simp) _
    have X4 : IsRow X (b + 2) 3 #[.int .i64 0] := hX ▸ ((HI.out.r4.putOther (by simp) _).putOther (by simp) _).put 0 _
    have XO : OwnK X b (.slice ao n cap) ((evL s.data.toList).map (·.1)) := hX ▸ (((HO.out.put HI.out.r2 (by decide) 0 _).put (HI.out.r3.putOther (p := ⟨b, 0, none⟩) (by simp) _) (by decide) 0 _).put ((HI.out.r4.putOther (p := ⟨b, 0, none⟩) (by simp) _).putOther (p := ⟨b + 1, 0, none⟩) (by simp) _) (by decide) 0 _)
    have XB : Below b w X := hX ▸ ((HI.out.lo.setCell (p := ⟨b, 0, none⟩) (Nat.le_refl _) _).setCell (p := ⟨b + 1, 0, none⟩) (by simp) _).setCell (p := ⟨b + 2, 0, none⟩) (by simp) _
    have XK : X.heap[D]? = some (.deferred (some [])) := hX ▸ (((Below.heap_setCell _ _ _ _ (by show D ≠ b + 2; omega)).trans (Below.heap_setCell _ _ _ _ (by show D ≠ b + 1; omega))).trans (Below.heap_setCell _ _ _ _ (by show D ≠ b; omega))).trans hK
    rw [hX]
    clear hX q5 q2 p2 q3 p3 q4 p4 hv
    refine ⟨by simp, .inl ⟨_, _, rfl, run_takeDeferred XK, ?_⟩⟩
    have hg := grownBy_putObj' X D (.deferred none)
    have Y2 := (X2.grown hg (fun e => by injection e with e; omega)).get 0
    have Y3 := (X3.grown hg (fun e => by injection e with e; omega)).get 0
    have Y4 := (X4.grown hg (fun e => by injection e with e; omega)).get 0
    have YO : OwnK (X.putObj D (.deferred none)) b (.slice ao n cap) ((evL s.data.toList).map (·.1)) := XO.kept hg (.inr (fun e => by
      obtain ⟨_, ds, hd⟩ := XO.row D e
      rw [show X.heap[D]? = some (.cells ds 75 (0, 0)) from hd] at XK
      cases XK))
    have YB : Below b w (X.putObj D (.deferred none)) := XB.trans (belowK_b (w := W0) (by omega) X D _ _ (by omega) XK rfl rfl)
    have hs := scan_ok (evL s.data.toList) [] HI.out.ok (by have := HI.out.few; simpa using this)
    simp at Y2 Y3 Y4
    refine ⟨.tuple #[.slice ao n cap, .int .i64 0, .int .i64 0], ?_, ?_⟩
    · simp [results, Try.f38, go_sem, Y2, Y3, Y4]
    · rw [hs, List.nil_append]
      exact ⟨⟨_, rfl, by rw [HB.out]; exact YO⟩, by rw [HB.out]; exact YB⟩
  case stop =>
    rintro D c pre W hD hp hE hK
    obtain ⟨rfl, ⟨e, a, h2, h3, h4, h5⟩, h6, h7⟩ := hE
    have hs := Lib.hid (scan_ends h5 hp)
    gi_wp2
    refine ⟨by simp, .inl ⟨_, _, rfl, run_takeDeferred hK, ?_⟩⟩
    have hg := grownBy_putObj' W D (.deferred none)
    have Y2 := (h2.grown hg (fun e => by injection e with e; omega)).get 0
    have Y3 := (h3.grown hg (fun e => by injection e with e; omega)).get 0
    have Y4 := (h4.grown hg (fun e => by injection e with e; omega)).get 0
    have YB : Below b w (W.putObj D (.deferred none)) := h6.trans (belowK_b (w := W0) (by omega) W D _ _ (by omega) hK rfl rfl)
    simp at Y2 Y3 Y4
    refine ⟨.tuple #[.slice none 0 0, .int .i64 e, .int .i64 a], ?_, ?_⟩
    · simp [results, Try.f38, go_sem, Y2, Y3, Y4]
    · rw [hs.out]
      exact ⟨⟨_, rfl, ownK_nil _ _⟩, by rw [HB.out]; exact YB⟩
set_option maxRecDepth 100000 in
set_option maxHeartbeats 1000000 in
theorem lex_any (s : ByteArray) (w : World) : Calls Try.prog 38 #[.string s] w (LOut w (lexR s.data.toList)) := by
  unfold lexR
  rw [len_data]
  by_cases hm : 20000 < s.size
  · rw [if_pos hm]
    have hlt : (20000 : Int) < (s.size : Int) := by omega
    have h1 := IsRow.made w 68 #[.slice none 0 0]
    have h2 := IsRow.made (w.alloc (.cells #[.slice none 0 0] 68)) 25 #[.int .i64 0]
    have h3 := IsRow.made ((w.alloc (.cells #[.slice none 0 0] 68)).alloc (.cells #[.int .i64 0] 25)) 3 #[.int .i64 0]
    rw [World.size_alloc] at h2
    rw [World.size_alloc, World.size_alloc] at h3
    obtain ⟨W, hW⟩ : ∃ W, ((w.alloc (.cells #[.slice none 0 0] 68)).alloc (.cells #[.int .i64 0] 25)).alloc (.cells #[.int .i64 0] 3) = W := ⟨_, rfl⟩
    have R2 : IsRow W w.heap.size 68 #[.slice none 0 0] := hW ▸ (h1.later _).later _
    have R3 : IsRow W (w.heap.size + 1) 25 #[.int .i64 0] := hW ▸ h2.later _
    have R4 : IsRow W (w.heap.size + 1 + 1) 3 #[.int .i64 0] := hW ▸ h3
    have B1 : Below w.heap.size w W := hW ▸ (((Below.refl _ _).alloc (Nat.le_refl _) _).alloc (by simp) _).alloc (by simp; omega) _
    have HW := Lib.hid hW
    have q2 := R2.get 0
    have p2 := R2.open_ 0
    have q3 := R3.get 0
    have p3 := R3.open_ 0
    have q4 := R4.get 0
    have p4 := R4.open_ 0
    have X2 := (((R2.put 0 (.slice none 0 0)).putOther (p := ⟨w.heap.size + 1, 0, none⟩) (by simp) (.int .i64 2)).putOther (p := ⟨w.heap.size + 1 + 1, 0, none⟩) (by show w.heap.size ≠ w.heap.size + 1 + 1; omega) (.int .i64 (-1))).get 0
    have X3 := (((R3.putOther (p := ⟨w.heap.size, 0, none⟩) (by simp) (.slice none 0 0)).put 0 (.int .i64 2)).putOther (p := ⟨w.heap.size + 1 + 1, 0, none⟩) (by simp) (.int .i64 (-1))).get 0
    have X4 := (((R4.putOther (p := ⟨w.heap.size, 0, none⟩) (by show w.heap.size + 1 + 1 ≠ w.heap.size; omega) (.slice none 0 0)).putOther (p := ⟨w.heap.size + 1, 0, none⟩) (by simp) (.int .i64 2)).put 0 (.int .i64 (-1))).get 0
    have B2 := Lib.hid (((B1.setCell (p := ⟨w.heap.size, 0, none⟩) (Nat.le_refl _) (.slice none 0 0)).setCell (p := ⟨w.heap.size + 1, 0, none⟩) (by simp) (.int .i64 2)).setCell (p := ⟨w.heap.size + 1 + 1, 0, none⟩) (by show w.heap.size ≤ w.heap.size + 1 + 1; omega) (.int .i64 (-1)))
    have HX := Lib.hid (And.intro X2 (And.intro X3 X4))
    clear h1 h2 h3 hW R2 R3 R4 B1 X2 X3 X4
    go_enter Try.func38, Try.ntmps38
    go_upto_region 1 with fail
    rw [HW.out]
    go_wp2
    obtain ⟨Y2, Y3, Y4⟩ := HX.out
    have B3 := B2.out
    clear q2 p2 q3 p3 q4 p4 B2 HX
    generalize ((W.setCell ⟨w.heap.size, 0, none⟩ (.slice none 0 0)).setCell ⟨w.heap.size + 1, 0, none⟩ (.int .i64 2)).setCell ⟨w.heap.size + 1 + 1, 0, none⟩ (.int .i64 (-1)) = V at *
    simp at Y2 Y3 Y4
    refine bodyPost_ret (v := .tuple #[.slice none 0 0, .int .i64 2, .int .i64 (-1)]) ?_ rfl ?_
    · simp [results, Try.f38, go_sem, Y2, Y3, Y4]
    · exact ⟨⟨_, rfl, ownK_nil _ _⟩, B3⟩
  · rw [if_neg hm]
    exact lex_fit s w (by omega)
end Go.Proofs.Ytlknbjaippfemaa.Lx
