/- Merged: LxLex, LxName, LxHead, HrTok. -/
import Derived.Test.YtgbkjdpjilldmaaDoorHm8
import Derived.Test.YtgbkjdpjilldmaaDoorHm13
import Derived.Test.YtgbkjdpjilldmaaDoorHm6
/- lexer.Lex. -/
namespace Go.Proofs.YtgbkjdpjilldmaaDoor.Lx
open Go.RowKit Go.Sort Go.Shelf
attribute [local go_sem] Oper.semAt_some
theorem four_made (w : World) (t1 t2 t3 t4 : TypeId) (c1 c2 c3 c4 : Array Value) : ∃ W, (((w.alloc (.cells c1 t1)).alloc (.cells c2 t2)).alloc (.cells c3 t3)).alloc (.cells c4 t4) = W ∧ Below w.heap.size w W ∧
    IsRow W w.heap.size t1 c1 ∧ IsRow W (w.heap.size + 1) t2 c2 ∧ IsRow W (w.heap.size + 2) t3 c3 ∧ IsRow W (w.heap.size + 3) t4 c4 ∧ W.heap.size = w.heap.size + 4 := by
  have h1 := IsRow.made w t1 c1
  have h2 := IsRow.made (w.alloc (.cells c1 t1)) t2 c2
  have h3 := IsRow.made ((w.alloc (.cells c1 t1)).alloc (.cells c2 t2)) t3 c3
  have h4 := IsRow.made (((w.alloc (.cells c1 t1)).alloc (.cells c2 t2)).alloc (.cells c3 t3)) t4 c4
  rw [World.size_alloc] at h2
  rw [World.size_alloc, World.size_alloc] at h3
  rw [World.size_alloc, World.size_alloc, World.size_alloc] at h4
  exact ⟨_, rfl, (((((Below.refl _ _).alloc (Nat.le_refl _) _).alloc (by simp) _).alloc (by simp; omega) _).alloc (by simp; omega) _), ((h1.later _).later _).later _, (h2.later _).later _, h3.later _, h4, by simp⟩
theorem away_none {B : Nat} {W W' : World} (h : Below W.heap.size W W') : Away B W W' := ⟨none, grown_of_below h none, fun r e => by cases e⟩
theorem OwnK.shape {w : World} {base : Nat} {v : Value} {l : List Tk} (h : OwnK w base v l) : ∃ ao cap, v = .slice ao l.length cap := by
  obtain ⟨_, h2⟩ := h
  rcases h2 with ⟨rfl, h0⟩ | ⟨g, cap, cur, rfl, _⟩
  · exact ⟨none, 0, by rw [h0]⟩
  · exact ⟨_, _, rfl⟩
theorem InvL.fin {w W w1 : World} {N0 b : Nat} {pre : List (Tk × Int)} {t : Tk} {v v' : Value} (hi : InvL w N0 b pre W) (hv : IsRow W (b + 3) 43 #[v]) (ho : OwnK W b v (pre.map (·.1))) (hlen : pre.length < 5000)
    (hgrow : (W.alloc (.cells (encK t).toArray 47)).grownBy w1 v.ownBlock) (hown : w1.ownsRow b 47 3 v' (pre.length + 1) (flatK (pre.map (·.1)) ++ encK t)) :
    KeepsFrom N0 W (w1.setCell ⟨b + 3, 0, none⟩ v') ∧ KpR W (w1.setCell ⟨b + 3, 0, none⟩ v') ∧ InvL w N0 b (pre ++ [(t, 0)]) (w1.setCell ⟨b + 3, 0, none⟩ v') := by
  obtain ⟨U, hU⟩ : ∃ U, W.alloc (.cells (encK t).toArray 47) = U := ⟨_, rfl⟩
  have hbU : Below W.heap.size W U := hU ▸ alloc1 W _
  rw [hU] at hgrow
  have oU := ho.below hbU
  have hr : ∀ k, v.ownBlock = some k → ∃ cs t, IsRow U k t cs := fun k e => by obtain ⟨_, cs, h⟩ := oU.row k e; exact ⟨cs, _, h⟩
  have row : ∀ {g : Nat} {t : TypeId} {cs : Array Value}, t ≠ 47 → IsRow W g t cs → IsRow w1 g t cs := fun ht h => by
    have h2 := IsRow.below h hbU h.inside
    exact h2.grown hgrow (oU.ne h2 ht)
  have b1 : Below b w w1 := (hi.lo.trans (hbU.mono hi.lo_size)).grown hgrow (Nat.le_trans hi.lo_size hbU.size) (fun k e => (oU.row k e).1)
  have r3 := row (by decide) hv
  refine ⟨((keeps_of_below _ hbU).trans (keeps_grown _ hgrow hr)).trans ((KeepsOthers.setCell _ _ _).from _), ((KpR.of_below hbU).trans (KpR.grown hgrow (fun k e => by obtain ⟨_, cs, h⟩ := oU.row k e; exact ⟨cs, _, ⟨by decide, by decide⟩, h⟩))).trans ?_, ?_⟩
  · exact KpR.grown (grown_put w1 (b + 3) 0 v') (fun k e => by injection e with e; subst e; exact ⟨_, _, ⟨by decide, by decide⟩, r3⟩)
  · have e1 : (pre ++ [(t, (0 : Int))]).map (·.1) = pre.map (·.1) ++ [t] := by simp
    refine ⟨⟨v', r3.put 0 _, ?_⟩, (row (by decide) hi.r2).putOther (by simp) _, (row (by decide) hi.r3).putOther (by simp) _, (row (by decide) hi.r4).putOther (by simp) _, b1.setCell (p := ⟨b + 3, 0, none⟩) (by simp) _, ?_, ?_, ?_⟩
    · rw [e1]
      refine (ownK_snoc (s := t) ?_).put r3 (by decide) 0 _
      rw [List.length_map]
      exact hown
    · have := Nat.le_trans (Nat.le_trans hi.sz hbU.size) hgrow.size
      simpa using this
    · intro x hx
      rcases List.mem_append.1 hx with hx | hx
      · exact hi.ok x hx
      · rw [List.mem_singleton] at hx; subst hx; rfl
    · simp; omega
theorem InvL.ends {w W : World} {N0 b : Nat} {pre : List (Tk × Int)} {t : Tk} {e0 e : Int} (hi : InvL w N0 b pre W) (he : (e0 = 0 ∧ pre.length = 5000 ∧ e = 2) ∨ (e0 ≠ 0 ∧ e = e0)) :
    KeepsFrom N0 W (((W.drew.setCell ⟨b, 0, none⟩ (.slice none 0 0)).setCell ⟨b + 1, 0, none⟩ (.int .i64 e)).setCell ⟨b + 2, 0, none⟩ (.int .i64 (t.a : Int))) ∧
      EndL w N0 b .ret (pre ++ [(t, e0)]) (((W.drew.setCell ⟨b, 0, none⟩ (.slice none 0 0)).setCell ⟨b + 1, 0, none⟩ (.int .i64 e)).setCell ⟨b + 2, 0, none⟩ (.int .i64 (t.a : Int))) := by
  have r2 : IsRow W.drew b 43 #[.slice none 0 0] := hi.r2
  have r3 : IsRow W.drew (b + 1) 25 #[.int .i64 0] := hi.r3
  have r4 : IsRow W.drew (b + 2) 3 #[.int .i64 0] := hi.r4
  refine ⟨(((keeps_of_below _ (drew_below W)).trans ((KeepsOthers.setCell _ _ _).from _)).trans ((KeepsOthers.setCell _ _ _).from _)).trans ((KeepsOthers.setCell _ _ _).from _), rfl, ⟨e, t.a, ?_, ?_, ?_, pre, (t, e0), rfl, hi.ok, hi.few, he, rfl⟩, ?_, ?_⟩
  · exact ((r2.put 0 _).putOther (by simp) _).putOther (by simp) _
  · exact ((r3.putOther (by simp) _).put 0 _).putOther (by simp) _
  · exact ((r4.putOther (by simp) _).putOther (by simp) _).put 0 _
  · exact (((hi.lo.trans ((drew_below W).mono hi.lo_size)).setCell (p := ⟨b, 0, none⟩) (Nat.le_refl _) _).setCell (p := ⟨b + 1, 0, none⟩) (by simp) _).setCell (p := ⟨b + 2, 0, none⟩) (by simp) _
  · have := hi.sz
    simpa using this
/-- what Lex answers. -/
def LOut (w : World) (r : List Tk × Int × Int) (e : Ending) (w' : World) : Prop := (∃ v, e = .returned (.tuple #[v, .int .i64 r.2.1, .int .i64 r.2.2]) ∧ OwnK w' w.heap.size v r.1) ∧ Below w.heap.size w w'
set_option maxRecDepth 100000 in
set_option maxHeartbeats 4000000 in
theorem lex_fit (s : ByteArray) (w : World) (hm : s.size ≤ 20000) : Calls Tryd.prog 20 #[.string s] w (LOut w (scan [] (evL s.data.toList))) := by
  refine (callsIn_wide (n := 6)).1 ?_
  refine callsIn_of_wp_marks Tryd.func20 rfl trivial ?_ rfl
  simp only [Tryd.ntmps20, List.size_toArray, List.length_cons, List.length_nil, Nat.reduceAdd, Nat.reduceSub, Array.replicate_succ, Array.replicate_zero, List.push_toArray, List.append_toArray, List.nil_append, List.cons_append]
  have hlt : ¬ (20000 : Int) < (s.size : Int) := by omega
  gi_wp2_with (refine ⟨trivial, ?_⟩; gi_at_call 27; refine (callsIn_wide.2 (tokens_any s _)).mono ?_; rintro e W1 ⟨rfl, rfl⟩)
  obtain ⟨W1, hW1, B1, R0, R1, R2, R3, hs1⟩ := four_made w 43 25 3 43 #[.slice none 0 0] #[.int .i64 0] #[.int .i64 0] #[.slice none 0 0]
  rw [hW1]
  clear hW1
  obtain ⟨W0, hW0⟩ : ∃ V, W1.alloc (.cells #[.string s] 9) = V := ⟨_, rfl⟩
  have hb := alloc1 W1 (.cells #[.string s] 9)
  have RB := IsRow.made W1 9 #[.string s]
  rw [hW0] at hb RB
  have B0 := B1.trans (hb.mono B1.size)
  have Q0 := R0.below hb R0.inside
  have Q1 := R1.below hb R1.inside
  have Q2 := R2.below hb R2.inside
  have Q3 := R3.below hb R3.inside
  have hs0 : W0.heap.size = w.heap.size + 5 := by rw [← hW0, World.size_alloc, hs1]
  rw [hW0]
  rw [hs1] at RB
  clear hW0 hb B1 R0 R1 R2 R3 hs1
  obtain ⟨b, hb⟩ : ∃ b, w.heap.size = b := ⟨_, rfl⟩
  have HB := Lib.hid hb
  rw [hb] at B0 Q0 Q1 Q2 Q3 RB hs0 ⊢
  rw [show b + 1 + 1 = b + 2 from rfl, show b + 2 + 1 = b + 3 from rfl, show b + 3 + 1 = b + 4 from rfl]
  clear hb
  refine Rule.range_own (t := 86) rfl (by omega) (gf := 38) (lb := #[.pointer (some ⟨b + 4, 0, none⟩)]) rfl trivial (enters_of Tryd.func38 (by kernel_rfl) rfl)
    (tokens_stops 5 (by omega) (b + 4) s W0 RB hm) KpR.trans (fun W l o o' h1 h2 h3 h4 => kpR_b (w := W0) W l o o' h1 h2 h3 h4) (Below.refl _ _) (fun _ => rfl)
    (InvL w W0.heap.size b) (EndL w W0.heap.size b)
    (own_of_away (InvL.away (by omega))) (fun c => own_of_away (EndL.away (by omega) c)) (lets_of_away (InvL.away (by omega))) (fun c => lets_of_away (EndL.away (by omega) c))
    ⟨⟨_, Q3, ownK_nil _ _⟩, Q0, Q1, Q2, B0, Nat.le_refl _, fun x hx => (by cases hx), Nat.zero_le _⟩
    (fun x a' W => ∃ Bx, W0.heap.size ≤ Bx ∧ IsRow W Bx 47 #[.int .i64 x.1.k, .string ⟨x.1.t.toArray⟩, .int .i64 (x.1.a : Int)] ∧
      a' = { tmps := #[.string s, undef, .pointer (some ⟨b, 0, none⟩), .pointer (some ⟨b + 1, 0, none⟩), .pointer (some ⟨b + 2, 0, none⟩), .pointer (some ⟨b + 3, 0, none⟩), .pointer (some ⟨Bx, 0, none⟩), .int .i64 x.2, .string s, .int .i64 (s.size : Int), .bool false, .string s, .func (.func 38) #[] #[.pointer (some ⟨b + 4, 0, none⟩)],
        .agg #[.int .i64 x.1.k, .string ⟨x.1.t.toArray⟩, .int .i64 (x.1.a : Int)], .int .i64 x.2, undef, undef, undef, undef, undef, undef, undef, undef, undef, undef, undef, undef, undef, undef, undef, undef, undef], defers := [] })
    (fun x a' => own_of_away fun _ X Y hs ha => by
      obtain ⟨Bx, h1, h2, h3⟩ := hs
      exact ⟨Bx, h1, h2.away (by decide) ha, h3⟩) ?assign ?body ?done ?stop
  case assign =>
    rintro y pre x W K hi hK
    gi_wp2
    exact hK _ _ ((KeepsOthers.alloc _ _).from _) (KpR.of_below (alloc1 _ _)) (InvL.away (by omega) _ _ _ hi (away_none (alloc1 _ _))) ⟨W.heap.size, hi.sz, IsRow.made W _ _, rfl⟩
  case body =>
    rintro y pre ⟨⟨k, t, a⟩, e0⟩ a' W hi ⟨Bx, hBx, rx, rfl⟩ hlt
    dsimp only at rx
    obtain ⟨d0, d1, d2, _, _, _⟩ := facts3 rx
    obtain ⟨⟨v, hv, ho⟩, _⟩ := id hi
    obtain ⟨ao, cap, rfl⟩ := ho.shape
    rw [List.length_map] at hv ho
    have q5 := hv.get 0
    have p5 := hv.open_ 0
    have q2 := hi.r2.get 0
    have p2 := hi.r2.open_ 0
    have q3 := hi.r3.get 0
    have p3 := hi.r3.open_ 0
    have q4 := hi.r4.get 0
    have p4 := hi.r4.open_ 0
    have HI := Lib.hid hi
    have hfew := hi.few
    clear hi hlt
    by_cases he : e0 = 0
    · subst he
      by_cases h5 : pre.length = 5000
      · have hl5 : ((pre.length : Int) == 5000) = true := by rw [h5]; rfl
        have HE := Lib.hid (InvL.ends (t := ⟨k, t, a⟩) HI.out (.inl ⟨rfl, h5, rfl⟩))
        clear h5
        gi_wp2
        gi_region
        all_goals
          gi_wp2
          exact HE.out
      · have hl5 : ((pre.length : Int) == 5000) = false := by rw [beq_eq_false_iff_ne]; omega
        obtain ⟨i0, hi0, hs0', hb0', hz0'⟩ := info_of tok_info
        have HT := Lib.hid (And.intro hi0 (And.intro hs0' (And.intro hb0' hz0')))
        have hL := Lib.hid (show pre.length < 5000 by omega)
        have HO := Lib.hid ho
        have HV := Lib.hid hv
        have H9 : Hid ((W.alloc (.cells #[.int .i64 k, .string ⟨t.toArray⟩, .int .i64 (a : Int)] 47)).ownsRow b 47 3 (.slice ao pre.length cap) pre.length (flatK (pre.map (·.1)))) := Lib.hid (by
          have := ho.below (alloc1 W (.cells #[.int .i64 k, .string ⟨t.toArray⟩, .int .i64 (a : Int)] 47))
          unfold OwnK at this
          rw [List.length_map] at this
          exact this)
        have hbs : b < W.heap.size := by have := HI.out.r2.inside; exact this
        have iL := hv.inside
        clear hi0 hs0' hb0' hz0' h5 ho hv rx
        gi_wp2_with (gi_at_builtin; go_loud (refine wpListIn_append_own _ rfl _ _ 43 rfl b 47 i0 _ 3 32 Tryd.underlying43 HT.out.1 HT.out.2.2.2 HT.out.2.1 HT.out.2.2.1 (by decide) (by decide) (.slice ao pre.length cap) pre.length (flatK (pre.map (·.1))) rfl H9.out ⟨W.heap.size, 0, none⟩ 1 1 [.int .i64 k, .string ⟨t.toArray⟩, .int .i64 (a : Int)] rfl rfl (World.news_of_block (heap_alloc_new W _)) (encK_one ⟨k, t, a⟩) (by have := hL.out; unfold maxLen; omega) (by have := hL.out; omega) (by simp; omega) ?_; intro v' w1 hown' hgrow _; obtain ⟨g', cap', hv'⟩ := ownsRow_succ hown'; subst hv'; have hr1 := (IsRow.later HV.out (.cells #[.int .i64 k, .string ⟨t.toArray⟩, .int .i64 (a : Int)] 47)).grown hgrow (OwnK.ne (OwnK.below (l := pre.map (·.1)) (by unfold OwnK; rw [List.length_map]; have := HO.out; unfold OwnK at this; rw [List.length_map] at this; exact this) (alloc1 W (.cells #[.int .i64 k, .string ⟨t.toArray⟩, .int .i64 (a : Int)] 47))) (IsRow.later HV.out (.cells #[.int .i64 k, .string ⟨t.toArray⟩, .int .i64 (a : Int)] 47)) (by decide)); have hq1 := hr1.get 0; have hp1 := hr1.open_ 0))
        exact HI.out.fin (t := ⟨k, t, a⟩) HV.out HO.out hL.out hgrow hown'
    · have he1 : (e0 == 0) = false := by rw [beq_eq_false_iff_ne]; exact he
      have he2 : (e0 != 0) = true := by simp [bne, he1]
      have HE := Lib.hid (InvL.ends (t := ⟨k, t, a⟩) HI.out (.inr ⟨he, rfl⟩))
      clear he
      gi_wp2
      gi_region
      all_goals
        gi_wp2
        exact HE.out
  case done =>
    rintro D ys W hD rfl hi hK
    obtain ⟨⟨v, hv, ho⟩, _⟩ := id hi
    obtain ⟨ao, cap, rfl⟩ := ho.shape
    obtain ⟨n, hn⟩ : ∃ n, ((evL s.data.toList).map (·.1)).length = n := ⟨_, rfl⟩
    rw [hn] at hv ho
    have q5 := hv.get 0
    have q2 := hi.r2.get 0
    have p2 := hi.r2.open_ 0
    have q3 := hi.r3.get 0
    have p3 := hi.r3.open_ 0
    have q4 := hi.r4.get 0
    have p4 := hi.r4.open_ 0
    have HI := Lib.hid hi
    have HO := Lib.hid ho
    clear hi ho hn
    gi_wp2
    obtain ⟨X, hX⟩ : ∃ X, ((W.setCell ⟨b, 0, none⟩ (.slice ao n cap)).setCell ⟨b + 1, 0, none⟩ (.int .i64 0)).setCell ⟨b + 2, 0, none⟩ (.int .i64 0) = X := ⟨_, rfl⟩
    have X2 : IsRow X b 43 #[.slice ao n cap] := hX ▸ ((HI.out.r2.put 0 _).putOther (by simp) _).putOther (by simp) _
    have X3 : IsRow X (b + 1) 25 #[.int .i64 0] := hX ▸ ((HI.out.r3.putOther (by simp) _).put 0 _).putOther (by simp) _
    have X4 : IsRow X (b + 2) 3 #[.int .i64 0] := hX ▸ ((HI.out.r4.putOther (by simp) _).putOther (by simp) _).put 0 _
    have XO : OwnK X b (.slice ao n cap) ((evL s.data.toList).map (·.1)) := hX ▸ (((HO.out.put HI.out.r2 (by decide) 0 _).put (HI.out.r3.putOther (p := ⟨b, 0, none⟩) (by simp) _) (by decide) 0 _).put ((HI.out.r4.putOther (p := ⟨b, 0, none⟩) (by simp) _).putOther (p := ⟨b + 1, 0, none⟩) (by simp) _) (by decide) 0 _)
    have XB : Below b w X := hX ▸ ((HI.out.lo.setCell (p := ⟨b, 0, none⟩) (Nat.le_refl _) _).setCell (p := ⟨b + 1, 0, none⟩) (by simp) _).setCell (p := ⟨b + 2, 0, none⟩) (by simp) _
    have XK : X.heap[D]? = some (.deferred (some [])) := hX ▸ (((Below.heap_setCell _ _ _ _ (by show D ≠ b + 2; omega)).trans (Below.heap_setCell _ _ _ _ (by show D ≠ b + 1; omega))).trans (Below.heap_setCell _ _ _ _ (by show D ≠ b; omega))).trans hK
    rw [hX]
    clear hX q5 q2 p2 q3 p3 q4 p4 hv
    refine ⟨by simp, .inl ⟨_, _, rfl, run_takeDeferred XK, ?_⟩⟩
    have hg := grownBy_putObj' X D (.deferred none)
    have Y2 := (X2.grown hg (fun e => by injection e with e; omega)).get 0
    have Y3 := (X3.grown hg (fun e => by injection e with e; omega)).get 0
    have Y4 := (X4.grown hg (fun e => by injection e with e; omega)).get 0
    have YO : OwnK (X.putObj D (.deferred none)) b (.slice ao n cap) ((evL s.data.toList).map (·.1)) := XO.kept hg (.inr (fun e => by
      obtain ⟨_, ds, hd⟩ := XO.row D e
      rw [show X.heap[D]? = some (.cells ds 47 (0, 0)) from hd] at XK
      cases XK))
    have YB : Below b w (X.putObj D (.deferred none)) := XB.trans (belowK_b (w := W0) (by omega) X D _ _ (by omega) XK rfl rfl)
    have hs := scan_ok (evL s.data.toList) [] HI.out.ok (by have := HI.out.few; simpa using this)
    simp at Y2 Y3 Y4
    refine ⟨.tuple #[.slice ao n cap, .int .i64 0, .int .i64 0], ?_, ?_⟩
    · simp [results, Tryd.f20, go_sem, Y2, Y3, Y4]
    · rw [hs, List.nil_append]
      exact ⟨⟨_, rfl, by rw [HB.out]; exact YO⟩, by rw [HB.out]; exact YB⟩
  case stop =>
    rintro D c pre W hD hp hE hK
    obtain ⟨rfl, ⟨e, a, h2, h3, h4, h5⟩, h6, h7⟩ := hE
    have hs := Lib.hid (scan_ends h5 hp)
    gi_wp2
    refine ⟨by simp, .inl ⟨_, _, rfl, run_takeDeferred hK, ?_⟩⟩
    have hg := grownBy_putObj' W D (.deferred none)
    have Y2 := (h2.grown hg (fun e => by injection e with e; omega)).get 0
    have Y3 := (h3.grown hg (fun e => by injection e with e; omega)).get 0
    have Y4 := (h4.grown hg (fun e => by injection e with e; omega)).get 0
    have YB : Below b w (W.putObj D (.deferred none)) := h6.trans (belowK_b (w := W0) (by omega) W D _ _ (by omega) hK rfl rfl)
    simp at Y2 Y3 Y4
    refine ⟨.tuple #[.slice none 0 0, .int .i64 e, .int .i64 a], ?_, ?_⟩
    · simp [results, Tryd.f20, go_sem, Y2, Y3, Y4]
    · rw [hs.out]
      exact ⟨⟨_, rfl, ownK_nil _ _⟩, by rw [HB.out]; exact YB⟩
set_option maxRecDepth 100000 in
set_option maxHeartbeats 1000000 in
theorem lex_any (s : ByteArray) (w : World) : Calls Tryd.prog 20 #[.string s] w (LOut w (lexR s.data.toList)) := by
  unfold lexR
  rw [len_data]
  by_cases hm : 20000 < s.size
  · rw [if_pos hm]
    have hlt : (20000 : Int) < (s.size : Int) := by omega
    have h1 := IsRow.made w 43 #[.slice none 0 0]
    have h2 := IsRow.made (w.alloc (.cells #[.slice none 0 0] 43)) 25 #[.int .i64 0]
    have h3 := IsRow.made ((w.alloc (.cells #[.slice none 0 0] 43)).alloc (.cells #[.int .i64 0] 25)) 3 #[.int .i64 0]
    rw [World.size_alloc] at h2
    rw [World.size_alloc, World.size_alloc] at h3
    obtain ⟨W, hW⟩ : ∃ W, ((w.alloc (.cells #[.slice none 0 0] 43)).alloc (.cells #[.int .i64 0] 25)).alloc (.cells #[.int .i64 0] 3) = W := ⟨_, rfl⟩
    have R2 : IsRow W w.heap.size 43 #[.slice none 0 0] := hW ▸ (h1.later _).later _
    have R3 : IsRow W (w.heap.size + 1) 25 #[.int .i64 0] := hW ▸ h2.later _
    have R4 : IsRow W (w.heap.size + 1 + 1) 3 #[.int .i64 0] := hW ▸ h3
    have B1 : Below w.heap.size w W := hW ▸ (((Below.refl _ _).alloc (Nat.le_refl _) _).alloc (by simp) _).alloc (by simp; omega) _
    have HW := Lib.hid hW
    have q2 := R2.get 0
    have p2 := R2.open_ 0
    have q3 := R3.get 0
    have p3 := R3.open_ 0
    have q4 := R4.get 0
    have p4 := R4.open_ 0
    have X2 := (((R2.put 0 (.slice none 0 0)).putOther (p := ⟨w.heap.size + 1, 0, none⟩) (by simp) (.int .i64 2)).putOther (p := ⟨w.heap.size + 1 + 1, 0, none⟩) (by show w.heap.size ≠ w.heap.size + 1 + 1; omega) (.int .i64 (-1))).get 0
    have X3 := (((R3.putOther (p := ⟨w.heap.size, 0, none⟩) (by simp) (.slice none 0 0)).put 0 (.int .i64 2)).putOther (p := ⟨w.heap.size + 1 + 1, 0, none⟩) (by simp) (.int .i64 (-1))).get 0
    have X4 := (((R4.putOther (p := ⟨w.heap.size, 0, none⟩) (by show w.heap.size + 1 + 1 ≠ w.heap.size; omega) (.slice none 0 0)).putOther (p := ⟨w.heap.size + 1, 0, none⟩) (by simp) (.int .i64 2)).put 0 (.int .i64 (-1))).get 0
    have B2 := Lib.hid (((B1.setCell (p := ⟨w.heap.size, 0, none⟩) (Nat.le_refl _) (.slice none 0 0)).setCell (p := ⟨w.heap.size + 1, 0, none⟩) (by simp) (.int .i64 2)).setCell (p := ⟨w.heap.size + 1 + 1, 0, none⟩) (by show w.heap.size ≤ w.heap.size + 1 + 1; omega) (.int .i64 (-1)))
    have HX := Lib.hid (And.intro X2 (And.intro X3 X4))
    clear h1 h2 h3 hW R2 R3 R4 B1 X2 X3 X4
    go_enter Tryd.func20, Tryd.ntmps20
    go_upto_region 1 with fail
    rw [HW.out]
    go_wp2
    obtain ⟨Y2, Y3, Y4⟩ := HX.out
    have B3 := B2.out
    clear q2 p2 q3 p3 q4 p4 B2 HX
    generalize ((W.setCell ⟨w.heap.size, 0, none⟩ (.slice none 0 0)).setCell ⟨w.heap.size + 1, 0, none⟩ (.int .i64 2)).setCell ⟨w.heap.size + 1 + 1, 0, none⟩ (.int .i64 (-1)) = V at *
    simp at Y2 Y3 Y4
    refine bodyPost_ret (v := .tuple #[.slice none 0 0, .int .i64 2, .int .i64 (-1)]) ?_ rfl ?_
    · simp [results, Tryd.f20, go_sem, Y2, Y3, Y4]
    · exact ⟨⟨_, rfl, ownK_nil _ _⟩, B3⟩
  · rw [if_neg hm]
    exact lex_fit s w (by omega)
end Go.Proofs.YtgbkjdpjilldmaaDoor.Lx
/- lexer.Name; the reference's Name. -/
namespace Go.Proofs.YtgbkjdpjilldmaaDoor.Lx
open Go.RowKit
/-- is a text a name. -/
def nmB (l : B) : Bool := hd isLet l && decide (l.length ≤ 24) && l.all isWord
theorem all_take_succ {p : UInt8 → Bool} {l : B} {k : Nat} (h : k < l.length) : (l.take (k + 1)).all p = ((l.take k).all p && p l[k]) := by
  rw [List.take_succ_eq_append_getElem h, List.all_append]
  simp only [List.all_cons, List.all_nil, Bool.and_true]
theorem all_false {p : UInt8 → Bool} {l : B} {k : Nat} (h : k < l.length) (hc : p l[k] = false) : l.all p = false := by
  rw [List.all_eq_false]; exact ⟨l[k], List.getElem_mem h, by simp [hc]⟩
theorem hd_at (s : ByteArray) (p : UInt8 → Bool) (h : 0 < s.size) : hd p s.data.toList = p s[0] := by
  have := drop_at s 0 h
  rw [List.drop_zero] at this
  rw [this]; rfl
end Go.Proofs.YtgbkjdpjilldmaaDoor.Lx
/- lexer: the laws' head; slices of tokens as they are read. -/
namespace Go.Proofs.YtgbkjdpjilldmaaDoor.Lx
open Go.RowKit
/-- a slice of tokens in memory below B. -/
def Toks (w : World) (B : Nat) (ao : Option Addr) (l : List Tk) : Prop := 0 < l.length → ∃ g off, ao = some ⟨g, off, none⟩ ∧ g < B ∧ ∀ (k : Nat) (t : Tk), l[k]? = some t →
  w.cell? ⟨g, off + k * 3, none⟩ = some (.int .i64 t.k) ∧ w.cell? ⟨g, off + k * 3 + 1, none⟩ = some (.string ⟨t.t.toArray⟩) ∧ w.cell? ⟨g, off + k * 3 + 2, none⟩ = some (.int .i64 (t.a : Int))
theorem Toks.below {w w' : World} {B B' : Nat} {ao : Option Addr} {l : List Tk} (h : Toks w B ao l) (hb : Below B' w w') (hB : B ≤ B') : Toks w' B ao l := fun h0 => by
  obtain ⟨g, off, e, hg, hc⟩ := h h0
  exact ⟨g, off, e, hg, fun k t hk => by
    obtain ⟨c0, c1, c2⟩ := hc k t hk
    exact ⟨(hb.cell (p := ⟨g, _, none⟩) (Nat.lt_of_lt_of_le hg hB)).trans c0, (hb.cell (p := ⟨g, _, none⟩) (Nat.lt_of_lt_of_le hg hB)).trans c1, (hb.cell (p := ⟨g, _, none⟩) (Nat.lt_of_lt_of_le hg hB)).trans c2⟩⟩
theorem Toks.more {w : World} {B B' : Nat} {ao : Option Addr} {l : List Tk} (h : Toks w B ao l) (hB : B ≤ B') : Toks w B' ao l := fun h0 => by
  obtain ⟨g, off, e, hg, hc⟩ := h h0
  exact ⟨g, off, e, Nat.lt_of_lt_of_le hg hB, hc⟩
theorem flatK_len (l : List Tk) : (flatK l).length = l.length * 3 := by
  induction l with
  | nil => rfl
  | cons t l ih => unfold flatK at ih ⊢; rw [List.flatMap_cons, List.length_append, ih]; simp [encK]; omega
theorem flatK_get : ∀ (l : List Tk) (k : Nat) (t : Tk), l[k]? = some t → (flatK l)[k * 3]? = some (.int .i64 t.k) ∧ (flatK l)[k * 3 + 1]? = some (.string ⟨t.t.toArray⟩) ∧ (flatK l)[k * 3 + 2]? = some (.int .i64 (t.a : Int))
  | [], k, t, h => by simp at h
  | x :: l, 0, t, h => by
    rw [List.getElem?_cons_zero] at h
    injection h with h
    subst h
    exact ⟨rfl, rfl, rfl⟩
  | x :: l, k + 1, t, h => by
    rw [List.getElem?_cons_succ] at h
    have ih := flatK_get l k t h
    have e : ∀ j, (flatK (x :: l))[(k + 1) * 3 + j]? = (flatK l)[k * 3 + j]? := fun j => by
      unfold flatK
      rw [List.flatMap_cons, List.getElem?_append_right (by simp [encK]; omega)]
      congr 1
      simp [encK]; omega
    exact ⟨(e 0).trans ih.1, (e 1).trans ih.2.1, (e 2).trans ih.2.2⟩
theorem OwnK.toks {w : World} {base : Nat} {v : Value} {l : List Tk} (h : OwnK w base v l) : ∃ ao cap, v = .slice ao l.length cap ∧ l.length ≤ cap ∧ Toks w w.heap.size ao l := by
  obtain ⟨h1, h2⟩ := h
  rcases h2 with ⟨rfl, h0⟩ | ⟨g, cap, cur, rfl, hb, hg, _, hc, _, ht⟩
  · exact ⟨none, 0, by rw [h0], by omega, fun hp => by omega⟩
  · have hr : IsRow w g 47 cur := hg
    refine ⟨some ⟨g, 0, none⟩, cap, rfl, by omega, fun _ => ⟨g, 0, rfl, hr.inside, fun k t hk => ?_⟩⟩
    obtain ⟨f0, f1, f2⟩ := flatK_get l k t hk
    have hkl := (List.getElem?_eq_some_iff.1 hk).1
    rw [← ht, List.getElem?_take, if_pos (by omega)] at f0
    rw [← ht, List.getElem?_take, if_pos (by omega)] at f1
    rw [← ht, List.getElem?_take, if_pos (by omega)] at f2
    rw [hr.get, hr.get, hr.get, Nat.zero_add]
    exact ⟨by simpa using f0, by simpa using f1, by simpa using f2⟩
theorem lex_of (s : ByteArray) (w : World) (ts : List Tk) (e a : Int) (h : lexR s.data.toList = (ts, e, a)) :
    Calls Tryd.prog 20 #[.string s] w fun x w' => (∃ ao cap, x = .returned (.tuple #[.slice ao ts.length cap, .int .i64 e, .int .i64 a]) ∧ ts.length ≤ cap ∧ Toks w' w'.heap.size ao ts) ∧ Below w.heap.size w w' := by
  refine (lex_any s w).mono ?_
  rintro x w' ⟨⟨v, rfl, ho⟩, hb⟩
  rw [h] at ho ⊢
  obtain ⟨ao, cap, rfl, hc, ht⟩ := ho.toks
  exact ⟨⟨ao, cap, rfl, hc, ht⟩, hb⟩
theorem lex1 : lexR [119, 97, 121, 32, 119, 49, 32, 55, 45, 34, 97, 92, 34, 98, 34, 35, 32, 121] = ([⟨1, [119, 97, 121], 0⟩, ⟨1, [119, 49], 4⟩, ⟨2, [55], 7⟩, ⟨4, [45], 8⟩, ⟨3, [97, 34, 98], 9⟩], 0, 0) := by decide +kernel
theorem lex2 : lexR [97, 32, 33, 98] = ([], 3, 2) := by decide +kernel
theorem lex3 : lexR [55, 120] = ([], 4, 0) := by decide +kernel
theorem lex4 : lexR [97, 32, 34, 98] = ([], 3, 2) := by decide +kernel
theorem lex5 : lexR [10, 97, 98, 99, 100, 101, 102, 103, 104, 105, 106, 107, 108, 109, 110, 111, 112, 113, 114, 115, 116, 117, 118, 119, 120, 121] = ([], 2, 1) := by decide +kernel
end Go.Proofs.YtgbkjdpjilldmaaDoor.Lx
/- hours: tokens.next, unexpected. -/
namespace Go.Proofs.YtgbkjdpjilldmaaDoor.Hr
open Go.RowKit Go.Sort Go.Shelf
open Lx (IsRow alloc1 drew_below Tk B Toks vTok set3 below3 facts3 infoTok)
open St (Sp encS encS_len encS_one)
set_option maxRecDepth 100000 in
set_option maxHeartbeats 1000000 in
theorem tnext_any (g e n c : Nat) (ts : List Tk) (ao : Option Addr) (w : World) (c0 : w.cell? ⟨g, 0, none⟩ = some (.slice ao n c)) (c1 : w.cell? ⟨g, 1, none⟩ = some (.int .i64 (e : Int))) (hn : ts.length = n) (ht : Toks w w.heap.size ao ts) (hc : n ≤ c) (hg : g < w.heap.size) :
    Calls Tryd.prog 62 #[.pointer (some ⟨g, 0, none⟩)] w fun x w' => x = .returned (vTok (nx1 e ts).k (nx1 e ts).t (nx1 e ts).a) ∧ Below w.heap.size w w' := by
  obtain ⟨W, hW⟩ : ∃ W, w.alloc (.cells #[.int .i64 0, .string ⟨#[]⟩, .int .i64 0] 47) = W := ⟨_, rfl⟩
  have B0 : Below w.heap.size w W := hW ▸ alloc1 w _
  have T0 : IsRow W w.heap.size 47 #[.int .i64 0, .string ⟨#[]⟩, .int .i64 0] := hW ▸ IsRow.made w _ _
  have d0 := (B0.cell (p := ⟨g, 0, none⟩) hg).trans c0
  have d1 := (B0.cell (p := ⟨g, 1, none⟩) hg).trans c1
  obtain ⟨f0, f1, f2, f3, f4, f5⟩ := facts3 T0
  have HT := Lib.hid T0
  have HB := Lib.hid B0
  have HW := Lib.hid hW
  cases ts with
  | nil =>
    simp at hn
    subst hn
    clear B0 T0 hW ht c0 c1
    go_enter Tryd.func62, Tryd.ntmps62
    go_upto_region 1 with fail
    rw [HW.out]
    go_wp2
    have hr := set3 HT.out (.int .i64 0) (.string ⟨#[]⟩) (.int .i64 (e : Int))
    have hb := below3 HB.out (Nat.le_refl _) (.int .i64 0) (.string ⟨#[]⟩) (.int .i64 (e : Int))
    refine bodyPost_ret (results_cell_row rfl _ _ w.heap.size _ _ (0, 0) _ rfl hr Tryd.underlying47 rfl infoTok) rfl ?_
    exact ⟨rfl, hb⟩
  | cons t r =>
    obtain ⟨g2, o2, rfl, hg2, hcells⟩ := ht (by simp)
    obtain ⟨x0, x1, x2⟩ := hcells 0 t rfl
    obtain ⟨k, tt, a⟩ := t
    dsimp only at x0 x1 x2
    rw [Nat.zero_mul, Nat.add_zero] at x0 x1 x2
    have y0 := (B0.cell (p := ⟨g2, _, none⟩) hg2).trans x0
    have y1 := (B0.cell (p := ⟨g2, _, none⟩) hg2).trans x1
    have y2 := (B0.cell (p := ⟨g2, _, none⟩) hg2).trans x2
    have hn0 : (0 : Int) < (n : Int) := by have := hn; simp at this; omega
    have hnz : ((n : Int) == 0) = false := by rw [beq_eq_false_iff_ne]; omega
    have hnz2 : (n == 0) = false := by rw [beq_eq_false_iff_ne]; omega
    have hc' : (n : Int) ≤ (c : Int) := by omega
    clear B0 T0 hW ht c0 c1 hcells x0 x1 x2 hn
    go_enter Tryd.func62, Tryd.ntmps62
    go_upto_region 1 with fail
    rw [HW.out]
    go_wp2
    have hr := set3 HT.out (.int .i64 k) (.string ⟨tt.toArray⟩) (.int .i64 (a : Int))
    have hb := below3 HB.out (Nat.le_refl _) (.int .i64 k) (.string ⟨tt.toArray⟩) (.int .i64 (a : Int))
    refine bodyPost_ret (results_cell_row rfl _ _ w.heap.size _ _ (0, 0) _ rfl hr Tryd.underlying47 rfl infoTok) rfl ?_
    exact ⟨rfl, hb⟩
theorem infoFail : (Tryd.prog.info? 73).map (·.size) = some 2 := by kernel_rfl
theorem set2f {w : World} {g : Nat} {t : TypeId} {a b : Value} (h : IsRow w g t #[a, b]) (a' b' : Value) : IsRow ((w.setCell ⟨g, 0, none⟩ a').setCell ⟨g, 1, none⟩ b') g t #[a', b'] := by
  have := (h.put 0 a').put 1 b'
  simpa using this
theorem tok_field0 (k : Int) (s : ByteArray) (a : Int) : ∀ w : World, (Instr.field 47 (.agg #[.int .i64 k, .string s, .int .i64 a]) 0).run Tryd.prog w = .ok (.int .i64 k) w := fun _ => by kernel_rfl
theorem tok_field2 (k : Int) (s : ByteArray) (a : Int) : ∀ w : World, (Instr.field 47 (.agg #[.int .i64 k, .string s, .int .i64 a]) 2).run Tryd.prog w = .ok (.int .i64 a) w := fun _ => by kernel_rfl
/-- a failure as a value. -/
def vFl (f : Fl) : Value := .agg #[.int .i64 f.1, .int .i64 f.2]
set_option maxRecDepth 100000 in
set_option maxHeartbeats 1000000 in
theorem unexp_any (g e n c : Nat) (ts : List Tk) (ao : Option Addr) (w : World) (c0 : w.cell? ⟨g, 0, none⟩ = some (.slice ao n c)) (c1 : w.cell? ⟨g, 1, none⟩ = some (.int .i64 (e : Int))) (hn : ts.length = n) (ht : Toks w w.heap.size ao ts) (hc : n ≤ c) (hg : g < w.heap.size) :
    Calls Tryd.prog 48 #[.pointer (some ⟨g, 0, none⟩)] w fun x w' => x = .returned (vFl (unexp e ts)) ∧ Below w.heap.size w w' := by
  obtain ⟨W, hW⟩ : ∃ W, w.alloc (.cells #[.int .i64 0, .int .i64 0] 73) = W := ⟨_, rfl⟩
  have B0 : Below w.heap.size w W := hW ▸ alloc1 w _
  have T0 : IsRow W w.heap.size 73 #[.int .i64 0, .int .i64 0] := hW ▸ IsRow.made w _ _
  have d0 := (B0.cell (p := ⟨g, 0, none⟩) hg).trans c0
  have d1 := (B0.cell (p := ⟨g, 1, none⟩) hg).trans c1
  have NX := Lib.hid (tnext_any g e n c ts ao W d0 d1 hn ((ht.below B0 (Nat.le_refl _)).more B0.size) hc (Nat.lt_of_lt_of_le hg B0.size))
  obtain ⟨f0, f1, f2, f3⟩ := facts2 T0
  have HT := Lib.hid T0
  have HB := Lib.hid B0
  have HW := Lib.hid hW
  cases ts with
  | nil =>
    simp at hn
    subst hn
    clear B0 T0 hW ht c0 c1 NX
    go_enter Tryd.func48, Tryd.ntmps48
    go_upto_region 1 with fail
    rw [HW.out]
    go_wp2
    have hr := set2f HT.out (.int .i64 6) (.int .i64 (e : Int))
    have hb := (HB.out.setCell (p := ⟨w.heap.size, 0, none⟩) (Nat.le_refl _) (.int .i64 6)).setCell (p := ⟨w.heap.size, 1, none⟩) (Nat.le_refl _) (.int .i64 (e : Int))
    refine bodyPost_ret (results_cell_row rfl _ _ w.heap.size _ _ (0, 0) _ rfl hr Tryd.underlying73 rfl infoFail) rfl ?_
    exact ⟨rfl, hb⟩
  | cons t r =>
    obtain ⟨k, tt, a⟩ := t
    have hn0 : (0 : Int) < (n : Int) := by have := hn; simp at this; omega
    have hnz : ((n : Int) == 0) = false := by rw [beq_eq_false_iff_ne]; omega
    have hnz2 : (n == 0) = false := by rw [beq_eq_false_iff_ne]; omega
    have N2 := Lib.hid (show Calls Tryd.prog 62 #[.pointer (some ⟨g, 0, none⟩)] W fun x w' => x = .returned (.agg #[.int .i64 k, .string ⟨tt.toArray⟩, .int .i64 (a : Int)]) ∧ Below W.heap.size W w' from NX.out)
    clear B0 T0 hW ht c0 c1 hn NX
    go_enter Tryd.func48, Tryd.ntmps48
    go_upto_region 1 with fail
    rw [HW.out]
    go_wp2_with fail
    refine N2.out.mono ?_
    rintro x w2 ⟨rfl, b2⟩
    have R2 := Lib.hid (HT.out.below b2 HT.out.inside)
    have B2 := Lib.hid (HB.out.trans (b2.mono HB.out.size))
    obtain ⟨h0, h1, h2, h3⟩ := facts2 R2.out
    clear N2 b2 f0 f1 f2 f3
    have hfd := tok_field2 k ⟨tt.toArray⟩ (a : Int)
    go_wp2
    have hr := set2f R2.out (.int .i64 5) (.int .i64 (a : Int))
    have hb := (B2.out.setCell (p := ⟨w.heap.size, 0, none⟩) (Nat.le_refl _) (.int .i64 5)).setCell (p := ⟨w.heap.size, 1, none⟩) (Nat.le_refl _) (.int .i64 (a : Int))
    refine bodyPost_ret (results_cell_row rfl _ _ w.heap.size _ _ (0, 0) _ rfl hr Tryd.underlying73 rfl infoFail) rfl ?_
    exact ⟨rfl, hb⟩
end Go.Proofs.YtgbkjdpjilldmaaDoor.Hr
