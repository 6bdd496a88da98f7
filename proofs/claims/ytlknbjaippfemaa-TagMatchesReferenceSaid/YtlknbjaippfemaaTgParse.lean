/- tag: Parse. -/
import Derived.Test.YtlknbjaippfemaaTgChunk
import Derived.Test.YtlknbjaippfemaaTgParMath
import Derived.Test.YtlknbjaippfemaaTgText
import Derived.Deep.AppendSrc
namespace Go.Proofs.Ytlknbjaippfemaa.Tg
open Go.RowKit Go.Sort Go.Shelf
open Lx (IsRow alloc1 drew_below Tk Toks keeps_of_below lexR OwnK Away own_of_away away_none below_away grown_put keeps_grown)
attribute [local go_sem] Oper.semAt_some
theorem tmod3 (n : Nat) : (n : Int).tmod 3 = ((n % 3 : Nat) : Int) := by
  rw [Int.tmod_eq_emod_of_nonneg (by omega)]
  omega
set_option maxRecDepth 100000 in
set_option maxHeartbeats 4000000 in
theorem parse_no (s : ByteArray) (w : World) (ts : List Tk) (le la : Int) (hl : lexR s.data.toList = (ts, le, la)) (hs : s.size ≤ 20000) (h : le ≠ 0 ∨ ts.length % 3 ≠ 0) :
    Calls Try.prog 14 #[.string s] w (SOut w ([], 5)) := by
  have KL := Lib.hid (Lx.lex_of s w ts le la hl)
  have hs' : ¬ (20000 : Int) < (s.size : Int) := by omega
  have HM := Lib.hid (tmod3 ts.length)
  go_enter Try.func14, Try.ntmps14
  by_cases he : le = 0
  · subst he
    have h3 : ¬ ts.length % 3 = 0 := h.elim (fun h => absurd rfl h) id
    have h4 : (((ts.length % 3 : Nat) : Int) == 0) = false := by rw [beq_eq_false_iff_ne]; omega
    go_wp2_with (with_reducible refine KL.out.mono ?_; rintro e w1 ⟨⟨ao, c, rfl, hc, ht⟩, b1⟩)
    go_ret2
    exact ⟨⟨_, rfl, OwnG.nil _ _⟩, b1⟩
  · have e1 : (le == 0) = false := by rw [beq_eq_false_iff_ne]; exact he
    have e2 : (le != 0) = true := by simp [bne, e1]
    go_wp2_with (with_reducible refine KL.out.mono ?_; rintro e w1 ⟨⟨ao, c, rfl, hc, ht⟩, b1⟩)
    go_ret2
    exact ⟨⟨_, rfl, OwnG.nil _ _⟩, b1⟩
def tg (ts : List Tk) (k : Nat) : T := (tokT ts (3 * k), tokT ts (3 * k + 2))
theorem trs_fin (ts : List Tk) (q : Nat) : (List.finRange q).map (fun k => tg ts k.val) = trs ts q := by
  unfold trs tg
  refine List.ext_getElem (by simp) fun i h1 h2 => by simp
theorem OwnG.away {B : Nat} {W W' : World} {base : Nat} {v : Value} {l : List T} (h : OwnG W base v l) (ha : Away B W W') : OwnG W' base v l := by
  obtain ⟨row, hg, hr⟩ := ha
  refine h.kept hg ?_
  cases hv : v.ownBlock with
  | none => exact .inl rfl
  | some g =>
    refine .inr fun e => ?_
    obtain ⟨_, o, ho, hc⟩ := hr g e.symm
    obtain ⟨ds, hd⟩ := h.row g hv
    rw [show W.heap[g]? = some (.cells ds 43 (0, 0)) from hd] at ho
    injection ho with ho
    subst ho
    rcases hc with hc | ⟨es, hc⟩
    · cases hc
    · injection hc with _ e2 _
      exact absurd e2 (by decide)
/-- what stands between two rounds of Parse. -/
structure InvP (w : World) (N0 b Lb : Nat) (vk : Value) (ts : List Tk) {q : Nat} (pre : List (Fin q)) (W : World) : Prop where
  list : ∃ v, IsRow W Lb 22 #[v] ∧ OwnG W b v (pre.map fun k => tg ts k.val)
  toks : OwnK W b vk ts
  lo : Below b w W
  sz : N0 ≤ W.heap.size
theorem InvP.away {w : World} {N0 b Lb : Nat} {vk : Value} {ts : List Tk} {q : Nat} (hb : b ≤ N0) (pre : List (Fin q)) (W W' : World) (h : InvP w N0 b Lb vk ts pre W) (ha : Away N0 W W') : InvP w N0 b Lb vk ts pre W' := by
  obtain ⟨⟨v, h1, h2⟩, h3, h4, h5⟩ := h
  refine ⟨⟨v, h1.away (by decide) ha, h2.away ha⟩, h3.away ha, below_away h4 (Nat.le_trans hb h5) hb ha, ?_⟩
  obtain ⟨row, hg, _⟩ := ha
  exact Nat.le_trans h5 hg.size
theorem InvP.fin {w W w1 : World} {N0 b Lb : Nat} {vk v v' : Value} {ts : List Tk} {q : Nat} {pre : List (Fin q)} {x : Fin q} (hi : InvP w N0 b Lb vk ts pre W) (hv : IsRow W Lb 22 #[v]) (ho : OwnG W b v (pre.map fun k => tg ts k.val)) (hb : b ≤ Lb) (hbN : b ≤ N0)
    {U : World} (hbU : Below W.heap.size W U) (hgrow : U.grownBy w1 v.ownBlock) (hlt : ∀ k, v.ownBlock = some k → b ≤ k) (hown : OwnG w1 b v' ((pre.map fun k => tg ts k.val) ++ [tg ts x.val])) :
    KeepsFrom N0 W (w1.setCell ⟨Lb, 0, none⟩ v') ∧ KpB W (w1.setCell ⟨Lb, 0, none⟩ v') ∧ InvP w N0 b Lb vk ts (pre ++ [x]) (w1.setCell ⟨Lb, 0, none⟩ v') := by
  have oU := ho.below hbU
  have hr : ∀ k, v.ownBlock = some k → ∃ cs, IsRow U k 43 cs := oU.row
  have vU := hv.below hbU hv.inside
  have r1 : IsRow w1 Lb 22 #[v] := vU.grown hgrow (oU.ne vU (by decide))
  have kU := hi.toks.below hbU
  have k1 : OwnK w1 b vk ts := kU.kept hgrow (by
    cases hk : vk.ownBlock with
    | none => exact .inl rfl
    | some g =>
      obtain ⟨_, cs, hc⟩ := kU.row g hk
      exact .inr fun e => oU.ne hc (by decide) e.symm)
  have b1 : Below b w w1 := (hi.lo.trans (hbU.mono (Nat.le_trans hbN hi.sz))).grown hgrow (Nat.le_trans (Nat.le_trans hbN hi.sz) hbU.size) hlt
  refine ⟨((keeps_of_below _ hbU).trans (keeps_grown _ hgrow (fun k e => by obtain ⟨cs, h⟩ := hr k e; exact ⟨cs, _, h⟩))).trans ((KeepsOthers.setCell _ _ _).from _), ((KpB.of_below hbU).trans (KpB.grown hgrow (fun k e => by obtain ⟨cs, h⟩ := hr k e; exact ⟨cs, _, ⟨by decide, by decide⟩, h⟩))).trans ?_, ?_⟩
  · exact KpB.grown (grown_put w1 Lb 0 v') (fun k e => by injection e with e; subst e; exact ⟨_, _, ⟨by decide, by decide⟩, r1⟩)
  · refine ⟨⟨v', r1.put 0 _, ?_⟩, k1.put r1 (by decide) 0 _, b1.setCell (p := ⟨Lb, 0, none⟩) hb _, ?_⟩
    · rw [List.map_append]
      exact hown.kept (grown_put w1 Lb 0 v') (.inr (hown.ne r1 (by decide)))
    · have := Nat.le_trans (Nat.le_trans hi.sz hbU.size) hgrow.size
      simpa using this
theorem tok_at {W : World} {b n c : Nat} {ao : Option Addr} {ts : List Tk} (h : OwnK W b (.slice ao n c) ts) (k : Nat) (hk : k < ts.length) : ∃ g, ao = some ⟨g, 0, none⟩ ∧ W.cell? ⟨g, k * 3 + 1, none⟩ = some (.string ⟨(tokT ts k).toArray⟩) := by
  obtain ⟨ao', c', e, _, ht⟩ := h.toks
  injection e with e1 e2 e3
  subst e1
  obtain ⟨g, off, rfl, _, hc⟩ := ht (by omega)
  obtain ⟨_, ⟨hv, h0⟩ | ⟨g', cap, cur, hv, _⟩⟩ := h
  · cases hv
  · injection hv with hv
    injection hv with hv
    injection hv with e5 e6
    subst e5 e6
    obtain ⟨_, c1, _⟩ := hc k _ (List.getElem?_eq_getElem hk)
    refine ⟨g, rfl, ?_⟩
    rw [tokT_at (List.getElem?_eq_getElem hk), ← c1, Nat.zero_add]
section
variable {ops : Array Oper} {o : Oper} {a : Act} {Q : Exit → Act → World → Prop} {w : World}
theorem step_appG1 {K : Act → World → Prop} {E : Prop} (hgd : o.guard = none) (s x : Operand) (ho : o.op = .call { callee := .builtin .append, args := #[s, x], argTypes := #[22, 22] }) (base : Nat) (v : Value) (l : List T) (t : T) (H : Nat)
    (hs : a.eval s = v) (hown : OwnG w base v l) (hx : a.eval x = .slice (some ⟨H, 0, none⟩) 1 1) (hrow : w.heap[H]? = some (.cells (encT t).toArray 43 (0, 0))) (hlen : l.length ≤ 100000) (hbase : base ≤ w.heap.size)
    (h : ∀ g cap w', OwnG w' base (.slice (some ⟨g, 0, none⟩) (l.length + 1) cap) (l ++ [t]) → w.grownBy w' v.ownBlock → (∀ k, v.ownBlock = some k → base ≤ k ∧ k < w.heap.size) →
      K (a.put o.dst (.slice (some ⟨g, 0, none⟩) (l.length + 1) cap)) w') : if Region.wanted o (yielded ops a.tmps) = true then Oper.wp Try.prog o a w K Q else E := by
  obtain ⟨i0, hi, hz0, hz1, hz2⟩ := info_of tag_info
  refine step_append_lies (P := Try.prog) w hgd s x _ ho base 43 i0 _ 2 32 Try.underlying22 hi hz2 hz0 hz1 rfl (by decide) v l.length (flatG l) hs hown _ 1 1 (encT t) hx rfl (World.news_of_block hrow) (by intro u hu; simp [encT] at hu; rcases hu with rfl | rfl <;> rfl) (by decide) (by unfold maxLen; omega) (by omega) hbase w.heap.size rfl ?_
  intro g cap w1 h1 h2 _ _
  refine h g cap w1 ?_ h2 hown.lt
  unfold OwnG
  rw [flatG_app, List.length_append]
  exact h1
end
set_option maxRecDepth 100000 in
set_option maxHeartbeats 8000000 in
theorem parse_ok (s : ByteArray) (w : World) (ts : List Tk) (la : Int) (q : Nat) (hl : lexR s.data.toList = (ts, 0, la)) (hs : s.size ≤ 20000) (hq : ts.length = 3 * q) (htx : ∀ i, (tokT ts i).length ≤ s.size) (hn : ts.length ≤ 5000) :
    Calls Try.prog 14 #[.string s] w (SOut w (if (textR (trs ts q)).2 ≠ 0 ∨ (textR (trs ts q)).1 ≠ s.data.toList then ([], 5) else (trs ts q, 0))) := by
  have KL := Lib.hid (Lx.lex_any s w)
  rw [hl] at KL
  have hs' : ¬ (20000 : Int) < (s.size : Int) := by omega
  have HM := Lib.hid (tmod3 ts.length)
  obtain ⟨r, hr⟩ : ∃ r, (if (textR (trs ts q)).2 ≠ 0 ∨ (textR (trs ts q)).1 ≠ s.data.toList then (([], 5) : List T × Int) else (trs ts q, 0)) = r := ⟨_, rfl⟩
  rw [hr]
  have HR := Lib.hid hr
  have HTX := Lib.hid htx
  clear hr hl htx
  refine (callsIn_wide (n := 6)).1 ?_
  refine callsIn_of_wp_marks Try.func14 rfl trivial ?_ rfl
  simp only [Try.ntmps14, List.size_toArray, List.length_cons, List.length_nil, Nat.reduceAdd, Nat.reduceSub, Array.replicate_succ, Array.replicate_zero, List.push_toArray, List.append_toArray, List.nil_append, List.cons_append]
  gi_wp2_with fail
  refine ⟨trivial, ?_⟩
  refine (callsIn_wide.2 KL.out).mono ?_
  rintro e w1 ⟨⟨v, rfl, ho⟩, b1⟩
  obtain ⟨ao, c, rfl, hc, _⟩ := ho.toks
  have HO := Lib.hid ho
  have B1 := Lib.hid b1
  have h4 : (ts.length : Int) % 3 = 0 := by omega
  clear ho b1 KL
  have HQ := Lib.hid hq
  have HN := Lib.hid hn
  rw [hq] at HM HO hc h4 ⊢
  clear hq hn
  dsimp only at HO ⊢
  gi_wp2_with fail
  refine ⟨trivial, ?_⟩
  refine (callsIn_wide.2 (chunk_any ao _ c _)).mono ?_
  rintro e W0' ⟨rfl, hW0⟩
  obtain ⟨W0, hW0'⟩ : ∃ W0, W0' = W0 := ⟨_, rfl⟩
  subst hW0'
  obtain ⟨b, hb⟩ : ∃ b, w.heap.size = b := ⟨_, rfl⟩
  have x1 := alloc1 w1 (.cells #[.slice none 0 0] 22)
  have r1 := IsRow.made w1 22 #[.slice none 0 0]
  obtain ⟨w2, hw2⟩ : ∃ w2, w1.alloc (.cells #[.slice none 0 0] 22) = w2 := ⟨_, rfl⟩
  have hz2 : w2.heap.size = w1.heap.size + 1 := by rw [← hw2]; simp
  rw [hw2] at x1 r1 hW0 ⊢
  have r2 := IsRow.made w2 68 #[.slice ao (3 * q) c]
  have r3 := IsRow.made (w2.alloc (.cells #[.slice ao (3 * q) c] 68)) 3 #[.int .i64 3]
  have x2 : Below w2.heap.size w2 W0' := hW0 ▸ ((Below.refl _ w2).alloc (Nat.le_refl _) _).alloc (by simp) _
  have R1 : IsRow W0' w1.heap.size 22 #[.slice none 0 0] := r1.below x2 r1.inside
  have R2 : IsRow W0' w2.heap.size 68 #[.slice ao (3 * q) c] := hW0 ▸ r2.later _
  have R3 : IsRow W0' (w2.heap.size + 1) 3 #[.int .i64 3] := by
    rw [World.size_alloc] at r3
    exact hW0 ▸ r3
  have B0 : Below w.heap.size w W0' := B1.out.trans ((x1.trans (x2.mono x1.size)).mono B1.out.size)
  have O0 : OwnK W0' w.heap.size (.slice ao (3 * q) c) ts := (HO.out.below x1).below x2
  have hsz : w1.heap.size ≤ W0'.heap.size := Nat.le_trans x1.size x2.size
  have HB := Lib.hid hb
  rw [hb] at O0 B0
  have hL : b ≤ w1.heap.size := hb ▸ B1.out.size
  clear hb hW0 r1 r2 r3 x1 x2 hw2 HO
  gi_wp2
  obtain ⟨g, hg⟩ : ∃ g, 0 < q → ao = some ⟨g, 0, none⟩ := by
    by_cases h0 : 0 < q
    · obtain ⟨g, e, _⟩ := tok_at O0 0 (by rw [HQ.out]; omega)
      exact ⟨g, fun _ => e⟩
    · exact ⟨0, fun h => absurd h h0⟩
  rw [hz2] at R2 R3
  obtain ⟨Lb, hLb⟩ : ∃ Lb, w1.heap.size = Lb := ⟨_, rfl⟩
  rw [hLb] at R1 R2 R3 hsz hL ⊢
  have HG := Lib.hid hg
  have HC := Lib.hid hc
  clear hz2 hLb h4 hc
  refine wpIn_rangeFunc_ownH rfl (by omega) (gf := 53) (lb := #[.pointer (some ⟨Lb + 1, 0, none⟩), .pointer (some ⟨Lb + 1 + 1, 0, none⟩)]) rfl trivial (enters_of Try.func53 (by kernel_rfl) rfl)
    (chunk_stops 5 (by omega) (Lb + 1) (Lb + 1 + 1) g (3 * q) c q ao W0' hg R2 R3 rfl HC.out (by have := HN.out; have := HQ.out; omega)) KpB.trans (fun W l o o' h1 h2 h3 h4 => kpB_b (w := W0') W l o o' h1 h2 h3 h4) (Below.refl _ _) (fun _ => rfl)
    (fun pre W => InvP w W0'.heap.size b Lb (.slice ao (3 * q) c) ts pre W)
    (fun _ _ _ => False)
    (own_of_away (InvP.away (by omega)))
    (fun _ _ _ _ _ hs _ _ => hs)
    ⟨⟨_, R1, OwnG.nil _ _⟩, O0, B0, Nat.le_refl _⟩
    (fun x a' W => a' = { tmps := #[.string s, undef, .slice none 0 0, .int .i64 0, .slice ao (3 * q) c, .int .i64 0, .int .i64 la, .pointer (some ⟨Lb, 0, none⟩), .slice (some ⟨g, 3 * x.val * 3, none⟩) 3 3, undef, undef, .string s, .int .i64 (s.size : Int), .bool false, .tuple #[.slice ao (3 * q) c, .int .i64 0, .int .i64 la], .string s, .tuple #[.slice ao (3 * q) c, .int .i64 0, .int .i64 la], .slice ao (3 * q) c, .int .i64 0, .int .i64 la, .int .i64 0, .bool false, .bool false, .slice ao (3 * q) c, .int .i64 (3 * (q : Int)), .int .i64 0, .bool false, .bool false, .slice ao (3 * q) c,
      .func (.func 53) #[] #[.pointer (some ⟨Lb + 1, 0, none⟩), .pointer (some ⟨Lb + 1 + 1, 0, none⟩)], .slice (some ⟨g, 3 * x.val * 3, none⟩) 3 3, undef, undef, undef, undef, undef, undef, undef, undef, undef, undef, undef, undef, undef, undef, undef, undef, undef, undef, undef, undef, undef, undef, undef, undef, undef], defers := [] })
    (fun x a' _ X Y row hs hg hr => hs) ?assign ?body ?done ?stop
  case assign =>
    rintro y pre x W K hi hK
    gi_wp2
    exact hK _ _ (KeepsFrom.refl _ _) (KpB.refl _) hi rfl
  case body =>
    rintro y pre ⟨k, hk⟩ a' W - - hi rfl hlt
    obtain ⟨⟨v, hv, ho⟩, hto, _, _⟩ := id hi
    obtain ⟨va, vc, hve, _, _, _⟩ := ho.tags
    obtain ⟨n, hn⟩ : ∃ n, (pre.map fun k => tg ts k.val).length = n := ⟨_, rfl⟩
    rw [hn] at hve
    obtain rfl : ao = some ⟨g, 0, none⟩ := HG.out (by omega)
    obtain ⟨g1, e1, d0⟩ := tok_at hto (3 * k) (by rw [HQ.out]; omega)
    obtain ⟨g2, e2, d2⟩ := tok_at hto (3 * k + 2) (by rw [HQ.out]; omega)
    injection e1 with e1
    injection e1 with e1
    injection e2 with e2
    injection e2 with e2
    subst e1 e2
    have q0 := hv.get 0
    have p0 := hv.open_ 0
    subst hve
    have HI := Lib.hid hi
    have HV := Lib.hid hv
    have HO := Lib.hid ho
    have HN2 := Lib.hid hn
    clear hi hv ho hto hn
    rw [show (3 * k + 2) * 3 + 1 = 3 * k * 3 + 6 + 1 by omega] at d2
    gi_wp2_with fail
    have SS : W.drew.cell? ⟨Lb, 0, none⟩ = some (.slice va n vc) ∧ W.drew.cell? ⟨g, 3 * k * 3 + 1, none⟩ = some (.string ⟨(tokT ts (3 * k)).toArray⟩) ∧ W.drew.cell? ⟨g, 3 * k * 3 + 6 + 1, none⟩ = some (.string ⟨(tokT ts (3 * k + 2)).toArray⟩) := ⟨q0, d0, d2⟩
    refine Round.wpIn_region_round (fun w' => w'.cell? ⟨Lb, 0, none⟩ = some (.slice va n vc) ∧ w'.cell? ⟨g, 3 * k * 3 + 1, none⟩ = some (.string ⟨(tokT ts (3 * k)).toArray⟩) ∧ w'.cell? ⟨g, 3 * k * 3 + 6 + 1, none⟩ = some (.string ⟨(tokT ts (3 * k + 2)).toArray⟩)) 12 (by kernel_rfl) (by kernel_rfl) (fun ⟨_, _, h⟩ => h) ?_
    refine Round.E_take 0 (.slice va n vc) rfl (by kernel_rfl) (by kernel_rfl) (by kernel_rfl) (by kernel_rfl) (fun _ _ _ h => h) (Or.inl ⟨by rfl, fun w hSw => by (try dsimp only at hSw); go_simp⟩) SS ?_
    try simp only [Act.put, List.setIfInBounds_toArray]
    refine Round.E_take 1 (.slice (some ⟨g, 3 * k * 3, none⟩) 3 3) rfl (by kernel_rfl) (by kernel_rfl) (by kernel_rfl) (by kernel_rfl) (fun _ _ _ h => h) (Or.inl ⟨by rfl, fun w hSw => by (try dsimp only at hSw); go_simp⟩) SS ?_
    try simp only [Act.put]
    refine Round.E_take 2 (.pointer (some ⟨g, 3 * k * 3, none⟩)) rfl (by kernel_rfl) (by kernel_rfl) (by kernel_rfl) (by kernel_rfl) (fun _ _ _ h => h) (Or.inl ⟨by rfl, fun w hSw => by (try dsimp only at hSw); go_simp⟩) SS ?_
    try simp only [Act.put]
    refine Round.E_take 3 (.pointer (some ⟨g, 3 * k * 3 + 1, none⟩)) rfl (by kernel_rfl) (by kernel_rfl) (by kernel_rfl) (by kernel_rfl) (fun _ _ _ h => h) (Or.inl ⟨by rfl, fun w hSw => by (try dsimp only at hSw); go_simp⟩) SS ?_
    try simp only [Act.put]
    refine Round.E_take 4 (.string ⟨(tokT ts (3 * k)).toArray⟩) rfl (by kernel_rfl) (by kernel_rfl) (by kernel_rfl) (by kernel_rfl) (fun _ _ _ h => h) (Or.inl ⟨by rfl, fun w hSw => by (try dsimp only at hSw); go_simp⟩) SS ?_
    try simp only [Act.put]
    refine Round.E_take 5 (.slice (some ⟨g, 3 * k * 3, none⟩) 3 3) rfl (by kernel_rfl) (by kernel_rfl) (by kernel_rfl) (by kernel_rfl) (fun _ _ _ h => h) (Or.inl ⟨by rfl, fun w hSw => by (try dsimp only at hSw); go_simp⟩) SS ?_
    try simp only [Act.put]
    refine Round.E_take 6 (.pointer (some ⟨g, 3 * k * 3 + 6, none⟩)) rfl (by kernel_rfl) (by kernel_rfl) (by kernel_rfl) (by kernel_rfl) (fun _ _ _ h => h) (Or.inl ⟨by rfl, fun w hSw => by (try dsimp only at hSw); go_simp⟩) SS ?_
    try simp only [Act.put]
    refine Round.E_take 7 (.pointer (some ⟨g, 3 * k * 3 + 6 + 1, none⟩)) rfl (by kernel_rfl) (by kernel_rfl) (by kernel_rfl) (by kernel_rfl) (fun _ _ _ h => h) (Or.inl ⟨by rfl, fun w hSw => by (try dsimp only at hSw); go_simp⟩) SS ?_
    try simp only [Act.put]
    refine Round.E_take 8 (.string ⟨(tokT ts (3 * k + 2)).toArray⟩) rfl (by kernel_rfl) (by kernel_rfl) (by kernel_rfl) (by kernel_rfl) (fun _ _ _ h => h) (Or.inl ⟨by rfl, fun w hSw => by (try dsimp only at hSw); go_simp⟩) SS ?_
    try simp only [Act.put]
    refine Round.E_take 9 (.agg #[.string ⟨(tokT ts (3 * k)).toArray⟩, .string ⟨(tokT ts (3 * k + 2)).toArray⟩]) rfl (by kernel_rfl) (by kernel_rfl) (by kernel_rfl) (by kernel_rfl) (fun _ _ _ h => h) (Or.inl ⟨by rfl, fun w hSw => by (try dsimp only at hSw); go_simp⟩) SS ?_
    try simp only [Act.put]
    refine Round.E_one 10 (by kernel_rfl) rfl (fun K hK => ?_)
    go_simp
    obtain ⟨U, hU⟩ : ∃ U, (W.alloc (.cells #[.string ⟨(tokT ts (3 * k)).toArray⟩, .string ⟨(tokT ts (3 * k + 2)).toArray⟩] 43)).drew = U := ⟨_, rfl⟩
    have hbU : Below W.heap.size W U := hU ▸ (alloc1 W _).trans ((drew_below _).mono (by simp))
    have rU : U.heap[W.heap.size]? = some (.cells (encT (tg ts k)).toArray 43 (0, 0)) := hU ▸ (IsRow.made W _ _).drew
    rw [hU]
    have u0 := (hbU.cell (World.block_lt_of_cell? _ _ SS.1)).trans q0
    have u1 := (hbU.cell (World.block_lt_of_cell? _ _ d0)).trans d0
    have u2 := (hbU.cell (World.block_lt_of_cell? _ _ d2)).trans d2
    have vU := HV.out.below hbU HV.out.inside
    have oU := HO.out.below hbU
    have tU := HI.out.toks.below hbU
    refine hK.out _ _ (fun _ => ⟨u0, u1, u2⟩) ?_
    clear hK K hU SS q0 p0 d0 d2
    try simp only [Act.put, List.setIfInBounds_toArray, List.set_cons_zero, List.set_cons_succ]
    refine Round.E_one 11 (by kernel_rfl) rfl (fun K hK => ?_)
    refine step_appG1 (by rfl) _ _ (by rfl) b (.slice va n vc) (pre.map fun k => tg ts k.val) (tg ts k) W.heap.size (by rfl) oU (by rfl) rU (by rw [List.length_map]; have := HN.out; have := HQ.out; omega) (Nat.le_trans (Nat.le_trans (Nat.le_trans hL hsz) HI.out.sz) hbU.size) ?_
    intro g' cap' w3 ho3 hg3 hlt3
    have r3' : IsRow w3 Lb 22 #[.slice va n vc] := vU.grown hg3 (oU.ne vU (by decide))
    have q3 := r3'.get 0
    have p3 := r3'.open_ 0
    have hne : ∀ k', (Value.slice va n vc).ownBlock = some k' → k' ≠ g := fun k' e1 e2 => by
      subst e2
      obtain ⟨_, cs, hc⟩ := tU.row k' rfl
      exact oU.ne hc (by decide) e1
    refine hK.out _ _ (fun _ => ⟨q3, hg3.cell u1 (fun e => hne _ e.symm rfl), hg3.cell u2 (fun e => hne _ e.symm rfl)⟩) ?_
    clear hK K u0 u1 u2 hne
    try simp only [Act.put, List.setIfInBounds_toArray]
    refine Round.E_one 12 (by kernel_rfl) rfl (fun K hK => ?_)
    go_simp
    refine hK.out _ _ (fun h => absurd rfl h) ?_
    clear hK K
    refine Round.E_done (by kernel_rfl) ?_ _
    rw [List.length_map] at ho3
    exact InvP.fin (x := ⟨k, hk⟩) HI.out HV.out HO.out hL (Nat.le_trans hL hsz) hbU hg3 (fun k e => (hlt3 k e).1) ho3
  case done =>
    rintro D ys W hD rfl hi hK
    obtain ⟨⟨v, hv, ho⟩, _, hlo, hszW⟩ := id hi
    rw [trs_fin] at ho
    obtain ⟨va, vc, rfl, hvc, _, hta⟩ := ho.tags
    have HL := Lib.hid (trs_len ts q)
    have q0 := hv.get 0
    have SZ : Siz (trs ts q) := by
      unfold trs
      intro t ht
      obtain ⟨k, _, rfl⟩ := List.mem_map.1 ht
      have e1 := HTX.out (3 * k)
      have e2 := HTX.out (3 * k + 2)
      exact ⟨by dsimp only; omega, by dsimp only; omega⟩
    have KT := Lib.hid (text_any va (trs ts q).length vc (trs ts q) W rfl hta hvc SZ)
    have HO := Lib.hid ho
    have HLO := Lib.hid hlo
    have HKK := Lib.hid hK
    have HV := Lib.hid hv
    have HSZ := Lib.hid hszW
    clear hi ho hlo hK hvc hta SZ hszW
    generalize hn5 : (trs ts q).length = n5 at *
    gi_wp2_with fail
    refine ⟨trivial, ?_⟩
    refine (callsIn_wide.2 KT.out).mono ?_
    rintro e w5 ⟨rfl, b5⟩
    have r5 := HV.out.below b5 HV.out.inside
    have q5 := r5.get 0
    have O5 := HO.out.below b5
    have B5 := HLO.out.trans (b5.mono (Nat.le_trans (Nat.le_trans hL hsz) HSZ.out))
    have K5 : w5.heap[D]? = some (.deferred (some [])) := (b5.block D (Array.getElem?_eq_some_iff.1 HKK.out).1).trans HKK.out
    have O9 : OwnG (w5.putObj D (.deferred none)) b (.slice va n5 vc) (trs ts q) := O5.kept (row := some D) (grownBy_putObj' w5 D _) (.inr (fun e => by
      obtain ⟨ds, hd⟩ := O5.row D e
      rw [show w5.heap[D]? = some (.cells ds 43 (0, 0)) from hd] at K5
      cases K5))
    have B9 : Below b w (w5.putObj D (.deferred none)) := B5.trans (belowK_b (w := W0') (Nat.le_trans hL hsz) w5 D _ _ (by omega) K5 rfl rfl)
    have F9 := Lib.hid (And.intro O9 B9)
    have K9 := Lib.hid K5
    clear r5 b5 O5 B5 K5 O9 B9 KT HO HLO HKK q0
    obtain ⟨t1, ht1⟩ : ∃ x, (textR (trs ts q)).1 = x := ⟨_, rfl⟩
    obtain ⟨t2, ht2⟩ : ∃ x, (textR (trs ts q)).2 = x := ⟨_, rfl⟩
    have HR2 := Lib.hid HR.out
    rw [ht1, ht2] at HR2
    rw [ht1, ht2]
    clear HR ht1 ht2
    by_cases h0 : t2 = 0
    · subst h0
      by_cases h1 : t1 = s.data.toList
      · obtain rfl : (trs ts q, (0 : Int)) = r := by have := HR2.out; rw [if_neg (by simp [h1])] at this; exact this
        have e1 : (⟨t1.toArray⟩ : ByteArray) = s := by rw [h1]
        rw [e1]
        gi_wp2_with fail
        refine ⟨by simp, .inl ⟨_, _, rfl, run_takeDeferred K9.out, ?_⟩⟩
        exact ⟨_, results_tmp2 rfl _ _ _, ⟨_, rfl, by rw [HB.out]; exact F9.out.1⟩, by rw [HB.out]; exact F9.out.2⟩
      · obtain rfl : (([], 5) : List T × Int) = r := by have := HR2.out; rw [if_pos (.inr h1)] at this; exact this
        have e2 : (t1 == s.toList) = false := by rw [beq_eq_false_iff_ne, ByteArray.toList_eq]; exact h1
        gi_wp2_with fail
        refine ⟨by simp, .inl ⟨_, _, rfl, run_takeDeferred K9.out, ?_⟩⟩
        exact ⟨_, results_tmp2 rfl _ _ _, ⟨_, rfl, OwnG.nil _ _⟩, by rw [HB.out]; exact F9.out.2⟩
    · obtain rfl : (([], 5) : List T × Int) = r := by have := HR2.out; rw [if_pos (.inl h0)] at this; exact this
      have e1 : (t2 == 0) = false := by rw [beq_eq_false_iff_ne]; exact h0
      gi_wp2_with fail
      refine ⟨by simp, .inl ⟨_, _, rfl, run_takeDeferred K9.out, ?_⟩⟩
      exact ⟨_, results_tmp2 rfl _ _ _, ⟨_, rfl, OwnG.nil _ _⟩, by rw [HB.out]; exact F9.out.2⟩
  case stop =>
    rintro D c pre W _ _ h _
    exact h.elim
set_option maxRecDepth 100000 in
set_option maxHeartbeats 4000000 in
theorem parse_far (s : ByteArray) (w : World) (hs : 20000 < s.size) : Calls Try.prog 14 #[.string s] w (SOut w ([], 2)) := by
  have hs' : (20000 : Int) < (s.size : Int) := by omega
  go_enter Try.func14, Try.ntmps14
  go_wp2
  go_ret2
  exact ⟨⟨_, rfl, OwnG.nil _ _⟩, Below.refl _ _⟩
theorem scan_few : ∀ (r : List (Tk × Int)) (acc : List Tk), acc.length ≤ 5000 → (Lx.scan acc r).1.length ≤ 5000
  | [], acc, h => h
  | (u, e) :: r, acc, h => by
    rw [Lx.scan]
    split
    · exact Nat.zero_le _
    · split
      · exact Nat.zero_le _
      · rename_i h1 h2
        refine scan_few r _ ?_
        have : ¬ acc.length = 5000 := fun q => h1 ⟨by omega, q⟩
        rw [List.length_append, List.length_singleton]
        omega
theorem parse_any (s : ByteArray) (w : World) : Calls Try.prog 14 #[.string s] w (SOut w (parR s.data.toList)) := by
  by_cases hs : 20000 < s.size
  · have e : parR s.data.toList = ([], 2) := if_pos (by rw [Lx.len_data]; exact hs)
    rw [e]
    exact parse_far s w hs
  · have hs' : ¬ 20000 < s.data.toList.length := by rw [Lx.len_data]; exact hs
    obtain ⟨⟨ts, le, la⟩, hl⟩ : ∃ x, lexR s.data.toList = x := ⟨_, rfl⟩
    have hf : ts.length ≤ 5000 := by
      have h5 : (lexR s.data.toList).1.length ≤ 5000 := by
        unfold Lx.lexR
        rw [if_neg hs']
        exact scan_few _ _ (by simp)
      rw [hl] at h5
      exact h5
    unfold parR
    rw [if_neg hs', hl]
    dsimp only
    by_cases h : le ≠ 0 ∨ ts.length % 3 ≠ 0
    · rw [if_pos h]
      exact parse_no s w ts le la hl (by omega) h
    · rw [if_neg h]
      obtain rfl : le = 0 := Decidable.byContradiction fun q => h (.inl q)
      have h3 : ts.length % 3 = 0 := Decidable.byContradiction fun q => h (.inr q)
      exact parse_ok s w ts la (ts.length / 3) hl (by omega) (by omega) (fun i => by
        have := tokT_len (s := s.data.toList) i
        rw [hl, Lx.len_data] at this
        exact this) hf
end Go.Proofs.Ytlknbjaippfemaa.Tg
