/- Two rings that meet in common corners and sides alone: how their sides are to each other (plain mathematics). -/
import Derived.Test.YtlagolgmkmdhhaaRgLike
namespace Go.Proofs.Ytlagolgmkmdhhaa.Rg
open Go.Proofs.Ytlagolgmkmdhhaa.Geo hiding intOf Apart
open Go.Proofs.Ytlagolgmkmdhhaa.Pl (sds rot rotN lst prs Free FreeP Dif sb tws Ring wn dbl ad flip kl arc cr tn)
/-- how often m goes round the points just on the left of a side. -/
noncomputable def lg (m : List Pt) (s : Pt × Pt) : Int :=
  open Classical in if s ∈ sds m then kl m + 1 else if flip s ∈ sds m then kl m else wn (dbl m) (ad s.1 s.2)
/-- a corner of m that a way passes. -/
structure At (m : List Pt) (i : Nat) (b : Pt) : Prop where
  lt : i < m.length
  eq : cor m i = b
section
variable {m : List Pt} {i : Nat} {b : Pt}
theorem At.sides (h : At m i b) (hm : simpleN m = true) : (b, nxt m i) ∈ sds m ∧ (prv m i, b) ∈ sds m ∧ (∀ s ∈ sds m, holdsN s.1 s.2 b = true → s = (b, nxt m i) ∨ s = (prv m i, b)) ∧ Dif (sb (prv m i) b) (sb (nxt m i) b) ∧ nxt m i ≠ b ∧ prv m i ≠ b := by
  obtain ⟨hi, rfl⟩ := h
  have hS := smp_of hm
  have hr := hS.ring
  obtain ⟨t, ht, hlst⟩ := turn_at hS.three hi
  have hp := Pl.sds_permN i m
  rw [ht] at hp
  have m2 : (prv m i, cor m i) ∈ sds m := by
    rw [← hlst]
    refine hp.mem_iff.1 ?_
    show _ ∈ prs (cor m i) ((nxt m i :: t) ++ [cor m i])
    rw [Pl.prs_snoc]
    exact List.mem_append_right _ (List.mem_singleton.2 rfl)
  have hc := (hS.rotN i).cond
  rw [ht] at hc
  have hd : Dif (sb (prv m i) (cor m i)) (sb (nxt m i) (cor m i)) := by
    match t, hlst, hc with
    | d :: t, hlst, hc =>
      have := hc.2.1
      rw [← hlst]
      exact this
  refine ⟨sds_in hi, m2, fun s hs hb => ?_, hd, side_ne hS hi, Pl.dif_ne hd⟩
  have := touch hr ht hs hb
  rw [hlst] at this
  exact this
/-- the count just on the left of a way that leaves the corner to c. -/
theorem At.out (h : At m i b) (hm : simpleN m = true) {c : Pt} (hc : c ≠ b) (hk : ∀ s ∈ sds m, meetsN s.1 s.2 b c = 0 ∨ meetsN s.1 s.2 b c = 1 ∨ meetsN s.1 s.2 b c = 4) :
    c = nxt m i ∧ lg m (b, c) = kl m + 1 ∧ lg m (c, b) = kl m ∨ c = prv m i ∧ lg m (b, c) = kl m ∧ lg m (c, b) = kl m + 1 ∨
    (c ≠ nxt m i ∧ c ≠ prv m i) ∧ (Dif (sb (nxt m i) b) (sb c b) ∧ Dif (sb (prv m i) b) (sb c b)) ∧ lg m (b, c) = kl m + arc (sb (prv m i) b) (sb (nxt m i) b) (sb c b) ∧ lg m (c, b) = kl m + arc (sb (prv m i) b) (sb (nxt m i) b) (sb c b) := by
  obtain ⟨s1, s2, htouch, hd, n1, n2⟩ := h.sides hm
  have hne : prv m i ≠ nxt m i := fun e => by
    rw [e] at hd
    refine hd ⟨?_, ?_⟩
    · unfold cr; grind
    · have h1 := mul_self (sb (nxt m i) b).x
      have h2 := mul_self (sb (nxt m i) b).y
      omega
  have in1 : (b, c) ∈ sds m ↔ c = nxt m i := ⟨fun k => by
      rcases htouch _ k (holds_left _ _) with e | e
      · exact congrArg Prod.snd e
      · exact absurd (congrArg Prod.snd e) hc, fun e => e ▸ s1⟩
  have in2 : (c, b) ∈ sds m ↔ c = prv m i := ⟨fun k => by
      rcases htouch _ k (holds_right _ _) with e | e
      · exact absurd (congrArg Prod.fst e) hc
      · exact congrArg Prod.fst e, fun e => e ▸ s2⟩
  by_cases g1 : c = nxt m i
  · left
    refine ⟨g1, ?_, ?_⟩
    · unfold lg; rw [if_pos (in1.2 g1)]
    · unfold lg
      rw [if_neg fun k => hne ((in2.1 k).symm.trans g1), if_pos (show flip (c, b) ∈ sds m from in1.2 g1)]
  · right
    by_cases g2 : c = prv m i
    · left
      refine ⟨g2, ?_, ?_⟩
      · unfold lg
        rw [if_neg fun k => g1 (in1.1 k), if_pos (show flip (b, c) ∈ sds m from in2.2 g2)]
      · unfold lg; rw [if_pos (in2.2 g2)]
    · right
      have hk' : ∀ s ∈ sds m, meetsN s.1 s.2 b c = 0 ∨ meetsN s.1 s.2 b c = 1 := fun s hs => by
        rcases hk s hs with k | k | k
        · exact .inl k
        · exact .inr k
        · exfalso
          have hsm := kind_sm k
          have hb : holdsN s.1 s.2 b = true := by
            rcases hsm with ⟨e1, _⟩ | ⟨_, e2⟩
            · rw [← e1]; exact holds_left _ _
            · rw [← e2]; exact holds_right _ _
          rcases htouch s hs hb with e | e
          · rw [e] at hsm
            rcases hsm with ⟨_, e2⟩ | ⟨e1, _⟩
            · exact g1 e2.symm
            · exact hc e1.symm
          · rw [e] at hsm
            rcases hsm with ⟨_, e2⟩ | ⟨e1, _⟩
            · exact hc e2.symm
            · exact g2 e1.symm
      obtain ⟨hi, rfl⟩ := h
      have hS := smp_of hm
      obtain ⟨t, ht, hlst⟩ := turn_at hS.three hi
      obtain ⟨⟨dz, du, _⟩, hw⟩ := Pl.see_corner hS.ring ht hc hk'
      rw [hlst] at du hw
      refine ⟨⟨g1, g2⟩, ⟨dz, du⟩, ?_, ?_⟩
      · unfold lg
        rw [if_neg fun k => g1 (in1.1 k), if_neg (show ¬ flip (cor m i, c) ∈ sds m from fun k => g2 (in2.1 k))]
        exact hw
      · unfold lg
        rw [if_neg fun k => g2 (in2.1 k), if_neg (show ¬ flip (c, cor m i) ∈ sds m from fun k => g1 (in1.1 k))]
        show wn (dbl m) (ad c (cor m i)) = _
        rw [Pl.ad_comm]
        exact hw
/-- A way a, b, c on whose left side m has no side at b: what is just on the left of it stays the same. -/
theorem At.pass (h : At m i b) (hm : simpleN m = true) {a c : Pt} (ha : a ≠ b) (hc : c ≠ b) (hac : Dif (sb a b) (sb c b))
    (hka : ∀ s ∈ sds m, meetsN s.1 s.2 b a = 0 ∨ meetsN s.1 s.2 b a = 1 ∨ meetsN s.1 s.2 b a = 4) (hkc : ∀ s ∈ sds m, meetsN s.1 s.2 b c = 0 ∨ meetsN s.1 s.2 b c = 1 ∨ meetsN s.1 s.2 b c = 4)
    (hz : nxt m i = a ∨ nxt m i = c ∨ arc (sb a b) (sb c b) (sb (nxt m i) b) = 0) (hu : prv m i = a ∨ prv m i = c ∨ arc (sb a b) (sb c b) (sb (prv m i) b) = 0) :
    lg m (a, b) = lg m (b, c) := by
  obtain ⟨s1, s2, htouch, hd, n1, n2⟩ := h.sides hm
  have hne : a ≠ c := fun e => by
    rw [e] at hac
    refine hac ⟨?_, ?_⟩
    · unfold cr; grind
    · have h1 := mul_self (sb c b).x
      have h2 := mul_self (sb c b).y
      omega
  have oa := h.out hm ha hka
  have oc := h.out hm hc hkc
  have hpn : prv m i ≠ nxt m i := fun e => by
    rw [e] at hd
    refine hd ⟨?_, ?_⟩
    · unfold cr; grind
    · have h1 := mul_self (sb (nxt m i) b).x
      have h2 := mul_self (sb (nxt m i) b).y
      omega
  have t0 := Pl.tn_swap (Pl.sb_ne ha) hac
  have t1 := Pl.tn_swap (Pl.sb_ne n2) hd
  unfold arc at *
  rcases oa with ⟨ea, _, fa⟩ | ⟨ea, _, fa⟩ | ⟨⟨ga1, ga2⟩, ⟨da1, da2⟩, _, fa⟩ <;> rcases oc with ⟨ec, fc, _⟩ | ⟨ec, fc, _⟩ | ⟨⟨gc1, gc2⟩, ⟨dc1, dc2⟩, fc, _⟩
  · exact absurd (ea.trans ec.symm) hne
  · rw [fa, fc]
  · have t2 := Pl.tn_swap (Pl.sb_ne n2) dc2
    have t3 := Pl.tn_swap (Pl.sb_ne n1) dc1
    rw [fa, fc]
    subst ea
    rcases hu with e | e | e
    · exact absurd e hpn
    · exact absurd e.symm gc2
    · omega
  · rw [fa, fc]
  · exact absurd (ea.trans ec.symm) hne
  · have t2 := Pl.tn_swap (Pl.sb_ne n2) dc2
    have t3 := Pl.tn_swap (Pl.sb_ne n1) dc1
    rw [fa, fc]
    subst ea
    rcases hz with e | e | e
    · exact absurd e.symm hpn
    · exact absurd e.symm gc1
    · omega
  · have t2 := Pl.tn_swap (Pl.sb_ne n2) da2
    have t3 := Pl.tn_swap (Pl.sb_ne n1) da1
    rw [fa, fc]
    subst ec
    rcases hu with e | e | e
    · exact absurd e.symm ga2
    · exact absurd e hpn
    · omega
  · have t2 := Pl.tn_swap (Pl.sb_ne n2) da2
    have t3 := Pl.tn_swap (Pl.sb_ne n1) da1
    rw [fa, fc]
    subst ec
    rcases hz with e | e | e
    · exact absurd e.symm ga1
    · exact absurd e.symm hpn
    · omega
  · have t2 := Pl.tn_swap (Pl.sb_ne n2) da2
    have t3 := Pl.tn_swap (Pl.sb_ne n1) da1
    have t4 := Pl.tn_swap (Pl.sb_ne n2) dc2
    have t5 := Pl.tn_swap (Pl.sb_ne n1) dc1
    rw [fa, fc]
    rcases hz with e | e | e
    · exact absurd e.symm ga1
    · exact absurd e.symm gc1
    · rcases hu with e' | e' | e'
      · exact absurd e'.symm ga2
      · exact absurd e'.symm gc2
      · omega
end
theorem one_of (P : Prop) [Decidable P] : (if P then (1 : Int) else 0) = 0 ∨ (if P then (1 : Int) else 0) = 1 := by
  by_cases h : P
  · right; rw [if_pos h]
  · left; rw [if_neg h]
theorem arc_one {u z v : Pt} (hu : u ≠ ⟨0, 0⟩) (hz : z ≠ ⟨0, 0⟩) (hv : v ≠ ⟨0, 0⟩) (h1 : Dif u z) (h2 : Dif z v) (h3 : Dif u v) : arc u z v = 0 ∨ arc u z v = 1 := by
  rw [Pl.arc_iff hu hz hv h1 h2 h3]
  exact one_of _
theorem arc_other {u z v : Pt} (hu : u ≠ ⟨0, 0⟩) (h1 : Dif u z) : arc z u v = 1 - arc u z v := by
  have := Pl.tn_swap hu h1
  unfold arc
  omega
theorem lg_mid {m : List Pt} {s : Pt × Pt} (h : ¬ (s ∈ sds m ∨ flip s ∈ sds m)) : lg m s = wn (dbl m) (ad s.1 s.2) ∧ stN m s = if lg m s % 2 = 0 then -1 else 1 := by
  have e : lg m s = wn (dbl m) (ad s.1 s.2) := by
    unfold lg
    rw [if_neg fun k => h (.inl k), if_neg fun k => h (.inr k)]
  refine ⟨e, ?_⟩
  rw [e]
  unfold stN
  rw [if_neg h]
theorem st_zero {m : List Pt} {s : Pt × Pt} : stN m s = 0 ↔ (s ∈ sds m ∨ flip s ∈ sds m) := by
  unfold stN
  by_cases h : s ∈ sds m ∨ flip s ∈ sds m
  · rw [if_pos h]; exact ⟨fun _ => h, fun _ => rfl⟩
  · rw [if_neg h]
    constructor
    · intro k; split at k <;> omega
    · intro k; exact absurd k h
theorem st_three (m : List Pt) (s : Pt × Pt) : stN m s = 0 ∨ stN m s = 1 ∨ stN m s = -1 := by
  unfold stN
  by_cases h : s ∈ sds m ∨ flip s ∈ sds m
  · left; rw [if_pos h]
  · right
    rw [if_neg h]
    by_cases g : wn (dbl m) (ad s.1 s.2) % 2 = 0
    · right; rw [if_pos g]
    · left; rw [if_neg g]
/-- at a corner that is not on m. -/
theorem off_lg {m : List Pt} {b c : Pt} (hc : c ≠ b) (hoff : ∀ s ∈ sds m, holdsN s.1 s.2 b = false)
    (hk : ∀ s ∈ sds m, meetsN s.1 s.2 b c = 0 ∨ meetsN s.1 s.2 b c = 1 ∨ meetsN s.1 s.2 b c = 4) : lg m (b, c) = wn m b ∧ lg m (c, b) = wn m b := by
  have n1 : ¬ (b, c) ∈ sds m := fun h => by have := hoff _ h; rw [show holdsN (b, c).1 (b, c).2 b = true from holds_left b c] at this; cases this
  have n2 : ¬ (c, b) ∈ sds m := fun h => by have := hoff _ h; rw [show holdsN (c, b).1 (c, b).2 b = true from holds_right c b] at this; cases this
  have hk' : ∀ s ∈ sds m, meetsN s.1 s.2 b c = 0 ∨ meetsN s.1 s.2 b c = 1 := fun s hs => by
    rcases hk s hs with h | h | h
    · exact .inl h
    · exact .inr h
    · exfalso
      have h0 := hoff s hs
      rcases kind_sm h with ⟨e, _⟩ | ⟨_, e⟩
      · rw [← e, holds_left] at h0; cases h0
      · rw [← e, holds_right] at h0; cases h0
  have hw := Pl.see_off hc.symm hoff hk'
  rw [(lg_mid (m := m) (s := (b, c)) (fun h => h.elim n1 n2)).1, (lg_mid (m := m) (s := (c, b)) (fun h => h.elim n2 n1)).1]
  exact ⟨hw, by show wn (dbl m) (ad c b) = _; rw [Pl.ad_comm]; exact hw⟩
section
variable {l m : List Pt}
theorem prv_next {k : Nat} (hk : k + 1 < l.length) : prv l (k + 1) = cor l k := by
  rw [prv_cor hk]
  congr 1
  rw [show k + 1 + (l.length - 1) = l.length + k by omega, Nat.add_mod_left, Nat.mod_eq_of_lt (by omega)]
/-- a side of m at a corner of l, seen from l. -/
theorem Okk.look (h : Okk l m) {k i : Nat} {b : Pt} (hb : At l k b) (hi : At m i b) {x : Pt} (hx : x = nxt m i ∨ x = prv m i) :
    x = prv l k ∨ x = nxt l k ∨ (∃ s ∈ sds m, stN l s = if (kl l + arc (sb (prv l k) b) (sb (nxt l k) b) (sb x b)) % 2 = 0 then -1 else 1) ∧ (arc (sb (prv l k) b) (sb (nxt l k) b) (sb x b) = 0 ∨ arc (sb (prv l k) b) (sb (nxt l k) b) (sb x b) = 1) := by
  obtain ⟨s1, s2, _, _, n1, n2⟩ := hi.sides h.sm
  obtain ⟨t1, t2, ttouch, td, e1, e2⟩ := hb.sides h.sl
  have hxb : x ≠ b := by rcases hx with e | e <;> (rw [e]; assumption)
  have hside : ∃ s ∈ sds m, (s = (b, x) ∨ s = flip (b, x)) := by
    rcases hx with e | e
    · exact ⟨_, s1, .inl (by rw [e])⟩
    · exact ⟨_, s2, .inr (by rw [e]; rfl)⟩
  obtain ⟨s, hs, hsx⟩ := hside
  have hk : ∀ s' ∈ sds l, meetsN s'.1 s'.2 b x = 0 ∨ meetsN s'.1 s'.2 b x = 1 ∨ meetsN s'.1 s'.2 b x = 4 := fun s' hs' => by
    have := h.kind s' hs' s hs
    rcases hsx with e | e
    · rw [e] at this; exact this
    · rw [e] at this
      change meetsN s'.1 s'.2 x b = 0 ∨ meetsN s'.1 s'.2 x b = 1 ∨ meetsN s'.1 s'.2 x b = 4 at this
      rw [meets_back2] at this
      exact this
  rcases hb.out h.sl hxb hk with ⟨e, _⟩ | ⟨e, _⟩ | ⟨⟨g1, g2⟩, ⟨d1, d2⟩, f1, _⟩
  · exact .inr (.inl e)
  · exact .inl e
  · right; right
    have hno : ¬ ((b, x) ∈ sds l ∨ flip (b, x) ∈ sds l) := by
      rintro (k | k)
      · rcases ttouch _ k (holds_left _ _) with e | e
        · exact g1 (congrArg Prod.snd e)
        · exact hxb (congrArg Prod.snd e)
      · rcases ttouch _ k (holds_right _ _) with e | e
        · exact hxb (congrArg Prod.fst e)
        · exact g2 (congrArg Prod.fst e)
    refine ⟨⟨s, hs, ?_⟩, arc_one (Pl.sb_ne e2) (Pl.sb_ne e1) (Pl.sb_ne hxb) td d1 d2⟩
    rw [← f1, ← (lg_mid hno).2]
    rcases hsx with e | e
    · rw [e]
    · rw [e, st_flip]
/-- m has no side on the left of l. -/
def Fwd (l m : List Pt) : Prop := kl l = 0 ∧ (∀ s ∈ sds m, stN l s ≠ 1) ∨ kl l = -1 ∧ ∀ s ∈ sds m, stN l s ≠ -1
/-- m has no side on the right of l. -/
def Bwd (l m : List Pt) : Prop := kl l = 0 ∧ (∀ s ∈ sds m, stN l s ≠ -1) ∨ kl l = -1 ∧ ∀ s ∈ sds m, stN l s ≠ 1
theorem Okk.fwd_arc (h : Okk l m) (hF : Fwd l m) {k i : Nat} {b : Pt} (hb : At l k b) (hi : At m i b) {x : Pt} (hx : x = nxt m i ∨ x = prv m i) :
    x = prv l k ∨ x = nxt l k ∨ arc (sb (prv l k) b) (sb (nxt l k) b) (sb x b) = 0 := by
  rcases h.look hb hi hx with e | e | ⟨⟨s, hs, e⟩, ha⟩
  · exact .inl e
  · exact .inr (.inl e)
  · right; right
    rcases ha with ha | ha
    · exact ha
    · exfalso
      rw [ha] at e
      rcases hF with ⟨hK, hF⟩ | ⟨hK, hF⟩
      · exact hF s hs (by rw [e, hK]; rfl)
      · exact hF s hs (by rw [e, hK]; rfl)
theorem Okk.bwd_arc (h : Okk l m) (hB : Bwd l m) {k i : Nat} {b : Pt} (hb : At l k b) (hi : At m i b) {x : Pt} (hx : x = nxt m i ∨ x = prv m i) :
    x = nxt l k ∨ x = prv l k ∨ arc (sb (nxt l k) b) (sb (prv l k) b) (sb x b) = 0 := by
  obtain ⟨_, _, _, td, _, e2⟩ := hb.sides h.sl
  rcases h.look hb hi hx with e | e | ⟨⟨s, hs, e⟩, ha⟩
  · exact .inr (.inl e)
  · exact .inl e
  · right; right
    rw [arc_other (Pl.sb_ne e2) td]
    rcases ha with ha | ha
    · exfalso
      rw [ha] at e
      rcases hB with ⟨hK, hB⟩ | ⟨hK, hB⟩
      · exact hB s hs (by rw [e, hK]; rfl)
      · exact hB s hs (by rw [e, hK]; rfl)
    · omega
/-- from a side of l to the next one. -/
theorem Okk.step (h : Okk l m) {k : Nat} (hk : k + 1 < l.length) :
    (Fwd l m → lg m (cor l k, nxt l k) = lg m (cor l (k + 1), nxt l (k + 1))) ∧ (Bwd l m → lg m (nxt l k, cor l k) = lg m (nxt l (k + 1), cor l (k + 1))) := by
  have en : nxt l k = cor l (k + 1) := by rw [nxt_cor (by omega), Nat.mod_eq_of_lt hk]
  have hb : At l (k + 1) (cor l (k + 1)) := ⟨hk, rfl⟩
  obtain ⟨t1, t2, _, td, e1, e2⟩ := hb.sides h.sl
  have hp := prv_next hk
  rw [hp] at td e2
  have k1 := h.kinds hk
  have k2 : ∀ s ∈ sds m, meetsN s.1 s.2 (cor l (k + 1)) (cor l k) = 0 ∨ meetsN s.1 s.2 (cor l (k + 1)) (cor l k) = 1 ∨ meetsN s.1 s.2 (cor l (k + 1)) (cor l k) = 4 := by
    have := h.kinds' (k := k) (by omega)
    rw [en] at this
    exact this
  rw [en]
  by_cases g : ∃ i, At m i (cor l (k + 1))
  · obtain ⟨i, hi⟩ := g
    constructor
    · intro hF
      have hz := h.fwd_arc hF hb hi (x := nxt m i) (.inl rfl)
      have hu := h.fwd_arc hF hb hi (x := prv m i) (.inr rfl)
      rw [hp] at hz hu
      exact hi.pass h.sm e2 e1 td k2 k1 hz hu
    · intro hB
      have hz := h.bwd_arc hB hb hi (x := nxt m i) (.inl rfl)
      have hu := h.bwd_arc hB hb hi (x := prv m i) (.inr rfl)
      rw [hp] at hz hu
      exact (hi.pass h.sm e1 e2 (Pl.dif_swap td) k1 k2 hz hu).symm
  · have hoff := h.off hk fun j hj e => g ⟨j, hj, e⟩
    have o1 := off_lg e1 hoff k1
    have o2 := off_lg e2 hoff k2
    exact ⟨fun _ => by rw [o1.1, o2.2], fun _ => by rw [o1.2, o2.1]⟩
theorem Okk.all (h : Okk l m) :
    (Fwd l m → ∀ s ∈ sds l, lg m s = lg m (cor l 0, nxt l 0)) ∧ (Bwd l m → ∀ s ∈ sds l, lg m (flip s) = lg m (nxt l 0, cor l 0)) := by
  constructor
  · intro hF s hs
    obtain ⟨k, hk, rfl⟩ := sds_ex hs
    induction k with
    | zero => rfl
    | succ k ih => rw [← (h.step hk).1 hF]; exact ih (by omega) (sds_in (by omega))
  · intro hB s hs
    obtain ⟨k, hk, rfl⟩ := sds_ex hs
    induction k with
    | zero => rfl
    | succ k ih =>
      show lg m (nxt l (k + 1), cor l (k + 1)) = _
      rw [← (h.step hk).2 hB]
      exact ih (by omega) (sds_in (by omega))
theorem Okk.ends (h : Okk l m) : kl l = 0 ∨ kl l = -1 := by
  rcases kl_twice h.sl with ⟨_, h⟩ | ⟨_, h⟩
  · exact .inr h
  · exact .inl h
/-- (C): what is inside and outside has both. -/
theorem Okk.both (h : Okk l m) (h1 : ∃ s ∈ sds l, stN m s = 1) (h2 : ∃ s ∈ sds l, stN m s = -1) : (∃ s ∈ sds m, stN l s = 1) ∧ ∃ s ∈ sds m, stN l s = -1 := by
  obtain ⟨s, hs, e1⟩ := h1
  obtain ⟨s', hs', e2⟩ := h2
  have n1 : ¬ (s ∈ sds m ∨ flip s ∈ sds m) := fun k => by rw [st_zero.2 k] at e1; omega
  have n2 : ¬ (s' ∈ sds m ∨ flip s' ∈ sds m) := fun k => by rw [st_zero.2 k] at e2; omega
  have f1 := (lg_mid n1).2
  have f2 := (lg_mid n2).2
  have n1' : ¬ (flip s ∈ sds m ∨ flip (flip s) ∈ sds m) := fun k => n1 k.symm
  have n2' : ¬ (flip s' ∈ sds m ∨ flip (flip s') ∈ sds m) := fun k => n2 k.symm
  have f1' := (lg_mid n1').2
  have f2' := (lg_mid n2').2
  rw [st_flip] at f1' f2'
  have hno : ¬ Fwd l m ∧ ¬ Bwd l m := by
    constructor
    · intro hF
      have a1 := h.all.1 hF s hs
      have a2 := h.all.1 hF s' hs'
      rw [a1, e1] at f1; rw [a2, e2] at f2
      split at f1 <;> split at f2 <;> omega
    · intro hB
      have a1 := h.all.2 hB s hs
      have a2 := h.all.2 hB s' hs'
      rw [a1, e1] at f1'; rw [a2, e2] at f2'
      split at f1' <;> split at f2' <;> omega
  have hc : ∀ c : Int, (¬ ∃ s ∈ sds m, stN l s = c) → ∀ s ∈ sds m, stN l s ≠ c := fun c hn s hs e => hn ⟨s, hs, e⟩
  constructor
  · by_cases g : ∃ s ∈ sds m, stN l s = 1
    · exact g
    · exfalso
      rcases h.ends with hK | hK
      · exact hno.1 (.inl ⟨hK, hc 1 g⟩)
      · exact hno.2 (.inr ⟨hK, hc 1 g⟩)
  · by_cases g : ∃ s ∈ sds m, stN l s = -1
    · exact g
    · exfalso
      rcases h.ends with hK | hK
      · exact hno.2 (.inl ⟨hK, hc (-1) g⟩)
      · exact hno.1 (.inr ⟨hK, hc (-1) g⟩)
theorem nbr_ne {k : Nat} {b : Pt} (hb : At l k b) (hl : simpleN l = true) : prv l k ≠ nxt l k := fun e => by
  obtain ⟨_, _, _, hd, _, _⟩ := hb.sides hl
  rw [e] at hd
  refine hd ⟨?_, ?_⟩
  · unfold cr; grind
  · have h1 := mul_self (sb (nxt l k) b).x
    have h2 := mul_self (sb (nxt l k) b).y
    omega
theorem nxt_is {k : Nat} (hk : k < l.length) : ∃ j, At l j (nxt l k) := ⟨(k + 1) % l.length, Nat.mod_lt _ (by omega), (nxt_cor hk).symm⟩
theorem prv_is {k : Nat} (hk : k < l.length) : ∃ j, At l j (prv l k) := ⟨(k + (l.length - 1)) % l.length, Nat.mod_lt _ (by omega), (prv_cor hk).symm⟩
/-- a side of m at b goes to one of m's neighbours. -/
theorem to_nbr {i : Nat} {b x : Pt} (hi : At m i b) (hm : simpleN m = true) (hx : x ≠ b) (h : (b, x) ∈ sds m ∨ flip (b, x) ∈ sds m) : x = nxt m i ∨ x = prv m i := by
  obtain ⟨_, _, htouch, _, _, _⟩ := hi.sides hm
  rcases h with h | h
  · rcases htouch _ h (holds_left _ _) with e | e
    · exact .inl (congrArg Prod.snd e)
    · exact absurd (congrArg Prod.snd e) hx
  · rcases htouch _ h (holds_right _ _) with e | e
    · exact absurd (congrArg Prod.fst e) hx
    · exact .inr (congrArg Prod.fst e)
/-- (H): if all sides of l are sides of m, all sides of m are sides of l. -/
theorem Okk.same (h : Okk l m) (hs : ∀ s ∈ sds l, stN m s = 0) : ∀ s ∈ sds m, stN l s = 0 := by
  have h3 := (smp_of h.sl).three
  have step : ∀ {k i : Nat} {b : Pt}, At l k b → At m i b → stN l (b, nxt m i) = 0 ∧ ∃ k', At l k' (nxt m i) := fun {k i b} hb hi => by
    obtain ⟨t1, t2, _, _, e1, e2⟩ := hb.sides h.sl
    have a1 := to_nbr hi h.sm e1 (st_zero.1 (hs _ t1))
    have a2 := to_nbr hi h.sm e2 (by
      have := st_zero.1 (hs _ t2)
      exact this.symm)
    have hne := nbr_ne hb h.sl
    have hc : nxt m i = nxt l k ∨ nxt m i = prv l k := by
      rcases a1 with e | e
      · exact .inl e.symm
      · rcases a2 with e' | e'
        · exact .inr e'.symm
        · exact absurd (e'.trans e.symm) hne
    rcases hc with e | e
    · rw [e]; exact ⟨st_zero.2 (.inl t1), nxt_is hb.lt⟩
    · rw [e]; exact ⟨st_zero.2 (.inr t2), prv_is hb.lt⟩
  obtain ⟨j0, hj0⟩ : ∃ j, At m j (cor l 0) := by
    rcases st_zero.1 (hs _ (sds_in (show 0 < l.length by omega))) with g | g
    · obtain ⟨j, hj, e⟩ := sds_ex g
      exact ⟨j, hj, (congrArg Prod.fst e).symm⟩
    · obtain ⟨j, hj, e⟩ := sds_ex g
      obtain ⟨j', hj'⟩ := nxt_is hj
      exact ⟨j', hj'.lt, hj'.eq.trans (congrArg Prod.snd e).symm⟩
  have hn := hj0.lt
  have all : ∀ t, ∃ k, At l k (cor m ((j0 + t) % m.length)) := by
    intro t
    induction t with
    | zero =>
      rw [Nat.add_zero, Nat.mod_eq_of_lt hn, hj0.eq]
      exact ⟨0, by omega, rfl⟩
    | succ t ih =>
      obtain ⟨k, hk⟩ := ih
      have hlt : (j0 + t) % m.length < m.length := Nat.mod_lt _ (by omega)
      obtain ⟨_, k', hk'⟩ := step hk (i := (j0 + t) % m.length) ⟨hlt, rfl⟩
      rw [nxt_cor hlt, Nat.mod_add_mod] at hk'
      exact ⟨k', hk'⟩
  intro s hs'
  obtain ⟨j, hj, rfl⟩ := sds_ex hs'
  obtain ⟨k, hk⟩ := all (j + m.length - j0)
  have e : (j0 + (j + m.length - j0)) % m.length = j := by
    rw [show j0 + (j + m.length - j0) = j + m.length by omega, Nat.add_mod_right, Nat.mod_eq_of_lt hj]
  rw [e] at hk
  exact (step hk ⟨hj, rfl⟩).1
theorem tn_one (u z : Pt) : tn u z = 0 ∨ tn u z = 1 := by
  unfold Pl.tn
  by_cases h : Pl.halfB u = Pl.halfB z
  · rw [if_pos h]; exact one_of _
  · rw [if_neg h]; exact one_of _
/-- q is not above T, nor level with it and further on the right. -/
def Under (T q : Pt) : Prop := q.y < T.y ∨ q.y = T.y ∧ q.x ≤ T.x
theorem under_hz {T q : Pt} (h : Under T q) : Pl.hz (sb q T) = 0 := by
  unfold Pl.hz Pl.sb
  dsimp only
  unfold Under at h
  rw [if_neg (by omega)]
theorem under_cs {T a b : Pt} (ha : Under T a) (hb : Under T b) : Pl.cs a b T = 0 := by
  unfold Pl.cs
  unfold Under at ha hb
  exact Pl.xs_lo (by omega) (by omega)
theorem cor_mem {k : Nat} (hk : k < l.length) : cor l k ∈ l := List.mem_of_getElem? (cor_get hk)
theorem nxt_mem {k : Nat} (hk : k < l.length) : nxt l k ∈ l := by rw [nxt_cor hk]; exact cor_mem (Nat.mod_lt _ (by omega))
theorem prv_mem {k : Nat} (hk : k < l.length) : prv l k ∈ l := by rw [prv_cor hk]; exact cor_mem (Nat.mod_lt _ (by omega))
theorem wn_top {T : Pt} (h : ∀ q ∈ m, Under T q) : wn m T = 0 := by
  refine Pl.sum_zero fun s hs => ?_
  obtain ⟨j, hj, rfl⟩ := sds_ex hs
  exact under_cs (h _ (cor_mem hj)) (h _ (nxt_mem hj))
/-- the count on the right of an uppermost corner. -/
theorem kl_top {i : Nat} {T : Pt} (hi : At m i T) (hm : simpleN m = true) (h : ∀ q ∈ m, Under T q) : kl m = -tn (sb (prv m i) T) (sb (nxt m i) T) := by
  obtain ⟨hi, rfl⟩ := hi
  have hS := smp_of hm
  obtain ⟨t, ht, hlst⟩ := turn_at hS.three hi
  have hkl := hS.ring.kl_rotN i
  rw [ht] at hkl
  rw [← hkl]
  show Pl.kn (cor m i) (nxt m i) t = _
  unfold Pl.kn
  rw [hlst, under_hz (h _ (prv_mem hi)), under_hz (h _ (nxt_mem hi)), Pl.ws_sum, Pl.sum_zero]
  · omega
  · intro s hs
    have hp := Pl.sds_permN i m
    rw [ht] at hp
    have hs2 : s ∈ sds m := by
      refine hp.mem_iff.1 ?_
      show s ∈ prs (cor m i) ((nxt m i :: t) ++ [cor m i])
      rw [Pl.prs_snoc]
      exact List.mem_append_left _ (List.mem_cons_of_mem _ hs)
    obtain ⟨j, hj, rfl⟩ := sds_ex hs2
    exact under_cs (h _ (cor_mem hj)) (h _ (nxt_mem hj))
/-- just above an uppermost corner m does not go round. -/
theorem lg_top {i : Nat} {T a c : Pt} (hi : At m i T) (hm : simpleN m = true) (h : ∀ q ∈ m, Under T q) (ha : a ≠ T) (hc : c ≠ T) (hac : Dif (sb a T) (sb c T)) (h1 : tn (sb a T) (sb c T) = 1)
    (hkc : ∀ s ∈ sds m, meetsN s.1 s.2 T c = 0 ∨ meetsN s.1 s.2 T c = 1 ∨ meetsN s.1 s.2 T c = 4)
    (hz : nxt m i = a ∨ nxt m i = c ∨ arc (sb a T) (sb c T) (sb (nxt m i) T) = 0) (hu : prv m i = a ∨ prv m i = c ∨ arc (sb a T) (sb c T) (sb (prv m i) T) = 0) : lg m (T, c) = 0 := by
  obtain ⟨_, _, _, hd, n1, n2⟩ := hi.sides hm
  have hne := nbr_ne hi hm
  have hK := kl_top hi hm h
  have t0 := Pl.tn_swap (Pl.sb_ne ha) hac
  have t1 := Pl.tn_swap (Pl.sb_ne n2) hd
  have r1 := tn_one (sb c T) (sb (prv m i) T)
  have r2 := tn_one (sb a T) (sb (prv m i) T)
  have r3 := tn_one (sb c T) (sb (nxt m i) T)
  have r4 := tn_one (sb a T) (sb (nxt m i) T)
  unfold arc at *
  rcases hi.out hm hc hkc with ⟨ec, fc, _⟩ | ⟨ec, fc, _⟩ | ⟨⟨gc1, gc2⟩, ⟨dc1, dc2⟩, fc, _⟩
  · rw [fc, hK]
    subst ec
    rcases hu with e | e | e
    · rw [e]; omega
    · exact absurd e hne
    · omega
  · rw [fc, hK]
    subst ec
    rcases hz with e | e | e
    · rw [e]; omega
    · exact absurd e.symm hne
    · omega
  · rw [fc, hK]
    have t2 := Pl.tn_swap (Pl.sb_ne n1) dc1
    have t3 := Pl.tn_swap (Pl.sb_ne n2) dc2
    unfold arc at *
    have x1 : tn (sb (nxt m i) T) (sb c T) = 1 := by
      rcases hz with e | e | e
      · rw [e]; exact h1
      · exact absurd e.symm gc1
      · omega
    have x2 : tn (sb (prv m i) T) (sb c T) = 1 := by
      rcases hu with e | e | e
      · rw [e]; exact h1
      · exact absurd e.symm gc2
      · omega
    omega
theorem Okk.top_no (h : Okk l m) (hin : ∃ s ∈ sds l, stN m s = 1) (hout : ∀ s ∈ sds l, stN m s ≠ -1) (houter : ∀ s ∈ sds m, stN l s ≠ -1) {k : Nat} {T : Pt} (hT : At l k T)
    (hl : ∀ q ∈ l, Under T q) (hm : ∀ q ∈ m, Under T q) : False := by
  obtain ⟨t1, t2, _, td, e1, e2⟩ := hT.sides h.sl
  have hk := hT.lt
  have eT := hT.eq
  have k1 := h.kinds hk
  rw [eT] at k1
  by_cases g : ∃ i, At m i T
  · obtain ⟨i, hi⟩ := g
    obtain ⟨s0, hs0, f0⟩ := hin
    have n0 : ¬ (s0 ∈ sds m ∨ flip s0 ∈ sds m) := fun k => by rw [st_zero.2 k] at f0; omega
    have n0' : ¬ (flip s0 ∈ sds m ∨ flip (flip s0) ∈ sds m) := fun k => n0 k.symm
    have o1 := (lg_mid n0).2
    have o2 := (lg_mid n0').2
    rw [f0] at o1
    rw [st_flip, f0] at o2
    have hK := kl_top hT h.sl hl
    have t0 := Pl.tn_swap (Pl.sb_ne e2) td
    rcases h.ends with hl0 | hl0
    · have hB : Bwd l m := .inl ⟨hl0, houter⟩
      have hz := h.bwd_arc hB hT hi (x := nxt m i) (.inl rfl)
      have hu := h.bwd_arc hB hT hi (x := prv m i) (.inr rfl)
      have k2 : ∀ s ∈ sds m, meetsN s.1 s.2 T (prv l k) = 0 ∨ meetsN s.1 s.2 T (prv l k) = 1 ∨ meetsN s.1 s.2 T (prv l k) = 4 := fun s hs => by
        have := h.kind _ t2 s hs
        change meetsN (prv l k) T s.1 s.2 = 0 ∨ meetsN (prv l k) T s.1 s.2 = 1 ∨ meetsN (prv l k) T s.1 s.2 = 4 at this
        rw [meets_swap, meets_back2] at this
        exact this
      have hlg := lg_top hi h.sm hm e1 e2 (Pl.dif_swap td) (by omega) k2 hz hu
      have a1 := h.all.2 hB _ t2
      have a2 := h.all.2 hB _ hs0
      change lg m (T, prv l k) = _ at a1
      rw [a2, ← a1, hlg] at o2
      simp at o2
    · have hF : Fwd l m := .inr ⟨hl0, houter⟩
      have hz := h.fwd_arc hF hT hi (x := nxt m i) (.inl rfl)
      have hu := h.fwd_arc hF hT hi (x := prv m i) (.inr rfl)
      have hlg := lg_top hi h.sm hm e2 e1 td (by omega) k1 hz hu
      have a1 := h.all.1 hF _ t1
      have a2 := h.all.1 hF _ hs0
      rw [a2, ← a1, hlg] at o1
      simp at o1
  · have hoff := h.off hk fun j hj e => g ⟨j, hj, e.trans eT⟩
    rw [eT] at hoff
    have np : nearB T = true := by rw [← eT]; exact near_cor (near_of h.sl) hk
    have := st_off h.sm e1 np hoff k1
    rw [loc_wn (near_of h.sm) np hoff, wn_top hm] at this
    exact hout _ t1 (by rw [this]; rfl)
theorem top_of : ∀ (l : List Pt), l ≠ [] → ∃ T ∈ l, ∀ q ∈ l, Under T q
  | [], h => absurd rfl h
  | [a], _ => ⟨a, by simp, fun q hq => by simp at hq; subst hq; exact .inr ⟨rfl, Int.le_refl _⟩⟩
  | a :: b :: l, _ => by
    obtain ⟨T, hT, h⟩ := top_of (b :: l) (by simp)
    by_cases g : Under T a
    · refine ⟨T, List.mem_cons_of_mem _ hT, fun q hq => ?_⟩
      rcases List.mem_cons.1 hq with rfl | hq
      · exact g
      · exact h q hq
    · refine ⟨a, List.mem_cons_self .., fun q hq => ?_⟩
      rcases List.mem_cons.1 hq with rfl | hq
      · exact .inr ⟨rfl, Int.le_refl _⟩
      · have := h q hq
        unfold Under at *
        omega
theorem mem_at {T : Pt} (h : T ∈ l) : ∃ k, At l k T := by
  obtain ⟨k, hk, e⟩ := List.mem_iff_getElem.1 h
  refine ⟨k, hk, ?_⟩
  have := cor_get hk
  rw [List.getElem?_eq_getElem hk, e] at this
  injection this with this
  exact this.symm
/-- (G): what is inside of another one does not have it inside, and is inside of a part of it. -/
theorem Okk.inside (h : Okk l m) (hin : ∃ s ∈ sds l, stN m s = 1) (hout : ∀ s ∈ sds l, stN m s ≠ -1) : (∀ s ∈ sds m, stN l s ≠ 1) ∧ ∃ s ∈ sds m, stN l s = -1 := by
  have hnot : ¬ ((∃ s ∈ sds m, stN l s = 1) ∧ ∃ s ∈ sds m, stN l s = -1) := fun ⟨a, b⟩ => by
    obtain ⟨s, hs, e⟩ := (h.swap.both a b).2
    exact hout s hs e
  have h1 : ∀ s ∈ sds m, stN l s ≠ 1 := fun s hs e => by
    have houter : ∀ s ∈ sds m, stN l s ≠ -1 := fun s' hs' e' => hnot ⟨⟨s, hs, e⟩, ⟨s', hs', e'⟩⟩
    have hl0 : l ++ m ≠ [] := fun k => by
      have := (smp_of h.sl).three
      rw [List.append_eq_nil_iff] at k
      rw [k.1] at this
      simp at this
    obtain ⟨T, hT, hall⟩ := top_of (l ++ m) hl0
    have hl : ∀ q ∈ l, Under T q := fun q hq => hall q (List.mem_append_left _ hq)
    have hm : ∀ q ∈ m, Under T q := fun q hq => hall q (List.mem_append_right _ hq)
    rcases List.mem_append.1 hT with hT | hT
    · obtain ⟨k, hk⟩ := mem_at hT
      exact h.top_no hin hout houter hk hl hm
    · obtain ⟨k, hk⟩ := mem_at hT
      exact h.swap.top_no ⟨s, hs, e⟩ houter hout hk hm hl
  refine ⟨h1, ?_⟩
  by_cases g : ∃ s ∈ sds m, stN l s = -1
  · exact g
  · exfalso
    have hz : ∀ s ∈ sds m, stN l s = 0 := fun s hs => by
      rcases st_three l s with k | k | k
      · exact k
      · exact absurd k (h1 s hs)
      · exact absurd ⟨s, hs, k⟩ g
    obtain ⟨s, hs, e⟩ := hin
    have := h.swap.same hz s hs
    omega
theorem Okk.pl_no (h : Okk l m) {c : Int} (h0 : c ≠ 0) : plA l m c = false ↔ ∀ s ∈ sds l, stN m s ≠ c := by
  rw [← Bool.not_eq_true, h.places h0]
  exact ⟨fun k s hs e => k ⟨s, hs, e⟩, fun k ⟨s, hs, e⟩ => k s hs e⟩
/-- the four answers, of two rings that meet in common corners and sides alone. -/
theorem rel_okk (hk : Okk l m) (hc : crossB l m = false) :
    (plA l m 1 = true ∧ plA l m (-1) = true ∧ plA m l 1 = true ∧ plA m l (-1) = true ∧ relN l m = 0) ∨ (plA l m 1 = true ∧ plA l m (-1) = false ∧ plA m l 1 = false ∧ plA m l (-1) = true ∧ relN l m = 2) ∨
    (plA l m 1 = false ∧ plA l m (-1) = true ∧ plA m l 1 = true ∧ plA m l (-1) = false ∧ relN l m = 3) ∨ (plA l m 1 = false ∧ plA l m (-1) = true ∧ plA m l 1 = false ∧ plA m l (-1) = true ∧ relN l m = 1) ∨
    (plA l m 1 = false ∧ plA l m (-1) = false ∧ plA m l 1 = false ∧ plA m l (-1) = false ∧ relN l m = 4) := by
  have hs := hk.swap
  have p1 := hk.places (c := 1) (by decide)
  have p2 := hk.places (c := -1) (by decide)
  have p3 := hs.places (c := 1) (by decide)
  have p4 := hs.places (c := -1) (by decide)
  have hr : relN l m = if plA l m 1 && plA l m (-1) then 0 else if plA l m 1 then 2 else if !plA l m (-1) then 4 else if plA m l 1 then 3 else 1 := by
    unfold relN
    rw [hk.sl, hk.sm, hc]
    simp
  rw [hr]
  cases a : plA l m 1 with
  | true =>
    cases b : plA l m (-1) with
    | true =>
      have := hk.both (p1.1 a) (p2.1 b)
      rw [p3.2 this.1, p4.2 this.2]; simp
    | false =>
      have := hk.inside (p1.1 a) ((hk.pl_no (by decide)).1 b)
      rw [(hs.pl_no (by decide)).2 this.1, p4.2 this.2]; simp
  | false =>
    have a' := (hk.pl_no (by decide)).1 a
    cases b : plA l m (-1) with
    | true =>
      cases c : plA m l 1 with
      | true =>
        cases d : plA m l (-1) with
        | true =>
          have := (hs.both (p3.1 c) (p4.1 d)).1
          rw [p1.2 this] at a; cases a
        | false => simp
      | false =>
        cases d : plA m l (-1) with
        | true => simp
        | false =>
          exfalso
          have hz : ∀ s ∈ sds m, stN l s = 0 := fun s hs' => by
            rcases st_three l s with k | k | k
            · exact k
            · exact absurd k ((hs.pl_no (by decide)).1 c s hs')
            · exact absurd k ((hs.pl_no (by decide)).1 d s hs')
          obtain ⟨s, hs', e⟩ := p2.1 b
          have := hs.same hz s hs'
          omega
    | false =>
      have b' := (hk.pl_no (by decide)).1 b
      have hz : ∀ s ∈ sds l, stN m s = 0 := fun s hs' => by
        rcases st_three m s with k | k | k
        · exact k
        · exact absurd k (a' s hs')
        · exact absurd k (b' s hs')
      have := hk.same hz
      rw [(hs.pl_no (by decide)).2 fun s hs' => by rw [this s hs']; decide, (hs.pl_no (by decide)).2 fun s hs' => by rw [this s hs']; decide]
      simp
/-- P4.5: with the rings exchanged. -/
theorem rel_swap (l m : List Pt) : relN m l = if relN l m = 2 then 3 else if relN l m = 3 then 2 else relN l m := by
  cases hs : (simpleN l && simpleN m) with
  | false =>
    have e1 : relN l m = 0 := by unfold relN; rw [hs]; rfl
    have e2 : relN m l = 0 := by unfold relN; rw [Bool.and_comm, hs]; rfl
    rw [e1, e2]; rfl
  | true =>
    have hs' := hs
    rw [Bool.and_eq_true] at hs'
    cases hc : crossB l m with
    | true =>
      have e1 : relN l m = 0 := by unfold relN; rw [hs, hc]; rfl
      have e2 : relN m l = 0 := by unfold relN; rw [Bool.and_comm, hs, cross_comm, hc]; rfl
      rw [e1, e2]; rfl
    | false =>
      have hk := okk_of hs'.1 hs'.2 hc
      have h1 := rel_okk hk hc
      have h2 := rel_okk hk.swap (by rw [cross_comm]; exact hc)
      rcases h1 with ⟨a, b, c, d, e⟩ | ⟨a, b, c, d, e⟩ | ⟨a, b, c, d, e⟩ | ⟨a, b, c, d, e⟩ | ⟨a, b, c, d, e⟩ <;> rw [a, b, c, d] at h2 <;> simp at h2 <;> rw [e, h2] <;> rfl
end
/-- P4.5: a simple ring has the inside of itself. -/
theorem rel_self (l : List Pt) : relN l l = if simpleN l then 4 else 0 := by
  cases hs : simpleN l with
  | false => unfold relN; rw [hs]; rfl
  | true =>
    have hS := smp_of hs
    have hn := near_of hs
    have hF : ∀ k : Int, k = 2 ∨ k = 3 ∨ k = 5 → ¬ MetP l l k := fun k hk ⟨i, j, hi, hj, e⟩ => by
      unfold meetsF at e
      rw [near_cor hn hi, near_nxt hn hi (by omega), near_cor hn hj, near_nxt hn hj (by omega)] at e
      simp only [Bool.and_true, if_true] at e
      by_cases g : i = j
      · subst g
        rw [meets_self] at e
        omega
      · rw [hS.any hi hj g] at e
        unfold wantN at e
        split at e <;> omega
    have hc : crossB l l = false := by
      unfold crossB
      rw [decide_eq_false_iff_not]
      rintro (h | h | h)
      · exact hF 2 (by simp) h
      · exact hF 3 (by simp) h
      · exact hF 5 (by simp) h
    have hk := okk_of hs hs hc
    have hz : ∀ s ∈ sds l, stN l s = 0 := fun s h => st_zero.2 (.inl h)
    have p1 : plA l l 1 = false := (hk.pl_no (by decide)).2 fun s h => by rw [hz s h]; decide
    have p2 : plA l l (-1) = false := (hk.pl_no (by decide)).2 fun s h => by rw [hz s h]; decide
    rcases rel_okk hk hc with ⟨a, _⟩ | ⟨a, _⟩ | ⟨_, a, _⟩ | ⟨_, a, _⟩ | ⟨_, _, _, _, e⟩
    · rw [p1] at a; cases a
    · rw [p1] at a; cases a
    · rw [p2] at a; cases a
    · rw [p2] at a; cases a
    · rw [e]; rfl
theorem rel_not {l : List Pt} (h : simpleN l = false) (m : List Pt) : relN l m = 0 := by unfold relN; rw [h]; rfl
end Go.Proofs.Ytlagolgmkmdhhaa.Rg
