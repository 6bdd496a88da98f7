/- P7.3: GridKids walks. -/
import Derived.Test.YtenacgeahaoglaaDoorGdKids
import Derived.Test.YtenacgeahaoglaaDoorGdOfWalk
namespace Go.Proofs.YtenacgeahaoglaaDoor.Gd
open Go.RowKit Go.Sort
def intOf' : Value → Int | .int _ q => q | _ => 0
theorem enc3_len (l : List Tl) : (flatT l).length = l.length * 3 := by
  unfold flatT
  induction l with
  | nil => rfl
  | cons s l ih => rw [List.flatMap_cons, List.length_append, ih, List.length_cons]; simp [enc3]; omega
theorem flatT_get : ∀ (l : List Tl) (k : Nat) (t : Tl), l[k]? = some t → (flatT l)[k * 3]? = some (.int .i64 t.z) ∧ (flatT l)[k * 3 + 1]? = some (.int .i64 t.x) ∧ (flatT l)[k * 3 + 2]? = some (.int .i64 t.y) := by
  intro l
  induction l with
  | nil => intro k t h; simp at h
  | cons s l ih =>
    intro k t h
    have e : flatT (s :: l) = [.int .i64 s.z, .int .i64 s.x, .int .i64 s.y] ++ flatT l := by unfold flatT; rw [List.flatMap_cons]; rfl
    rw [e]
    cases k with
    | zero => injection h with h; subst h; exact ⟨rfl, rfl, rfl⟩
    | succ k =>
      have := ih k t (by simpa using h)
      rw [show (k + 1) * 3 = k * 3 + 3 by omega]
      exact this
/-- a row of tiles. -/
def RowT (cur : Array Value) (L : List Tl) : Prop := ∀ k t, L[k]? = some t → cur[k * 3]? = some (.int .i64 t.z) ∧ cur[k * 3 + 1]? = some (.int .i64 t.x) ∧ cur[k * 3 + 2]? = some (.int .i64 t.y)
theorem ownT_row {w : World} {base : Nat} {v : Value} {L : List Tl} (h : OwnT w base v L) (h0 : 0 < L.length) : ∃ g cap cur, v = .slice (some ⟨g, 0, none⟩) L.length cap ∧ IsRow w g 25 cur ∧ RowT cur L := by
  obtain ⟨h1, h2⟩ := h
  rcases h2 with ⟨rfl, h3⟩ | ⟨g, cap, cur, rfl, hb, hg, _, _, _, ht⟩
  · omega
  · refine ⟨g, cap, cur, rfl, hg, fun k t hk => ?_⟩
    obtain ⟨f0, f1, f2⟩ := flatT_get L k t hk
    have hkl := (List.getElem?_eq_some_iff.1 hk).1
    rw [← ht, List.getElem?_take, if_pos (by omega)] at f0 f1 f2
    exact ⟨by simpa using f0, by simpa using f1, by simpa using f2⟩
theorem RowT.cells {cur : Array Value} {L : List Tl} (h : RowT cur L) {w : World} {g : Nat} (hr : IsRow w g 25 cur) {k : Nat} {t : Tl} (hk : L[k]? = some t) :
    w.cell? ⟨g, k * 3, none⟩ = some (.int .i64 t.z) ∧ w.cell? ⟨g, k * 3 + 1, none⟩ = some (.int .i64 t.x) ∧ w.cell? ⟨g, k * 3 + 2, none⟩ = some (.int .i64 t.y) := by
  rw [hr.get, hr.get, hr.get]; exact h k t hk
/-- how many of the first k tiles have a point. -/
def howN (p : Pn) (L : List Tl) (k : Nat) : Nat := (L.take k).countP fun t => decide (hasN (boxN t) p)
theorem howN_succ (p : Pn) {L : List Tl} {k : Nat} {t : Tl} (h : L[k]? = some t) : howN p L (k + 1) = howN p L k + (if decide (hasN (boxN t) p) then 1 else 0) := by
  obtain ⟨hk, rfl⟩ := List.getElem?_eq_some_iff.1 h
  unfold howN
  rw [List.take_succ_eq_append_getElem hk, List.countP_append]
  simp [List.countP_cons]
theorem howN_kids {t : Tl} (p : Pn) (h : isZ t.z) (h0 : t.z ≠ 17) : howN p (kidsN t) 4 = if decide (hasN (boxN t) p) then 1 else 0 := by
  have e := kids_count (p := p) h h0
  unfold one at e
  unfold howN kidsN
  simp only [List.take, List.countP_cons, List.countP_nil, decide_eq_true_eq]
  omega
/-- what is said of each kid. -/
theorem kid_facts {t : Tl} (ht : okT t) (h0 : t.z ≠ 17) {k : Nat} {u : Tl} (h : (kidsN t)[k]? = some u) : okT u ∧ upN u = t ∧ ∀ u', (kidsN t)[k - 1]? = some u' → 0 < k → bef u' u := by
  have k0 := kid_ok ht h0 (i := 0) (j := 0) (by omega) (by omega)
  have k1 := kid_ok ht h0 (i := 1) (j := 0) (by omega) (by omega)
  have k2 := kid_ok ht h0 (i := 0) (j := 1) (by omega) (by omega)
  have k3 := kid_ok ht h0 (i := 1) (j := 1) (by omega) (by omega)
  have e0 := kid_up t (i := 0) (j := 0) (by omega) (by omega)
  have e1 := kid_up t (i := 1) (j := 0) (by omega) (by omega)
  have e2 := kid_up t (i := 0) (j := 1) (by omega) (by omega)
  have e3 := kid_up t (i := 1) (j := 1) (by omega) (by omega)
  unfold kidsN at h ⊢
  have hk : k < 4 := by have := (List.getElem?_eq_some_iff.1 h).1; simpa using this
  match k, hk with
  | 0, _ => injection h with h; subst h; exact ⟨k0, e0, fun _ _ h => absurd h (by omega)⟩
  | 1, _ => injection h with h; subst h; exact ⟨k1, e1, fun u' h _ => by injection h with h; subst h; exact .inr ⟨rfl, by simp only [kid]; omega⟩⟩
  | 2, _ => injection h with h; subst h; exact ⟨k2, e2, fun u' h _ => by injection h with h; subst h; exact .inl (by simp only [kid]; omega)⟩
  | 3, _ => injection h with h; subst h; exact ⟨k3, e3, fun u' h _ => by injection h with h; subst h; exact .inr ⟨rfl, by simp only [kid]; omega⟩⟩
theorem kids_to (t : Tl) {L : List Tl} {e : Int} (h : kidsR t = (L, e)) (w : World) (hG : Gw w) : Calls Tryd.prog 16 #[.agg #[.int .i64 t.z, .int .i64 t.x, .int .i64 t.y]] w fun e' w' => (∃ v, e' = .returned (.tuple #[v, .int .i64 e]) ∧ OwnT w' w.heap.size v L) ∧ Below w.heap.size w w' := by
  have k := kids_any t w hG.sides
  rw [h] at k
  exact k
set_option maxRecDepth 100000 in
set_option maxHeartbeats 4000000 in
theorem gridKids_any (t : Tl) (p : Pn) (w : World) (hG : Gw w) :
    Calls Tryd.prog 5 #[.agg #[.int .i64 t.z, .int .i64 t.x, .int .i64 t.y], .agg #[.int .i64 p.x, .int .i64 p.y]] w fun e w' => e = .returned (.bool true) ∧ Below w.heap.size w w' := by
  have HG := Lib.hid hG
  obtain ⟨W, hW, hB, hT, hP⟩ := two_made w 25 23 #[.int .i64 t.z, .int .i64 t.x, .int .i64 t.y] #[.int .i64 p.x, .int .i64 p.y]
  have HW := Lib.hid hW
  have B0 := Lib.hid hB
  have RT := Lib.hid hT
  have RP := Lib.hid hP
  obtain ⟨⟨D, e0⟩, hb⟩ : ∃ R, boxR t = R := ⟨_, rfl⟩
  clear hG hW hB hT hP
  go_enter Tryd.func5, Tryd.ntmps5
  go_wp2_with fail
  rw [HW.out]
  clear HW
  refine (head_any _ (HG.out.below B0.out)).mono ?_
  rintro e w1 ⟨rfl, b1⟩
  have B1 := Lib.hid (B0.out.trans (b1.mono B0.out.size))
  replace RT := Lib.hid (RT.out.below b1 RT.out.inside)
  replace RP := Lib.hid (RP.out.below b1 RP.out.inside)
  clear b1 B0
  obtain ⟨RT0, RT1, RT2, _, _, _⟩ := facts3 RT.out
  have RTi := RT.out.inside
  go_wp2_with fail
  refine (box_to t hb _ (HG.out.below B1.out)).mono ?_
  rintro e w2 ⟨rfl, b2⟩
  have B2 := Lib.hid (B1.out.trans (b2.mono B1.out.size))
  clear RT0 RT1 RT2 RTi
  replace RT := Lib.hid (RT.out.below b2 RT.out.inside)
  replace RP := Lib.hid (RP.out.below b2 RP.out.inside)
  clear b2 B1
  by_cases ht : okT t
  case neg =>
    obtain ⟨rfl, rfl⟩ : D = zB ∧ e0 = 1 := by
      unfold boxR at hb; rw [if_neg ht] at hb; injection hb with h1 h2; exact ⟨h1.symm, h2.symm⟩
    go_wp2
    go_ret
    exact ⟨rfl, B2.out.alloc B2.out.size _⟩
  case pos =>
    obtain ⟨rfl, rfl⟩ : D = boxN t ∧ e0 = 0 := by
      unfold boxR at hb; rw [if_pos ht] at hb; injection hb with h1 h2; exact ⟨h1.symm, h2.symm⟩
    clear hb
    obtain ⟨⟨L, e1⟩, hk⟩ : ∃ R, kidsR t = R := ⟨_, rfl⟩
    have HH := fun V (h : decide (hasN (boxN t) p) = V) => has_to (boxN t) p h
    have HC := Lib.hid (fun h0 => howN_kids p ht.1 h0)
    obtain ⟨V, hV⟩ : ∃ V, decide (hasN (boxN t) p) = V := ⟨_, rfl⟩
    rw [hV] at HC
    have HH := HH V hV
    clear hV
    generalize boxN t = D at *
    obtain ⟨RT0, RT1, RT2, _, _, _⟩ := facts3 RT.out
    have RTi := RT.out.inside
    go_wp2_with fail
    obtain ⟨v2, hv, V, L, R⟩ := made w 27 #[.int .i64 D.a.x, .int .i64 D.a.y, .int .i64 D.b.x, .int .i64 D.b.y] B2.out B2.out.size
    rw [hv]
    clear RT0 RT1 RT2 RTi
    replace RT := Lib.hid (RT.out.below L.out RT.out.inside)
    replace RP := Lib.hid (RP.out.below L.out RP.out.inside)
    obtain ⟨gRD, hg⟩ : ∃ g, w2.heap.size = g := ⟨_, rfl⟩
    rw [hg] at R ⊢
    have RD := R
    clear hv L hg B2 R
    have B2 := V
    clear V
    refine (kids_to t hk _ (HG.out.below B2.out)).mono ?_
    rintro e w3 ⟨⟨v, rfl, hv⟩, b3⟩
    have B3 := Lib.hid (B2.out.trans (b3.mono B2.out.size))
    replace RT := Lib.hid (RT.out.below b3 RT.out.inside)
    replace RP := Lib.hid (RP.out.below b3 RP.out.inside)
    replace RD := Lib.hid (RD.out.below b3 RD.out.inside)
    clear b3 B2
    by_cases hz : t.z = 17
    case pos =>
      obtain ⟨rfl, rfl⟩ : L = [] ∧ e1 = 11 := by
        unfold kidsR at hk; rw [if_pos ht, if_pos hz] at hk; injection hk with h1 h2; exact ⟨h1.symm, h2.symm⟩
      obtain ⟨a, cap, rfl⟩ : ∃ a cap, v = .slice a 0 cap := by
        obtain ⟨_, ⟨rfl, _⟩ | ⟨g, cap, cur, rfl, _⟩⟩ := hv
        · exact ⟨_, _, rfl⟩
        · exact ⟨_, _, rfl⟩
      obtain ⟨RT0, RT1, RT2, _, _, _⟩ := facts3 RT.out
      have RTi := RT.out.inside
      rw [hz] at RT0
      clear hz
      go_wp2
      go_ret
      exact ⟨rfl, B3.out⟩
    case neg =>
      obtain ⟨rfl, rfl⟩ : L = kidsN t ∧ e1 = 0 := by
        unfold kidsR at hk; rw [if_pos ht, if_neg hz] at hk; injection hk with h1 h2; exact ⟨h1.symm, h2.symm⟩
      clear hk
      obtain ⟨g, cap, cur, hv1, hr, hrow⟩ := ownT_row hv (by show 0 < (kidsN t).length; exact Nat.zero_lt_succ _)
      rw [show (kidsN t).length = 4 from rfl] at hv1
      subst hv1
      have RL := Lib.hid hr
      have HR := Lib.hid hrow
      have HF := Lib.hid (fun k u h => kid_facts ht hz (k := k) (u := u) h)
      have HL := Lib.hid (show (kidsN t).length = 4 from rfl)
      have HT := Lib.hid ht.1.1
      have HCZ := Lib.hid (HC.out hz)
      clear HC hv hr hrow hz ht
      generalize kidsN t = L at *
      go_wp2_with fail
      go_loopw [10, 11] (fun n i wr => ∃ k : Nat, k ≤ 4 ∧ i = .int .i64 k ∧ n = .int .i64 (howN p L k : Nat) ∧ Hid (howN p L k ≤ k) ∧ Hid (Below w.heap.size w wr) ∧ Hid (IsRow wr w.heap.size 25 #[.int .i64 t.z, .int .i64 t.x, .int .i64 t.y]) ∧ Hid (IsRow wr (w.heap.size + 1) 23 #[.int .i64 p.x, .int .i64 p.y]) ∧ Hid (IsRow wr gRD 27 #[.int .i64 D.a.x, .int .i64 D.a.y, .int .i64 D.b.x, .int .i64 D.b.y]) ∧ Hid (IsRow wr g 25 cur)) (fun _ i _ => 4 - (intOf' i).toNat)
      case atStart => exact ⟨0, by omega, rfl, rfl, Lib.hid (Nat.le_refl _), B3, RT, RP, RD, RL⟩
      case round =>
        clear B3 RT RP RD RL
        obtain ⟨k, hk, rfl, rfl, HB, BK, RT, RP, RD, RL⟩ := hrel
        by_cases hlt : k < 4
        case neg =>
          obtain rfl : k = 4 := by omega
          rw [HCZ.out]
          clear HCZ HB HF HR HL
          obtain ⟨RD0, RD1, RD2, RD3, _, _, _, _⟩ := facts4 RD.out
          have RDi := RD.out.inside
          obtain ⟨RP0, RP1, _, _⟩ := facts2 RP.out
          have RPi := RP.out.inside
          cases V with
          | false =>
            go_upto_region 18 with fail
            go_wp2_with fail
            refine (HH _ (HG.out.below BK.out)).mono ?_
            rintro e w9 ⟨rfl, b9⟩
            have B9 := Lib.hid (BK.out.trans (b9.mono BK.out.size))
            clear b9
            go_wp2
            go_ret
            exact ⟨rfl, B9.out⟩
          | true =>
            go_upto_region 18 with fail
            go_wp2_with fail
            refine (HH _ (HG.out.below BK.out)).mono ?_
            rintro e w9 ⟨rfl, b9⟩
            have B9 := Lib.hid (BK.out.trans (b9.mono BK.out.size))
            clear b9
            go_wp2
            go_ret
            exact ⟨rfl, B9.out⟩
        case pos =>
          obtain ⟨u, hu⟩ : ∃ u, L[k]? = some u := ⟨_, List.getElem?_eq_getElem (by rw [HL.out]; exact hlt)⟩
          obtain ⟨hok, hup, hbef⟩ := HF.out k u hu
          have HU := Lib.hid (howN_succ p hu)
          have K1 := up_to u (show upR u = (t, 0) by
            unfold upR
            rw [if_pos hok, if_neg (fun h => by
              have h1 := congrArg Tl.z hup
              have h2 := HT.out
              rw [show (upN u).z = u.z - 1 from rfl, h] at h1
              omega), hup])
          have K2 := box_to u (show boxR u = (boxN u, 0) by unfold boxR; rw [if_pos hok])
          obtain ⟨V1, hV1⟩ : ∃ V1, decide (hasN (boxN u) p) = V1 := ⟨_, rfl⟩
          have K3 := has_to (boxN u) p hV1
          rw [hV1] at HU
          obtain ⟨u', hu'⟩ : ∃ u', L[k - 1]? = some u' := ⟨_, List.getElem?_eq_getElem (by rw [HL.out]; omega)⟩
          have hbef := hbef u' hu'
          obtain ⟨l0, l1, l2⟩ := HR.out.cells RL.out hu
          have i0 : (0 : Int) ≤ (k : Int) := by omega
          have i4 : (k : Int) < 4 := by omega
          clear hV1 hup hok
          generalize boxN u = C at *
          go_wp2_with fail
          refine (K1 _ (HG.out.below BK.out)).mono ?_
          rintro e w8 ⟨rfl, b8⟩
          have B8 := Lib.hid (BK.out.trans (b8.mono BK.out.size))
          clear l0 l1 l2
          replace RT := Lib.hid (RT.out.below b8 RT.out.inside)
          replace RP := Lib.hid (RP.out.below b8 RP.out.inside)
          replace RD := Lib.hid (RD.out.below b8 RD.out.inside)
          replace RL := Lib.hid (RL.out.below b8 RL.out.inside)
          clear b8 BK K1
          obtain ⟨l0, l1, l2⟩ := HR.out.cells RL.out hu
          have iL := RL.out.inside
          go_wp2_with fail
          obtain ⟨v8, hv, V8, L8, R8⟩ := made w 25 #[.int .i64 t.z, .int .i64 t.x, .int .i64 t.y] B8.out B8.out.size
          rw [hv]
          clear l0 l1 l2 iL
          replace RT := Lib.hid (RT.out.below L8.out RT.out.inside)
          replace RP := Lib.hid (RP.out.below L8.out RP.out.inside)
          replace RD := Lib.hid (RD.out.below L8.out RD.out.inside)
          replace RL := Lib.hid (RL.out.below L8.out RL.out.inside)
          obtain ⟨gU, hg⟩ : ∃ g, w8.heap.size = g := ⟨_, rfl⟩
          rw [hg] at R8 ⊢
          clear hv L8 hg B8
          refine (K2 _ (HG.out.below V8.out)).mono ?_
          rintro e w9 ⟨rfl, b9⟩
          have B9 := Lib.hid (V8.out.trans (b9.mono V8.out.size))
          replace RT := Lib.hid (RT.out.below b9 RT.out.inside)
          replace RP := Lib.hid (RP.out.below b9 RP.out.inside)
          replace RD := Lib.hid (RD.out.below b9 RD.out.inside)
          replace RL := Lib.hid (RL.out.below b9 RL.out.inside)
          replace R8 := Lib.hid (R8.out.below b9 R8.out.inside)
          clear b9 V8 K2
          go_upto_region 14 with fail
          obtain ⟨v9, hv, V9, L9, R9⟩ := made w 27 #[.int .i64 C.a.x, .int .i64 C.a.y, .int .i64 C.b.x, .int .i64 C.b.y] B9.out B9.out.size
          rw [hv]
          replace RT := Lib.hid (RT.out.below L9.out RT.out.inside)
          replace RP := Lib.hid (RP.out.below L9.out RP.out.inside)
          replace RD := Lib.hid (RD.out.below L9.out RD.out.inside)
          replace RL := Lib.hid (RL.out.below L9.out RL.out.inside)
          replace R8 := Lib.hid (R8.out.below L9.out R8.out.inside)
          obtain ⟨gC, hg⟩ : ∃ g, w9.heap.size = g := ⟨_, rfl⟩
          rw [hg] at R9 ⊢
          clear hv L9 hg B9
          go_cut [125] from 69 to 124 (fun s wx => s = .bool false ∧ Hid (Below v9.heap.size v9 wx))
          case first =>
            obtain ⟨t0, t1, t2, _, _, _⟩ := facts3 RT.out
            obtain ⟨n0, n1, n2, _, _, _⟩ := facts3 R8.out
            obtain ⟨l0, l1, l2⟩ := HR.out.cells RL.out hu
            obtain ⟨m0, m1, m2⟩ := HR.out.cells RL.out hu'
            clear K3 HU HB HH HF HCZ
            by_cases hk0 : k = 0
            case pos =>
              subst hk0
              clear hbef m0 m1 m2 hu'
              go_quiet (fail)
              go_wp2_with fail
              go_meet
              exact ⟨rfl, Lib.hid (drewN_below v9 _)⟩
            case neg =>
              have hk1 : (0 : Int) < (k : Int) := by omega
              have hk2 : ¬ (k : Int) ≤ 0 := by omega
              have hk3 : 0 < k := by omega
              obtain ⟨j, rfl⟩ : ∃ j, k = j + 1 := ⟨k - 1, by omega⟩
              have hw : IntKind.i64.wrap (((j + 1 : Nat) : Int) - 1) = (j : Int) := by rw [show ((j + 1 : Nat) : Int) - 1 = (j : Int) by omega]; exact IntWalk.i64_in _ (by omega)
              rw [Nat.add_sub_cancel] at m0 m1 m2
              have j0 : (0 : Int) ≤ (j : Int) := by omega
              have j4 : (j : Int) < 4 := by omega
              have hb := hbef (by omega)
              clear hbef hk0
              rcases hb with hb | ⟨hb1, hb2⟩
              · have q1 : ¬ u.y < u'.y := by omega
                have q2 : u'.y ≤ u.y := by omega
                have q3 : (u.y == u'.y) = false := by rw [beq_eq_false_iff_ne]; omega
                have q4 : ¬ u.y = u'.y := by omega
                go_quiet (fail)
                go_wp2_with fail
                go_meet
                exact ⟨rfl, Lib.hid (drewN_below v9 _)⟩
              · rw [hb1] at m2
                have q1 : ¬ u.x ≤ u'.x := by omega
                clear hb1
                go_quiet (fail)
                go_wp2_with fail
                go_meet
                exact ⟨rfl, Lib.hid (drewN_below v9 _)⟩
          case rest =>
            obtain ⟨rfl, hb⟩ := hcut
            have BK := Lib.hid (V9.out.trans (hb.out.mono V9.out.size))
            replace RT := Lib.hid (RT.out.below hb.out RT.out.inside)
            replace RP := Lib.hid (RP.out.below hb.out RP.out.inside)
            replace RD := Lib.hid (RD.out.below hb.out RD.out.inside)
            replace RL := Lib.hid (RL.out.below hb.out RL.out.inside)
            replace R9 := Lib.hid (R9.out.below hb.out R9.out.inside)
            clear hb V9 R8 hbef hu hu'
            obtain ⟨p0, p1, _, _⟩ := facts2 RP.out
            obtain ⟨c0, c1, c2, c3, _, _, _, _⟩ := facts4 R9.out
            go_wp2_with fail
            refine (K3 _ (HG.out.below BK.out)).mono ?_
            rintro e w6 ⟨rfl, b6⟩
            have B6 := Lib.hid (BK.out.trans (b6.mono BK.out.size))
            replace RT := Lib.hid (RT.out.below b6 RT.out.inside)
            replace RP := Lib.hid (RP.out.below b6 RP.out.inside)
            replace RD := Lib.hid (RD.out.below b6 RD.out.inside)
            replace RL := Lib.hid (RL.out.below b6 RL.out.inside)
            clear b6 BK R9 K3 p0 p1 c0 c1 c2 c3
            have hbk := HB.out
            cases V1 with
            | false =>
              have hh : howN p L (k + 1) = howN p L k := by rw [HU.out]; simp
              have HB2 := Lib.hid (show howN p L (k + 1) ≤ k + 1 by omega)
              rw [← hh]
              clear hbk HU HB hh
              go_wp2
              go_roundw
              case rel => exact ⟨k + 1, by omega, by go_num, rfl, HB2, B6, RT, RP, RD, RL⟩
              case measure => simp [intOf']; omega
            | true =>
              have hh : howN p L (k + 1) = howN p L k + 1 := by rw [HU.out]; simp
              have HB2 := Lib.hid (show howN p L (k + 1) ≤ k + 1 by omega)
              have hw : IntKind.i64.wrap ((howN p L k : Int) + 1) = ((howN p L (k + 1) : Nat) : Int) := by rw [hh, Int.natCast_add]; exact IntWalk.i64_in _ (by omega)
              clear hbk HU HB hh
              go_wp2
              go_roundw
              case rel => exact ⟨k + 1, by omega, by go_num, rfl, HB2, B6, RT, RP, RD, RL⟩
              case measure => simp [intOf']; omega
end Go.Proofs.YtenacgeahaoglaaDoor.Gd
