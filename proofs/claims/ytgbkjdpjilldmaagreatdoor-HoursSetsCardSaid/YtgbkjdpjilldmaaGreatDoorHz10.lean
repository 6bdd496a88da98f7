/- Merged: StBlocks, StStable, HrSort, HrSorted, HrMath. -/
import Derived.Test.YtgbkjdpjilldmaaGreatDoorHz1
import Derived.Test.YtgbkjdpjilldmaaGreatDoorHz9
import Derived.Test.YtgbkjdpjilldmaaGreatDoorHrShelf
import Derived.Test.YtgbkjdpjilldmaaGreatDoorHz3
import Derived.BigQuiet
/- Plain mathematics of a stable sort: blocks that are sorted, and joined two by two. -/
namespace Go.Proofs.YtgbkjdpjilldmaaGreatDoor.St
open Go.Sort
variable {α : Type} [Inhabited α] {lt : α → α → Bool}
theorem mul_le {j k c : Nat} (h : j + 1 ≤ k) : j * c + c ≤ k * c := by
  have := Nat.mul_le_mul_right c h
  rwa [Nat.add_mul, Nat.one_mul] at this
theorem mul_lt {j k c : Nat} (h : j * c < k * c) : j + 1 ≤ k := by
  rcases Nat.lt_or_ge j k with g | g
  · exact g
  · have := Nat.mul_le_mul_right c g
    omega
theorem sorted_none {a b : Nat} {d : Array α} (h : b ≤ a) : SortedIn lt a b d := fun i j h1 h2 h3 => by omega
/-- the blocks before a are sorted. -/
def First (lt : α → α → Bool) (a : Nat) (d : Array α) : Prop := (∃ k, a = k * 20) ∧ ∀ j, j * 20 + 20 ≤ a → SortedIn lt (j * 20) (j * 20 + 20) d
theorem first_start (d : Array α) : First lt 0 d := ⟨⟨0, rfl⟩, fun j h => by omega⟩
theorem first_step {a : Nat} {d d' : Array α} (h : First lt a d) (hp : PermIn a (a + 20) d d') (hs : SortedIn lt a (a + 20) d') : First lt (a + 20) d' := by
  obtain ⟨⟨k, rfl⟩, h⟩ := h
  refine ⟨⟨k + 1, by omega⟩, fun j hj => ?_⟩
  by_cases e : j = k
  · subst e; exact hs
  · exact sorted_perm_out hp (h j (by omega)) (.inl (by omega))
theorem first_end {a z : Nat} {d d' : Array α} (h : First lt a d) (hz : z < a + 20) (hp : PermIn a z d d') (hs : SortedIn lt a z d') : Blocks lt 20 z d' := by
  obtain ⟨⟨k, rfl⟩, h⟩ := h
  intro j
  by_cases e : j = k
  · subst e; rw [show min (j * 20 + 20) z = z by omega]; exact hs
  · by_cases g : j < k
    · exact sorted_sub (sorted_perm_out hp (h j (by omega)) (.inl (by omega))) (Nat.le_refl _) (Nat.min_le_left _ _)
    · exact sorted_none (by omega)
/-- joined before a, not joined from a on. -/
def Half (lt : α → α → Bool) (c a z : Nat) (d : Array α) : Prop := (∃ k, a = k * (2 * c)) ∧ (∀ j, j * (2 * c) + 2 * c ≤ a → SortedIn lt (j * (2 * c)) (j * (2 * c) + 2 * c) d) ∧ ∀ j, a ≤ j * c → SortedIn lt (j * c) (min (j * c + c) z) d
theorem half_start {c z : Nat} {d : Array α} (hc : 0 < c) (h : Blocks lt c z d) : Half lt c 0 z d := ⟨⟨0, by omega⟩, fun j hj => by omega, fun j _ => h j⟩
theorem half_at {c a z : Nat} {d : Array α} (h : Half lt c a z d) : SortedIn lt a (min (a + c) z) d ∧ SortedIn lt (a + c) (min (a + 2 * c) z) d := by
  obtain ⟨⟨k, rfl⟩, _, h⟩ := h
  have e : k * (2 * c) = (2 * k) * c := by rw [← Nat.mul_assoc, Nat.mul_comm k 2]
  have e2 : k * (2 * c) + c = (2 * k + 1) * c := by rw [e, Nat.add_mul, Nat.one_mul]
  constructor
  · have := h (2 * k) (by rw [e]; exact Nat.le_refl _)
    rwa [← e] at this
  · have := h (2 * k + 1) (by rw [← e2]; omega)
    rw [← e2] at this
    rwa [show k * (2 * c) + 2 * c = k * (2 * c) + c + c by omega]
theorem half_step {c a z : Nat} {d d' : Array α} (h : Half lt c a z d) (hc : 0 < c) (hp : PermIn a (a + 2 * c) d d') (hs : SortedIn lt a (a + 2 * c) d') : Half lt c (a + 2 * c) z d' := by
  obtain ⟨⟨k, rfl⟩, h1, h2⟩ := h
  refine ⟨⟨k + 1, by rw [Nat.add_mul, Nat.one_mul]⟩, fun j hj => ?_, fun j hj => sorted_perm_out hp (h2 j (by omega)) (.inr hj)⟩
  by_cases e : j = k
  · subst e; exact hs
  · have g : j + 1 ≤ k := by
      have : j * (2 * c) < (k + 1) * (2 * c) := by rw [Nat.add_mul, Nat.one_mul]; omega
      have := mul_lt this
      omega
    have := mul_le (c := 2 * c) g
    exact sorted_perm_out hp (h1 j (by omega)) (.inl (by omega))
theorem half_end {c a z : Nat} {d d' : Array α} (h : Half lt c a z d) (hz : z < a + 2 * c) (hp : PermIn a z d d') (hs : SortedIn lt a z d') : Blocks lt (2 * c) z d' := by
  obtain ⟨⟨k, rfl⟩, h1, _⟩ := h
  intro j
  by_cases e : j = k
  · subst e; rw [show min (j * (2 * c) + 2 * c) z = z by omega]; exact hs
  · by_cases g : j < k
    · have := mul_le (c := 2 * c) (show j + 1 ≤ k from g)
      exact sorted_sub (sorted_perm_out hp (h1 j (by omega)) (.inl (by omega))) (Nat.le_refl _) (Nat.min_le_left _ _)
    · have := mul_le (c := 2 * c) (show k + 1 ≤ j by omega)
      exact sorted_none (by omega)
theorem blocks_all {c z : Nat} {d : Array α} (h : Blocks lt c z d) (hc : z ≤ c) : SortedIn lt 0 z d := by
  have := h 0
  rwa [show 0 * c = 0 by omega, show min (0 + c) z = z by omega] at this
end Go.Proofs.YtgbkjdpjilldmaaGreatDoor.St
/- slices.SortStableFunc at spans: insertion sort (the shelf's), stableCmpFunc. -/
namespace Go.Proofs.YtgbkjdpjilldmaaGreatDoor.St
open Go.Shelf Go.RowKit Go.Lib Go.Sort
variable {w0 : World} {blk off : Nat} {d0 : Array Sp}
/-- what is asked of the comparison. -/
abbrev CmpL (P : Program) (g : Nat) (cb : Array Value) (cf : Sp → Sp → Int) (blk off z : Nat) (w : World) : Prop := CmpLays P g cb encS 2 cf blk off z w
theorem cmp_on {g : Nat} {cb : Array Value} {cf : Sp → Sp → Int} {z : Nat} {W : World} {d : Array Sp} (hblk : blk < w0.heap.size) (S : SWK encS 2 w0 blk off d W) (hd : d.size = z) (hC : CmpLays Tryz.prog g cb encS 2 cf blk off z w0) : CmpLays Tryz.prog g cb encS 2 cf blk off z W := by
  intro m os dk hdk x y
  obtain ⟨n', os', e⟩ := S.on hblk m dk os (by rw [hdk, hd])
  rw [e]
  exact hC n' os' dk hdk x y
set_option maxRecDepth 100000 in
theorem ins_any {A B : Int} (g : Nat) (cb : Array Value) (cf : Sp → Sp → Int) (cap z a b : Nat) (d : Array Sp) (W : World) (hO : SWO (ltOf cf)) (eg : ∀ args w, (callFunc g args).run Tryz.prog w = .ok (.enter g args) w) (hcmp : CmpLays Tryz.prog g cb encS 2 cf blk off z w0)
    (R : RowK encS 2 w0 blk off d0) (hs : d0.size = z) (hsz : z < 4611686018427387904) (hd : d.size = z) (S : SWK encS 2 w0 blk off d W) (hab : a ≤ b) (hb : b ≤ z) (eA : A = a) (eB : B = b) :
    Calls Tryz.prog 149 #[.slice (some ⟨blk, off, none⟩) z cap, .int .i64 A, .int .i64 B, .func (.func g) #[] cb] W fun e w' => e = .returned (.tuple #[]) ∧ ∃ d', PermIn a b d d' ∧ SortedIn (ltOf cf) a b d' ∧ SWK encS 2 w0 blk off d' w' := by
  subst eA eB
  have h := AnyQ.insertionSortCmpFunc Tryz.insSp 2 Tryz.isAgg54 Tryz.sizeOf54 encS encS_len encS_one cf g cb blk off cap a b d W eg (hd ▸ cmp_on R.hblk S hd hcmp) (S.holds R.hblk R.hH (by rw [hd, hs])) (S.lt R.hblk) hab (by rw [hd]; exact hb) (by rw [hd]; exact hsz)
  rw [hd] at h
  refine h.mono ?_
  rintro e w' ⟨he, n, os, rfl⟩
  have hp := insertionSort_holds hO d a b hab (by rw [hd]; exact hb)
  exact ⟨he, _, hp.1, hp.2, S.on R.hblk n _ os hp.1.1⟩
set_option maxHeartbeats 8000000 in
set_option maxRecDepth 1000000 in
theorem stable_any (g : Nat) (cb : Array Value) (cf : Sp → Sp → Int) (cap z : Nat) (d : Array Sp) (w : World) (hO : SWO (ltOf cf)) (eg : ∀ args w, (callFunc g args).run Tryz.prog w = .ok (.enter g args) w) (hcmp : CmpLays Tryz.prog g cb encS 2 cf blk off z w0)
    (R : RowK encS 2 w0 blk off d0) (hs : d0.size = z) (hsz : z < 1000000000000) (hd : d.size = z) (S : SWK encS 2 w0 blk off d w) :
    Calls Tryz.prog 129 #[.slice (some ⟨blk, off, none⟩) z cap, .int .i64 z, .func (.func g) #[] cb] w fun e w' => e = .returned (.tuple #[]) ∧ ∃ d', PermIn 0 z d d' ∧ SortedIn (ltOf cf) 0 z d' ∧ SWK encS 2 w0 blk off d' w' := by
  have S0 : Aside (SWK encS 2 w0 blk off d w) := S
  have F0 : Aside (First (ltOf cf) 0 d) := first_start d
  have P0 : Aside (PermIn 0 z d d) := permIn_refl _ _ _
  have KI := Lib.hid (fun (a b : Nat) (dk : Array Sp) (W : World) (hdk : dk.size = z) (h : SWK encS 2 w0 blk off dk W) (hab : a ≤ b) (hb : b ≤ z) => ins_any g cb cf cap z a b dk W hO eg hcmp R hs (by omega) hdk h hab hb rfl rfl)
  have KS := Lib.hid (symMerge_any g cb cf cap z hO eg hcmp R hs (by omega))
  clear S hcmp
  go_enter Tryz.func129, Tryz.ntmps129
  go_wp2
  go_loopg [7, 8] z (fun kx s7 s8 wr => ∃ (a : Nat) (dk : Array Sp), s7 = .int .i64 a ∧ s8 = .int .i64 ((a + 20 : Nat) : Int) ∧ a ≤ z ∧ z - a ≤ kx ∧ dk.size = z ∧ Aside (First (ltOf cf) a dk) ∧ Aside (PermIn 0 z d dk) ∧ Aside (SWK encS 2 w0 blk off dk wr))
  case atStart => exact ⟨0, d, rfl, rfl, Nat.zero_le _, by omega, hd, F0, P0, S0⟩
  case round =>
    clear S0 F0 P0
    obtain ⟨a, dk, rfl, rfl, haz, hkx, hdk, HF, HP, S1⟩ := hrel
    obtain ⟨b, hb⟩ : ∃ b, a + 20 = b := ⟨_, rfl⟩
    rw [hb]
    have hb1 : a ≤ b ∧ b ≤ a + 20 ∧ a + 20 ≤ b := by omega
    have HB := Lib.hid hb
    clear hb
    by_cases hlt : b ≤ z
    · have hltz : (b : Int) ≤ (z : Int) := by omega
      have K := Lib.hid (KI.out a b dk wr hdk S1.out (by omega) hlt)
      go_wp2_with fail
      refine K.out.mono ?_
      rintro e w2 ⟨rfl, d2, h1, h2, h3⟩
      have S2 : Aside (SWK encS 2 w0 blk off d2 w2) := h3
      have D2 : d2.size = z := by rw [h1.1, hdk]
      have P2 : Aside (PermIn 0 z d d2) := permIn_trans _ _ _ _ _ HP.out (permIn_sub h1 (Nat.zero_le _) hlt (by omega))
      have F2 : Aside (First (ltOf cf) b d2) := by
        have := first_step HF.out (HB.out.symm ▸ h1) (HB.out.symm ▸ h2)
        rwa [HB.out] at this
      clear K h1 h2 h3 S1 HP HF
      go_wp2
      go_roundg (z - b)
      case measure => omega
      case rel => exact ⟨b, d2, rfl, by go_num, hlt, Nat.le_refl _, D2, F2, P2, S2⟩
    · have hltz : ¬ (b : Int) ≤ (z : Int) := by omega
      have K := Lib.hid (KI.out a z dk wr hdk S1.out haz (Nat.le_refl _))
      go_wp2_with fail
      refine K.out.mono ?_
      rintro e w2 ⟨rfl, d2, h1, h2, h3⟩
      have S2 : Aside (SWK encS 2 w0 blk off d2 w2) := h3
      have D2 : d2.size = z := by rw [h1.1, hdk]
      have P2 : Aside (PermIn 0 z d d2) := permIn_trans _ _ _ _ _ HP.out (permIn_sub h1 (Nat.zero_le _) (Nat.le_refl _) (by omega))
      have F2 : Aside (Blocks (ltOf cf) 20 z d2) := first_end HF.out (by omega) h1 h2
      clear K h1 h2 h3 S1 HP HF
      go_wp2
      go_loopg [6] z (fun kx s6 wr => ∃ (c : Nat) (dk : Array Sp), s6 = .int .i64 c ∧ 0 < c ∧ c ≤ 2 * z + 20 ∧ z - c ≤ kx ∧ dk.size = z ∧ Aside (Blocks (ltOf cf) c z dk) ∧ Aside (PermIn 0 z d dk) ∧ Aside (SWK encS 2 w0 blk off dk wr))
      case atStart => exact ⟨20, d2, rfl, by omega, by omega, by omega, D2, F2, P2, S2⟩
      case round =>
        clear S2 P2 F2 D2
        obtain ⟨c, dk, rfl, hc0, hc1, hkx, hdk, HF, HP, S1⟩ := hrel
        by_cases hcz : c < z
        · have hczz : (c : Int) < (z : Int) := by omega
          have H0 : Aside (Half (ltOf cf) c 0 z dk) := half_start hc0 HF.out
          have C2Z := Lib.hid (show 2 * (c : Int) = ((2 * c : Nat) : Int) by omega)
          clear HF
          go_wp2
          rw [C2Z.out]
          go_loopg [7, 8] z (fun ky s7 s8 wr => ∃ (a : Nat) (dk : Array Sp), s7 = .int .i64 a ∧ s8 = .int .i64 ((a + 2 * c : Nat) : Int) ∧ a ≤ z ∧ z - a ≤ ky ∧ dk.size = z ∧ Aside (Half (ltOf cf) c a z dk) ∧ Aside (PermIn 0 z d dk) ∧ Aside (SWK encS 2 w0 blk off dk wr))
          case atStart => exact ⟨0, dk, rfl, by rw [Nat.zero_add], Nat.zero_le _, by omega, hdk, H0, HP, S1⟩
          case round =>
            clear S1 H0 HP hdk dk
            obtain ⟨a, dk, rfl, rfl, haz, hky, hdk, HF, HP, S1⟩ := hrel
            obtain ⟨b, hb⟩ : ∃ b, a + 2 * c = b := ⟨_, rfl⟩
            rw [hb]
            have hb1 : a + 2 * c ≤ b ∧ b ≤ a + 2 * c := by omega
            have HB := Lib.hid hb
            have HAT := Lib.hid (half_at HF.out)
            clear hb
            by_cases hlt : b ≤ z
            · have hltz : (b : Int) ≤ (z : Int) := by omega
              have ht := HAT.out
              rw [HB.out, show min (a + c) z = a + c by omega, show min b z = b by omega] at ht
              have K := Lib.hid (fun M eM => KS.out (b - a + 1) (a : Int) M (b : Int) a (a + c) b dk wr rfl eM rfl (by omega) hdk S1.out (by omega) (by omega) hlt ht.1 ht.2)
              clear ht
              go_wp2_with fail
              refine (K.out _ (by go_num)).mono ?_
              rintro e w2 ⟨rfl, d2, h1, h2, h3⟩
              have S2 : Aside (SWK encS 2 w0 blk off d2 w2) := h3
              have D2 : d2.size = z := by rw [h1.1, hdk]
              have P2 : Aside (PermIn 0 z d d2) := permIn_trans _ _ _ _ _ HP.out (permIn_sub h1 (Nat.zero_le _) hlt (by omega))
              have F2 : Aside (Half (ltOf cf) c b z d2) := by
                have := half_step HF.out hc0 (HB.out.symm ▸ h1) (HB.out.symm ▸ h2)
                rwa [HB.out] at this
              clear K h1 h2 h3 S1 HP HF HAT
              go_wp2
              go_roundg (z - b)
              case measure => omega
              case rel => exact ⟨b, d2, rfl, by go_num, hlt, Nat.le_refl _, D2, F2, P2, S2⟩
            · have hltz : ¬ (b : Int) ≤ (z : Int) := by omega
              by_cases hm : a + c < z
              · have hmz : (a : Int) + (c : Int) < (z : Int) := by omega
                have ht := HAT.out
                rw [HB.out, show min (a + c) z = a + c by omega, show min b z = z by omega] at ht
                have K := Lib.hid (fun M eM => KS.out (z - a + 1) (a : Int) M (z : Int) a (a + c) z dk wr rfl eM rfl (by omega) hdk S1.out (by omega) hm (Nat.le_refl _) ht.1 ht.2)
                clear ht
                go_wp2_with fail
                refine (K.out _ (by go_num)).mono ?_
                rintro e w2 ⟨rfl, d2, h1, h2, h3⟩
                have S2 : Aside (SWK encS 2 w0 blk off d2 w2) := h3
                have D2 : d2.size = z := by rw [h1.1, hdk]
                have P2 : Aside (PermIn 0 z d d2) := permIn_trans _ _ _ _ _ HP.out (permIn_sub h1 (Nat.zero_le _) (Nat.le_refl _) (by omega))
                have F2 : Aside (Blocks (ltOf cf) (2 * c) z d2) := half_end HF.out (by omega) h1 h2
                clear K h1 h2 h3 S1 HP HF HAT
                go_wp2
                go_roundg (z - 2 * c)
                case measure => omega
                case rel => exact ⟨2 * c, d2, by go_num, by omega, by omega, Nat.le_refl _, D2, F2, P2, S2⟩
              · have hmz : ¬ (a : Int) + (c : Int) < (z : Int) := by omega
                have ht := HAT.out.1
                rw [show min (a + c) z = z by omega] at ht
                have F2 : Aside (Blocks (ltOf cf) (2 * c) z dk) := half_end HF.out (by omega) (permIn_refl _ _ _) ht
                clear ht HF HAT
                go_wp2
                go_roundg (z - 2 * c)
                case measure => omega
                case rel => exact ⟨2 * c, dk, by go_num, by omega, by omega, Nat.le_refl _, hdk, F2, HP, S1⟩
        · have hczz : ¬ (c : Int) < (z : Int) := by omega
          have FIN := Lib.hid (blocks_all HF.out (by omega))
          go_wp2
          go_end0
          exact ⟨rfl, dk, HP.out, FIN.out, S1.out⟩
end Go.Proofs.YtgbkjdpjilldmaaGreatDoor.St
/- hours: spans sorted by their beginnings. -/
namespace Go.Proofs.YtgbkjdpjilldmaaGreatDoor.Hr
open Go.RowKit Go.Sort Go.Shelf
open Lx (IsRow alloc1 drew_below)
open St (Sp encS encS_len encS_one)
def cmpI (a b : Int) : Int := if a < b then -1 else if a > b then 1 else 0
def cfS (x y : Sp) : Int := cmpI x.1 y.1
theorem cmpI_lt {x y : Int} : cmpI x y < 0 ↔ x < y := by unfold cmpI; split <;> (try split) <;> omega
theorem cfS_swo : SWO (ltOf cfS) where
  irrefl x := by simp [ltOf, cfS, cmpI_lt]
  trans x y z h1 h2 := by
    unfold ltOf cfS at *
    rw [decide_eq_true_iff, cmpI_lt] at *
    omega
  ntrans x y z h1 h2 := by
    unfold ltOf cfS at *
    rw [decide_eq_false_iff_not, cmpI_lt] at *
    omega
theorem grow_zero (w : World) : w = grow (w.drewN 0) #[] := by rw [grow_empty]; rfl
theorem drewN_grow (w : World) (os os' : Array Obj) (n : Nat) : grow ((grow w os).drewN n) os' = grow (w.drewN n) (os ++ os') := by
  show grow (grow (w.drewN n) os) os' = _
  rw [grow_grow]
set_option maxRecDepth 100000 in
theorem compare_still (a b : Int) (w : World) : Calls Tryz.prog 99 #[.int .i64 a, .int .i64 b] w fun e w' => e = .returned (.int .i64 (cmpI a b)) ∧ w' = w := by
  obtain ⟨c, hc⟩ : ∃ c, cmpI a b = c := ⟨_, rfl⟩
  rw [hc]
  have HC := Lib.hid hc
  clear hc
  go_enter Tryz.func99, Tryz.ntmps99
  by_cases h1 : a < b
  · obtain rfl : (-1 : Int) = c := by rw [← HC.out]; unfold cmpI; rw [if_pos h1]
    go_wp2
    go_ret
    exact ⟨rfl, rfl⟩
  · by_cases h2 : b < a
    · obtain rfl : (1 : Int) = c := by rw [← HC.out]; unfold cmpI; rw [if_neg h1, if_pos h2]
      go_wp2
      go_ret
      exact ⟨rfl, rfl⟩
    · obtain rfl : (0 : Int) = c := by rw [← HC.out]; unfold cmpI; rw [if_neg h1, if_neg h2]
      go_wp2
      go_ret
      exact ⟨rfl, rfl⟩
theorem key_any (x1 x2 : Int) (w : World) : Calls Tryz.prog 66 #[.agg #[.int .i64 x1, .int .i64 x2]] w fun e w' => e = .returned (.int .i64 x1) ∧ w' = w.alloc (.cells #[.int .i64 x1, .int .i64 x2] 54) := by
  go_enter Tryz.func66, Tryz.ntmps66
  go_wp2
  go_ret
  exact ⟨rfl, rfl⟩
theorem key_grow (x1 x2 : Int) (w : World) (n : Nat) (os : Array Obj) : Calls Tryz.prog 66 #[.agg #[.int .i64 x1, .int .i64 x2]] (grow (w.drewN n) os) fun e w' => e = .returned (.int .i64 x1) ∧ ∃ q os', w' = grow ((grow (w.drewN n) os).drewN q) os' := by
  refine (key_any x1 x2 _).mono ?_
  rintro e w' ⟨rfl, rfl⟩
  exact ⟨rfl, 0, #[.cells #[.int .i64 x1, .int .i64 x2] 54], by rw [alloc_eq_grow]; rfl⟩
theorem compare_grow (a b : Int) (w : World) (n : Nat) (os : Array Obj) : Calls Tryz.prog 99 #[.int .i64 a, .int .i64 b] (grow (w.drewN n) os) fun e w' => e = .returned (.int .i64 (cmpI a b)) ∧ ∃ q os', w' = grow ((grow (w.drewN n) os).drewN q) os' := by
  refine (compare_still a b _).mono ?_
  rintro e w' ⟨rfl, rfl⟩
  exact ⟨rfl, 0, #[], by rw [grow_empty]; rfl⟩
set_option maxRecDepth 100000 in
set_option maxHeartbeats 2000000 in
theorem order_grow (p : Nat) (x y : Sp) (w : World) (hp : w.cell? ⟨p, 0, none⟩ = some (.func (.func 66) #[] #[])) (hpl : p < w.heap.size) :
    Calls Tryz.prog 98 #[.agg (encS x).toArray, .agg (encS y).toArray, .pointer (some ⟨p, 0, none⟩)] w fun e w' => e = .returned (.int .i64 (cfS x y)) ∧ ∃ q os, w' = grow (w.drewN q) os := by
  have mixed : Tryz.prog.follows .mixedOrders = true := by kernel_rfl
  obtain ⟨x1, x2⟩ := x
  obtain ⟨y1, y2⟩ := y
  unfold encS cfS
  dsimp only
  obtain ⟨c, hc⟩ : ∃ c, cmpI x1 y1 = c := ⟨_, rfl⟩
  have KC := fun n os => compare_grow x1 y1 ((w.alloc (.cells #[.int .i64 x1, .int .i64 x2] 54)).alloc (.cells #[.int .i64 y1, .int .i64 y2] 54)) n os
  rw [hc] at KC ⊢
  clear hc
  have K1 := fun n os => key_grow x1 x2 ((w.alloc (.cells #[.int .i64 x1, .int .i64 x2] 54)).alloc (.cells #[.int .i64 y1, .int .i64 y2] 54)) n os
  have K2 := fun n os => key_grow y1 y2 ((w.alloc (.cells #[.int .i64 x1, .int .i64 x2] 54)).alloc (.cells #[.int .i64 y1, .int .i64 y2] 54)) n os
  have r1 := IsRow.made w 54 #[.int .i64 x1, .int .i64 x2]
  have r2 := IsRow.made (w.alloc (.cells #[.int .i64 x1, .int .i64 x2] 54)) 54 #[.int .i64 y1, .int .i64 y2]
  have r1' := r1.later (.cells #[.int .i64 y1, .int .i64 y2] 54)
  have hsz : (w.alloc (.cells #[.int .i64 x1, .int .i64 x2] 54)).heap.size = w.heap.size + 1 := by simp
  rw [hsz] at r2
  have p0 := fun n os => cell_grown (w := (w.alloc (.cells #[.int .i64 x1, .int .i64 x2] 54)).alloc (.cells #[.int .i64 y1, .int .i64 y2] 54)) (a := ⟨p, 0, none⟩) (by simp; omega) (((alloc1 (w.alloc (.cells #[.int .i64 x1, .int .i64 x2] 54)) (.cells #[.int .i64 y1, .int .i64 y2] 54)).cell (p := ⟨p, 0, none⟩) (by simp; omega)).trans (((alloc1 w (.cells #[.int .i64 x1, .int .i64 x2] 54)).cell (p := ⟨p, 0, none⟩) hpl).trans hp)) n os
  have a0 := fun n os => cell_grown (a := ⟨w.heap.size, 0, none⟩) (v := .int .i64 x1) r1'.inside (r1'.get 0) n os
  have a1 := fun n os => cell_grown (a := ⟨w.heap.size, 1, none⟩) (v := .int .i64 x2) r1'.inside (r1'.get 1) n os
  have b0 := fun n os => cell_grown (a := ⟨w.heap.size + 1, 0, none⟩) (v := .int .i64 y1) r2.inside (r2.get 0) n os
  have b1 := fun n os => cell_grown (a := ⟨w.heap.size + 1, 1, none⟩) (v := .int .i64 y2) r2.inside (r2.get 1) n os
  obtain ⟨w2, hw2⟩ : ∃ w2, (w.alloc (.cells #[.int .i64 x1, .int .i64 x2] 54)).alloc (.cells #[.int .i64 y1, .int .i64 y2] 54) = w2 := ⟨_, rfl⟩
  rw [hw2] at K1 K2 KC p0 a0 a1 b0 b1
  have HW := Lib.hid hw2
  clear r1 r2 r1' hsz hw2 hp hpl
  go_enter Tryz.func98, Tryz.ntmps98
  go_upto_region 1 with fail
  rw [HW.out]
  go_quiet_grown (first | (go_at_call 99; refine Calls.grown_of (KC _ _)) | (go_at_call 66; first | (with_reducible exact Calls.grown_of (K1 _ _)) | (with_reducible exact Calls.grown_of (K2 _ _))))
  go_wp2
  go_ret
  refine ⟨rfl, nq, #[.cells #[.int .i64 x1, .int .i64 x2] 54, .cells #[.int .i64 y1, .int .i64 y2] 54] ++ osq, ?_⟩
  rw [← HW.out, alloc_eq_grow, alloc_eq_grow, grow_grow, drewN_grow]
  rfl
end Go.Proofs.YtgbkjdpjilldmaaGreatDoor.Hr
/- hours: SortStableFunc of an owned list, Clone, sorted. -/
namespace Go.Proofs.YtgbkjdpjilldmaaGreatDoor.Hr
open Go.RowKit Go.Sort Go.Shelf
open Lx (IsRow alloc1 drew_below)
open St (Sp encS encS_len encS_one)
def Asc (l : List Sp) : Prop := l.Pairwise fun a b => a.1 ≤ b.1
theorem cell_of_block {w w' : World} {b : Nat} (h : w'.heap[b]? = w.heap[b]?) (i : Nat) : w'.cell? ⟨b, i, none⟩ = w.cell? ⟨b, i, none⟩ := by
  simp [World.cell?, h]
theorem stable_nil (z : Nat) (f : Value) (w : World) (hz : z = 0) : Calls Tryz.prog 129 #[.slice none 0 0, .int .i64 z, f] w fun e w' => e = .returned (.tuple #[]) ∧ w' = w := by
  subst hz
  go_enter Tryz.func129, Tryz.ntmps129
  go_wp2
  go_loopw [7, 8] (fun a b wr => a = .int .i64 0 ∧ b = .int .i64 20 ∧ wr = w) (fun _ _ _ => 0)
  case atStart => exact ⟨rfl, rfl, rfl⟩
  case round =>
    obtain ⟨rfl, rfl, rfl⟩ := hrel
    go_wp2
    go_loopw [8] (fun i wr2 => i = .int .i64 1 ∧ wr2 = wr) (fun _ _ => 0)
    case atStart => exact ⟨rfl, rfl⟩
    case round =>
      obtain ⟨rfl, rfl⟩ := hrel
      go_wp2
      go_end0
      go_wp2
      go_loopw [6] (fun i wr2 => i = .int .i64 20 ∧ wr2 = wr) (fun _ _ => 0)
      case atStart => exact ⟨rfl, rfl⟩
      case round =>
        obtain ⟨rfl, rfl⟩ := hrel
        go_wp2
        go_end0
        exact ⟨rfl, rfl⟩
theorem stable_own (base p g m cap : Nat) (l : List Sp) (w : World) (h : OwnS w base (.slice (some ⟨g, 0, none⟩) m cap) l) (hm : m = l.length) (hg : g < w.heap.size) (hn : l.length ≤ 1000000)
    (hp : w.cell? ⟨p, 0, none⟩ = some (.func (.func 66) #[] #[])) (hpl : p < w.heap.size) (hpg : p ≠ g) :
    Calls Tryz.prog 129 #[.slice (some ⟨g, 0, none⟩) m cap, .int .i64 m, .func (.func 98) #[] #[.pointer (some ⟨p, 0, none⟩)]] w fun e w' => e = .returned (.tuple #[]) ∧ ∃ l' : List Sp, l'.Perm l ∧ Asc l' ∧ OwnS w' base (.slice (some ⟨g, 0, none⟩) m cap) l' ∧ w.grownBy w' (some g) := by
  subst hm
  obtain ⟨h1, ⟨hv, hz⟩ | ⟨g', cap', cur, hv, hbase, hb, hc1, hc2, hc3, ht⟩⟩ := id h
  · cases hv
  · injection hv with e1 e2 e3
    injection e1 with e1
    injection e1 with e1
    subst e1 e3
    have hH : HoldsK encS 2 w g 0 l.toArray := by
      unfold HoldsK
      rw [flatK_flat encS_len (by decide)]
      exact holds_row hb (by rw [flat_len encS_len]; exact ht)
    have hC : St.CmpL Tryz.prog 98 #[.pointer (some ⟨p, 0, none⟩)] cfS g 0 l.length w := by
      intro k os dk _ x y
      have hgb : w.grownBy (sortWorldK encS 2 w g 0 k dk os) (some g) := grownBy_sortedV _
      exact order_grow p x y _ ((cell_of_block (hgb.block p hpl (fun e => hpg (by injection e with e))) 0).trans hp) (Nat.lt_of_lt_of_le hpl hgb.size)
    have hS := St.stable_any (w0 := w) (blk := g) (off := 0) (d0 := l.toArray) 98 #[.pointer (some ⟨p, 0, none⟩)] cfS cap l.length l.toArray w cfS_swo
      (enters_of Tryz.func98 (by kernel_rfl) rfl) hC ⟨encS_len, encS_one, hH, hg⟩ (by simp) (by omega) (by simp) (SWK.start hH)
    refine Calls.mono hS ?_
    rintro e w' ⟨rfl, d', hp', hs, k, os, rfl⟩
    have hd : d' = d'.toList.toArray := by simp
    obtain ⟨p1, _, p3⟩ := hp'
    have hlen : d'.toList.length = l.length := by simpa using p1
    refine ⟨rfl, d'.toList, ?_, ?_, ?_, ?_⟩
    · have e1 : d'.extract 0 l.length = d' := by rw [← hlen]; simp
      have e2 : l.toArray.extract 0 l.length = l.toArray := by simp
      rw [e1, e2] at p3
      simpa using p3
    · unfold Asc
      rw [List.pairwise_iff_getElem]
      intro i j hi hj hij
      have := hs i j (Nat.zero_le _) hij (by rw [← hlen]; exact hj)
      unfold ltOf cfS at this
      rw [decide_eq_false_iff_not, cmpI_lt] at this
      have hi' : i < d'.size := by simpa using hi
      have hj' : j < d'.size := by simpa using hj
      rw [getElem!_pos d' i hi', getElem!_pos d' j hj'] at this
      simp only [Array.getElem_toList]
      omega
    · unfold sortWorldK putRowK
      rw [hd, flatK_flat encS_len (by decide)]
      exact own_sorted encS_len hlen h
    · exact grownBy_sortedV _
theorem sortStable_any (base p : Nat) (v : Value) (l : List Sp) (w : World) (h : OwnS w base v l) (hn : l.length ≤ 1000000)
    (hp : w.cell? ⟨p, 0, none⟩ = some (.func (.func 66) #[] #[])) (hpl : p < base) (hb : base ≤ w.heap.size) :
    Calls Tryz.prog 97 #[v, .func (.func 98) #[] #[.pointer (some ⟨p, 0, none⟩)]] w fun e w' => e = .returned (.tuple #[]) ∧ ∃ l' : List Sp, l'.Perm l ∧ Asc l' ∧ OwnS w' base v l' ∧ w.grownBy w' v.ownBlock := by
  obtain ⟨a, cap, rfl, h1, h2, h3⟩ := Own.shape h
  rcases h3 with ⟨rfl, rfl, rfl⟩ | ⟨g, rfl, hg, hgl⟩
  · have K := stable_nil 0 (.func (.func 98) #[] #[.pointer (some ⟨p, 0, none⟩)]) w rfl
    go_enter Tryz.func97, Tryz.ntmps97
    go_wp2_with (refine K.mono ?_; rintro e w2 ⟨rfl, rfl⟩)
    go_end0
    exact ⟨rfl, [], List.Perm.refl _, List.Pairwise.nil, h, ⟨rfl, rfl, rfl, Nat.le_refl _, fun _ _ _ => rfl⟩⟩
  · obtain ⟨m, hm⟩ : ∃ m, l.length = m := ⟨_, rfl⟩
    rw [hm] at h h1 ⊢
    have K := stable_own base p g m cap l w h hm.symm hgl hn hp (by omega) (by omega)
    go_enter Tryz.func97, Tryz.ntmps97
    go_wp2_with (refine K.mono ?_; rintro e w2 ⟨rfl, l', q1, q2, q3, q4⟩)
    go_end0
    exact ⟨rfl, l', q1, q2, q3, q4⟩
set_option maxRecDepth 100000 in
theorem clone_any (ao : Option Addr) (n cap : Nat) (l : List Sp) (w : World) (hn : l.length = n) (ha : SpT w w.heap.size ao l) (hm : n ≤ 100000) :
    Calls Tryz.prog 96 #[.slice ao n cap] w fun e w' => (∃ v, e = .returned v ∧ OwnS w' w.heap.size v l) ∧ Below w.heap.size w w' := by
  have q22 : ∀ (w : World) (a : Option Addr) (n c n' c' : Nat), (binOp .eql 22 (.slice a n c) (.slice none n' c')).run Tryz.prog w = .ok (.bool a.isNone) w := fun w a n c n' c' => Lib.run_eql_slice_nil w _ _ a n c n' c' Tryz.underlying22
  cases ao with
  | none =>
    have hl : l = [] := by
      cases l with
      | nil => rfl
      | cons x l => obtain ⟨g, off, e, _⟩ := ha (by simp); cases e
    subst hl
    go_enter Tryz.func96, Tryz.ntmps96
    go_wp2
    go_ret
    exact ⟨⟨_, rfl, OwnS.nil _ _⟩, Below.refl _ _⟩
  | some a =>
    have hown := ownS_made w w.heap.size (Nat.le_refl _)
    have B0 := alloc1 w (.cells #[] 54)
    have hsp := ha.later B0
    have hz := B0.size
    go_enter Tryz.func96, Tryz.ntmps96
    go_wp2_with (at_builtin; refine wpList_appS rfl _ _ (by rfl) w.heap.size _ [] l (some a) n cap (by rfl) hown (by rfl) hsp hn.symm (by simp; omega) hz ?_; intro v2 w2 ho2 hg2 hlt2)
    have B2 := Lib.hid (B0.grown hg2 hz (fun k hk => (hlt2 k hk).1))
    have O2 := Lib.hid (show OwnS w2 w.heap.size v2 l from by simpa using ho2)
    clear hown B0 hsp hz ho2 hg2 hlt2
    go_wp2
    go_ret
    exact ⟨⟨_, rfl, O2.out⟩, B2.out⟩
set_option maxRecDepth 100000 in
theorem sorted_any (ao : Option Addr) (n cap : Nat) (l : List Sp) (w : World) (hn : l.length = n) (ha : SpT w w.heap.size ao l) (hm : n ≤ 100000) :
    Calls Tryz.prog 65 #[.slice ao n cap, .func (.func 66) #[] #[]] w fun e w' => (∃ v l', e = .returned v ∧ l'.Perm l ∧ Asc l' ∧ OwnS w' w.heap.size v l') ∧ Below w.heap.size w w' := by
  obtain ⟨ty, hty⟩ : ∃ ty, ty = Tryz.prog := ⟨_, rfl⟩
  clear hty ty
  go_enter Tryz.func65, Tryz.ntmps65
  have hmf : ∀ (fn : Fn) (first cap : Array Value) (w : World), (Instr.makeFunc fn first cap).run Tryz.prog w = .ok (.func fn first cap) w := fun _ _ _ _ => rfl
  obtain ⟨p, hp⟩ : ∃ p, w.heap.size = p := ⟨_, rfl⟩
  have b1 := alloc1 w (.cells #[.func (.func 66) #[] #[]] 117)
  have r1 := IsRow.made w 117 #[.func (.func 66) #[] #[]]
  have KC := Lib.hid (clone_any ao n cap l (w.alloc (.cells #[.func (.func 66) #[] #[]] 117)) hn (ha.later b1) hm)
  have hsz : (w.alloc (.cells #[.func (.func 66) #[] #[]] 117)).heap.size = p + 1 := by rw [← hp]; simp
  rw [hsz] at KC
  rw [hp] at r1 ⊢
  have B1 := Lib.hid b1
  have R1 := Lib.hid r1
  have HS := Lib.hid hsz
  rw [hp] at B1
  have hn2 : l.length ≤ 1000000 := by omega
  clear b1 r1 hsz
  go_wp2_with fail
  refine KC.out.mono ?_
  rintro e w2 ⟨⟨v2, rfl, ho⟩, b2⟩
  have B2 := Lib.hid (B1.out.trans (b2.mono (by omega)))
  have R2 := Lib.hid (R1.out.below b2 (by omega))
  have KS := Lib.hid (sortStable_any (p + 1) p v2 l w2 ho hn2 (R2.out.get 0) (by omega) (by have := b2.size; have := HS.out; omega))
  have SZ := Lib.hid (show p + 1 ≤ w2.heap.size from by have := b2.size; have := HS.out; omega)
  have LT := Lib.hid (fun k hk => (Own.row ho k hk).1)
  clear b2 ho KC
  go_wp2_with fail
  refine KS.out.mono ?_
  rintro e w3 ⟨rfl, l', q1, q2, q3, q4⟩
  have B3 := Lib.hid (B2.out.grown q4 (by have := SZ.out; omega) (fun k hk => by have := LT.out k hk; omega))
  have O3 := Lib.hid (Own.base_le q3 (show p ≤ p + 1 by omega))
  have Q1 := Lib.hid q1
  have Q2 := Lib.hid q2
  clear q1 q2 q3 q4 KS
  go_wp2
  go_ret
  exact ⟨⟨_, l', rfl, Q1.out, Q2.out, O3.out⟩, B3.out⟩
end Go.Proofs.YtgbkjdpjilldmaaGreatDoor.Hr
/- Plain mathematics of opening hours: lists of spans, joined ones. -/
namespace Go.Proofs.YtgbkjdpjilldmaaGreatDoor.Hr
abbrev Sq := Int × Int
abbrev mx (a b : Int) : Int := max a b
def stepJ (acc : List Sq) (s : Sq) : List Sq :=
  match acc.getLast? with
  | some u => if s.1 ≤ u.2 then acc.dropLast ++ [(u.1, mx u.2 s.2)] else acc ++ [s]
  | none => acc ++ [s]
def joinL (l : List Sq) : List Sq := l.foldl stepJ []
theorem join_snoc (l : List Sq) (s : Sq) : joinL (l ++ [s]) = stepJ (joinL l) s := by unfold joinL; rw [List.foldl_append]; rfl
theorem step_nil (s : Sq) : stepJ [] s = [s] := rfl
theorem step_snoc (A : List Sq) (u s : Sq) : stepJ (A ++ [u]) s = if s.1 ≤ u.2 then A ++ [(u.1, mx u.2 s.2)] else A ++ [u] ++ [s] := by
  unfold stepJ
  rw [List.getLast?_append]
  simp
theorem step_len (acc : List Sq) (s : Sq) : (stepJ acc s).length ≤ acc.length + 1 := by
  rcases List.eq_nil_or_concat acc with rfl | ⟨A, u, rfl⟩
  · simp [step_nil]
  · rw [List.concat_eq_append, step_snoc]
    split <;> simp
theorem join_len (l : List Sq) : ∀ k, (joinL (l.take k)).length ≤ k := by
  intro k
  induction k with
  | zero => simp [joinL]
  | succ k ih =>
    by_cases h : k < l.length
    · rw [List.take_succ_eq_append_getElem h, join_snoc]
      have := step_len (joinL (l.take k)) l[k]
      omega
    · rw [List.take_of_length_le (by omega)]
      rw [List.take_of_length_le (by omega)] at ih
      omega
end Go.Proofs.YtgbkjdpjilldmaaGreatDoor.Hr
