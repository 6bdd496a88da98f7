/- Merged: StRot, StSym. -/
import Derived.Test.YtgbkjdpjilldmaaGreatDoorHz1
import Derived.Deep.CutRange
/- slices.SortStableFunc at spans: rotate. -/
namespace Go.Proofs.YtgbkjdpjilldmaaGreatDoor.St
open Go.Shelf Go.RowKit Go.Lib Go.Sort
variable {w0 : World} {blk off : Nat} {d0 : Array Sp}
theorem swapRange_at {L : Nat} {P Q N : Int} (g : Nat) (cb : Array Value) (cap p q n : Nat) (d : Array Sp) (w : World)
    (R : RowK encS 2 w0 blk off d0) (hs : d0.size = d.size) (S : SWK encS 2 w0 blk off d w) (hpq : p + n ≤ q) (hq : q + n ≤ d.size) (hsz : d.size < 4611686018427387904) (eL : L = d.size) (eP : P = p) (eQ : Q = q) (eN : N = n) :
    Calls Tryz.prog 181 #[.slice (some ⟨blk, off, none⟩) L cap, .int .i64 P, .int .i64 Q, .int .i64 N, .func (.func g) #[] cb] w fun e w' => e = .returned (.tuple #[]) ∧ ∃ d', IsSwp p q n d d' ∧ PermIn p (q + n) d d' ∧ SWK encS 2 w0 blk off d' w' := by
  subst eL eP eQ eN
  exact swapRange_any g cb cap p q n d w R hs S hpq hq hsz
/-- the rotation so far. -/
def RotI (a m b i j : Nat) (d dk : Array Sp) : Prop := dk.size = d.size ∧ (∀ x, rotF dk (m - i) m (m + j) x = rotF d a m b x) ∧ PermIn a b d dk
set_option maxHeartbeats 4000000 in
set_option maxRecDepth 1000000 in
theorem rotate_any (g : Nat) (cb : Array Value) (cap a m b : Nat) (d : Array Sp) (w : World)
    (R : RowK encS 2 w0 blk off d0) (hs : d0.size = d.size) (S : SWK encS 2 w0 blk off d w) (ham : a < m) (hmb : m < b) (hb : b ≤ d.size) (hsz : d.size < 4611686018427387904) :
    Calls Tryz.prog 165 #[.slice (some ⟨blk, off, none⟩) d.size cap, .int .i64 a, .int .i64 m, .int .i64 b, .func (.func g) #[] cb] w fun e w' => e = .returned (.tuple #[]) ∧ ∃ d', IsRot a m b d d' ∧ PermIn a b d d' ∧ SWK encS 2 w0 blk off d' w' := by
  have S0 : Aside (SWK encS 2 w0 blk off d w) := S
  have I0 : Aside (RotI a m b (m - a) (b - m) d d) := ⟨rfl, fun x => by rw [show m - (m - a) = a by omega, show m + (b - m) = b by omega], permIn_refl _ _ _⟩
  clear S
  have e1 : (m : Int) - (a : Int) = ((m - a : Nat) : Int) := by omega
  have e2 : (b : Int) - (m : Int) = ((b - m : Nat) : Int) := by omega
  go_enter Tryz.func165, Tryz.ntmps165
  go_wp2
  go_loopg [10, 11] (b - a) (fun kx s10 s11 wr => ∃ (i j : Nat) (dk : Array Sp), s10 = .int .i64 i ∧ s11 = .int .i64 j ∧ 0 < i ∧ 0 < j ∧ i ≤ m - a ∧ j ≤ b - m ∧ i + j ≤ kx ∧ Aside (RotI a m b i j d dk) ∧ Aside (SWK encS 2 w0 blk off dk wr))
  case atStart => exact ⟨m - a, b - m, d, by rw [← e1], by rw [← e2], by omega, by omega, Nat.le_refl _, Nat.le_refl _, by omega, I0, S0⟩
  case round =>
    clear S0 I0 e1 e2
    obtain ⟨i, j, dk, rfl, rfl, hi, hj, him, hjb, hkx, HI, S1⟩ := hrel
    obtain ⟨hds, hrot, hper⟩ := HI.out
    have HR : Aside (∀ x, rotF dk (m - i) m (m + j) x = rotF d a m b x) := hrot
    have HP : Aside (PermIn a b d dk) := hper
    clear HI hrot hper
    by_cases h1 : i = j
    · subst h1
      go_wp2_with fail
      refine (swapRange_at g cb cap (m - i) m i dk _ R (by omega) S1.out (by omega) (by omega) (by omega) hds.symm (by omega) rfl rfl).mono ?_
      rintro e w2 ⟨rfl, d2, h2, p2, s2⟩
      go_wp2
      go_end0
      exact ⟨rfl, d2, ⟨by rw [h2.1, hds], fun x => by rw [rot_end (by omega) h2, HR.out]⟩, permIn_trans _ _ _ _ _ HP.out (permIn_sub p2 (by omega) (by omega) (by omega)), s2⟩
    · have h1' : ¬ (i : Int) = (j : Int) := by omega
      by_cases h2 : j < i
      · have h2' : (j : Int) < (i : Int) := by omega
        go_wp2_with fail
        refine (swapRange_at g cb cap (m - i) m j dk _ R (by omega) S1.out (by omega) (by omega) (by omega) hds.symm (by omega) rfl rfl).mono ?_
        rintro e w2 ⟨rfl, d2, h3, p2, s2⟩
        have S2 : Aside (SWK encS 2 w0 blk off d2 w2) := s2
        have I2 : Aside (RotI a m b (i - j) j d d2) := ⟨by rw [h3.1, hds], fun x => by rw [rot_left (by omega) (by omega) h3, HR.out], permIn_trans _ _ _ _ _ HP.out (permIn_sub p2 (by omega) (by omega) (by omega))⟩
        have e3 : (i : Int) - (j : Int) = ((i - j : Nat) : Int) := by omega
        clear h3 p2 s2 HR HP S1
        go_wp2
        go_roundg (i - j + j)
        case measure => omega
        case rel => exact ⟨i - j, j, d2, by rw [← e3], rfl, by omega, by omega, by omega, by omega, Nat.le_refl _, I2, S2⟩
      · have h2' : ¬ (j : Int) < (i : Int) := by omega
        go_wp2_with fail
        refine (swapRange_at g cb cap (m - i) (m + j - i) i dk _ R (by omega) S1.out (by omega) (by omega) (by omega) hds.symm (by omega) (by omega) rfl).mono ?_
        rintro e w2 ⟨rfl, d2, h3, p2, s2⟩
        have S2 : Aside (SWK encS 2 w0 blk off d2 w2) := s2
        have I2 : Aside (RotI a m b i (j - i) d d2) := ⟨by rw [h3.1, hds], fun x => by rw [rot_right (by omega) (by omega) h3, HR.out], permIn_trans _ _ _ _ _ HP.out (permIn_sub p2 (by omega) (by omega) (by omega))⟩
        have e3 : (j : Int) - (i : Int) = ((j - i : Nat) : Int) := by omega
        clear h3 p2 s2 HR HP S1
        go_wp2
        go_roundg (i + (j - i))
        case measure => omega
        case rel => exact ⟨i, j - i, d2, rfl, by rw [← e3], by omega, by omega, by omega, by omega, Nat.le_refl _, I2, S2⟩
theorem rotate_at {L : Nat} (g : Nat) (cb : Array Value) (cap a m b : Nat) (d : Array Sp) (w : World)
    (R : RowK encS 2 w0 blk off d0) (hs : d0.size = d.size) (S : SWK encS 2 w0 blk off d w) (ham : a < m) (hmb : m < b) (hb : b ≤ d.size) (hsz : d.size < 4611686018427387904) (eL : L = d.size) :
    Calls Tryz.prog 165 #[.slice (some ⟨blk, off, none⟩) L cap, .int .i64 a, .int .i64 m, .int .i64 b, .func (.func g) #[] cb] w fun e w' => e = .returned (.tuple #[]) ∧ ∃ d', IsRot a m b d d' ∧ PermIn a b d d' ∧ SWK encS 2 w0 blk off d' w' := by
  subst eL
  exact rotate_any g cb cap a m b d w R hs S ham hmb hb hsz
end Go.Proofs.YtgbkjdpjilldmaaGreatDoor.St
/- slices.SortStableFunc at spans: symMerge (written by wip/tools/gen-symmerge.py). -/
namespace Go.Proofs.YtgbkjdpjilldmaaGreatDoor.St
open Go.Shelf Go.RowKit Go.Lib Go.Sort
variable {w0 : World} {blk off : Nat} {d0 : Array Sp}
theorem rot_step1 {a k : Nat} {d dk : Array Sp} (h : IsRot a (a + 1) (k + 1) d dk) (hak : a ≤ k) (hk : k + 1 < d.size) : IsRot a (a + 1) (k + 2) d (swp dk k (k + 1)) := by
  refine ⟨by rw [size_swp, h.1], fun x => ?_⟩
  rw [swp_get dk (by rw [h.1]; omega) (by rw [h.1]; omega) x, h.2, h.2, h.2]
  unfold rotF
  (repeat' split) <;> first | (exfalso; omega) | exact at_eq (by omega)
theorem rot_step2 {k m : Nat} {d dk : Array Sp} (h : IsRot k m (m + 1) d dk) (h0 : 0 < k) (hkm : k ≤ m) (hm : m < d.size) : IsRot (k - 1) m (m + 1) d (swp dk k (k - 1)) := by
  refine ⟨by rw [size_swp, h.1], fun x => ?_⟩
  rw [swp_get dk (by rw [h.1]; omega) (by rw [h.1]; omega) x, h.2, h.2, h.2]
  unfold rotF
  (repeat' split) <;> first | (exfalso; omega) | exact at_eq (by omega)
theorem cell_g {W : World} {dk : Array Sp} (h : SWK encS 2 w0 blk off dk W) (R : RowK encS 2 w0 blk off d0) (hs : dk.size = d0.size) {i : Nat} (hi : i < dk.size) :
    (∀ n os, (grow (W.drewN n) os).cell? ⟨blk, off + i * 2, none⟩ = some (.int .i64 dk[i]!.1)) ∧ (∀ n os, (grow (W.drewN n) os).cell? ⟨blk, off + i * 2 + 1, none⟩ = some (.int .i64 dk[i]!.2)) :=
  ⟨fun n os => (two (h.grown n os) R hs hi).1, fun n os => (two (h.grown n os) R hs hi).2.1⟩
theorem cmp_g {W : World} {dk : Array Sp} {g : Nat} {cb : Array Value} {cf : Sp → Sp → Int} {size : Nat} (h : SWK encS 2 w0 blk off dk W) (hC : CmpLays Tryz.prog g cb encS 2 cf blk off size w0) (hs : dk.size = size) (x1 x2 y1 y2 : Int) (n : Nat) (os : Array Obj) :
    Calls Tryz.prog g (#[.agg #[.int .i64 x1, .int .i64 x2], .agg #[.int .i64 y1, .int .i64 y2]] ++ cb) (grow (W.drewN n) os) fun e w' => e = .returned (.int .i64 (cf (x1, x2) (y1, y2))) ∧ ∃ q os', w' = grow ((grow (W.drewN n) os).drewN q) os' :=
  h.cmp hC hs (x1, x2) (y1, y2) n os
/-- what symMerge does between a and b. -/
def Sym (g : Nat) (cb : Array Value) (cf : Sp → Sp → Int) (w0 : World) (blk off cap N z : Nat) : Prop := ∀ (A M B : Int) (a m b : Nat) (d : Array Sp) (w : World), A = a → M = m → B = b → b - a < N → d.size = z → SWK encS 2 w0 blk off d w → a < m → m < b → b ≤ z → SortedIn (ltOf cf) a m d → SortedIn (ltOf cf) m b d →
    Calls Tryz.prog 150 #[.slice (some ⟨blk, off, none⟩) z cap, .int .i64 A, .int .i64 M, .int .i64 B, .func (.func g) #[] cb] w fun e w' => e = .returned (.tuple #[]) ∧ ∃ d', PermIn a b d d' ∧ SortedIn (ltOf cf) a b d' ∧ SWK encS 2 w0 blk off d' w'
set_option maxHeartbeats 8000000 in
set_option maxRecDepth 1000000 in
theorem symMerge_step (g : Nat) (cb : Array Value) (cf : Sp → Sp → Int) (cap z : Nat) (hO : SWO (ltOf cf)) (eg : ∀ args w, (callFunc g args).run Tryz.prog w = .ok (.enter g args) w) (hcmp : CmpLays Tryz.prog g cb encS 2 cf blk off z w0)
    (R : RowK encS 2 w0 blk off d0) (hs : d0.size = z) (hsz : z < 4611686018427387904) (a m b : Nat) (IH : Sym g cb cf w0 blk off cap (b - a) z) (d : Array Sp) (w : World) (hd : d.size = z) (S : SWK encS 2 w0 blk off d w) (ham : a < m) (hmb : m < b) (hb : b ≤ z)
    (s1 : SortedIn (ltOf cf) a m d) (s2 : SortedIn (ltOf cf) m b d) :
    Calls Tryz.prog 150 #[.slice (some ⟨blk, off, none⟩) z cap, .int .i64 a, .int .i64 m, .int .i64 b, .func (.func g) #[] cb] w fun e w' => e = .returned (.tuple #[]) ∧ ∃ d', PermIn a b d d' ∧ SortedIn (ltOf cf) a b d' ∧ SWK encS 2 w0 blk off d' w' := by
  have mixed : Tryz.prog.follows .mixedOrders = true := by kernel_rfl
  have HC : Aside _ := hcmp
  have S0 : Aside (SWK encS 2 w0 blk off d w) := S
  have HI : Hid _ := Lib.hid IH
  have Q1 : Aside (SortedIn (ltOf cf) a m d) := s1
  have Q2 : Aside (SortedIn (ltOf cf) m b d) := s2
  clear hcmp S IH s1 s2
  go_enter Tryz.func150, Tryz.ntmps150
  by_cases hA : m - a = 1
  · have hma : (m : Int) - (a : Int) = 1 := by omega
    go_wp2_with fail
    go_loopg [10, 11] (b - m) (fun kx s10 s11 wr => ∃ (i j : Nat), s10 = .int .i64 i ∧ s11 = .int .i64 j ∧ m ≤ i ∧ i ≤ j ∧ j ≤ b ∧ j - i ≤ kx ∧ Aside (i = m ∨ ltOf cf d[i - 1]! d[a]! = true) ∧ Aside (j = b ∨ ltOf cf d[j]! d[a]! = false) ∧ Aside (SWK encS 2 w0 blk off d wr))
    case atStart => exact ⟨m, b, rfl, rfl, Nat.le_refl _, by omega, Nat.le_refl _, Nat.le_refl _, .inl rfl, .inl rfl, S0⟩
    case round =>
      clear S0
      obtain ⟨i, j, rfl, rfl, hmi, hij, hjb, hkx, C1, C2, S1⟩ := hrel
      by_cases hlt : i < j
      · have hltz : (i : Int) < (j : Int) := by omega
        go_upto_region 5 with fail
        obtain ⟨h, hh⟩ : ∃ h : Nat, h = (i + j) / 2 := ⟨_, rfl⟩
        have hq : ((i : Int) + (j : Int)) / 2 = (h : Int) := by omega
        rw [hq]
        have h1 : i ≤ h := by omega
        have h2 : h < j := by omega
        clear hq hh
        cases hL : ltOf cf d[h]! d[a]! with
        | true =>
          have N1 : Aside (h + 1 = m ∨ ltOf cf d[h + 1 - 1]! d[a]! = true) := .inr hL
          have ea : ((h : Int)).toNat = h := by omega
          have pa : (0 : Int) ≤ (h : Int) := by omega
          have ba : (h : Int) < (z : Int) := by omega
          have ra : IntKind.i64.wrap ((h : Int)) = (h : Int) := by rw [IntKind.wrap_i64]; omega
          have ec : ((a : Int)).toNat = a := by omega
          have pc : (0 : Int) ≤ (a : Int) := by omega
          have bc : (a : Int) < (z : Int) := by omega
          have rc : IntKind.i64.wrap ((a : Int)) = (a : Int) := by rw [IntKind.wrap_i64]; omega
          obtain ⟨x0, x1⟩ := cell_g S1.out R (by omega) (i := h) (by omega)
          obtain ⟨y0, y1⟩ := cell_g S1.out R (by omega) (i := a) (by omega)
          have hc := cmp_g S1.out HC.out hd d[h]!.1 d[h]!.2 d[a]!.1 d[a]!.2
          have hv : cf (d[h]!.1, d[h]!.2) (d[a]!.1, d[a]!.2) < 0 := by exact of_decide_eq_true hL
          have hdv := decide_eq_true hv
          generalize cf (d[h]!.1, d[h]!.2) (d[a]!.1, d[a]!.2) = cv at hc hv hdv
          generalize d[h]!.1 = xa at x0 hc
          generalize d[h]!.2 = xb at x1 hc
          generalize d[a]!.1 = ya at y0 hc
          generalize d[a]!.2 = yb at y1 hc
          go_wp2_with fail
          go_quiet_grown (first | (go_at_fn g; refine Calls.grown_of (hc _ _)))
          have S2 : Aside (SWK encS 2 w0 blk off d (grow (wr.drewN nq) osq)) := S1.out.grown nq osq
          clear x0 x1 y0 y1 hc S1
          generalize grow (wr.drewN nq) osq = w2 at S2 ⊢
          clear nq osq
          go_wp2
          go_roundg (j - (h + 1))
          case measure => omega
          case rel => exact ⟨h + 1, j, by go_num, rfl, by omega, by omega, hjb, Nat.le_refl _, N1, C2, S2⟩
        | false =>
          have N1 : Aside (h = b ∨ ltOf cf d[h]! d[a]! = false) := .inr hL
          have ea : ((h : Int)).toNat = h := by omega
          have pa : (0 : Int) ≤ (h : Int) := by omega
          have ba : (h : Int) < (z : Int) := by omega
          have ra : IntKind.i64.wrap ((h : Int)) = (h : Int) := by rw [IntKind.wrap_i64]; omega
          have ec : ((a : Int)).toNat = a := by omega
          have pc : (0 : Int) ≤ (a : Int) := by omega
          have bc : (a : Int) < (z : Int) := by omega
          have rc : IntKind.i64.wrap ((a : Int)) = (a : Int) := by rw [IntKind.wrap_i64]; omega
          obtain ⟨x0, x1⟩ := cell_g S1.out R (by omega) (i := h) (by omega)
          obtain ⟨y0, y1⟩ := cell_g S1.out R (by omega) (i := a) (by omega)
          have hc := cmp_g S1.out HC.out hd d[h]!.1 d[h]!.2 d[a]!.1 d[a]!.2
          have hv : ¬ cf (d[h]!.1, d[h]!.2) (d[a]!.1, d[a]!.2) < 0 := by exact of_decide_eq_false hL
          have hdv := decide_eq_false hv
          generalize cf (d[h]!.1, d[h]!.2) (d[a]!.1, d[a]!.2) = cv at hc hv hdv
          generalize d[h]!.1 = xa at x0 hc
          generalize d[h]!.2 = xb at x1 hc
          generalize d[a]!.1 = ya at y0 hc
          generalize d[a]!.2 = yb at y1 hc
          go_wp2_with fail
          go_quiet_grown (first | (go_at_fn g; refine Calls.grown_of (hc _ _)))
          have S2 : Aside (SWK encS 2 w0 blk off d (grow (wr.drewN nq) osq)) := S1.out.grown nq osq
          clear x0 x1 y0 y1 hc S1
          generalize grow (wr.drewN nq) osq = w2 at S2 ⊢
          clear nq osq
          go_wp2
          go_roundg (h - i)
          case measure => omega
          case rel => exact ⟨i, h, rfl, rfl, by omega, by omega, by omega, Nat.le_refl _, C1, N1, S2⟩
      · obtain rfl : i = j := by omega
        have R0 : Aside (IsRot a (a + 1) (a + 1) d d) := rot_none d (by omega) (by omega) (.inr rfl)
        have P0 : Aside (PermIn a b d d) := permIn_refl _ _ _
        go_wp2
        go_loopg [13] (i - 1 - a) (fun kx s13 wr => ∃ (k : Nat) (dk : Array Sp), s13 = .int .i64 k ∧ a ≤ k ∧ k ≤ i - 1 ∧ i - 1 - k ≤ kx ∧ dk.size = d.size ∧ Aside (IsRot a (a + 1) (k + 1) d dk) ∧ Aside (PermIn a b d dk) ∧ Aside (SWK encS 2 w0 blk off dk wr))
        case atStart => exact ⟨a, d, rfl, Nat.le_refl _, by omega, by omega, rfl, R0, P0, S1⟩
        case round =>
          clear S1 R0 P0
          obtain ⟨k, dk, rfl, hak, hki, hkx, hds, HR, HP, S1⟩ := hrel
          by_cases hlt2 : k < i - 1
          · have hltz2 : (k : Int) < (i : Int) - 1 := by omega
            have ea : ((k : Int) + 1).toNat = k + 1 := by omega
            have pa : (0 : Int) ≤ (k : Int) + 1 := by omega
            have ba : (k : Int) + 1 < (z : Int) := by omega
            have bb : (k : Int) < (z : Int) := by omega
            have ra : IntKind.i64.wrap ((k : Int) + 1) = (k : Int) + 1 := by rw [IntKind.wrap_i64]; omega
            have S2 : Aside (SWK encS 2 w0 blk off (swp dk k (k + 1)) ((wr.setCells blk (off + k * 2) (encS dk[k + 1]!)).setCells blk (off + (k + 1) * 2) (encS dk[k]!)).drew) := (S1.out.swap R.hk R.hblk k (k + 1) (by omega) (by omega)).drew
            obtain ⟨x0, x1, fx0, fx1⟩ := two S1.out R (by omega) (i := k) (by omega)
            obtain ⟨y0, y1, fy0, fy1⟩ := two S1.out R (by omega) (i := k + 1) (by omega)
            have n0 : ¬ k * 2 = (k + 1) * 2 := by omega
            have n1 : ¬ (k + 1) * 2 = k * 2 := by omega
            have N1 : Aside (IsRot a (a + 1) (k + 1 + 1) d (swp dk k (k + 1))) := rot_step1 HR.out hak (by omega)
            have N2 : Aside (PermIn a b d (swp dk k (k + 1))) := permIn_trans _ _ _ _ _ HP.out (swp_permIn _ _ _ _ _ (by omega) (by omega) (by omega) (by omega) (by omega))
            generalize dk[k]! = u at x0 x1 S2
            generalize dk[k + 1]! = v at y0 y1 S2
            obtain ⟨u1, u2⟩ := u
            obtain ⟨v1, v2⟩ := v
            dsimp only at x0 x1 y0 y1
            clear S1 HR HP
            go_wp2_with fail
            go_region
            all_goals
              clear x0 x1 y0 y1 fx0 fx1 fy0 fy1 n0 n1
              go_wp2
              go_roundg (i - 1 - (k + 1))
              case measure => omega
              case rel => exact ⟨k + 1, swp dk k (k + 1), by go_num, by omega, by omega, Nat.le_refl _, by rw [size_swp]; exact hds, N1, N2, S2⟩
          · obtain rfl : k = i - 1 := by omega
            have hltz2 : ¬ ((i - 1 : Nat) : Int) < (i : Int) - 1 := by omega
            have hm1 : m = a + 1 := by omega
            have RR := HR.out
            rw [show i - 1 + 1 = i by omega] at RR
            have FIN : SortedIn (ltOf cf) a b dk := ins_left hO (by omega) hjb RR (hm1 ▸ Q2.out) (by
              rcases C1.out with h | h
              · exact .inl (by omega)
              · exact .inr h) C2.out
            clear hm1 RR
            go_wp2
            refine bodyPost_ret (results_none rfl _ _ _) rfl ?_
            exact ⟨rfl, dk, HP.out, FIN, S1.out⟩
  have hma : ¬ (m : Int) - (a : Int) = 1 := by omega
  have hma2 : ((m : Int) - (a : Int) == 1) = false := by rw [beq_eq_false_iff_ne]; exact hma
  by_cases hB : b - m = 1
  · have hbm : (b : Int) - (m : Int) = 1 := by omega
    have hbm2 : ((b : Int) - (m : Int) == 1) = true := by rw [beq_iff_eq]; exact hbm
    go_wp2_with fail
    go_loopg [14, 15] (m - a) (fun kx s10 s11 wr => ∃ (i j : Nat), s10 = .int .i64 i ∧ s11 = .int .i64 j ∧ a ≤ i ∧ i ≤ j ∧ j ≤ m ∧ j - i ≤ kx ∧ Aside (i = a ∨ ltOf cf d[m]! d[i - 1]! = false) ∧ Aside (j = m ∨ ltOf cf d[m]! d[j]! = true) ∧ Aside (SWK encS 2 w0 blk off d wr))
    case atStart => exact ⟨a, m, rfl, rfl, Nat.le_refl _, by omega, Nat.le_refl _, Nat.le_refl _, .inl rfl, .inl rfl, S0⟩
    case round =>
      clear S0
      obtain ⟨i, j, rfl, rfl, hmi, hij, hjb, hkx, C1, C2, S1⟩ := hrel
      by_cases hlt : i < j
      · have hltz : (i : Int) < (j : Int) := by omega
        go_upto_region 17 with fail
        obtain ⟨h, hh⟩ : ∃ h : Nat, h = (i + j) / 2 := ⟨_, rfl⟩
        have hq : ((i : Int) + (j : Int)) / 2 = (h : Int) := by omega
        rw [hq]
        have h1 : i ≤ h := by omega
        have h2 : h < j := by omega
        clear hq hh
        cases hL : ltOf cf d[m]! d[h]! with
        | false =>
          have N1 : Aside (h + 1 = a ∨ ltOf cf d[m]! d[h + 1 - 1]! = false) := .inr hL
          have ea : ((m : Int)).toNat = m := by omega
          have pa : (0 : Int) ≤ (m : Int) := by omega
          have ba : (m : Int) < (z : Int) := by omega
          have ra : IntKind.i64.wrap ((m : Int)) = (m : Int) := by rw [IntKind.wrap_i64]; omega
          have ec : ((h : Int)).toNat = h := by omega
          have pc : (0 : Int) ≤ (h : Int) := by omega
          have bc : (h : Int) < (z : Int) := by omega
          have rc : IntKind.i64.wrap ((h : Int)) = (h : Int) := by rw [IntKind.wrap_i64]; omega
          obtain ⟨x0, x1⟩ := cell_g S1.out R (by omega) (i := m) (by omega)
          obtain ⟨y0, y1⟩ := cell_g S1.out R (by omega) (i := h) (by omega)
          have hc := cmp_g S1.out HC.out hd d[m]!.1 d[m]!.2 d[h]!.1 d[h]!.2
          have hv : ¬ cf (d[m]!.1, d[m]!.2) (d[h]!.1, d[h]!.2) < 0 := by exact of_decide_eq_false hL
          have hdv := decide_eq_false hv
          generalize cf (d[m]!.1, d[m]!.2) (d[h]!.1, d[h]!.2) = cv at hc hv hdv
          generalize d[m]!.1 = xa at x0 hc
          generalize d[m]!.2 = xb at x1 hc
          generalize d[h]!.1 = ya at y0 hc
          generalize d[h]!.2 = yb at y1 hc
          go_wp2_with fail
          go_quiet_grown (first | (go_at_fn g; refine Calls.grown_of (hc _ _)))
          have S2 : Aside (SWK encS 2 w0 blk off d (grow (wr.drewN nq) osq)) := S1.out.grown nq osq
          clear x0 x1 y0 y1 hc S1
          generalize grow (wr.drewN nq) osq = w2 at S2 ⊢
          clear nq osq
          go_wp2
          go_roundg (j - (h + 1))
          case measure => omega
          case rel => exact ⟨h + 1, j, by go_num, rfl, by omega, by omega, hjb, Nat.le_refl _, N1, C2, S2⟩
        | true =>
          have N1 : Aside (h = m ∨ ltOf cf d[m]! d[h]! = true) := .inr hL
          have ea : ((m : Int)).toNat = m := by omega
          have pa : (0 : Int) ≤ (m : Int) := by omega
          have ba : (m : Int) < (z : Int) := by omega
          have ra : IntKind.i64.wrap ((m : Int)) = (m : Int) := by rw [IntKind.wrap_i64]; omega
          have ec : ((h : Int)).toNat = h := by omega
          have pc : (0 : Int) ≤ (h : Int) := by omega
          have bc : (h : Int) < (z : Int) := by omega
          have rc : IntKind.i64.wrap ((h : Int)) = (h : Int) := by rw [IntKind.wrap_i64]; omega
          obtain ⟨x0, x1⟩ := cell_g S1.out R (by omega) (i := m) (by omega)
          obtain ⟨y0, y1⟩ := cell_g S1.out R (by omega) (i := h) (by omega)
          have hc := cmp_g S1.out HC.out hd d[m]!.1 d[m]!.2 d[h]!.1 d[h]!.2
          have hv : cf (d[m]!.1, d[m]!.2) (d[h]!.1, d[h]!.2) < 0 := by exact of_decide_eq_true hL
          have hdv := decide_eq_true hv
          generalize cf (d[m]!.1, d[m]!.2) (d[h]!.1, d[h]!.2) = cv at hc hv hdv
          generalize d[m]!.1 = xa at x0 hc
          generalize d[m]!.2 = xb at x1 hc
          generalize d[h]!.1 = ya at y0 hc
          generalize d[h]!.2 = yb at y1 hc
          go_wp2_with fail
          go_quiet_grown (first | (go_at_fn g; refine Calls.grown_of (hc _ _)))
          have S2 : Aside (SWK encS 2 w0 blk off d (grow (wr.drewN nq) osq)) := S1.out.grown nq osq
          clear x0 x1 y0 y1 hc S1
          generalize grow (wr.drewN nq) osq = w2 at S2 ⊢
          clear nq osq
          go_wp2
          go_roundg (h - i)
          case measure => omega
          case rel => exact ⟨i, h, rfl, rfl, by omega, by omega, by omega, Nat.le_refl _, C1, N1, S2⟩
      · obtain rfl : i = j := by omega
        have R0 : Aside (IsRot m m (m + 1) d d) := rot_none d (by omega) (by omega) (.inl rfl)
        have P0 : Aside (PermIn a b d d) := permIn_refl _ _ _
        go_wp2
        go_loopg [17] (m - i) (fun kx s17 wr => ∃ (k : Nat) (dk : Array Sp), s17 = .int .i64 k ∧ i ≤ k ∧ k ≤ m ∧ k - i ≤ kx ∧ dk.size = d.size ∧ Aside (IsRot k m (m + 1) d dk) ∧ Aside (PermIn a b d dk) ∧ Aside (SWK encS 2 w0 blk off dk wr))
        case atStart => exact ⟨m, d, rfl, by omega, Nat.le_refl _, Nat.le_refl _, rfl, R0, P0, S1⟩
        case round =>
          clear S1 R0 P0
          obtain ⟨k, dk, rfl, hik, hkm, hkx, hds, HR, HP, S1⟩ := hrel
          by_cases hlt2 : i < k
          · have hltz2 : (i : Int) < (k : Int) := by omega
            have ea : ((k : Int) - 1).toNat = k - 1 := by omega
            have pa : (0 : Int) ≤ (k : Int) - 1 := by omega
            have ba : (k : Int) - 1 < (z : Int) := by omega
            have bb : (k : Int) < (z : Int) := by omega
            have ra : IntKind.i64.wrap ((k : Int) - 1) = (k : Int) - 1 := by rw [IntKind.wrap_i64]; omega
            have ek : (k : Int) - 1 = ((k - 1 : Nat) : Int) := by omega
            have S2 : Aside (SWK encS 2 w0 blk off (swp dk k (k - 1)) ((wr.setCells blk (off + k * 2) (encS dk[k - 1]!)).setCells blk (off + (k - 1) * 2) (encS dk[k]!)).drew) := (S1.out.swap R.hk R.hblk k (k - 1) (by omega) (by omega)).drew
            obtain ⟨x0, x1, fx0, fx1⟩ := two S1.out R (by omega) (i := k) (by omega)
            obtain ⟨y0, y1, fy0, fy1⟩ := two S1.out R (by omega) (i := k - 1) (by omega)
            have n0 : ¬ k * 2 = (k - 1) * 2 := by omega
            have n1 : ¬ (k - 1) * 2 = k * 2 := by omega
            have N1 : Aside (IsRot (k - 1) m (m + 1) d (swp dk k (k - 1))) := rot_step2 HR.out (by omega) hkm (by omega)
            have N2 : Aside (PermIn a b d (swp dk k (k - 1))) := permIn_trans _ _ _ _ _ HP.out (swp_permIn _ _ _ _ _ (by omega) (by omega) (by omega) (by omega) (by omega))
            generalize dk[k]! = u at x0 x1 S2
            generalize dk[k - 1]! = v at y0 y1 S2
            obtain ⟨u1, u2⟩ := u
            obtain ⟨v1, v2⟩ := v
            dsimp only at x0 x1 y0 y1
            have EK := Lib.hid ek
            clear S1 HR HP ek
            go_wp2_with fail
            go_region
            all_goals
              clear x0 x1 y0 y1 fx0 fx1 fy0 fy1 n0 n1
              go_wp2
              go_roundg (k - 1 - i)
              case measure => omega
              case rel => exact ⟨k - 1, swp dk k (k - 1), by rw [← EK.out], by omega, by omega, Nat.le_refl _, by rw [size_swp]; exact hds, N1, N2, S2⟩
          · obtain rfl : k = i := by omega
            have hm1 : b = m + 1 := by omega
            have FIN : SortedIn (ltOf cf) a b dk := by
              rw [hm1]
              exact ins_right hO hmi hjb HR.out Q1.out C1.out C2.out
            clear hm1
            go_wp2
            refine bodyPost_ret (results_none rfl _ _ _) rfl ?_
            exact ⟨rfl, dk, HP.out, FIN, S1.out⟩
  have hbm : ¬ (b : Int) - (m : Int) = 1 := by omega
  have hbm2 : ((b : Int) - (m : Int) == 1) = false := by rw [beq_eq_false_iff_ne]; exact hbm
  go_upto_region 25 with fail
  obtain ⟨mid, hmid⟩ : ∃ h : Nat, h = (a + b) / 2 := ⟨_, rfl⟩
  have hq : ((a : Int) + (b : Int)) / 2 = (mid : Int) := by omega
  rw [hq]
  clear hq
  obtain ⟨lo, hlo⟩ : ∃ l, l = if m > mid then mid + m - b else a := ⟨_, rfl⟩
  obtain ⟨hi, hhi⟩ : ∃ l, l = if m > mid then mid else m := ⟨_, rfl⟩
  have b1 : a ≤ lo ∧ lo ≤ hi ∧ hi ≤ m ∧ hi ≤ mid ∧ mid + m ≤ b + lo ∧ a < mid ∧ mid < b := by
    by_cases h : m > mid
    · rw [if_pos h] at hlo hhi; omega
    · rw [if_neg h] at hlo hhi; omega
  have HLO := Lib.hid hlo
  have HHI := Lib.hid hhi
  have hm2 : 2 * mid ≤ a + b ∧ a + b < 2 * mid + 2 := by omega
  have HM := Lib.hid hmid
  obtain ⟨b2, b3, b4, b5, b6, b7, b8⟩ := b1
  have e1 : ¬ mid < m → lo = a ∧ hi = m := fun h => by rw [if_neg (show ¬ m > mid by omega)] at hlo hhi; exact ⟨hlo, hhi⟩
  have e2 : mid < m → lo = mid + m - b ∧ hi = mid := fun h => by rw [if_pos (show m > mid by omega)] at hlo hhi; exact ⟨hlo, hhi⟩
  have HE1 := Lib.hid e1
  have HE2 := Lib.hid e2
  clear hlo hhi hmid e1 e2
  obtain ⟨nn, hnn⟩ : ∃ n : Nat, n = mid + m := ⟨_, rfl⟩
  obtain ⟨p, hp⟩ : ∃ p : Nat, p = mid + m - 1 := ⟨_, rfl⟩
  have HN0 := Lib.hid (show (mid : Int) + (m : Int) = (nn : Int) by omega)
  have HN1 := Lib.hid (show (nn : Int) - 1 = (p : Int) by omega)
  have k1 : nn ≤ mid + m ∧ mid + m ≤ nn := by omega
  have k2 : nn ≤ p + 1 ∧ p + 1 ≤ nn := by omega
  have HNN := Lib.hid hnn
  have HP := Lib.hid hp
  clear hnn hp
  go_upto_region 26 with fail
  rw [HN0.out]
  go_upto_if 140 with fail
  obtain ⟨q, hq⟩ : ∃ q, decide (mid < m) = q := ⟨_, rfl⟩
  rw [hq]
  go_cut [20, 21] from 141 to 146 (fun s20 s21 wx => s20 = .int .i64 lo ∧ s21 = .int .i64 hi ∧ wx = w)
  case first =>
    cases q with
    | true =>
      have h : mid < m := of_decide_eq_true hq
      clear hq
      obtain ⟨e1, e2⟩ := HE2.out h
      have e3 : (nn : Int) - (b : Int) = ((lo : Nat) : Int) := by omega
      have E3 := Lib.hid e3
      have E4 := Lib.hid e2
      clear e1 e2 e3
      go_wp2
      go_meet
      exact ⟨by rw [← E3.out], by rw [E4.out], rfl⟩
    | false =>
      have h : ¬ mid < m := of_decide_eq_false hq
      clear hq
      obtain ⟨e1, e2⟩ := HE1.out h
      have E3 := Lib.hid e1
      have E4 := Lib.hid e2
      clear e1 e2
      go_wp2
      go_meet
      exact ⟨by rw [E3.out], by rw [E4.out], rfl⟩
  case rest =>
    obtain ⟨rfl, rfl, rfl⟩ := hcut
    clear hq
    go_wp2
    rw [HN1.out]
    go_loopg [20, 21] (hi - lo) (fun kx s10 s11 wr => ∃ (i j : Nat), s10 = .int .i64 i ∧ s11 = .int .i64 j ∧ lo ≤ i ∧ i ≤ j ∧ j ≤ hi ∧ j - i ≤ kx ∧ Aside (i = lo ∨ ltOf cf d[nn - i]! d[i - 1]! = false) ∧ Aside (j = hi ∨ ltOf cf d[p - j]! d[j]! = true) ∧ Aside (SWK encS 2 w0 blk off d wr))
    case atStart => exact ⟨lo, hi, rfl, rfl, Nat.le_refl _, by omega, Nat.le_refl _, Nat.le_refl _, .inl rfl, .inl rfl, S0⟩
    case round =>
      clear S0
      obtain ⟨i, j, rfl, rfl, hmi, hij, hjb, hkx, C1, C2, S1⟩ := hrel
      by_cases hlt : i < j
      · have hltz : (i : Int) < (j : Int) := by omega
        go_upto_region 35 with fail
        obtain ⟨h, hh⟩ : ∃ h : Nat, h = (i + j) / 2 := ⟨_, rfl⟩
        have hq : ((i : Int) + (j : Int)) / 2 = (h : Int) := by omega
        rw [hq]
        have h1 : i ≤ h := by omega
        have h2 : h < j := by omega
        have hlast : p - h < z := by omega
        have hlast2 : h ≤ p := by omega
        clear hq hh
        cases hL : ltOf cf d[p - h]! d[h]! with
        | false =>
          have N1 : Aside (h + 1 = lo ∨ ltOf cf d[nn - (h + 1)]! d[h + 1 - 1]! = false) := .inr (by rw [show nn - (h + 1) = p - h by omega]; exact hL)

          have ea : ((p : Int) - (h : Int)).toNat = p - h := by omega
          have pa : (0 : Int) ≤ (p : Int) - (h : Int) := by omega
          have ba : (p : Int) - (h : Int) < (z : Int) := by omega
          have ra : IntKind.i64.wrap ((p : Int) - (h : Int)) = (p : Int) - (h : Int) := by rw [IntKind.wrap_i64]; omega
          have ec : ((h : Int)).toNat = h := by omega
          have pc : (0 : Int) ≤ (h : Int) := by omega
          have bc : (h : Int) < (z : Int) := by omega
          have rc : IntKind.i64.wrap ((h : Int)) = (h : Int) := by rw [IntKind.wrap_i64]; omega
          obtain ⟨x0, x1⟩ := cell_g S1.out R (by omega) (i := p - h) (by omega)
          obtain ⟨y0, y1⟩ := cell_g S1.out R (by omega) (i := h) (by omega)
          have hc := cmp_g S1.out HC.out hd d[p - h]!.1 d[p - h]!.2 d[h]!.1 d[h]!.2
          have hv : ¬ cf (d[p - h]!.1, d[p - h]!.2) (d[h]!.1, d[h]!.2) < 0 := by exact of_decide_eq_false hL
          have hdv := decide_eq_false hv
          generalize cf (d[p - h]!.1, d[p - h]!.2) (d[h]!.1, d[h]!.2) = cv at hc hv hdv
          generalize d[p - h]!.1 = xa at x0 hc
          generalize d[p - h]!.2 = xb at x1 hc
          generalize d[h]!.1 = ya at y0 hc
          generalize d[h]!.2 = yb at y1 hc
          go_wp2_with fail
          go_quiet_grown (first | (go_at_fn g; refine Calls.grown_of (hc _ _)))
          have S2 : Aside (SWK encS 2 w0 blk off d (grow (wr.drewN nq) osq)) := S1.out.grown nq osq
          clear x0 x1 y0 y1 hc S1
          generalize grow (wr.drewN nq) osq = w2 at S2 ⊢
          clear nq osq
          go_wp2
          go_roundg (j - (h + 1))
          case measure => omega
          case rel => exact ⟨h + 1, j, by go_num, rfl, by omega, by omega, hjb, Nat.le_refl _, N1, C2, S2⟩
        | true =>
          have N1 : Aside (h = hi ∨ ltOf cf d[p - h]! d[h]! = true) := .inr hL
          have ea : ((p : Int) - (h : Int)).toNat = p - h := by omega
          have pa : (0 : Int) ≤ (p : Int) - (h : Int) := by omega
          have ba : (p : Int) - (h : Int) < (z : Int) := by omega
          have ra : IntKind.i64.wrap ((p : Int) - (h : Int)) = (p : Int) - (h : Int) := by rw [IntKind.wrap_i64]; omega
          have ec : ((h : Int)).toNat = h := by omega
          have pc : (0 : Int) ≤ (h : Int) := by omega
          have bc : (h : Int) < (z : Int) := by omega
          have rc : IntKind.i64.wrap ((h : Int)) = (h : Int) := by rw [IntKind.wrap_i64]; omega
          obtain ⟨x0, x1⟩ := cell_g S1.out R (by omega) (i := p - h) (by omega)
          obtain ⟨y0, y1⟩ := cell_g S1.out R (by omega) (i := h) (by omega)
          have hc := cmp_g S1.out HC.out hd d[p - h]!.1 d[p - h]!.2 d[h]!.1 d[h]!.2
          have hv : cf (d[p - h]!.1, d[p - h]!.2) (d[h]!.1, d[h]!.2) < 0 := by exact of_decide_eq_true hL
          have hdv := decide_eq_true hv
          generalize cf (d[p - h]!.1, d[p - h]!.2) (d[h]!.1, d[h]!.2) = cv at hc hv hdv
          generalize d[p - h]!.1 = xa at x0 hc
          generalize d[p - h]!.2 = xb at x1 hc
          generalize d[h]!.1 = ya at y0 hc
          generalize d[h]!.2 = yb at y1 hc
          go_wp2_with fail
          go_quiet_grown (first | (go_at_fn g; refine Calls.grown_of (hc _ _)))
          have S2 : Aside (SWK encS 2 w0 blk off d (grow (wr.drewN nq) osq)) := S1.out.grown nq osq
          clear x0 x1 y0 y1 hc S1
          generalize grow (wr.drewN nq) osq = w2 at S2 ⊢
          clear nq osq
          go_wp2
          go_roundg (h - i)
          case measure => omega
          case rel => exact ⟨i, h, rfl, rfl, by omega, by omega, by omega, Nat.le_refl _, C1, N1, S2⟩
      · obtain rfl : i = j := by omega
        have CU : Hid (Cut (ltOf cf) a m b i (mid + m - i) d) := Lib.hid (Cut.made hO ham hmb HM.out HLO.out HHI.out hmi hjb Q1.out Q2.out (HNN.out ▸ C1.out) (HP.out ▸ C2.out))
        have c1 := CU.out.asz
        have c2 := CU.out.sm
        have c3 := CU.out.me
        have c4 := CU.out.eb
        obtain ⟨en, hen⟩ : ∃ e, mid + m - i = e := ⟨_, rfl⟩
        rw [hen] at CU c3 c4
        have c5 : en + i ≤ nn ∧ nn ≤ en + i := by omega
        have ez : (nn : Int) - (i : Int) = (en : Int) := by omega
        clear C1 C2
        have EZ := Lib.hid ez
        have HEN := Lib.hid hen
        clear ez hen
        go_upto_region 39 with fail
        rw [EZ.out]
        go_cut [185] from 178 to 184 (fun s wx => s = .bool (decide (i < m ∧ m < en)) ∧ wx = wr)
        case first =>
          by_cases g1 : i < m
          · have z1 : (i : Int) < (m : Int) := by omega
            by_cases g2 : m < en
            · have z2 : (m : Int) < (en : Int) := by omega
              have GB := Lib.hid (decide_eq_true (p := i < m ∧ m < en) ⟨g1, g2⟩)
              go_wp2
              go_meet
              exact ⟨by rw [GB.out], rfl⟩
            · have z2 : ¬ (m : Int) < (en : Int) := by omega
              have GB := Lib.hid (decide_eq_false (p := i < m ∧ m < en) (fun h => g2 h.2))
              go_wp2
              go_meet
              exact ⟨by rw [GB.out], rfl⟩
          · have z1 : ¬ (i : Int) < (m : Int) := by omega
            have GB := Lib.hid (decide_eq_false (p := i < m ∧ m < en) (fun h => g1 h.1))
            go_wp2
            go_meet
            exact ⟨by rw [GB.out], rfl⟩
        case rest =>
        obtain ⟨rfl, rfl⟩ := hcut
        obtain ⟨q1, hq1⟩ : ∃ q, decide (i < m ∧ m < en) = q := ⟨_, rfl⟩
        rw [hq1]
        go_upto_if 185 with fail
        go_cut [186] from 187 to 191 (fun s wx => s = s ∧ ∃ d1, Aside (IsRot i m en d d1) ∧ Aside (PermIn a b d d1) ∧ Aside (SWK encS 2 w0 blk off d1 wx))
        case first =>
          cases q1 with
          | true =>
            have gq := of_decide_eq_true hq1
            clear hq1
            go_wp2_with fail
            refine (rotate_at g cb cap i m en d wc R (by omega) S1.out gq.1 gq.2 (by omega) (by omega) hd.symm).mono ?_
            rintro e w2 ⟨rfl, d1, h1, h2, h3⟩
            go_wp2
            go_meet
            exact ⟨trivial, d1, h1, permIn_sub h2 (by omega) (by omega) (by omega), h3⟩
          | false =>
            have gq := of_decide_eq_false hq1
            clear hq1
            go_wp2
            go_meet
            exact ⟨trivial, d, rot_none d c2 c3 (by omega), permIn_refl _ _ _, S1.out⟩
        case rest =>
        obtain ⟨_, d1, RO, PE, S2⟩ := hcut
        clear hq1 S1
        have FO : Hid (Four (ltOf cf) a i mid en b d1) := Lib.hid (Four.made hO CU.out (by have := HEN.out; omega) Q1.out Q2.out RO.out)
        have D1 : d1.size = z := by rw [RO.out.1, hd]
        go_upto_region 41 with fail
        go_cut [199] from 192 to 198 (fun s wx => s = .bool (decide (a < i ∧ i < mid)) ∧ wx = wc)
        case first =>
          by_cases g1 : a < i
          · have z1 : (a : Int) < (i : Int) := by omega
            by_cases g2 : i < mid
            · have z2 : (i : Int) < (mid : Int) := by omega
              have GB := Lib.hid (decide_eq_true (p := a < i ∧ i < mid) ⟨g1, g2⟩)
              go_wp2
              go_meet
              exact ⟨by rw [GB.out], rfl⟩
            · have z2 : ¬ (i : Int) < (mid : Int) := by omega
              have GB := Lib.hid (decide_eq_false (p := a < i ∧ i < mid) (fun h => g2 h.2))
              go_wp2
              go_meet
              exact ⟨by rw [GB.out], rfl⟩
          · have z1 : ¬ (a : Int) < (i : Int) := by omega
            have GB := Lib.hid (decide_eq_false (p := a < i ∧ i < mid) (fun h => g1 h.1))
            go_wp2
            go_meet
            exact ⟨by rw [GB.out], rfl⟩
        case rest =>
        obtain ⟨rfl, rfl⟩ := hcut
        obtain ⟨q1, hq1⟩ : ∃ q, decide (a < i ∧ i < mid) = q := ⟨_, rfl⟩
        rw [hq1]
        go_upto_if 199 with fail
        go_cut [200] from 201 to 205 (fun s wx => s = s ∧ ∃ d2, Aside (PermIn a mid d1 d2) ∧ Aside (SortedIn (ltOf cf) a mid d2) ∧ Aside (SWK encS 2 w0 blk off d2 wx))
        case first =>
          cases q1 with
          | true =>
            have gq := of_decide_eq_true hq1
            clear hq1
            have KI := Lib.hid (HI.out (a : Int) (i : Int) (mid : Int) a i mid d1 wc rfl rfl rfl (by omega) D1 S2.out gq.1 gq.2 (by omega) FO.out.r1 FO.out.r2)
            go_wp2_with fail
            refine KI.out.mono ?_
            rintro e w2 ⟨rfl, d2, h1, h2, h3⟩
            go_wp2
            go_meet
            exact ⟨trivial, d2, h1, h2, h3⟩
          | false =>
            have gq := of_decide_eq_false hq1
            clear hq1
            have e : i = a ∨ i = mid := by omega
            have SR : SortedIn (ltOf cf) a mid d1 := by
              rcases e with e | e
              · exact e ▸ FO.out.r2
              · exact e ▸ FO.out.r1
            have SR2 := Lib.hid SR
            clear e SR
            go_wp2
            go_meet
            exact ⟨trivial, d1, permIn_refl _ _ _, SR2.out, S2.out⟩
        case rest =>
        obtain ⟨_, d2, P2, T2, S3⟩ := hcut
        clear hq1 S2
        have D2 : d2.size = z := by rw [P2.out.1, D1]
        have R3 : Hid (SortedIn (ltOf cf) mid en d2) := Lib.hid (sorted_perm_out P2.out FO.out.r3 (.inr (Nat.le_refl _)))
        have R4 : Hid (SortedIn (ltOf cf) en b d2) := Lib.hid (sorted_perm_out P2.out FO.out.r4 (.inr (by omega)))
        have FIN : Hid (∀ d3, PermIn mid b d2 d3 → SortedIn (ltOf cf) mid b d3 → PermIn a b d d3 ∧ SortedIn (ltOf cf) a b d3) := Lib.hid fun d3 h1 h2 =>
          ⟨permIn_trans _ _ _ _ _ PE.out (permIn_trans _ _ _ _ _ (permIn_sub P2.out (Nat.le_refl _) (by omega) (by omega)) (permIn_sub h1 (by omega) (Nat.le_refl _) (by omega))), merge_end (by omega) FO.out.cross P2.out T2.out h1 h2⟩
        go_upto_region 43 with fail
        go_cut [213] from 206 to 212 (fun s wx => s = .bool (decide (mid < en ∧ en < b)) ∧ wx = wc)
        case first =>
          by_cases g1 : mid < en
          · have z1 : (mid : Int) < (en : Int) := by omega
            by_cases g2 : en < b
            · have z2 : (en : Int) < (b : Int) := by omega
              have GB := Lib.hid (decide_eq_true (p := mid < en ∧ en < b) ⟨g1, g2⟩)
              go_wp2
              go_meet
              exact ⟨by rw [GB.out], rfl⟩
            · have z2 : ¬ (en : Int) < (b : Int) := by omega
              have GB := Lib.hid (decide_eq_false (p := mid < en ∧ en < b) (fun h => g2 h.2))
              go_wp2
              go_meet
              exact ⟨by rw [GB.out], rfl⟩
          · have z1 : ¬ (mid : Int) < (en : Int) := by omega
            have GB := Lib.hid (decide_eq_false (p := mid < en ∧ en < b) (fun h => g1 h.1))
            go_wp2
            go_meet
            exact ⟨by rw [GB.out], rfl⟩
        case rest =>
        obtain ⟨rfl, rfl⟩ := hcut
        obtain ⟨q1, hq1⟩ : ∃ q, decide (mid < en ∧ en < b) = q := ⟨_, rfl⟩
        rw [hq1]
        cases q1 with
        | true =>
          have gq := of_decide_eq_true hq1
          clear hq1
          have KI := Lib.hid (HI.out (mid : Int) (en : Int) (b : Int) mid en b d2 wc rfl rfl rfl (by omega) D2 S3.out gq.1 gq.2 hb R3.out R4.out)
          go_wp2_with fail
          refine KI.out.mono ?_
          rintro e w2 ⟨rfl, d3, h1, h2, h3⟩
          have FF := Lib.hid (FIN.out d3 h1 h2)
          have S4 : Aside (SWK encS 2 w0 blk off d3 w2) := h3
          clear h1 h2 h3
          go_wp2
          go_end0
          exact ⟨rfl, d3, FF.out.1, FF.out.2, S4.out⟩
        | false =>
          have gq := of_decide_eq_false hq1
          clear hq1
          have e : en = mid ∨ en = b := by have := HEN.out; omega
          have SR : SortedIn (ltOf cf) mid b d2 := by
            rcases e with e | e
            · exact e ▸ R4.out
            · exact e ▸ R3.out
          have FF := Lib.hid (FIN.out d2 (permIn_refl _ _ _) SR)
          clear e SR
          go_wp2
          go_end0
          exact ⟨rfl, d2, FF.out.1, FF.out.2, S3.out⟩
theorem symMerge_any (g : Nat) (cb : Array Value) (cf : Sp → Sp → Int) (cap z : Nat) (hO : SWO (ltOf cf)) (eg : ∀ args w, (callFunc g args).run Tryz.prog w = .ok (.enter g args) w) (hcmp : CmpLays Tryz.prog g cb encS 2 cf blk off z w0)
    (R : RowK encS 2 w0 blk off d0) (hs : d0.size = z) (hsz : z < 4611686018427387904) : ∀ N, Sym g cb cf w0 blk off cap N z := by
  intro N
  induction N with
  | zero => intro A M B a m b d w _ _ _ h; omega
  | succ N ih =>
    intro A M B a m b d w eA eM eB hN hd S ham hmb hb s1 s2
    subst eA eM eB
    exact symMerge_step g cb cf cap z hO eg hcmp R hs hsz a m b (fun A M B a' m' b' d' w' h1 h2 h3 h4 => ih A M B a' m' b' d' w' h1 h2 h3 (by omega)) d w hd S ham hmb hb s1 s2
end Go.Proofs.YtgbkjdpjilldmaaGreatDoor.St
