/- Merged: HrCkT, HrTextM, SlRound, HrDayIt, HrOwnT. -/
import Derived.Test.YtgbkjdpjilldmaaDoorHm15
import Derived.Lib.ItoaNum
import Derived.Lib.Join
import Derived.OrdersIn
import Derived.OrdersHeld
import Derived.Deep.RegionHeld
import Derived.RangeFuncCalls
import Derived.Test.YtgbkjdpjilldmaaDoorHm3
import Derived.Test.YtgbkjdpjilldmaaDoorHm14
import Derived.Test.YtgbkjdpjilldmaaDoorHm8
import Derived.Deep.AppendSrc
/- hours: clockText. -/
namespace Go.Proofs.YtgbkjdpjilldmaaDoor.Hr
open Go.RowKit Go.Sort Go.Shelf
open Lx (B str_size str_eq)
/-- the text of a minute of a day, or of its end. -/
def ckT (m : Nat) : B := Lib.decDigits (m / 60) ++ 58 :: (if m % 60 < 10 then 48 :: Lib.decDigits (m % 60) else Lib.decDigits (m % 60))
set_option maxRecDepth 100000 in
set_option maxHeartbeats 1000000 in
theorem ckT_any (m : Nat) (hm : m ≤ 1440) (w : World) : Calls Tryd.prog 22 #[.int .i64 (m : Int)] w fun e w' => e = .returned (.string ⟨(ckT m).toArray⟩) ∧ w' = w := by
  have K1 := Lib.hid (fun w => Tryd.strconv_Itoa_small (m % 60) (by omega) w)
  have K2 := Lib.hid (fun w => Tryd.strconv_Itoa_small (m / 60) (by omega) w)
  have q1 : (m : Int) % 60 = ((m % 60 : Nat) : Int) := by omega
  have q2 : (m : Int) / 60 = ((m / 60 : Nat) : Int) := by omega
  have q3 : (m : Int).tdiv 60 = ((m / 60 : Nat) : Int) := by rw [Int.tdiv_eq_ediv_of_nonneg (by omega)]; exact q2
  have q4 : (m : Int).tmod 60 = ((m % 60 : Nat) : Int) := by rw [Int.tmod_eq_emod_of_nonneg (by omega)]; exact q1
  have hm' : (m : Int) ≤ 1440 := by omega
  obtain ⟨R, hR⟩ : ∃ R, ckT m = R := ⟨_, rfl⟩
  rw [hR]
  unfold ckT at hR
  generalize hx : m / 60 = x at *
  generalize hy : m % 60 = y at *
  have hy60 : y < 60 := by omega
  have hx60 : x ≤ 24 := by omega
  by_cases h10 : y < 10
  · rw [if_pos h10] at hR
    have HR := Lib.hid hR
    have L1 : (Lib.decDigits y).length = 1 := by rw [Lib.decDigits_one h10]; rfl
    have hs : (ByteArray.mk (Lib.decDigits y).toArray).size = 1 := by rw [str_size, L1]
    have EQ := Lib.hid (show (⟨(Lib.decDigits x).toArray⟩ : ByteArray) ++ ⟨#[58]⟩ ++ ((⟨#[48]⟩ : ByteArray) ++ ⟨(Lib.decDigits y).toArray⟩) = ⟨R.toArray⟩ from by
      apply ByteArray.ext
      rw [← hR]
      simp [ByteArray.data_append])
    clear hR hx hy
    go_enter Tryd.func22, Tryd.ntmps22
    go_wp2_with fail
    refine (K1.out w).mono ?_
    rintro e w2 ⟨rfl, rfl⟩
    generalize ByteArray.mk (Lib.decDigits y).toArray = ys at *
    go_wp2_with fail
    refine (K2.out _).mono ?_
    rintro e w2 ⟨rfl, rfl⟩
    have hsx : (ByteArray.mk (Lib.decDigits x).toArray).size ≤ 2 := by
      rw [str_size]
      by_cases hx1 : x < 10
      · rw [Lib.decDigits_one hx1]; simp
      · rw [Lib.decDigits_two hx1 (by omega)]; simp
    generalize ByteArray.mk (Lib.decDigits x).toArray = xs at *
    have h3 : (xs ++ ⟨#[58]⟩).size = xs.size + 1 := by rw [ByteArray.size_append]; rfl
    have h4 : ((⟨#[48]⟩ : ByteArray) ++ ys).size = 1 + ys.size := by rw [ByteArray.size_append]; rfl
    go_wp2
    go_ret
    exact ⟨congrArg (fun z => Ending.returned (.string z)) EQ.out, rfl⟩
  · rw [if_neg h10] at hR
    have HR := Lib.hid hR
    have L1 : (Lib.decDigits y).length = 2 := by rw [Lib.decDigits_two h10 (by omega)]; rfl
    have hs : (ByteArray.mk (Lib.decDigits y).toArray).size = 2 := by rw [str_size, L1]
    have EQ := Lib.hid (show (⟨(Lib.decDigits x).toArray⟩ : ByteArray) ++ ⟨#[58]⟩ ++ ⟨(Lib.decDigits y).toArray⟩ = ⟨R.toArray⟩ from by
      apply ByteArray.ext
      rw [← hR]
      simp [ByteArray.data_append])
    clear hR hx hy
    go_enter Tryd.func22, Tryd.ntmps22
    go_wp2_with fail
    refine (K1.out w).mono ?_
    rintro e w2 ⟨rfl, rfl⟩
    generalize ByteArray.mk (Lib.decDigits y).toArray = ys at *
    go_wp2_with fail
    refine (K2.out _).mono ?_
    rintro e w2 ⟨rfl, rfl⟩
    have hsx : (ByteArray.mk (Lib.decDigits x).toArray).size ≤ 2 := by
      rw [str_size]
      by_cases hx1 : x < 10
      · rw [Lib.decDigits_one hx1]; simp
      · rw [Lib.decDigits_two hx1 (by omega)]; simp
    generalize ByteArray.mk (Lib.decDigits x).toArray = xs at *
    have h3 : (xs ++ ⟨#[58]⟩).size = xs.size + 1 := by rw [ByteArray.size_append]; rfl
    have h4 : ((⟨#[48]⟩ : ByteArray) ++ ys).size = 1 + ys.size := by rw [ByteArray.size_append]; rfl
    go_wp2
    go_ret
    exact ⟨congrArg (fun z => Ending.returned (.string z)) EQ.out, rfl⟩
end Go.Proofs.YtgbkjdpjilldmaaDoor.Hr
/- Plain: the text of spans. -/
namespace Go.Proofs.YtgbkjdpjilldmaaDoor.Hr
open Lx (B)
/-- a minute of a day in digits. -/
def d1 (n : Nat) : UInt8 := UInt8.ofNat (48 + n)
def ckD (m : Nat) : B := (if m / 60 < 10 then [d1 (m / 60)] else [d1 (m / 60 / 10), d1 (m / 60 % 10)]) ++ [58, d1 (m % 60 / 10), d1 (m % 60 % 10)]
theorem ckT_eq (m : Nat) (h : m ≤ 1440) : ckT m = ckD m := by
  unfold ckT ckD d1
  have e1 : Lib.decDigits (m / 60) = if m / 60 < 10 then [UInt8.ofNat (48 + m / 60)] else [UInt8.ofNat (48 + m / 60 / 10), UInt8.ofNat (48 + m / 60 % 10)] := by
    split
    · rename_i h1; exact Lib.decDigits_one h1
    · rename_i h1; exact Lib.decDigits_two h1 (by omega)
  rw [e1]
  congr 1
  split
  · rename_i h1
    rw [Lib.decDigits_one h1, show m % 60 / 10 = 0 by omega, show m % 60 % 10 = m % 60 by omega]
    rfl
  · rename_i h1
    rw [Lib.decDigits_two h1 (by omega)]
theorem ckD_len (m : Nat) : (ckD m).length ≤ 5 := by
  unfold ckD
  split <;> simp
/-- of how many days a span has minutes, and those of each. -/
def nD (f t : Nat) : Nat := (t - 1) / 1440 + 1 - f / 1440
def frm (f k : Nat) : Nat := max f ((f / 1440 + k) * 1440)
def too (f t k : Nat) : Nat := min t ((f / 1440 + k + 1) * 1440)
def part1 (d a b : Nat) : B := dayB d ++ 32 :: (ckD a ++ 45 :: ckD b)
def dyN (f k : Nat) : Nat := f / 1440 + k
def loN (f t k : Nat) : Nat := min t (frm f k) - (f / 1440 + k) * 1440
def hiN (f t k : Nat) : Nat := too f t k - (f / 1440 + k) * 1440
def partT (f t k : Nat) : B := part1 (dyN f k) (loN f t k) (hiN f t k)
theorem day_ok {f t k : Nat} (h1 : f < t) (h2 : t ≤ 10080) (hk : k < nD f t) : dyN f k < 7 ∧ loN f t k < hiN f t k ∧ hiN f t k ≤ 1440 ∧ dyN f k * 1440 + loN f t k = frm f k ∧ dyN f k * 1440 + hiN f t k = too f t k := by
  unfold nD at hk
  unfold dyN loN hiN frm too
  omega
def timesS (s : Sq) : List B := (List.range (nD s.1.toNat s.2.toNat)).map (partT s.1.toNat s.2.toNat)
def timesL (l : List Sq) : List B := l.flatMap timesS
def textL (l : List Sq) : B := Lib.join (timesL l) [44, 32]
def neverB : B := [110, 101, 118, 101, 114]
def alwaysB : B := [97, 108, 119, 97, 121, 115]
def textW (l : List Sq) : B × Int :=
  if vldS l = true then
    if 60 < l.length then ([], 2)
    else if l = [] then (neverB, 0)
    else if (l.headD (0, 0)).2 - (l.headD (0, 0)).1 = 10080 then (alwaysB, 0)
    else (textL l, 0)
  else ([], 1)
end Go.Proofs.YtgbkjdpjilldmaaDoor.Hr
/- A region that draws its order, in a round of a range over a function, at the fence that asks nothing: by the plain walk's own law on loads that are taken first. No program is named here. -/
namespace Go.Proofs.YtgbkjdpjilldmaaDoor.Round
section
variable {P : Program} {ops : Array Oper} {Q : Exit → Act → World → Prop} {md : Region.Mode} {l n : Nat}
theorem operIn_of {o : Oper} {a : Act} {w : World} {K K' : Act → World → Prop} (hK : ∀ a w, K a w → K' a w) (hd : ∀ c, o.op ≠ .defer c) (h : o.wp P a w K Q) : o.wpIn (Fence.wide.inRound l) n P a w K' Q := by
  have h := Oper.wp_mono hK h
  refine ⟨fun _ _ => trivial, ?_⟩
  unfold Oper.wp at h
  rw [Oper.semAt_eq _ _ _ hd]
  generalize (execOp a.eval o).run P w = r at *
  have nd : (Fence.wide.inRound l).depth.isSome = true → 1 ≤ n := fun h => by cases h
  cases r with
  | ok x w' =>
    cases x <;> simp only [Oper.upon, Oper.uponIn] at h ⊢
    case value v => exact h
    case skip => exact h
    case defer d => exact h
    case enter f args => exact ⟨nd, CallsIn.inRound l (callsIn_wide.2 h)⟩
    case row row args => exact ⟨nd, fun c cs _ => let ⟨v, w', r, s⟩ := h c cs; ⟨v, w', r, stepsIn_wide.2 s⟩⟩
  | halt x w' => cases x <;> simp only [Oper.upon, Oper.uponIn] at h ⊢ <;> exact h
theorem wpOpIn_of {i : Nat} {a : Act} {w : World} {K K' : Act → World → Prop} (hK : ∀ a w, K a w → K' a w) (hd : ∀ o ∈ ops, ∀ c, o.op ≠ .defer c) (hL : ¬ LetsOut Q) (h : wpOp P ops Q i K a w) : wpOpIn (Fence.wide.inRound l) n P ops Q i K' a w := by
  unfold wpOp at h
  unfold wpOpIn
  cases ho : ops[i]? with
  | none => rw [ho] at h; exact hK _ _ h
  | some o =>
    rw [ho] at h
    simp only at h ⊢
    by_cases hw : Region.wanted o (yielded ops a.tmps) = true
    · rw [if_pos hw] at h ⊢
      rcases h with h | ⟨_, h⟩
      · exact operIn_of hK (hd o (Array.mem_of_getElem? ho)) h
      · exact absurd h hL
    · rw [if_neg hw] at h ⊢
      exact ⟨fun _ _ => trivial, hK _ _ h⟩
theorem wpAnyIn_of (hd : ∀ o ∈ ops, ∀ c, o.op ≠ .defer c) (hL : ¬ LetsOut Q) : ∀ (fuel : Nat) (listed : Array Bool) (a : Act) (w : World), wpAny P md ops Q fuel listed a w → wpAnyIn (Fence.wide.inRound l) n P md ops Q fuel listed a w
  | 0, _, _, _, h => h
  | fuel + 1, _, _, _, h => ⟨h.1, fun i hi => wpOpIn_of (fun a' w' h' => wpAnyIn_of hd hL fuel _ a' w' h') hd hL (h.2 i hi)⟩
theorem no_defer (h : (ops.all fun o => match o.op with | .defer _ => false | _ => true) = true) : ∀ o ∈ ops, ∀ c, o.op ≠ .defer c := by
  intro o ho c e
  have := Array.all_eq_true'.1 h o ho
  rw [e] at this
  cases this
/-- Whatever comes up, S holds behind it, but behind operation e. -/
def anyE (P : Program) (md : Region.Mode) (ops : Array Oper) (Q : Exit → Act → World → Prop) (S : World → Prop) (e : Nat) : Nat → Array Bool → Act → World → Prop
  | 0, listed, a, w => Region.ready md ops listed = [] ∧ Q .normal a w
  | fuel + 1, listed, a, w => (Region.ready md ops listed = [] → Q .normal a w) ∧
      ∀ j ∈ Region.ready md ops listed, wpOp P ops Q j (fun a' w' => (j ≠ e → S w') ∧ anyE P md ops Q S e fuel (listed.setIfInBounds j true) a' w') a w
variable {S : World → Prop} {e : Nat}
theorem any_of_E : ∀ (fuel : Nat) (listed : Array Bool) (a : Act) (w : World), anyE P md ops Q S e fuel listed a w → wpAny P md ops Q fuel listed a w
  | 0, _, _, _, h => h
  | fuel + 1, _, _, _, h => ⟨h.1, fun j hj => wpOp_mono (fun a' w' h' => any_of_E fuel _ a' w' h'.2) (h.2 j hj)⟩
/-- operation e waits for operation i. -/
def waits (md : Region.Mode) (ops : Array Oper) (e i : Nat) : Bool := match ops[e]? with | some o => o.after.any fun d => Region.binds md d && d.on == i | none => true
theorem not_ready_of_waits {listed : Array Bool} {i : Nat} (hw : waits md ops e i = true) (hi : listed.getD i false = false) : e ∉ Region.ready md ops listed := by
  intro he
  obtain ⟨_, o, ho, hall⟩ := mem_ready.1 he
  unfold waits at hw
  rw [ho] at hw
  obtain ⟨k, hk, hd⟩ := Array.any_eq_true.1 hw
  simp only [Bool.and_eq_true, beq_iff_eq] at hd
  have := hall o.after[k] (Array.getElem_mem hk) hd.1
  rw [hd.2, hi] at this
  cases this
theorem unlisted {listed : Array Bool} {i : Nat} (hr : i ∈ Region.ready md ops listed) : listed.getD i false = false := by
  have h0 := (mem_ready.1 hr).1
  rcases Nat.lt_or_ge i listed.size with h' | h'
  · simp [h'] at h0 ⊢; exact h0
  · simp [Array.getElem?_eq_none h'] at h0
theorem E_first {i : Nat} {oi : Oper} {v : Value} (hi : ops[i]? = some oi) (hsel : ∀ (j : Nat) (o : Oper) cs b, ops[j]? = some o → o.op ≠ .select cs b) (hQ : ∀ c a w, Q (.panic c) (a.put oi.dst v) w → Q (.panic c) a w) (hw : waits md ops e i = true) :
    ∀ (fuel : Nat) (listed : Array Bool) (a : Act) (w : World),
      (∀ j oj, ops[j]? = some oj → j ≠ i → listed.getD j true = false → (∀ d ∈ oj.after, Region.binds md d = true → d.on ≠ i) → oi.apart ops oj = true) →
      i ∈ Region.ready md ops listed → YieldsIf P ops S oi v a → S w → anyE P md ops Q S e fuel (listed.setIfInBounds i true) (a.put oi.dst v) w → anyE P md ops Q S e (fuel + 1) listed a w := by
  intro fuel
  induction fuel with
  | zero =>
    intro listed a w _ hr hy hS H
    refine ⟨fun h => (by rw [h] at hr; cases hr), fun j hj => ?_⟩
    by_cases hji : j = i
    · subst hji
      exact hy.wpOp hi hS ⟨fun _ => hS, H⟩
    · have := ready_mono hj hji
      rw [H.1] at this
      cases this
  | succ fuel ih =>
    intro listed a w hfree hr hy hS H
    refine ⟨fun h => (by rw [h] at hr; cases hr), fun j hj => ?_⟩
    by_cases hji : j = i
    · subst hji
      exact hy.wpOp hi hS ⟨fun _ => hS, H⟩
    · have hje : j ≠ e := fun h => not_ready_of_waits hw (unlisted hr) (h ▸ hj)
      have h1 := H.2 j (ready_mono hj hji)
      obtain ⟨hjun, oj, hoj, hall⟩ := mem_ready.1 hj
      have hnot : ∀ d ∈ oj.after, Region.binds md d = true → d.on ≠ i := fun d hd hb heq => by
        have := hall d hd hb
        rw [heq, unlisted hr] at this
        cases this
      have h2 := wpOp_putIf hoj (hfree j oj hoj hji hjun hnot) (fun cs b => hsel i oi cs b hi) (fun cs b => hsel j oj cs b hoj) hQ hy h1
      have hfree' : ∀ k ok, ops[k]? = some ok → k ≠ i → (listed.setIfInBounds j true).getD k true = false → (∀ d ∈ ok.after, Region.binds md d = true → d.on ≠ i) → oi.apart ops ok = true := fun k ok hk hki hun hno => by
        refine hfree k ok hk hki ?_ hno
        by_cases hjk : j = k
        · subst hjk; exact hjun
        · rw [getD_set_ne true hjk] at hun; exact hun
      refine wpOp_mono (fun a' w' h3 => ⟨h3.2.1, ih (listed.setIfInBounds j true) a' w' hfree' (ready_mono hr (Ne.symm hji)) h3.1 (h3.2.1 hje) ?_⟩) h2
      rw [Array.setIfInBounds_comm _ _ hji]
      exact h3.2.2
/-- take operation i first. -/
theorem E_take (i : Nat) {oi : Oper} (v : Value) {fuel : Nat} {listed : Array Bool} {a : Act} {w : World} (hi : ops[i]? = some oi) (hs : Region.noSelect ops = true) (hf : Region.free md ops listed i = true) (hr : (Region.ready md ops listed).contains i = true) (hw : waits md ops e i = true)
    (hQ : ∀ c a w, Q (.panic c) (a.put oi.dst v) w → Q (.panic c) a w) (hy : YieldsIf P ops S oi v a) (hS : S w) (h : anyE P md ops Q S e fuel (listed.setIfInBounds i true) (a.put oi.dst v) w) : anyE P md ops Q S e (fuel + 1) listed a w :=
  E_first hi (Region.noSelect_spec hs) hQ hw fuel listed a w (Region.free_spec hi hf) (by simpa using hr) hy hS h
/-- one operation alone may come up. -/
theorem E_one (j : Nat) {o : Oper} {fuel : Nat} {listed : Array Bool} {a : Act} {w : World} (hr : Region.ready md ops listed = [j]) (ho : ops[j]? = some o)
    (h : ∀ K : Act → World → Prop, Shut (∀ a w, (j ≠ e → S w) → anyE P md ops Q S e fuel (listed.setIfInBounds j true) a w → K a w) → if Region.wanted o (yielded ops a.tmps) = true then Oper.wp P o a w K Q else K (a.put o.dst undef) w) : anyE P md ops Q S e (fuel + 1) listed a w := by
  refine ⟨fun h0 => (by rw [hr] at h0; cases h0), fun i hi => ?_⟩
  rw [hr] at hi
  obtain rfl : i = j := by simpa using hi
  exact wpOp_step ho (fun K hK => h K (fun a w hS hW => hK a w ⟨hS, hW⟩))
theorem E_done {listed : Array Bool} {a : Act} {w : World} (hr : Region.ready md ops listed = []) (h : Q .normal a w) : ∀ fuel, anyE P md ops Q S e fuel listed a w
  | 0 => ⟨hr, h⟩
  | _ + 1 => ⟨fun _ => h, by rw [hr]; simp⟩
/-- THE LAW: at a goal of a region that draws, in a round; S is not asked behind operation e. -/
theorem wpIn_region_round (S : World → Prop) (e : Nat) {id : Nat} {a : Act} {w : World} (hm : P.follows .mixedOrders = true) (hd : (ops.all fun o => match o.op with | .defer _ => false | _ => true) = true) (hL : ¬ LetsOut Q)
    (h : anyE P .any ops Q S e ops.size (Array.replicate ops.size false) a w.drew) : (Code.region id ops true).wpIn (Fence.wide.inRound l) n P Q a w :=
  wpIn_region_any hm (wpAnyIn_of (no_defer hd) hL _ _ _ _ (any_of_E _ _ _ _ h))
/-- the same where no round is. -/
theorem wp_region_E (S : World → Prop) (e : Nat) {id : Nat} {a : Act} {w : World} (hm : P.follows .mixedOrders = true)
    (h : anyE P .any ops Q S e ops.size (Array.replicate ops.size false) a w.drew) : (Code.region id ops true).wp P Q a w :=
  wp_region_any hm (any_of_E _ _ _ _ h)
end
end Go.Proofs.YtgbkjdpjilldmaaDoor.Round
/- hours: byDay. -/
namespace Go.Proofs.YtgbkjdpjilldmaaDoor.Hr
open Go.RowKit Go.Sort Go.Shelf
open Lx (IsRow alloc1 drew_below keeps_of_below)
attribute [local go_sem] Oper.semAt_some
/-- what the body of a loop over the days keeps: spans. -/
def KpS (W W' : World) : Prop := W.heap.size ≤ W'.heap.size ∧ ∀ (k : Nat) (cs : Array Value) (f : Nat × Nat), W.heap[k]? = some (.cells cs 40 f) → W'.heap[k]? = some (.cells cs 40 f)
section
variable {W W' W'' : World}
theorem KpS.refl (W : World) : KpS W W := ⟨Nat.le_refl _, fun _ _ _ h => h⟩
theorem KpS.trans (h : KpS W W') (k : KpS W' W'') : KpS W W'' := ⟨Nat.le_trans h.1 k.1, fun _ _ _ hc => k.2 _ _ _ (h.2 _ _ _ hc)⟩
theorem KpS.of_below (h : Below W.heap.size W W') : KpS W W' := ⟨h.size, fun i _ _ hc => (h.block i (Array.getElem?_eq_some_iff.1 hc).1).trans hc⟩
theorem KpS.grown {row : Option Nat} (hg : W.grownBy W' row) (hr : ∀ k, row = some k → ∃ cs t, t ≠ 40 ∧ IsRow W k t cs) : KpS W W' :=
  ⟨hg.size, fun i cs f hc => (hg.block i (Array.getElem?_eq_some_iff.1 hc).1 (fun e => by
    obtain ⟨cs', t', h1, h3⟩ := hr i e.symm
    rw [show W.heap[i]? = _ from h3] at hc
    injection hc with hc
    injection hc with _ e2 _
    exact h1 e2)).trans hc⟩
theorem KpS.row {g : Nat} {cs : Array Value} (h : KpS W W') (hr : IsRow W g 40 cs) : IsRow W' g 40 cs := h.2 g cs (0, 0) hr
theorem kpS_b {w : World} (W : World) (l : Nat) (o o' : Obj) (_ : w.heap.size ≤ l) (h : W.heap[l]? = some o) (hc : o.isCells = false) (_ : o.isWalk = false) : KpS W (W.putObj l o') := by
  have hg := grownBy_putObj' W l o'
  refine ⟨hg.size, fun i cs f hi => ?_⟩
  refine (hg.block i (Array.getElem?_eq_some_iff.1 hi).1 (fun e => ?_)).trans hi
  injection e with e
  subst e
  rw [h] at hi
  injection hi with hi
  subst hi
  cases hc
end
def upto (n k : Nat) : List (Fin n) := (List.finRange n).take k
theorem upto_succ (n k : Nat) (hk : k < n) : upto n (k + 1) = upto n k ++ [⟨k, hk⟩] := by
  unfold upto
  rw [List.take_succ_eq_append_getElem (by simpa using hk)]
  simp
theorem upto_len (n k : Nat) (hk : k ≤ n) : (upto n k).length = k := by simp [upto]; omega
theorem upto_full (n : Nat) : upto n n = List.finRange n := List.take_of_length_le (by simp)
set_option maxRecDepth 100000 in
set_option maxHeartbeats 1000000 in
theorem byday_any (f t : Int) (w : World) : Calls Tryd.prog 21 #[.agg #[.int .i64 f, .int .i64 t]] w fun e w' => e = .returned (.func (.func 28) #[] #[.pointer (some ⟨w.heap.size, 0, none⟩)]) ∧ w.alloc (.cells #[.int .i64 f, .int .i64 t] 40) = w' := by
  go_enter Tryd.func21, Tryd.ntmps21
  go_wp2
  go_ret
  exact ⟨rfl, rfl⟩
/-- what the iterator hands to a round. -/
abbrev encD (f t : Nat) {q : Nat} (k : Fin q) : Array Value := #[.int .i64 (dyN f k.val : Int), .agg #[.int .i64 (loN f t k.val : Int), .int .i64 (hiN f t k.val : Int)]]
set_option maxRecDepth 100000 in
set_option maxHeartbeats 2000000 in
theorem byday_stops (m : Nat) (hm : 1 ≤ m) (b f t q : Nat) (hq : nD f t = q) (w : World) (h1 : IsRow w b 40 #[.int .i64 (f : Int), .int .i64 (t : Int)]) (hft : f < t) (ht : t ≤ 10080) :
    SeqStopsK Fence.wide m Tryd.prog 28 #[.pointer (some ⟨b, 0, none⟩)] (encD f t) KpS (fun xs => xs = List.finRange q) (fun _ => True) q w := fun y J Jx W hW hJ hJx hY h0 => by
  have R1 : IsRow W b 40 #[.int .i64 (f : Int), .int .i64 (t : Int)] := h1.below hW h1.inside
  have H0 := Lib.hid (show J (upto q 0) W from h0)
  have HR1 := Lib.hid R1
  have c0 := R1.get 0
  have ht' : (t : Int) ≤ 10080 := by omega
  have HQ := Lib.hid hq
  clear R1 h1 hW h0 hq
  refine callsIn_of_wp Tryd.func28 rfl trivial ?_ rfl
  simp only [Tryd.ntmps28, List.size_toArray, List.length_cons, List.length_nil, Nat.reduceAdd, Nat.reduceSub, Array.replicate_succ, Array.replicate_zero, List.push_toArray, List.append_toArray, List.nil_append, List.cons_append]
  gi_wp2
  clear c0
  gi_loopw [3] (fun s wr => ∃ k : Nat, k ≤ q ∧ s = .int .i64 ((min t (frm f k) : Nat) : Int) ∧ Hid (KpS W wr) ∧ Hid (J (upto q k) wr)) (fun s _ => (t - intOf s).toNat)
  case atStart => exact ⟨0, by omega, by unfold frm; congr 2; omega, Lib.hid (KpS.refl _), H0⟩
  case round =>
    obtain ⟨k, hk, rfl, hb, hJs⟩ := hrel
    have c0 := (hb.out.row HR1.out).get 0
    have d0 := (hb.out.row HR1.out).get 1
    by_cases hlt : k < q
    · have hh := HQ.out
      unfold nD at hh
      obtain ⟨d, hd⟩ : ∃ d, f / 1440 + k = d := ⟨_, rfl⟩
      obtain ⟨c, hc⟩ : ∃ c, min t (frm f k) = c := ⟨_, rfl⟩
      obtain ⟨e, he⟩ : ∃ e, too f t k = e := ⟨_, rfl⟩
      have fc : c < t ∧ d * 1440 ≤ c ∧ c < d * 1440 + 1440 ∧ c < e ∧ e ≤ t ∧ e = min t (d * 1440 + 1440) := by
        unfold frm at hc
        unfold too at he
        omega
      have hn : min t (frm f (k + 1)) = e := by
        unfold frm
        unfold too at he
        omega
      obtain ⟨f1, f2, f3, f4, f5, f6⟩ := fc
      have i1 : (c : Int) < (t : Int) := by omega
      have i2 : (c : Int) / 1440 = (d : Int) := by omega
      have i3 : (c : Int).tdiv 1440 = (d : Int) := by rw [Int.tdiv_eq_ediv_of_nonneg (by omega)]; exact i2
      have i4 : (d : Int) ≤ 7 := by omega
      have i5 : min (t : Int) ((d : Int) * 1440 + 1440) = (e : Int) := by omega
      have i6 : (e : Int) ≤ 10080 := by omega
      have HF := Lib.hid (And.intro f4 hn)
      have HST := Lib.hid (show upto q (k + 1) = upto q k ++ [⟨k, hlt⟩] from upto_succ q k hlt)
      obtain ⟨fn, tmps, assign, body, hy, hR⟩ := hY (upto q k) ⟨k, hlt⟩ wr hJs.out (by rw [upto_len q k hk]; exact hlt)
      dsimp only [encD] at hy
      have g1 : (dyN f k : Int) = (d : Int) := by unfold dyN; rw [hd]
      have g2 : (loN f t k : Int) = (c : Int) - (d : Int) * 1440 := by unfold loN; rw [hd, hc]; omega
      have g3 : (hiN f t k : Int) = (e : Int) - (d : Int) * 1440 := by unfold hiN; rw [hd, he]; omega
      rw [g1, g2, g3] at hy
      clear g1 g2 g3
      rw [hc]
      clear f2 f3 f4 f5 f6 hn hd hc he hh hY
      gi_wp2_with fail
      refine hR.mono ?_
      rintro x W3 (⟨rfl, hJ3, hK3⟩ | ⟨rfl, hJx3⟩)
      · have HK3 := Lib.hid (hb.out.trans hK3)
        have HJ3 := Lib.hid hJ3
        rw [← HST.out] at HJ3
        clear hJ3 hK3 hR hy c0 d0 hb hJs hJ hJx
        gi_wp2
        go_roundw
        case rel => exact ⟨k + 1, by omega, by rw [HF.out.2], HK3, HJ3⟩
        case measure => have := HF.out.1; simp [intOf]; omega
      · clear hR hy c0 d0
        gi_wp2
        refine bodyPost_ret (results_none rfl _ _ _) rfl ?_
        exact ⟨⟨_, rfl⟩, .inr ⟨_, trivial, hJx3⟩⟩
    · obtain rfl : k = q := by omega
      have hh : min t (frm f k) = t := by
        have := HQ.out
        unfold nD at this
        unfold frm
        omega
      rw [hh]
      have hlt2 : ¬ (t : Int) < (t : Int) := by omega
      have HJ := Lib.hid hJs.out
      rw [upto_full] at HJ
      clear hJs hJ hJx hY
      gi_wp2
      go_end0
      exact ⟨⟨_, rfl⟩, .inl HJ.out⟩
end Go.Proofs.YtgbkjdpjilldmaaDoor.Hr
/- hours: owned lists of texts; append of one. -/
namespace Go.Proofs.YtgbkjdpjilldmaaDoor.Hr
open Go.RowKit Go.Sort Go.Shelf
open Lx (IsRow alloc1 B)
def encT (y : B) : List Value := [.string ⟨y.toArray⟩]
theorem encT_len (y : B) : (encT y).length = 1 := rfl
theorem encT_one (y : B) : ∀ u ∈ encT y, u.oneCell' = true := by intro u hu; simp [encT] at hu; subst hu; rfl
abbrev OwnT (w : World) (base : Nat) (v : Value) (l : List B) : Prop := Own encT 1 9 w base v l
theorem OwnT.nil (w : World) (base : Nat) : OwnT w base (.slice none 0 0) [] := World.ownsRow_nil w base _ _
theorem str_info : (Tryd.prog.info? 9).map (fun i => (i.size, i.bytes, i.zero)) = some (1, 16, some (.string ⟨#[]⟩)) := by kernel_rfl
theorem OwnT.row {w : World} {base : Nat} {v : Value} {l : List B} (h : OwnT w base v l) : ∀ k, v.ownBlock = some k → ∃ cs t, t ≠ 40 ∧ IsRow w k t cs := by
  intro k hk
  obtain ⟨_, ⟨rfl, _⟩ | ⟨g, cap, cur, rfl, hb, hg, _⟩⟩ := h
  · cases hk
  · injection hk with hk
    subst hk
    exact ⟨cur, _, by decide, hg⟩
theorem OwnT.ne {w : World} {base : Nat} {v : Value} {l : List B} (h : OwnT w base v l) {g : Nat} {t : TypeId} {cs : Array Value} (hr : IsRow w g t cs) (ht : t ≠ 9) : v.ownBlock ≠ some g := fun e => by
  obtain ⟨_, ⟨rfl, _⟩ | ⟨g', cap, cur, rfl, hb, hg, _⟩⟩ := h
  · cases e
  · injection e with e
    subst e
    rw [show w.heap[g']? = some (.cells cs t (0, 0)) from hr] at hg
    injection hg with hg
    injection hg with _ e2 _
    exact ht e2
theorem ownT_awayH {B' : Nat} {W W' : World} {base : Nat} {v : Value} {l : List B} (h : OwnT W base v l) (ha : AwayH B' W W') : OwnT W' base v l := by
  obtain ⟨row, hg, hr⟩ := ha
  refine Own.kept h hg ?_
  cases hv : v.ownBlock with
  | none => exact .inl rfl
  | some g =>
    refine .inr fun e => ?_
    obtain ⟨_, o, ho, hc⟩ := hr g e.symm
    obtain ⟨cs, t, _, h1⟩ := OwnT.row h g hv
    rw [show W.heap[g]? = some (.cells cs t (0, 0)) from h1] at ho
    injection ho with ho
    subst ho
    cases hc
section
variable {ops : Array Oper} {o : Oper} {a : Act} {Q : Exit → Act → World → Prop} {w : World}
theorem step_appT {K : Act → World → Prop} {E : Prop} (hgd : o.guard = none) (s x : Operand) (ho : o.op = .call { callee := .builtin .append, args := #[s, x], argTypes := #[49, 49] }) (base : Nat) (v : Value) (l : List B) (y : B) (H : Nat)
    (hs : a.eval s = v) (hown : OwnT w base v l) (hx : a.eval x = .slice (some ⟨H, 0, none⟩) 1 1) (hrow : w.heap[H]? = some (.cells (encT y).toArray 9 (0, 0))) (hlen : l.length ≤ 100000) (hbase : base ≤ w.heap.size)
    (h : ∀ g cap w', OwnT w' base (.slice (some ⟨g, 0, none⟩) (l.length + 1) cap) (l ++ [y]) → w.grownBy w' v.ownBlock → (∀ k, v.ownBlock = some k → base ≤ k ∧ k < w.heap.size) →
      K (a.put o.dst (.slice (some ⟨g, 0, none⟩) (l.length + 1) cap)) w') : if Region.wanted o (yielded ops a.tmps) = true then Oper.wp Tryd.prog o a w K Q else E := by
  obtain ⟨i0, hi, hz0, hz1, hz2⟩ := info_of str_info
  refine step_append_lies (P := Tryd.prog) w hgd s x _ ho base 9 i0 _ 1 16 Tryd.underlying49 hi hz2 hz0 hz1 rfl (by decide) v l.length (l.flatMap encT) hs hown _ 1 1 (encT y) hx rfl (World.news_of_block hrow) (encT_one y) (by decide) (by unfold maxLen; omega) (by omega) hbase w.heap.size rfl ?_
  intro g cap w1 h1 h2 _ _
  refine h g cap w1 ?_ h2 hown.lt
  show World.ownsRow _ _ _ _ _ (l ++ [y]).length ((l ++ [y]).flatMap encT)
  rw [List.flatMap_append, List.length_append]
  exact h1
end
end Go.Proofs.YtgbkjdpjilldmaaDoor.Hr
