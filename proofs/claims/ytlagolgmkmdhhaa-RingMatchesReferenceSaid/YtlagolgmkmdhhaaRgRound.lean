/- A region that draws its order in an iterator's body: loads are taken first; one operation, the call of yield, goes by the fenced walk's own law. No program is named here. -/
import Derived.OrdersIn
import Derived.OrdersHeld
import Derived.Deep.RegionHeld
import Derived.RangeFuncCalls
namespace Go.Proofs.Ytlagolgmkmdhhaa.Round
section
variable {P : Program} {ops : Array Oper} {Q : Exit → Act → World → Prop} {md : Region.Mode} {n : Nat}
theorem operWide_of {o : Oper} {a : Act} {w : World} {K K' : Act → World → Prop} (hK : ∀ a w, K a w → K' a w) (h : o.wp P a w K Q) : o.wpIn Fence.wide n P a w K' Q := by
  have h := Oper.wp_mono hK h
  refine ⟨fun _ _ => trivial, ?_⟩
  unfold Oper.wp at h
  rw [show Fence.wide.round = none from rfl, Oper.semAt_none]
  generalize (execOp a.eval o).run P w = r at *
  have nd : Fence.wide.depth.isSome = true → 1 ≤ n := fun h => by cases h
  cases r with
  | ok x w' =>
    cases x <;> simp only [Oper.upon, Oper.uponIn] at h ⊢
    case value v => exact h
    case skip => exact h
    case defer d => exact h
    case enter f args => exact ⟨nd, callsIn_wide.2 h⟩
    case row row args => exact ⟨nd, fun c cs _ => let ⟨v, w', r, s⟩ := h c cs; ⟨v, w', r, stepsIn_wide.2 s⟩⟩
  | halt x w' => cases x <;> simp only [Oper.upon, Oper.uponIn] at h ⊢ <;> exact h
theorem wpOpWide_of {i : Nat} {a : Act} {w : World} {K K' : Act → World → Prop} (hK : ∀ a w, K a w → K' a w) (hL : ¬ LetsOut Q) (h : wpOp P ops Q i K a w) : wpOpIn Fence.wide n P ops Q i K' a w := by
  unfold wpOp at h
  unfold wpOpIn
  cases ho : ops[i]? with
  | none => rw [ho] at h; exact hK _ _ h
  | some o =>
    rw [ho] at h
    simp only at h ⊢
    by_cases hw : Region.wanted o (yielded ops a.tmps) = true
    · rw [if_pos hw] at h ⊢
      rcases h with h | ⟨_, h⟩
      · exact operWide_of hK h
      · exact absurd h hL
    · rw [if_neg hw] at h ⊢
      exact ⟨fun _ _ => trivial, hK _ _ h⟩
/-- Whatever comes up goes by the plain law, and S holds behind it; operation e goes by the fenced one. -/
def anyI (n : Nat) (P : Program) (md : Region.Mode) (ops : Array Oper) (Q : Exit → Act → World → Prop) (S : World → Prop) (e : Nat) : Nat → Array Bool → Act → World → Prop
  | 0, listed, a, w => Region.ready md ops listed = [] ∧ Q .normal a w
  | fuel + 1, listed, a, w => (Region.ready md ops listed = [] → Q .normal a w) ∧
      ∀ j ∈ Region.ready md ops listed, (j ≠ e → wpOp P ops Q j (fun a' w' => (listed.getD e false = false → S w') ∧ anyI n P md ops Q S e fuel (listed.setIfInBounds j true) a' w') a w) ∧
        (j = e → wpOpIn Fence.wide n P ops Q j (fun a' w' => anyI n P md ops Q S e fuel (listed.setIfInBounds j true) a' w') a w)
variable {S : World → Prop} {e : Nat}
theorem any_of_I (hL : ¬ LetsOut Q) : ∀ (fuel : Nat) (listed : Array Bool) (a : Act) (w : World), anyI n P md ops Q S e fuel listed a w → wpAnyIn Fence.wide n P md ops Q fuel listed a w
  | 0, _, _, _, h => h
  | fuel + 1, _, _, _, h => ⟨h.1, fun j hj => by
      by_cases hje : j = e
      · exact wpOpIn_mono (fun a' w' h' => any_of_I hL fuel _ a' w' h') ((h.2 j hj).2 hje)
      · exact wpOpWide_of (fun a' w' h' => any_of_I hL fuel _ a' w' h'.2) hL ((h.2 j hj).1 hje)⟩
/-- operation e waits for operation i. -/
def waits (md : Region.Mode) (ops : Array Oper) (e i : Nat) : Bool := match ops[e]? with | some o => o.after.any fun d => Region.binds md d && d.on == i | none => true
theorem not_ready_of_waits {listed : Array Bool} {i : Nat} (hw : waits md ops e i = true) (hi : listed.getD i false = false) : e ∉ Region.ready md ops listed := by
  intro he
  obtain ⟨_, o, ho, hall⟩ := mem_ready.1 he
  unfold waits at hw
  rw [ho] at hw
  obtain ⟨k, hk, hd⟩ := Array.any_eq_true.1 hw
  simp only [Bool.and_eq_true, beq_iff_eq] at hd
  have := hall o.after[k] (Array.getElem_mem hk) hd.1
  rw [hd.2, hi] at this
  cases this
/-- what is listed, its forerunners are listed, too. -/
def Closed (md : Region.Mode) (ops : Array Oper) (listed : Array Bool) : Prop := ∀ j o, ops[j]? = some o → listed.getD j false = true → ∀ d ∈ o.after, Region.binds md d = true → listed.getD d.on false = true
def closedB (md : Region.Mode) (ops : Array Oper) (listed : Array Bool) : Bool := (List.range ops.size).all fun j => !listed.getD j false || (match ops[j]? with | some o => o.after.all fun d => !Region.binds md d || listed.getD d.on false | none => true)
theorem closed_of {listed : Array Bool} (h : closedB md ops listed = true) : Closed md ops listed := by
  intro j o ho hl d hd hb
  have hj : j < ops.size := (Array.getElem?_eq_some_iff.1 ho).1
  have h1 := List.all_eq_true.1 h j (List.mem_range.2 hj)
  rw [hl, ho] at h1
  simp only [Bool.not_true, Bool.false_or] at h1
  have h2 := Array.all_eq_true'.1 h1 d hd
  rw [hb] at h2
  simpa using h2
theorem closed_set {listed : Array Bool} {j : Nat} (h : Closed md ops listed) (hr : j ∈ Region.ready md ops listed) : Closed md ops (listed.setIfInBounds j true) := by
  intro k o ho hl d hd hb
  obtain ⟨_, oj, hoj, hal⟩ := mem_ready.1 hr
  by_cases hjk : j = k
  · subst hjk
    rw [hoj] at ho
    injection ho with ho
    subst ho
    exact getD_set_true (hal d hd hb)
  · rw [getD_set_ne false hjk] at hl
    exact getD_set_true (h k o ho hl d hd hb)
def pathB (md : Region.Mode) (ops : Array Oper) : Nat → List Nat → Nat → Bool
  | e, [], i => waits md ops e i
  | e, j :: js, i => waits md ops e j && pathB md ops j js i
theorem waits_closed {listed : Array Bool} {j i : Nat} {o : Oper} (ho : ops[j]? = some o) (h : Closed md ops listed) (hw : waits md ops j i = true) (hi : listed.getD i false = false) : listed.getD j false = false := by
  cases hj : listed.getD j false with
  | false => rfl
  | true =>
    unfold waits at hw
    rw [ho] at hw
    obtain ⟨k, hk, hd⟩ := Array.any_eq_true.1 hw
    simp only [Bool.and_eq_true, beq_iff_eq] at hd
    have := h j o ho hj o.after[k] (Array.getElem_mem hk) hd.1
    rw [hd.2, hi] at this
    cases this
theorem path_unlisted {listed : Array Bool} {i : Nat} (h : Closed md ops listed) (hi : listed.getD i false = false) (hsz : listed.size = ops.size) : ∀ (p : List Nat) (j : Nat), pathB md ops j p i = true → listed.getD j false = false := by
  intro p
  induction p with
  | nil =>
    intro j hp
    cases ho : ops[j]? with
    | none =>
      have := Array.getElem?_eq_none_iff.1 ho
      simp [Array.getElem?_eq_none (show listed.size ≤ j by omega)]
    | some o => exact waits_closed ho h hp hi
  | cons k p ih =>
    intro j hp
    unfold pathB at hp
    rw [Bool.and_eq_true] at hp
    cases ho : ops[j]? with
    | none =>
      have := Array.getElem?_eq_none_iff.1 ho
      simp [Array.getElem?_eq_none (show listed.size ≤ j by omega)]
    | some o => exact waits_closed ho h hp.1 (ih k hp.2)
theorem path_not_ready {listed : Array Bool} {i : Nat} (h : Closed md ops listed) (hi : listed.getD i false = false) (hsz : listed.size = ops.size) (p : List Nat) (hp : pathB md ops e p i = true) : e ∉ Region.ready md ops listed := by
  cases p with
  | nil => exact not_ready_of_waits hp hi
  | cons k p =>
    unfold pathB at hp
    rw [Bool.and_eq_true] at hp
    exact not_ready_of_waits hp.1 (path_unlisted h hi hsz p k hp.2)
theorem unlisted {listed : Array Bool} {i : Nat} (hr : i ∈ Region.ready md ops listed) : listed.getD i false = false := by
  have h0 := (mem_ready.1 hr).1
  rcases Nat.lt_or_ge i listed.size with h' | h'
  · simp [h'] at h0 ⊢; exact h0
  · simp [Array.getElem?_eq_none h'] at h0
theorem I_first {i : Nat} {oi : Oper} {v : Value} (hi : ops[i]? = some oi) (hsel : ∀ (j : Nat) (o : Oper) cs b, ops[j]? = some o → o.op ≠ .select cs b) (hQ : ∀ c a w, Q (.panic c) (a.put oi.dst v) w → Q (.panic c) a w) (hie : i ≠ e) :
    ∀ (fuel : Nat) (listed : Array Bool) (a : Act) (w : World), e ∉ Region.ready md ops listed → listed.getD e false = false →
      Closed md ops listed → listed.size = ops.size → (∀ l' : Array Bool, Closed md ops l' → l'.size = ops.size → l'.getD i false = false → e ∉ Region.ready md ops l') →
      (∀ j oj, ops[j]? = some oj → j ≠ i → listed.getD j true = false → (∀ d ∈ oj.after, Region.binds md d = true → d.on ≠ i) → oi.apart ops oj = true) →
      i ∈ Region.ready md ops listed → YieldsIf P ops S oi v a → S w → anyI n P md ops Q S e fuel (listed.setIfInBounds i true) (a.put oi.dst v) w → anyI n P md ops Q S e (fuel + 1) listed a w := by
  intro fuel
  induction fuel with
  | zero =>
    intro listed a w _ _ _ _ _ _ hr hy hS H
    refine ⟨fun h => (by rw [h] at hr; cases hr), fun j hj => ⟨fun _ => ?_, fun hje => ?_⟩⟩
    · by_cases hji : j = i
      · subst hji
        exact hy.wpOp hi hS ⟨fun _ => hS, H⟩
      · have := ready_mono hj hji
        rw [H.1] at this
        cases this
    · by_cases hji : j = i
      · exact absurd (hji.symm.trans hje) hie
      · have := ready_mono hj hji
        rw [H.1] at this
        cases this
  | succ fuel ih =>
    intro listed a w hne hle hcl hsz hall hfree hr hy hS H
    refine ⟨fun h => (by rw [h] at hr; cases hr), fun j hj => ⟨fun hje => ?_, fun hje => absurd (hje ▸ hj) hne⟩⟩
    by_cases hji : j = i
    · subst hji
      exact hy.wpOp hi hS ⟨fun _ => hS, H⟩
    · have h1 := (H.2 j (ready_mono hj hji)).1 hje
      obtain ⟨hjun, oj, hoj, hal⟩ := mem_ready.1 hj
      have hnot : ∀ d ∈ oj.after, Region.binds md d = true → d.on ≠ i := fun d hd hb heq => by
        have := hal d hd hb
        rw [heq, unlisted hr] at this
        cases this
      have h2 := wpOp_putIf hoj (hfree j oj hoj hji hjun hnot) (fun cs b => hsel i oi cs b hi) (fun cs b => hsel j oj cs b hoj) hQ hy h1
      have hfree' : ∀ k ok, ops[k]? = some ok → k ≠ i → (listed.setIfInBounds j true).getD k true = false → (∀ d ∈ ok.after, Region.binds md d = true → d.on ≠ i) → oi.apart ops ok = true := fun k ok hk hki hun hno => by
        refine hfree k ok hk hki ?_ hno
        by_cases hjk : j = k
        · subst hjk; exact hjun
        · rw [getD_set_ne true hjk] at hun; exact hun
      have hr' := ready_mono hr (Ne.symm hji)
      refine wpOp_mono (fun a' w' h3 => ?_) h2
      have hSw := h3.2.1 (by rw [getD_set_ne false hie]; exact hle)
      refine ⟨fun _ => hSw, ih (listed.setIfInBounds j true) a' w' (hall _ (closed_set hcl hj) (by simpa using hsz) (unlisted hr')) (by rw [getD_set_ne false hje]; exact hle) (closed_set hcl hj) (by simpa using hsz) hall hfree' hr' h3.1 hSw ?_⟩
      rw [Array.setIfInBounds_comm _ _ hji]
      exact h3.2.2
/-- take operation i first. -/
theorem I_take (i : Nat) (p : List Nat) {oi : Oper} (v : Value) {fuel : Nat} {listed : Array Bool} {a : Act} {w : World} (hi : ops[i]? = some oi) (hs : Region.noSelect ops = true) (hf : Region.free md ops listed i = true) (hr : (Region.ready md ops listed).contains i = true) (hw : pathB md ops e p i = true) (hcl : closedB md ops listed = true) (hsz : listed.size = ops.size) (hie : i ≠ e) (hle : listed.getD e false = false)
    (hQ : ∀ c a w, Q (.panic c) (a.put oi.dst v) w → Q (.panic c) a w) (hy : YieldsIf P ops S oi v a) (hS : S w) (h : anyI n P md ops Q S e fuel (listed.setIfInBounds i true) (a.put oi.dst v) w) : anyI n P md ops Q S e (fuel + 1) listed a w :=
  I_first hi (Region.noSelect_spec hs) hQ hie fuel listed a w (path_not_ready (closed_of hcl) (unlisted (by simpa using hr)) hsz p hw) hle (closed_of hcl) hsz (fun _ hc hs' hl => path_not_ready hc hl hs' p hw) (Region.free_spec hi hf) (by simpa using hr) hy hS h
/-- operation e alone may come up. -/
theorem I_call (j : Nat) {o : Oper} {fuel : Nat} {listed : Array Bool} {a : Act} {w : World} (hr : Region.ready md ops listed = [j]) (ho : ops[j]? = some o) (hje : j = e)
    (h : ∀ K : Act → World → Prop, Shut (∀ a w, anyI n P md ops Q S e fuel (listed.setIfInBounds j true) a w → K a w) → if Region.wanted o (yielded ops a.tmps) = true then Oper.wpIn Fence.wide n P o a w K Q else (∀ f, o.about P w a.eval = some f → Fence.wide.fn f) ∧ K (a.put o.dst undef) w) : anyI n P md ops Q S e (fuel + 1) listed a w := by
  refine ⟨fun h0 => (by rw [hr] at h0; cases h0), fun i hi => ⟨fun hne => ?_, fun _ => ?_⟩⟩
  · rw [hr] at hi
    obtain rfl : i = j := by simpa using hi
    exact absurd hje hne
  · rw [hr] at hi
    obtain rfl : i = j := by simpa using hi
    exact wpOpIn_step ho (fun K hK => h K hK)
/-- one plain operation alone may come up, behind operation e too. -/
theorem I_one (j : Nat) {o : Oper} {fuel : Nat} {listed : Array Bool} {a : Act} {w : World} (hr : Region.ready md ops listed = [j]) (ho : ops[j]? = some o) (hje : j ≠ e)
    (h : ∀ K : Act → World → Prop, Shut (∀ a w, (listed.getD e false = false → S w) → anyI n P md ops Q S e fuel (listed.setIfInBounds j true) a w → K a w) → if Region.wanted o (yielded ops a.tmps) = true then Oper.wp P o a w K Q else K (a.put o.dst undef) w) : anyI n P md ops Q S e (fuel + 1) listed a w := by
  refine ⟨fun h0 => (by rw [hr] at h0; cases h0), fun i hi => ⟨fun _ => ?_, fun he => ?_⟩⟩
  · rw [hr] at hi
    obtain rfl : i = j := by simpa using hi
    exact wpOp_step ho (fun K hK => h K (fun a w hS hW => hK a w ⟨hS, hW⟩))
  · rw [hr] at hi
    obtain rfl : i = j := by simpa using hi
    exact absurd he hje
theorem I_done {listed : Array Bool} {a : Act} {w : World} (hr : Region.ready md ops listed = []) (h : Q .normal a w) : ∀ fuel, anyI n P md ops Q S e fuel listed a w
  | 0 => ⟨hr, h⟩
  | _ + 1 => ⟨fun _ => h, by rw [hr]; simp⟩
/-- THE LAW. -/
theorem wpIn_region_iter (S : World → Prop) (e : Nat) {id : Nat} {a : Act} {w : World} (hm : P.follows .mixedOrders = true) (hL : ¬ LetsOut Q)
    (h : anyI n P .any ops Q S e ops.size (Array.replicate ops.size false) a w.drew) : (Code.region id ops true).wpIn Fence.wide n P Q a w :=
  wpIn_region_any hm (any_of_I hL _ _ _ _ h)
end
end Go.Proofs.Ytlagolgmkmdhhaa.Round
