/- Merged: HrSl, HrGapM, HrPartM. -/
import Derived.Test.YtgbkjdpjilldmaaDoorHm22
import Derived.Test.YtgbkjdpjilldmaaDoorHm19
/- hours: the calls of the laws of sets, as slices. -/
namespace Go.Proofs.YtgbkjdpjilldmaaDoor.Hr
open Go.RowKit Go.Sort Go.Shelf
open St (Sp)
/-- a slice is answered that reads as a list. -/
def SlP (w : World) (L : List Sp) (x : Ending) (w' : World) : Prop := (∃ p cap, x = .returned (.slice p L.length cap) ∧ L.length ≤ cap ∧ SpT w' w'.heap.size p L) ∧ Below w.heap.size w w'
theorem SlP.of {w w' : World} {L : List Sp} {x : Ending} (h : (∃ v, x = .returned v ∧ OwnS w' w.heap.size v L) ∧ Below w.heap.size w w') : SlP w L x w' := by
  obtain ⟨⟨v, rfl, ov⟩, b⟩ := h
  obtain ⟨p, c, hv, hc, _, _, t⟩ := spt_of ov
  exact ⟨⟨p, c, by rw [hv], hc, t⟩, b⟩
variable {w : World} {a b : List Sp} {p q : Option Addr} {c d : Nat}
theorem notS (R : List Sp) (hR : notL a = R) (hv : Val a) (ha : SpT w w.heap.size p a) (hc : a.length ≤ c) (h : a.length ≤ 900) : Calls Tryd.prog 16 #[.slice p a.length c] w (SlP w R) := by
  refine (not_any p a.length c a w rfl ha hc (by omega)).mono fun x w' hx => ?_
  rw [not_is hv, hR] at hx
  exact SlP.of hx
theorem eitherS (R : List Sp) (hR : orL a b = R) (hv : Val a) (hw : Val b) (ha : SpT w w.heap.size p a) (hb : SpT w w.heap.size q b) (hc : a.length ≤ c) (hd : b.length ≤ d) (h : a.length ≤ 900) (k : b.length ≤ 900) : Calls Tryd.prog 17 #[.slice p a.length c, .slice q b.length d] w (SlP w R) := by
  refine (either_any p q a.length b.length c d a b w rfl rfl ha hb hc hd (by omega) (by omega)).mono fun x w' hx => ?_
  rw [either_is hv hw, hR] at hx
  exact SlP.of hx
theorem bothS (R : List Sp) (hR : andL a b = R) (hv : Val a) (hw : Val b) (ha : SpT w w.heap.size p a) (hb : SpT w w.heap.size q b) (hc : a.length ≤ c) (hd : b.length ≤ d) (h : a.length ≤ 900) (k : b.length ≤ 900) : Calls Tryd.prog 18 #[.slice p a.length c, .slice q b.length d] w (SlP w R) := by
  refine (both_any p q a.length b.length c d a b w rfl rfl ha hb hc hd (by omega) (by omega)).mono fun x w' hx => ?_
  rw [both_is hv hw, hR] at hx
  exact SlP.of hx
theorem sameS (h : a = b) (ha : SpT w w.heap.size p a) (hb : SpT w w.heap.size q b) (hc : a.length ≤ c) (hd : b.length ≤ d) (k : a.length ≤ 900) : Calls Tryd.prog 13 #[.slice p a.length c, .slice q b.length d] w fun e w' => e = .returned (.bool true) ∧ Below w.heap.size w w' := by
  have := same_any p q a.length b.length c d a b w rfl rfl ha hb hc hd (by omega)
  rw [decide_eq_true h] at this
  exact this
theorem notL_len (l : List Sp) : (notL l).length ≤ l.length + 1 := not_len l 0
theorem andL_len (a b : List Sp) : (andL a b).length ≤ a.length + b.length + 3 := by
  have h1 := not_len (orL (notL a) (notL b)) 0
  have h2 := or_len (notL a) (notL b)
  have h3 := notL_len a
  have h4 := notL_len b
  unfold andL notL at *
  omega
theorem span_one (w : World) (a b : Int) : ∃ w', w.alloc (.cells #[.int .i64 a, .int .i64 b] 40) = w' ∧ Below w.heap.size w w' ∧ SpT w' w'.heap.size (some ⟨w.heap.size, 0, none⟩) [(a, b)] := ⟨_, rfl, Lx.alloc1 _ _, sps_one w a b⟩
end Go.Proofs.YtgbkjdpjilldmaaDoor.Hr
/- Plain: reading does not see offsets: other offsets, the same spans, and the error at the same token. -/
namespace Go.Proofs.YtgbkjdpjilldmaaDoor.Hr
open Lx (Tk B)
def re (p : Nat → Nat) (t : Tk) : Tk := ⟨t.k, t.t, p t.a⟩
def reF (p : Nat → Nat) (f : Fl) : Fl := (f.1, (p f.2.toNat : Int))
def tr {α β : Type} (p : Nat → Nat) (g : α → β) : Except Fl α → Except Fl β
  | .error f => .error (reF p f)
  | .ok x => .ok (g x)
section
variable (p : Nat → Nat)
abbrev rl (ts : List Tk) : List Tk := ts.map (re p)
theorem nx1_re (e : Nat) (ts : List Tk) : nx1 (p e) (rl p ts) = re p (nx1 e ts) := by cases ts <;> rfl
theorem unexp_re (e : Nat) (ts : List Tk) : unexp (p e) (rl p ts) = reF p (unexp e ts) := by
  cases ts with
  | nil => unfold unexp reF; simp
  | cons t r => unfold unexp reF; simp [re]
theorem acc_re (k : Int) (s : B) (ts : List Tk) : acc k s (rl p ts) = (acc k s ts).map (rl p) := by
  cases ts with
  | nil => rfl
  | cons t r =>
    show (if t.k = k ∧ t.t = s then some (rl p r) else none) = _
    rw [acc]
    by_cases h : t.k = k ∧ t.t = s
    · rw [if_pos h, if_pos h]; rfl
    · rw [if_neg h, if_neg h]; rfl
theorem symR_re (s : B) (e : Nat) (ts : List Tk) : symR s (p e) (rl p ts) = tr p (rl p) (symR s e ts) := by
  unfold symR
  rw [acc_re, unexp_re]
  cases acc 4 s ts <;> rfl
theorem numR_re (e : Nat) (ts : List Tk) : numR (p e) (rl p ts) = tr p (fun x => (re p x.1, rl p x.2)) (numR e ts) := by
  cases ts with
  | nil => unfold numR tr reF; simp
  | cons t r =>
    show (if t.k = 2 then Except.ok (re p t, rl p r) else Except.error (5, ((p t.a : Nat) : Int))) = _
    rw [numR]
    by_cases h : t.k = 2
    · rw [if_pos h, if_pos h]; rfl
    · rw [if_neg h, if_neg h]; simp [tr, reF]
theorem clockR_re (most e : Nat) (ts : List Tk) : clockR most (p e) (rl p ts) = tr p (fun x => ((x.1.1, p x.1.2), rl p x.2)) (clockR most e ts) := by
  unfold clockR
  rw [numR_re]
  cases numR e ts with
  | error f => rfl
  | ok x =>
    obtain ⟨h, ts1⟩ := x
    show (if most < valN h.t then Except.error (10, ((p h.a : Nat) : Int)) else _) = tr p _ (if most < valN h.t then _ else _)
    by_cases h1 : most < valN h.t
    · rw [if_pos h1, if_pos h1]; simp [tr, reF]
    · rw [if_neg h1, if_neg h1, symR_re]
      cases symR [58] e ts1 with
      | error f => rfl
      | ok ts2 =>
        show (match numR (p e) (rl p ts2) with | .error f => _ | .ok (m, ts3) => _) = tr p _ (match numR e ts2 with | .error f => _ | .ok (m, ts3) => _)
        rw [numR_re]
        cases numR e ts2 with
        | error f => rfl
        | ok x =>
          obtain ⟨m, ts3⟩ := x
          show (if m.t.length ≠ 2 ∨ 60 ≤ valN m.t ∨ (valN h.t = 24 ∧ 0 < valN m.t) then Except.error (10, ((p m.a : Nat) : Int)) else _) = tr p _ (if m.t.length ≠ 2 ∨ 60 ≤ valN m.t ∨ (valN h.t = 24 ∧ 0 < valN m.t) then _ else _)
          by_cases h2 : m.t.length ≠ 2 ∨ 60 ≤ valN m.t ∨ (valN h.t = 24 ∧ 0 < valN m.t)
          · rw [if_pos h2, if_pos h2]; simp [tr, reF]
          · rw [if_neg h2, if_neg h2]; rfl
theorem dayAt_re : ∀ (f d : Nat) (ts : List Tk), dayAt d f (rl p ts) = (dayAt d f ts).map fun x => (x.1, rl p x.2)
  | 0, _, _ => rfl
  | f + 1, d, ts => by
    rw [dayAt, dayAt, acc_re]
    cases acc 1 (dayB d) ts with
    | none => exact dayAt_re f (d + 1) ts
    | some r => rfl
theorem dayR_re (e : Nat) (ts : List Tk) : dayR (p e) (rl p ts) = tr p (fun x => (x.1, rl p x.2)) (dayR e ts) := by
  unfold dayR
  rw [dayAt_re, unexp_re]
  cases dayAt 0 7 ts <;> rfl
theorem daysR_re (e : Nat) (ts : List Tk) : daysR (p e) (rl p ts) = tr p (fun x => (x.1, rl p x.2)) (daysR e ts) := by
  unfold daysR
  rw [dayR_re]
  cases dayR e ts with
  | error f => rfl
  | ok x =>
    obtain ⟨d, ts1⟩ := x
    show (match acc 4 [45] (rl p ts1) with | none => _ | some ts2 => _) = tr p _ (match acc 4 [45] ts1 with | none => _ | some ts2 => _)
    rw [acc_re]
    cases acc 4 [45] ts1 with
    | none => rfl
    | some ts2 =>
      show (match dayR (p e) (rl p ts2) with | .error f => _ | .ok (l, ts3) => _) = tr p _ (match dayR e ts2 with | .error f => _ | .ok (l, ts3) => _)
      rw [dayR_re]
      cases dayR e ts2 with
      | error f => rfl
      | ok x => rfl
theorem timeR_re (e : Nat) (days : List Nat) (ts : List Tk) : timeR (p e) days (rl p ts) = tr p (fun x => (x.1, rl p x.2)) (timeR e days ts) := by
  unfold timeR
  rw [clockR_re]
  cases clockR 23 e ts with
  | error f => rfl
  | ok x =>
    obtain ⟨⟨a, a2⟩, ts1⟩ := x
    show (match symR [45] (p e) (rl p ts1) with | .error f => _ | .ok ts2 => _) = tr p _ (match symR [45] e ts1 with | .error f => _ | .ok ts2 => _)
    rw [symR_re]
    cases symR [45] e ts1 with
    | error f => rfl
    | ok ts2 =>
      show (match clockR 24 (p e) (rl p ts2) with | .error f => _ | .ok ((b, at_), ts3) => _) = tr p _ (match clockR 24 e ts2 with | .error f => _ | .ok ((b, at_), ts3) => _)
      rw [clockR_re]
      cases clockR 24 e ts2 with
      | error f => rfl
      | ok x =>
        obtain ⟨⟨b, at_⟩, ts3⟩ := x
        show (if a = b then Except.error (10, ((p at_ : Nat) : Int)) else _) = tr p _ (if a = b then _ else _)
        by_cases h : a = b
        · rw [if_pos h, if_pos h]; simp [tr, reF]
        · rw [if_neg h, if_neg h]; rfl
theorem partsL_re (e : Nat) : ∀ (f : Nat) (days : List Nat) (L : List Sq) (ts : List Tk), partsL (p e) f days L (rl p ts) = tr p (fun x => (x.1, rl p x.2)) (partsL e f days L ts)
  | 0, _, _, _ => rfl
  | f + 1, days, L, ts => by
    rw [partsL, partsL, acc_re]
    cases acc 4 [44] ts with
    | none => rfl
    | some ts1 =>
      show (if (nx1 (p e) (rl p ts1)).k = 1 then _ else _) = tr p _ (if (nx1 e ts1).k = 1 then _ else _)
      rw [nx1_re]
      show (if (nx1 e ts1).k = 1 then _ else _) = _
      by_cases h : (nx1 e ts1).k = 1
      · rw [if_pos h, if_pos h, daysR_re]
        cases daysR e ts1 with
        | error f => rfl
        | ok x =>
          obtain ⟨d2, ts2⟩ := x
          show (match timeR (p e) d2 (rl p ts2) with | .error x => _ | .ok (m, ts3) => _) = tr p _ (match timeR e d2 ts2 with | .error x => _ | .ok (m, ts3) => _)
          rw [timeR_re]
          cases timeR e d2 ts2 with
          | error f => rfl
          | ok x =>
            obtain ⟨m, ts3⟩ := x
            exact partsL_re e f d2 (L ++ m) ts3
      · rw [if_neg h, if_neg h, timeR_re]
        cases timeR e days ts1 with
        | error f => rfl
        | ok x =>
          obtain ⟨m, ts3⟩ := x
          exact partsL_re e f days (L ++ m) ts3
theorem partsR_re (e : Nat) (L : List Sq) (ts : List Tk) : partsR (p e) L (rl p ts) = tr p (fun x => (x.1, rl p x.2)) (partsR e L ts) := by
  unfold partsR
  rw [daysR_re]
  cases daysR e ts with
  | error f => rfl
  | ok x =>
    obtain ⟨d, ts1⟩ := x
    show (match timeR (p e) d (rl p ts1) with | .error x => _ | .ok (m, ts2) => _) = tr p _ (match timeR e d ts1 with | .error x => _ | .ok (m, ts2) => _)
    rw [timeR_re]
    cases timeR e d ts1 with
    | error f => rfl
    | ok x =>
      obtain ⟨m, ts2⟩ := x
      show partsL (p e) (rl p ts2).length d (L ++ m) (rl p ts2) = _
      rw [List.length_map]
      exact partsL_re p e ts2.length d (L ++ m) ts2
theorem rl_nil {ts : List Tk} : rl p ts = [] ↔ ts = [] := List.map_eq_nil_iff
/-- the same tokens at other offsets. -/
theorem textR_re (e : Nat) (ts : List Tk) : textR (p e) (rl p ts) = tr p id (textR e ts) := by
  unfold textR
  rw [acc_re]
  cases acc 1 [97, 108, 119, 97, 121, 115] ts with
  | some r =>
    show (if rl p r = [] then _ else Except.error (unexp (p e) (rl p r))) = tr p _ (if r = [] then _ else _)
    by_cases h : r = []
    · rw [if_pos ((rl_nil p).2 h), if_pos h]; rfl
    · rw [if_neg (fun q => h ((rl_nil p).1 q)), if_neg h, unexp_re]; rfl
  | none =>
    show (match acc 1 [110, 101, 118, 101, 114] (rl p ts) with | some r => _ | none => _) = tr p _ (match acc 1 [110, 101, 118, 101, 114] ts with | some r => _ | none => _)
    rw [acc_re]
    cases acc 1 [110, 101, 118, 101, 114] ts with
    | some r =>
      show (if rl p r = [] then _ else Except.error (unexp (p e) (rl p r))) = tr p _ (if r = [] then _ else _)
      by_cases h : r = []
      · rw [if_pos ((rl_nil p).2 h), if_pos h]; rfl
      · rw [if_neg (fun q => h ((rl_nil p).1 q)), if_neg h, unexp_re]; rfl
    | none =>
      show (match partsR (p e) [] (rl p ts) with | .error x => _ | .ok (L, r) => _) = tr p _ (match partsR e [] ts with | .error x => _ | .ok (L, r) => _)
      rw [partsR_re]
      cases partsR e [] ts with
      | error f => rfl
      | ok x =>
        obtain ⟨L, r⟩ := x
        show (if rl p r = [] then _ else Except.error (unexp (p e) (rl p r))) = tr p _ (if r = [] then _ else _)
        by_cases h : r = []
        · rw [if_pos ((rl_nil p).2 h), if_pos h]; rfl
        · rw [if_neg (fun q => h ((rl_nil p).1 q)), if_neg h, unexp_re]; rfl
end
/-- the map of offsets: from those of one list to those of another one. -/
def offs : List Tk → List Tk → Nat → Nat → Nat
  | t :: ts, u :: us, e, x => if t.a = x then u.a else offs ts us e x
  | _, _, e, _ => e
theorem offs_far : ∀ (ts us : List Tk) (e x : Nat), (∀ t ∈ ts, t.a ≠ x) → offs ts us e x = e
  | [], _, _, _, _ => by unfold offs; rfl
  | t :: ts, [], _, _, _ => rfl
  | t :: ts, u :: us, e, x, h => by
    rw [offs, if_neg (h t (by simp))]
    exact offs_far ts us e x (fun q hq => h q (List.mem_cons_of_mem _ hq))
theorem offs_map : ∀ (ts us : List Tk) (e : Nat), (ts.map fun t => (t.k, t.t)) = (us.map fun t => (t.k, t.t)) → (ts.Pairwise fun a b => a.a ≠ b.a) → rl (offs ts us e) ts = us
  | [], [], _, _, _ => rfl
  | [], u :: us, _, h, _ => by cases h
  | t :: ts, [], _, h, _ => by cases h
  | t :: ts, u :: us, e, h, hp => by
    rw [List.map_cons, List.map_cons] at h
    injection h with h1 h2
    injection h1 with h3 h4
    have hp2 := List.pairwise_cons.1 hp
    have ih := offs_map ts us e h2 hp2.2
    show re _ t :: ts.map (re _) = _
    congr 1
    · unfold re
      rw [offs, if_pos rfl, h3, h4]
    · exact (List.map_congr_left fun q hq => by
        show (⟨q.k, q.t, offs (t :: ts) (u :: us) e q.a⟩ : Tk) = ⟨q.k, q.t, offs ts us e q.a⟩
        rw [offs, if_neg (hp2.1 q hq)]).trans ih
end Go.Proofs.YtgbkjdpjilldmaaDoor.Hr
/- Plain: what is read of a text that goes on. -/
namespace Go.Proofs.YtgbkjdpjilldmaaDoor.Hr
open Lx (Tk B)
section
variable {ts r us : List Tk}
theorem acc_app {k : Int} {s : B} (h : acc k s ts = some r) (us : List Tk) : acc k s (ts ++ us) = some (r ++ us) := by
  cases ts with
  | nil => cases h
  | cons t q =>
    rw [acc] at h
    rw [List.cons_append, acc]
    split at h
    · rename_i h1
      injection h with h
      subst h
      rw [if_pos h1]
    · cases h
theorem acc_no {k : Int} {s : B} (h : acc k s ts = none) (h0 : ts ≠ []) (us : List Tk) : acc k s (ts ++ us) = none := by
  cases ts with
  | nil => exact absurd rfl h0
  | cons t q =>
    rw [acc] at h
    rw [List.cons_append, acc]
    split at h
    · cases h
    · rename_i h1
      rw [if_neg h1]
theorem symR_app {s : B} {e : Nat} (h : symR s e ts = .ok r) (e' : Nat) (us : List Tk) : symR s e' (ts ++ us) = .ok (r ++ us) := by
  unfold symR at h ⊢
  split at h
  · rename_i q hq
    injection h with h
    subst h
    rw [acc_app hq us]
  · cases h
theorem numR_app {e : Nat} {t : Tk} (h : numR e ts = .ok (t, r)) (e' : Nat) (us : List Tk) : numR e' (ts ++ us) = .ok (t, r ++ us) := by
  cases ts with
  | nil => cases h
  | cons u q =>
    rw [numR] at h
    rw [List.cons_append, numR]
    split at h
    · rename_i h1
      injection h with h
      injection h with h2 h3
      subst h2 h3
      rw [if_pos h1]
    · cases h
theorem clockR_app {most e : Nat} {x : Nat × Nat} (h : clockR most e ts = .ok (x, r)) (e' : Nat) (us : List Tk) : clockR most e' (ts ++ us) = .ok (x, r ++ us) := by
  unfold clockR at h
  split at h
  · cases h
  · rename_i q1 q2 hq
    split at h
    · cases h
    · rename_i c1
      split at h
      · cases h
      · rename_i q3 hq3
        split at h
        · cases h
        · rename_i q4 q5 hq4
          split at h
          · cases h
          · rename_i c2
            injection h with h
            injection h with h1 h2
            subst h1 h2
            unfold clockR
            rw [numR_app hq e' us]
            dsimp only
            rw [if_neg c1, symR_app hq3 e' us]
            dsimp only
            rw [numR_app hq4 e' us]
            dsimp only
            rw [if_neg c2]
theorem dayAt_app : ∀ (f d : Nat) (ts r : List Tk) (k : Nat), dayAt d f ts = some (k, r) → ∀ us, dayAt d f (ts ++ us) = some (k, r ++ us)
  | 0, d, ts, r, k, h, _ => by rw [dayAt] at h; cases h
  | f + 1, d, ts, r, k, h, us => by
    have h0 : ts ≠ [] := fun e => by
      subst e
      have := dayAt_len _ _ _ _ _ h
      simp at this
    rw [dayAt] at h ⊢
    cases hq : acc 1 (dayB d) ts with
    | some q =>
      rw [hq] at h
      injection h with h
      injection h with h1 h2
      subst h1 h2
      rw [acc_app hq us]
    | none =>
      rw [hq] at h
      rw [acc_no hq h0 us]
      exact dayAt_app f (d + 1) ts r k h us
theorem dayR_app {e d : Nat} (h : dayR e ts = .ok (d, r)) (e' : Nat) (us : List Tk) : dayR e' (ts ++ us) = .ok (d, r ++ us) := by
  unfold dayR at h ⊢
  cases hq : dayAt 0 7 ts with
  | none => rw [hq] at h; cases h
  | some x =>
    obtain ⟨k, q⟩ := x
    rw [hq] at h
    injection h with h
    injection h with h1 h2
    subst h1 h2
    rw [dayAt_app 7 0 ts _ _ hq us]
theorem daysR_app {e : Nat} {l : List Nat} (h : daysR e ts = .ok (l, r)) (h0 : r ≠ []) (e' : Nat) (us : List Tk) : daysR e' (ts ++ us) = .ok (l, r ++ us) := by
  unfold daysR at h
  split at h
  · cases h
  · rename_i d ts1 hd
    split at h
    · rename_i ha
      injection h with h
      injection h with h1 h2
      subst h1 h2
      unfold daysR
      rw [dayR_app hd e' us]
      dsimp only
      rw [acc_no ha h0 us]
    · rename_i ts2 ha
      split at h
      · cases h
      · rename_i l' ts3 hl
        injection h with h
        injection h with h1 h2
        subst h1 h2
        unfold daysR
        rw [dayR_app hd e' us]
        dsimp only
        rw [acc_app ha us]
        dsimp only
        rw [dayR_app hl e' us]
theorem timeR_app {e : Nat} {days : List Nat} {m : List Sq} (h : timeR e days ts = .ok (m, r)) (e' : Nat) (us : List Tk) : timeR e' days (ts ++ us) = .ok (m, r ++ us) := by
  unfold timeR at h
  split at h
  · cases h
  · rename_i a a2 ts1 h1
    split at h
    · cases h
    · rename_i ts2 h2
      split at h
      · cases h
      · rename_i z z2 ts3 h3
        split at h
        · cases h
        · rename_i hne
          injection h with h
          injection h with h4 h5
          subst h4 h5
          unfold timeR
          rw [clockR_app h1 e' us]
          dsimp only
          rw [symR_app h2 e' us]
          dsimp only
          rw [clockR_app h3 e' us]
          dsimp only
          rw [if_neg hne]
theorem timeR_ne {e : Nat} {days : List Nat} {m : List Sq} (h : timeR e days ts = .ok (m, r)) : ts ≠ [] := fun e => by
  subst e
  have := (timeR_ok h).1
  simp at this
theorem partsL_fuel (e : Nat) : ∀ (f f' : Nat) (days : List Nat) (L : List Sq) (ts : List Tk), ts.length ≤ f → ts.length ≤ f' → partsL e f days L ts = partsL e f' days L ts
  | 0, 0, _, _, _, _, _ => rfl
  | 0, f' + 1, days, L, ts, h, _ => by
    obtain rfl : ts = [] := List.eq_nil_of_length_eq_zero (by omega)
    rfl
  | f + 1, 0, days, L, ts, _, h => by
    obtain rfl : ts = [] := List.eq_nil_of_length_eq_zero (by omega)
    rfl
  | f + 1, f' + 1, days, L, ts, h, h' => by
    rw [partsL, partsL]
    cases ha : acc 4 [44] ts with
    | none => rfl
    | some ts1 =>
      have la := acc_len ha
      dsimp only
      by_cases hk : (nx1 e ts1).k = 1
      · rw [if_pos hk, if_pos hk]
        cases hd : daysR e ts1 with
        | error x => rfl
        | ok x =>
          obtain ⟨d2, ts2⟩ := x
          have ld := (daysR_ok hd).1
          dsimp only
          cases ht : timeR e d2 ts2 with
          | error x => rfl
          | ok x =>
            obtain ⟨m, ts3⟩ := x
            have lt := (timeR_ok ht).1
            exact partsL_fuel e f f' d2 (L ++ m) ts3 (by omega) (by omega)
      · rw [if_neg hk, if_neg hk]
        cases ht : timeR e days ts1 with
        | error x => rfl
        | ok x =>
          obtain ⟨m, ts3⟩ := x
          have lt := (timeR_ok ht).1
          exact partsL_fuel e f f' days (L ++ m) ts3 (by omega) (by omega)
def pre (L : List Sq) : Except Fl (List Sq × List Tk) → Except Fl (List Sq × List Tk)
  | .error x => .error x
  | .ok x => .ok (L ++ x.1, x.2)
theorem partsL_pre (e : Nat) (K : List Sq) : ∀ (f : Nat) (days : List Nat) (L : List Sq) (ts : List Tk), partsL e f days (K ++ L) ts = pre K (partsL e f days L ts)
  | 0, _, _, _ => rfl
  | f + 1, days, L, ts => by
    rw [partsL, partsL]
    cases acc 4 [44] ts with
    | none => rfl
    | some ts1 =>
      dsimp only
      by_cases hk : (nx1 e ts1).k = 1
      · rw [if_pos hk, if_pos hk]
        cases daysR e ts1 with
        | error x => rfl
        | ok x =>
          obtain ⟨d2, ts2⟩ := x
          dsimp only
          cases timeR e d2 ts2 with
          | error x => rfl
          | ok x =>
            obtain ⟨m, ts3⟩ := x
            dsimp only
            rw [List.append_assoc]
            exact partsL_pre e K f d2 (L ++ m) ts3
      · rw [if_neg hk, if_neg hk]
        cases timeR e days ts1 with
        | error x => rfl
        | ok x =>
          obtain ⟨m, ts3⟩ := x
          dsimp only
          rw [List.append_assoc]
          exact partsL_pre e K f days (L ++ m) ts3
theorem partsR_pre (e : Nat) (K : List Sq) (ts : List Tk) : partsR e K ts = pre K (partsR e [] ts) := by
  unfold partsR
  cases daysR e ts with
  | error x => rfl
  | ok x =>
    obtain ⟨d, ts1⟩ := x
    dsimp only
    cases timeR e d ts1 with
    | error x => rfl
    | ok x =>
      obtain ⟨m, ts2⟩ := x
      dsimp only
      rw [List.nil_append]
      exact partsL_pre e K _ d m ts2
/-- behind a comma, a day begins a new part. -/
theorem partsL_comma (e : Nat) (f : Nat) (days : List Nat) (L : List Sq) (c : Tk) (us : List Tk) (hc : c.k = 4 ∧ c.t = [44]) (hk : (nx1 e us).k = 1) (hf : us.length + 1 ≤ f) : partsL e f days L (c :: us) = partsR e L us := by
  obtain ⟨g, rfl⟩ : ∃ g, f = g + 1 := ⟨f - 1, by omega⟩
  rw [partsL, acc, if_pos hc]
  dsimp only
  rw [if_pos hk]
  unfold partsR
  cases hd : daysR e us with
  | error x => rfl
  | ok x =>
    obtain ⟨d2, ts2⟩ := x
    have ld := (daysR_ok hd).1
    dsimp only
    cases ht : timeR e d2 ts2 with
    | error x => rfl
    | ok x =>
      obtain ⟨m, ts3⟩ := x
      have lt := (timeR_ok ht).1
      exact partsL_fuel e _ _ d2 (L ++ m) ts3 (by omega) (Nat.le_refl _)
theorem partsL_app (e e' : Nat) (c : Tk) (us : List Tk) (hc : c.k = 4 ∧ c.t = [44]) (hk : (nx1 e' us).k = 1) : ∀ (f f' : Nat) (days : List Nat) (L M : List Sq) (ts : List Tk), partsL e f days L ts = .ok (M, []) → ts.length ≤ f → ts.length + us.length + 1 ≤ f' →
    partsL e' f' days L (ts ++ c :: us) = partsR e' M us
  | 0, f', days, L, M, ts, h, h1, h2 => by
    obtain rfl : ts = [] := List.eq_nil_of_length_eq_zero (by omega)
    rw [partsL] at h
    injection h with h
    injection h with h _
    subst h
    exact partsL_comma e' f' days L c us hc hk (by simp at h2; omega)
  | f + 1, f', days, L, M, ts, h, h1, h2 => by
    rw [partsL] at h
    cases ha : acc 4 [44] ts with
    | none =>
      rw [ha] at h
      injection h with h
      injection h with h3 h4
      subst h3 h4
      exact partsL_comma e' f' days L c us hc hk (by simp at h2; omega)
    | some ts1 =>
      rw [ha] at h
      have la := acc_len ha
      obtain ⟨g, rfl⟩ : ∃ g, f' = g + 1 := ⟨f' - 1, by omega⟩
      rw [partsL, acc_app ha]
      dsimp only at h ⊢
      by_cases hk1 : (nx1 e ts1).k = 1
      · rw [if_pos hk1] at h
        cases hd : daysR e ts1 with
        | error x => rw [hd] at h; cases h
        | ok x =>
          obtain ⟨d2, ts2⟩ := x
          have ld := (daysR_ok hd).1
          rw [hd] at h
          dsimp only at h
          cases ht : timeR e d2 ts2 with
          | error x => rw [ht] at h; cases h
          | ok x =>
            obtain ⟨m, ts3⟩ := x
            have lt := (timeR_ok ht).1
            rw [ht] at h
            dsimp only at h
            have hne : (nx1 e' (ts1 ++ c :: us)).k = 1 := by
              cases ts1 with
              | nil => simp at ld
              | cons t q => exact hk1
            rw [if_pos hne, daysR_app hd (timeR_ne ht)]
            dsimp only
            rw [timeR_app ht]
            exact partsL_app e e' c us hc hk f g d2 (L ++ m) M ts3 h (by omega) (by omega)
      · rw [if_neg hk1] at h
        cases ht : timeR e days ts1 with
        | error x => rw [ht] at h; cases h
        | ok x =>
          obtain ⟨m, ts3⟩ := x
          have lt := (timeR_ok ht).1
          rw [ht] at h
          dsimp only at h
          have hne : ¬ (nx1 e' (ts1 ++ c :: us)).k = 1 := by
            cases ts1 with
            | nil => simp at lt
            | cons t q => exact hk1
          rw [if_neg hne, timeR_app ht]
          exact partsL_app e e' c us hc hk f g days (L ++ m) M ts3 h (by omega) (by omega)
theorem partsR_app (e e' : Nat) (c : Tk) (us : List Tk) (hc : c.k = 4 ∧ c.t = [44]) (hk : (nx1 e' us).k = 1) {M : List Sq} (h : partsR e [] ts = .ok (M, [])) : partsR e' [] (ts ++ c :: us) = partsR e' M us := by
  unfold partsR at h
  cases hd : daysR e ts with
  | error x => rw [hd] at h; cases h
  | ok x =>
    obtain ⟨d, ts1⟩ := x
    rw [hd] at h
    dsimp only at h
    cases ht : timeR e d ts1 with
    | error x => rw [ht] at h; cases h
    | ok x =>
      obtain ⟨m, ts2⟩ := x
      rw [ht] at h
      dsimp only at h
      rw [partsR, daysR_app hd (timeR_ne ht)]
      dsimp only
      rw [timeR_app ht]
      exact partsL_app e e' c us hc hk _ _ d ([] ++ m) M ts2 h (Nat.le_refl _) (by simp; omega)
theorem partsR_day {e : Nat} {L : List Sq} {x : List Sq × List Tk} (h : partsR e L us = .ok x) (e' : Nat) : (nx1 e' us).k = 1 := by
  unfold partsR at h
  cases hd : daysR e us with
  | error x => rw [hd] at h; cases h
  | ok x =>
    unfold daysR at hd
    cases h1 : dayR e us with
    | error x => rw [h1] at hd; cases hd
    | ok x =>
      obtain ⟨d, q⟩ := x
      unfold dayR at h1
      cases h2 : dayAt 0 7 us with
      | none => rw [h2] at h1; cases h1
      | some y =>
        have key : ∀ (f d : Nat) (ts : List Tk) (y : Nat × List Tk), dayAt d f ts = some y → (nx1 e' ts).k = 1 := by
          intro f
          induction f with
          | zero => intro d ts y h; rw [dayAt] at h; cases h
          | succ f ih =>
            intro d ts y h
            rw [dayAt] at h
            cases ha : acc 1 (dayB d) ts with
            | none => rw [ha] at h; exact ih _ _ _ h
            | some r =>
              cases ts with
              | nil => cases ha
              | cons t q =>
                rw [acc] at ha
                split at ha
                · rename_i hk
                  exact hk.1
                · cases ha
        exact key _ _ _ _ h2
/-- tokens that are parts. -/
def IsParts (ts : List Tk) : Prop := acc 1 [97, 108, 119, 97, 121, 115] ts = none ∧ acc 1 [110, 101, 118, 101, 114] ts = none
theorem textR_parts {e : Nat} {L : List Sq} (hp : IsParts ts) (h : textR e ts = .ok L) : partsR e [] ts = .ok (L, []) := by
  unfold textR at h
  rw [hp.1, hp.2] at h
  dsimp only at h
  cases hq : partsR e [] ts with
  | error x => rw [hq] at h; cases h
  | ok x =>
    obtain ⟨M, r⟩ := x
    rw [hq] at h
    dsimp only at h
    split at h
    · rename_i hr
      injection h with h
      subst h hr
      rfl
    · cases h
theorem parts_textR {e : Nat} {L : List Sq} (hp : IsParts ts) (h : partsR e [] ts = .ok (L, [])) : textR e ts = .ok L := by
  unfold textR
  rw [hp.1, hp.2]
  dsimp only
  rw [h]
  dsimp only
  rw [if_pos rfl]
/-- parts, a comma, and further ones. -/
theorem partsR_both {e1 e' : Nat} {c : Tk} {L1 L2 : List Sq} (hc : c.k = 4 ∧ c.t = [44]) (h1 : partsR e1 [] ts = .ok (L1, [])) (h2 : partsR e' [] us = .ok (L2, [])) : partsR e' [] (ts ++ c :: us) = .ok (L1 ++ L2, []) := by
  rw [partsR_app e1 e' c us hc (partsR_day h2 e') h1, partsR_pre, h2]
  rfl
theorem IsParts.app (hp : IsParts ts) (h0 : ts ≠ []) (us : List Tk) : IsParts (ts ++ us) := ⟨acc_no hp.1 h0 us, acc_no hp.2 h0 us⟩
theorem partsR_ne {e : Nat} {L : List Sq} {x : List Sq × List Tk} (h : partsR e L ts = .ok x) : ts ≠ [] := fun q => by
  subst q
  cases h
end
end Go.Proofs.YtgbkjdpjilldmaaDoor.Hr
