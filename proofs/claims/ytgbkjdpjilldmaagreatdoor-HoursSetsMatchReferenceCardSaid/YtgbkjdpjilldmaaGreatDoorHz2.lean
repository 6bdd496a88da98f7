/- Merged: LxNext, LxKit. -/
import Derived.Test.YtgbkjdpjilldmaaGreatDoorHz1
import Derived.Test.YtgbkjdpjilldmaaGreatDoorProg
import Derived.Test.YtgbkjdpjilldmaaGreatDoorChecked
import Derived.WalkKit
import Derived.WalkSpells
import Derived.WalkLawsBesides
import Derived.Lib.Hide
import Derived.ChangeAlike
import Derived.Laws.CopyOwn
import Derived.Lib.AppendStr
import Derived.Lib.Strings
import Derived.Below
import Derived.Deep.QuietTactic
import Derived.BigQuiet
import Derived.IntWalk
import Derived.Lib.QuietBelow
import Derived.RegionTactic
import Derived.StillTailTactics
import Derived.Deep.CutRange
import Derived.Deep.CutBlock
import Derived.Deep.LoopGhost
import Derived.Deep.RegionHeld3
import Derived.Deep.RegionWith
import Derived.Deep.RegionLaw
/- Plain mathematics of tokens: strings in quotes; one token in front of other text, in a part of its text, written again. -/
namespace Go.Proofs.YtgbkjdpjilldmaaGreatDoor.Lx
theorem let_word : ∀ c, isLet c = true → isWord c = true := fun c h => by simp [isWord, h]
theorem dig_word : ∀ c, isDig c = true → isWord c = true := fun c h => by simp [isWord, h]
theorem hd_mono {p q : UInt8 → Bool} (h : ∀ c, p c = true → q c = true) {l : B} (hq : hd q l = false) : hd p l = false := by
  cases l with
  | nil => rfl
  | cons c l => simp only [hd] at hq ⊢; cases hp : p c with | false => rfl | true => rw [h c hp] at hq; cases hq
theorem st_le : ∀ (b : Bool) (l : B) (r : B × Nat), st b l = some r → 1 ≤ r.2 ∧ r.2 ≤ l.length
  | _, [], r, h => by simp [st] at h
  | false, c :: l, r, h => by
    rw [st] at h
    split at h
    · injection h with h; subst h; simp
    · split at h
      · cases h
      · split at h
        all_goals
          obtain ⟨x, hx, rfl⟩ := Option.map_eq_some_iff.1 h
          have := st_le _ l x hx
          simp; omega
  | true, c :: l, r, h => by
    rw [st] at h
    split at h
    · obtain ⟨x, hx, rfl⟩ := Option.map_eq_some_iff.1 h
      have := st_le _ l x hx
      simp; omega
    · split at h
      · obtain ⟨x, hx, rfl⟩ := Option.map_eq_some_iff.1 h
        have := st_le _ l x hx
        simp; omega
      · cases h
theorem st_app (s : B) : ∀ (b : Bool) (l : B) (r : B × Nat), st b l = some r → st b (l ++ s) = some r
  | _, [], r, h => by simp [st] at h
  | false, c :: l, r, h => by
    rw [st] at h
    rw [List.cons_append, st]
    split at h
    · rename_i h1; rw [if_pos h1]; exact h
    · rename_i h1
      rw [if_neg h1]
      split at h
      · cases h
      · rename_i h2
        rw [if_neg h2]
        split at h
        all_goals
          rename_i h3
          obtain ⟨x, hx, rfl⟩ := Option.map_eq_some_iff.1 h
          first | rw [if_pos h3, st_app s _ l x hx] | rw [if_neg h3, st_app s _ l x hx]
          rfl
  | true, c :: l, r, h => by
    rw [st] at h
    rw [List.cons_append, st]
    split at h
    · rename_i h3
      obtain ⟨x, hx, rfl⟩ := Option.map_eq_some_iff.1 h
      rw [if_pos h3, st_app s _ l x hx]; rfl
    · rename_i h1
      rw [if_neg h1]
      split at h
      · rename_i h3
        obtain ⟨x, hx, rfl⟩ := Option.map_eq_some_iff.1 h
        rw [if_pos h3, st_app s _ l x hx]; rfl
      · cases h
/-- no string, and none with a line feed behind it. -/
theorem st_line (s : B) : ∀ (b : Bool) (l : B), st b l = none → st b (l ++ 10 :: s) = none
  | false, [], _ => by show st false (10 :: s) = none; rw [st, if_neg (by decide), if_pos rfl]
  | true, [], _ => by show st true (10 :: s) = none; rw [st, if_neg (by decide), if_neg (by decide)]
  | false, c :: l, h => by
    rw [st] at h
    rw [List.cons_append, st]
    split at h
    · cases h
    · rename_i h1
      rw [if_neg h1]
      split at h
      · rename_i h2; rw [if_pos h2]
      · rename_i h2
        rw [if_neg h2]
        split at h
        all_goals
          rename_i h3
          first | rw [if_pos h3, st_line s _ l (by simpa using h)] | rw [if_neg h3, st_line s _ l (by simpa using h)]
          rfl
  | true, c :: l, h => by
    rw [st] at h
    rw [List.cons_append, st]
    split at h
    · rename_i h3
      rw [if_pos h3, st_line s _ l (by simpa using h)]; rfl
    · rename_i h1
      rw [if_neg h1]
      split at h
      · rename_i h3
        rw [if_pos h3, st_line s _ l (by simpa using h)]; rfl
      · rename_i h3
        rw [if_neg h3]
/-- what stands there is the string in quotes. -/
theorem st_esc : ∀ (b : Bool) (l : B) (r : B × Nat), st b l = some r → (if b then 92 :: l.take r.2 else l.take r.2) = esc r.1 ++ [34]
  | _, [], r, h => by simp [st] at h
  | false, c :: l, r, h => by
    rw [st] at h
    show (c :: l).take r.2 = _
    split at h
    · rename_i hc; injection h with h; subst h; subst hc; rfl
    · rename_i h1
      split at h
      · cases h
      · rename_i h2
        split at h
        · rename_i h3
          obtain ⟨x, hx, rfl⟩ := Option.map_eq_some_iff.1 h
          have : 92 :: l.take x.2 = _ := st_esc true l x hx
          rw [List.take_succ_cons, h3, this]
        · rename_i h3
          obtain ⟨x, hx, rfl⟩ := Option.map_eq_some_iff.1 h
          have : l.take x.2 = _ := st_esc false l x hx
          rw [List.take_succ_cons, this, esc, if_neg (by rintro (e | e); exact h3 e; exact h1 e), if_neg h2]; rfl
  | true, c :: l, r, h => by
    rw [st] at h
    show 92 :: (c :: l).take r.2 = _
    split at h
    · rename_i h3
      obtain ⟨x, hx, rfl⟩ := Option.map_eq_some_iff.1 h
      have : l.take x.2 = _ := st_esc false l x hx
      rw [List.take_succ_cons, this, esc, if_pos h3]; rfl
    · split at h
      · rename_i h3
        obtain ⟨x, hx, rfl⟩ := Option.map_eq_some_iff.1 h
        have : l.take x.2 = _ := st_esc false l x hx
        rw [List.take_succ_cons, this, esc, if_neg (by decide), if_pos rfl, h3]; rfl
      · cases h
theorem st_quote (s : B) : ∀ t : B, st false (esc t ++ 34 :: s) = some (t, (esc t).length + 1)
  | [] => by show st false (34 :: s) = _; rw [st, if_pos rfl]; rfl
  | c :: t => by
    have ih := st_quote s t
    rw [esc]
    by_cases h : c = 92 ∨ c = 34
    · rw [if_pos h]
      show st false (92 :: c :: (esc t ++ 34 :: s)) = _
      rw [st, if_neg (by decide), if_neg (by decide), if_pos rfl, st, if_pos h, ih]; rfl
    · rw [if_neg h]
      by_cases h2 : c = 10
      · rw [if_pos h2]
        show st false (92 :: 110 :: (esc t ++ 34 :: s)) = _
        rw [st, if_neg (by decide), if_neg (by decide), if_pos rfl, st, if_neg (by decide), if_pos rfl, ih, h2]; rfl
      · rw [if_neg h2]
        show st false (c :: (esc t ++ 34 :: s)) = _
        rw [st, if_neg (fun e => h (.inr e)), if_neg h2, if_neg (fun e => h (.inl e)), ih]; rfl
theorem quote_inj {t u : B} (h : quote t = quote u) : t = u := by
  have h1 := st_quote [] t
  have h2 := st_quote [] u
  unfold quote at h
  injection h with _ h
  rw [h, h2] at h1
  injection h1 with h1
  injection h1 with h1 _
  exact h1.symm
/-- how a token is written. -/
def wr (k : Int) (t : B) : B := if k = 3 then quote t else t
theorem nx_let {c : UInt8} {l : B} (h : isLet c = true) : nx (c :: l) = if 24 < run isWord (c :: l) then .bad 2 else .tok 1 ((c :: l).take (run isWord (c :: l))) (run isWord (c :: l)) := by rw [nx, if_pos h]
theorem nx_dig {c : UInt8} {l : B} (h1 : isLet c = false) (h : isDig c = true) : nx (c :: l) = if 7 < run isDig (c :: l) ∨ hd isWord ((c :: l).drop (run isDig (c :: l))) = true then .bad 4 else .tok 2 ((c :: l).take (run isDig (c :: l))) (run isDig (c :: l)) := by
  rw [nx, if_neg (by simp [h1]), if_pos h]
theorem nx_quo {l : B} : nx (34 :: l) = match st false l with | none => .bad 3 | some r => .tok 3 r.1 (r.2 + 1) := by
  rw [nx, if_neg (by decide), if_neg (by decide), if_pos rfl]; rfl
theorem nx_sym {c : UInt8} {l : B} (h1 : isLet c = false) (h2 : isDig c = false) (h3 : c ≠ 34) : nx (c :: l) = if isSym c then .tok 4 [c] 1 else .bad 3 := by
  rw [nx, if_neg (by simp [h1]), if_neg (by simp [h2]), if_neg h3]
/-- a token in front of what begins with no letter, digit or underline is the same; and so is an error in front of a line feed. -/
theorem nx_app {l : B} {k : Int} {t : B} {n : Nat} (h : nx l = .tok k t n) (s : B) (hs : hd isWord s = false) : nx (l ++ s) = .tok k t n := by
  cases l with
  | nil => simp [nx] at h
  | cons c l =>
    rw [List.cons_append]
    by_cases h1 : isLet c
    · rw [nx_let h1] at h ⊢
      rw [← List.cons_append, run_app s hs]
      split at h
      · cases h
      · rename_i h2
        rw [if_neg h2, List.take_append_of_le_length (run_le _ _)]; exact h
    · have h1' : isLet c = false := by simpa using h1
      by_cases h2 : isDig c
      · rw [nx_dig h1' h2] at h ⊢
        rw [← List.cons_append, run_app s (hd_mono dig_word hs), List.drop_append_of_le_length (run_le _ _), List.take_append_of_le_length (run_le _ _)]
        split at h
        · cases h
        · rename_i h3
          rw [if_neg]
          · exact h
          · intro h4
            refine h3 (h4.imp id fun h4 => ?_)
            cases hd0 : (c :: l).drop (run isDig (c :: l)) with
            | nil => rw [hd0, List.nil_append, hs] at h4; cases h4
            | cons d m => rw [hd0] at h4; exact h4
      · have h2' : isDig c = false := by simpa using h2
        by_cases h3 : c = 34
        · subst h3
          rw [nx_quo] at h ⊢
          cases hq : st false l with
          | none => rw [hq] at h; cases h
          | some r => rw [hq] at h; rw [st_app s false l r hq]; exact h
        · rw [nx_sym h1' h2' h3] at h ⊢; exact h
theorem nx_line {l : B} {e : Int} (h : nx l = .bad e) (h0 : l ≠ []) (s : B) : nx (l ++ 10 :: s) = .bad e := by
  have hs : hd isWord (10 :: s) = false := by show isWord 10 = false; decide
  cases l with
  | nil => exact absurd rfl h0
  | cons c l =>
    rw [List.cons_append]
    by_cases h1 : isLet c
    · rw [nx_let h1] at h ⊢
      rw [← List.cons_append, run_app _ hs]
      split at h
      · rename_i h2; rw [if_pos h2]; exact h
      · cases h
    · have h1' : isLet c = false := by simpa using h1
      by_cases h2 : isDig c
      · rw [nx_dig h1' h2] at h ⊢
        rw [← List.cons_append, run_app _ (hd_mono dig_word hs), List.drop_append_of_le_length (run_le _ _)]
        split at h
        · rename_i h3
          rw [if_pos]
          · exact h
          · refine h3.imp id fun h4 => ?_
            cases hd0 : (c :: l).drop (run isDig (c :: l)) with
            | nil => rw [hd0] at h4; cases h4
            | cons d m => rw [hd0] at h4; exact h4
        · cases h
      · have h2' : isDig c = false := by simpa using h2
        by_cases h3 : c = 34
        · subst h3
          rw [nx_quo] at h ⊢
          cases hq : st false l with
          | none => rw [hq] at h; rw [st_line s false l hq]; exact h
          | some r => rw [hq] at h; cases h
        · rw [nx_sym h1' h2' h3] at h ⊢; exact h
/-- a token takes at least one byte, and stands there as it is written. -/
theorem nx_wr {l : B} {k : Int} {t : B} {n : Nat} (h : nx l = .tok k t n) : 1 ≤ n ∧ n ≤ l.length ∧ l.take n = wr k t := by
  cases l with
  | nil => simp [nx] at h
  | cons c l =>
    by_cases h1 : isLet c
    · rw [nx_let h1] at h
      have h5 := run_le isWord (c :: l)
      have h6 := run_step (l := l) (let_word c h1)
      split at h
      · cases h
      · injection h with e1 e2 e3
        subst e1 e2 e3
        exact ⟨by omega, h5, rfl⟩
    · have h1' : isLet c = false := by simpa using h1
      by_cases h2 : isDig c
      · rw [nx_dig h1' h2] at h
        have h5 := run_le isDig (c :: l)
        have h6 := run_step (l := l) h2
        split at h
        · cases h
        · injection h with e1 e2 e3
          subst e1 e2 e3
          exact ⟨by omega, h5, rfl⟩
      · have h2' : isDig c = false := by simpa using h2
        by_cases h3 : c = 34
        · subst h3
          rw [nx_quo] at h
          cases hq : st false l with
          | none => rw [hq] at h; cases h
          | some r =>
            rw [hq] at h
            injection h with e1 e2 e3
            subst e1 e2 e3
            have h5 := st_le false l r hq
            have h6 : l.take r.2 = _ := st_esc false l r hq
            refine ⟨by omega, by simp; omega, ?_⟩
            rw [List.take_succ_cons, h6]; rfl
        · rw [nx_sym h1' h2' h3] at h
          split at h
          · injection h with e1 e2 e3
            subst e1 e2 e3
            exact ⟨by omega, by simp, rfl⟩
          · cases h
/-- the first bytes that have a token have it alone. -/
theorem nx_take {l : B} {k : Int} {t : B} {n : Nat} (h : nx l = .tok k t n) (j : Nat) (hj : n ≤ j) : nx (l.take j) = .tok k t n := by
  have hw := nx_wr h
  cases l with
  | nil => simp [nx] at h
  | cons c l =>
    obtain ⟨i, rfl⟩ : ∃ i, j = i + 1 := ⟨j - 1, by omega⟩
    rw [List.take_succ_cons]
    by_cases h1 : isLet c
    · rw [nx_let h1] at h ⊢
      split at h
      · cases h
      · rename_i h2
        injection h with e1 e2 e3
        subst e1 e2 e3
        rw [← List.take_succ_cons, run_take _ _ hj, if_neg h2, List.take_take, Nat.min_eq_left hj]
    · have h1' : isLet c = false := by simpa using h1
      by_cases h2 : isDig c
      · rw [nx_dig h1' h2] at h ⊢
        split at h
        · cases h
        · rename_i h3
          injection h with e1 e2 e3
          subst e1 e2 e3
          rw [← List.take_succ_cons, run_take _ _ hj, List.take_take, Nat.min_eq_left hj, if_neg]
          intro h4
          refine h3 (h4.imp id fun h4 => ?_)
          rw [List.drop_take] at h4
          cases hd0 : (c :: l).drop (run isDig (c :: l)) with
          | nil => rw [hd0] at h4; simp [hd] at h4
          | cons d m =>
            rw [hd0] at h4
            cases hz : i + 1 - run isDig (c :: l) with
            | zero => rw [hz] at h4; simp [hd] at h4
            | succ z => rw [hz, List.take_succ_cons] at h4; exact h4
      · have h2' : isDig c = false := by simpa using h2
        by_cases h3 : c = 34
        · subst h3
          rw [nx_quo] at h ⊢
          cases hq : st false l with
          | none => rw [hq] at h; cases h
          | some r =>
            rw [hq] at h
            injection h with e1 e2 e3
            subst e1 e2 e3
            have h5 := st_le false l r hq
            have h6 : l.take r.2 = _ := st_esc false l r hq
            have h7 := st_quote ((l.take i).drop r.2) r.1
            have h8 : esc r.1 ++ 34 :: (l.take i).drop r.2 = l.take i := by
              rw [show esc r.1 ++ 34 :: (l.take i).drop r.2 = (esc r.1 ++ [34]) ++ (l.take i).drop r.2 by simp, ← h6, show l.take r.2 = (l.take i).take r.2 by rw [List.take_take, Nat.min_eq_left (by omega)], List.take_append_drop]
            have h9 : (esc r.1).length + 1 = r.2 := by
              have := congrArg List.length h6
              rw [List.length_take, Nat.min_eq_left h5.2] at this
              simpa using this.symm
            rw [h8, h9] at h7
            rw [h7]
        · rw [nx_sym h1' h2' h3] at h ⊢; exact h
/-- a token, written, and what begins with no letter, digit or underline behind it. -/
theorem nx_again {l : B} {k : Int} {t : B} {n : Nat} (h : nx l = .tok k t n) (s : B) (hs : hd isWord s = false) : nx (wr k t ++ s) = .tok k t n := by
  have := nx_app (nx_take h n (Nat.le_refl _)) s hs
  rw [(nx_wr h).2.2] at this
  exact this
theorem nx_gap {l : B} {k : Int} {t : B} {n : Nat} (h : nx l = .tok k t n) : hd (fun c => isBlk c || c == 35) l = false := by
  cases l with
  | nil => rfl
  | cons c l =>
    show (isBlk c || c == 35) = false
    cases hb : (isBlk c || c == 35) with
    | false => rfl
    | true =>
      exfalso
      have key : ∀ c : UInt8, (isBlk c || c == 35) = true → isLet c = false ∧ isDig c = false ∧ c ≠ 34 ∧ isSym c = false := all_u8 (by decide +kernel)
      obtain ⟨a, b, d, e⟩ := key c hb
      rw [nx_sym a b d, if_neg (by simp [e])] at h
      cases h
end Go.Proofs.YtgbkjdpjilldmaaGreatDoor.Lx
/- Small facts on memory that the walks of this seat share. -/
namespace Go.Proofs.YtgbkjdpjilldmaaGreatDoor.Lx
open Go.RowKit
theorem ret_int {k : IntKind} {a b : Int} (h : a = b) : Ending.returned (.int k a) = .returned (.int k b) := by rw [h]
theorem ret_bool {a b : Bool} (h : a = b) : Ending.returned (.bool a) = .returned (.bool b) := by rw [h]
theorem ret_str {a b : ByteArray} (h : a = b) : Ending.returned (.string a) = .returned (.string b) := by rw [h]
def intOf : Value → Int | .int _ q => q | _ => 0
/-- block g is the row cs of element type t, nothing of it frozen. -/
def IsRow (w : World) (g : Nat) (t : TypeId) (cs : Array Value) : Prop := w.heap[g]? = some (.cells cs t (0, 0))
section
variable {w w' : World} {g : Nat} {t : TypeId} {cs : Array Value}
theorem IsRow.inside (h : IsRow w g t cs) : g < w.heap.size := by
  refine Nat.lt_of_not_le fun hge => ?_
  unfold IsRow at h
  rw [Array.getElem?_eq_none hge] at h
  cases h
theorem IsRow.get (h : IsRow w g t cs) (i : Nat) : w.cell? ⟨g, i, none⟩ = cs[i]? := by unfold IsRow at h; simp [World.cell?, h]
theorem IsRow.open_ (h : IsRow w g t cs) (i : Nat) : w.frozen? ⟨g, i, none⟩ = false := by unfold IsRow at h; simp [World.frozen?, h]
theorem IsRow.made (w : World) (t : TypeId) (cs : Array Value) : IsRow (w.alloc (.cells cs t)) w.heap.size t cs := heap_alloc_new w _
theorem IsRow.later (h : IsRow w g t cs) (o : Obj) : IsRow (w.alloc o) g t cs := (Below.heap_alloc w o g h.inside).trans h
theorem IsRow.put (h : IsRow w g t cs) (i : Nat) (u : Value) : IsRow (w.setCell ⟨g, i, none⟩ u) g t (cs.setIfInBounds i u) := by
  unfold IsRow at h ⊢
  simp [World.setCell, Array.getElem?_modify, h]
theorem IsRow.putOther (h : IsRow w g t cs) {p : Addr} (hp : g ≠ p.block) (u : Value) : IsRow (w.setCell p u) g t cs := (Below.heap_setCell w p u g hp).trans h
theorem IsRow.below {B : Nat} (h : IsRow w g t cs) (hb : Below B w w') (hg : g < B) : IsRow w' g t cs := (hb.block g hg).trans h
theorem IsRow.grown {row : Option Nat} (h : IsRow w g t cs) (hg : w.grownBy w' row) (hne : row ≠ some g) : IsRow w' g t cs := (hg.block g h.inside (fun e => hne e.symm)).trans h
theorem IsRow.drew (h : IsRow w g t cs) : IsRow w.drew g t cs := h
end
theorem drew_below (w : World) : Below w.heap.size w w.drew := (Below.refl _ w).drew
theorem alloc1 (w : World) (o : Obj) : Below w.heap.size w (w.alloc o) := (Below.refl _ _).alloc (Nat.le_refl _) _
theorem below_drewN {B : Nat} {a w : World} (h : Below B a w) (n : Nat) : Below B a (w.drewN n) := h.trans ⟨rfl, rfl, rfl, Nat.le_refl _, fun _ _ => rfl⟩
theorem grown_of_below {w w' : World} (h : Below w.heap.size w w') (row : Option Nat) : w.grownBy w' row := ⟨h.os, h.tape, h.output, h.size, fun i hi _ => h.block i hi⟩
theorem grown_trans {w w' w'' : World} {row : Option Nat} (h : w.grownBy w' row) (k : w'.grownBy w'' row) : w.grownBy w'' row :=
  ⟨k.os.trans h.os, k.tape.trans h.tape, k.output.trans h.output, Nat.le_trans h.size k.size, fun i hi hne => (k.block i (Nat.lt_of_lt_of_le hi h.size) hne).trans (h.block i hi hne)⟩
theorem grown_refl (w : World) (row : Option Nat) : w.grownBy w row := ⟨rfl, rfl, rfl, Nat.le_refl _, fun _ _ _ => rfl⟩
theorem grown_put (w : World) (g i : Nat) (u : Value) : w.grownBy (w.setCell ⟨g, i, none⟩ u) (some g) :=
  ⟨rfl, rfl, rfl, by simp, fun k _ hne => Below.heap_setCell w _ u k (fun e => hne (by rw [e]))⟩
theorem below_grown {w w' : World} {b B : Nat} (h : w.grownBy w' (some b)) (hB : B ≤ b) (hw : B ≤ w.heap.size) : Below B w w' :=
  (Below.refl B w).grown h hw (fun k e => by injection e with e; omega)
theorem facts3 {w : World} {g : Nat} {t : TypeId} {a b c : Value} (h : IsRow w g t #[a, b, c]) :
    w.cell? ⟨g, 0, none⟩ = some a ∧ w.cell? ⟨g, 1, none⟩ = some b ∧ w.cell? ⟨g, 2, none⟩ = some c ∧ w.frozen? ⟨g, 0, none⟩ = false ∧ w.frozen? ⟨g, 1, none⟩ = false ∧ w.frozen? ⟨g, 2, none⟩ = false := ⟨h.get 0, h.get 1, h.get 2, h.open_ 0, h.open_ 1, h.open_ 2⟩
theorem set3 {w : World} {g : Nat} {t : TypeId} {a b c : Value} (h : IsRow w g t #[a, b, c]) (a' b' c' : Value) : IsRow (((w.setCell ⟨g, 0, none⟩ a').setCell ⟨g, 1, none⟩ b').setCell ⟨g, 2, none⟩ c') g t #[a', b', c'] := by
  have := ((h.put 0 a').put 1 b').put 2 c'
  simpa using this
theorem below3 {w w' : World} {B g : Nat} (h : Below B w w') (hg : B ≤ g) (a b c : Value) : Below B w (((w'.setCell ⟨g, 0, none⟩ a).setCell ⟨g, 1, none⟩ b).setCell ⟨g, 2, none⟩ c) :=
  ((h.setCell (p := ⟨g, 0, none⟩) hg a).setCell (p := ⟨g, 1, none⟩) hg b).setCell (p := ⟨g, 2, none⟩) hg c
/-- strings and lists of bytes. -/
theorem str_size (l : List UInt8) : (ByteArray.mk l.toArray).size = l.length := by simp [ByteArray.size]
theorem len_data (s : ByteArray) : s.data.toList.length = s.size := by simp
theorem str_eq (l : List UInt8) : (ByteArray.mk l.toArray).data.toList = l := by simp
theorem str_self (s : ByteArray) : ByteArray.mk s.data.toList.toArray = s := by simp
theorem str_of {s : ByteArray} {l : List UInt8} (h : s.data.toList = l) : s = ⟨l.toArray⟩ := by subst h; simp
theorem ext_list (s : ByteArray) (a b : Nat) : (s.extract a b).data.toList = (s.data.toList.drop a).take (b - a) := by
  simp [List.take_drop]
theorem drop_at (s : ByteArray) (i : Nat) (h : i < s.size) : s.data.toList.drop i = s[i] :: s.data.toList.drop (i + 1) := by
  rw [List.drop_eq_getElem_cons (by simpa using h)]; rfl
/-- two byte values of which the numbers are equal. -/
theorem u8_iff (c : UInt8) (k : Nat) (hk : k < 256) : (c.toNat : Int) = (k : Int) ↔ c = UInt8.ofNat k := by
  constructor
  · intro h
    have h2 : c.toNat = k := by omega
    rw [← h2]; simp
  · rintro rfl
    simp [Nat.mod_eq_of_lt hk]
theorem u8_beq (c : UInt8) (k : Nat) (hk : k < 256) : ((c.toNat : Int) == (k : Int)) = (c == UInt8.ofNat k) := by
  rw [Bool.eq_iff_iff]
  simpa using u8_iff c k hk
end Go.Proofs.YtgbkjdpjilldmaaGreatDoor.Lx
