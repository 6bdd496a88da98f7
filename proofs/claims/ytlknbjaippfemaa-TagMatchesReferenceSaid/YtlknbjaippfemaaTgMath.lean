/- Plain mathematics of tags: valid ones, what a key has, setting, merging. -/
import Derived.Test.YtlknbjaippfemaaLxMath
import Derived.Test.YtlknbjaippfemaaLxName
namespace Go.Proofs.Ytlknbjaippfemaa.Tg
open Lx (nmB)
abbrev B := List UInt8
abbrev T := B × B
def okT (t : T) : Bool := nmB t.1 && decide (0 < t.2.length) && decide (t.2.length ≤ 200)
/-- names and values are right, the keys increase. -/
def asc : List T → Bool
  | [] => true
  | [_] => true
  | a :: b :: l => decide (a.1 < b.1) && asc (b :: l)
def chk (l : List T) : Bool := l.all okT && asc l
def vld (l : List T) : Bool := decide (l.length ≤ 60) && chk l
theorem b_lt_or (a b : B) : a < b ∨ a = b ∨ b < a := by
  by_cases h : a < b
  · exact .inl h
  · by_cases g : b < a
    · exact .inr (.inr g)
    · rw [List.not_lt] at h g
      exact .inr (.inl (List.le_antisymm g h))
theorem b_ne {a b : B} (h : a < b) : a ≠ b := fun e => List.lt_irrefl b (e ▸ h)
theorem b_not {a b : B} (h : a < b) : ¬ b < a := fun g => List.lt_irrefl a (List.lt_trans h g)
abbrev Inc (l : List T) : Prop := l.Pairwise fun a b => a.1 < b.1
theorem asc_iff : ∀ {l : List T}, asc l = true ↔ Inc l
  | [] => by simp [asc]
  | [_] => by simp [asc]
  | a :: b :: l => by
    rw [asc, Bool.and_eq_true, decide_eq_true_iff, asc_iff]
    show _ ↔ List.Pairwise _ (a :: b :: l)
    rw [List.pairwise_cons]
    constructor
    · rintro ⟨h1, h2⟩
      refine ⟨fun c hc => ?_, h2⟩
      rcases List.mem_cons.1 hc with rfl | hc
      · exact h1
      · exact List.lt_trans h1 (List.rel_of_pairwise_cons h2 hc)
    · rintro ⟨h1, h2⟩
      exact ⟨h1 b (List.mem_cons_self ..), h2⟩
theorem asc_snoc (l : List T) (t : T) : asc (l ++ [t]) = (asc l && (match l.getLast? with | none => true | some u => decide (u.1 < t.1))) := by
  induction l with
  | nil => rfl
  | cons a l ih =>
    cases l with
    | nil => simp [asc]
    | cons b l =>
      show (decide (a.1 < b.1) && asc ((b :: l) ++ [t])) = _
      rw [ih, asc, Bool.and_assoc]
      rfl
theorem chk_step {l : List T} {k : Nat} (hk : k < l.length) : chk (l.take (k + 1)) = (chk (l.take k) && (okT l[k] && (decide (k = 0) || decide ((l[k - 1]'(by omega)).1 < l[k].1)))) := by
  unfold chk
  rw [List.take_succ_eq_append_getElem hk, List.all_append, asc_snoc]
  have e : (match (l.take k).getLast? with | none => true | some u => decide (u.1 < l[k].1)) = (decide (k = 0) || decide ((l[k - 1]'(by omega)).1 < l[k].1)) := by
    cases k with
    | zero => rfl
    | succ k =>
      have : (l.take (k + 1)).getLast? = some l[k] := by
        rw [List.getLast?_take]
        simp [List.getElem?_eq_getElem (show k < l.length by omega)]
      rw [this]
      simp
  rw [e]
  simp only [List.all_cons, List.all_nil, Bool.and_true]
  cases (l.take k).all okT <;> cases asc (l.take k) <;> cases okT l[k] <;> simp
theorem chk_take {l : List T} (h : chk l = true) (k : Nat) : chk (l.take k) = true := by
  unfold chk at h ⊢
  rw [Bool.and_eq_true, List.all_eq_true, asc_iff] at h ⊢
  exact ⟨fun t ht => h.1 t (List.mem_of_mem_take ht), h.2.sublist (List.take_sublist _ _)⟩
/-- what the first tag with a key has. -/
def getO (l : List T) (k : B) : Option B := (l.find? fun t => decide (t.1 = k)).map Prod.snd
def getV (l : List T) (k : B) : B := (getO l k).getD []
theorem get_take {l : List T} {k : B} {j : Nat} (h : ∀ t ∈ l.take j, t.1 ≠ k) (hj : j < l.length) : getO l k = if l[j].1 = k then some l[j].2 else getO (l.drop (j + 1)) k := by
  unfold getO
  have e : l = l.take j ++ l[j] :: l.drop (j + 1) := by rw [← List.drop_eq_getElem_cons hj, List.take_append_drop]
  conv => lhs; rw [e]
  rw [List.find?_append, List.find?_eq_none.2 (fun t ht => by simpa using h t ht), Option.none_or, List.find?_cons]
  by_cases he : l[j].1 = k
  · rw [if_pos he, decide_eq_true he]; rfl
  · rw [if_neg he, decide_eq_false he]
theorem get_none {l : List T} {k : B} : getO l k = none ↔ ∀ t ∈ l, t.1 ≠ k := by
  unfold getO
  rw [Option.map_eq_none_iff, List.find?_eq_none]
  simp
/-- setting. -/
def lowT (l : List T) (k : B) : List T := l.filter fun t => decide (t.1 < k)
def upT (l : List T) (k : B) : List T := l.filter fun t => decide (k < t.1)
def midT (k v : B) : List T := if v = [] then [] else [(k, v)]
def setL (l : List T) (k v : B) : List T := lowT l k ++ midT k v ++ upT l k
def setR (l : List T) (k v : B) : List T × Int :=
  if vld l = false ∨ nmB k = false ∨ 200 < v.length then ([], 1) else if 60 < (setL l k v).length then ([], 2) else (setL l k v, 0)
/-- merging. -/
def oneR (b o t : B) : B × Bool := if o = t ∨ t = b then (o, false) else if o = b then (t, false) else (b, true)
def addK : List B → B → List B
  | [], k => [k]
  | a :: l, k => if k < a then k :: a :: l else if a = k then a :: l else a :: addK l k
def sortK (l : List B) : List B := l.foldl addK []
def keysR (ls : List (List T)) : List B := sortK (ls.flatMap fun l => l.map Prod.fst)
def mrgS (f : B → B × Bool) (s : List T × List B) (k : B) : List T × List B :=
  if (f k).1 ≠ [] ∧ s.1.length = 60 then (s.1, s.2 ++ [k]) else (s.1 ++ midT k (f k).1, s.2 ++ if (f k).2 then [k] else [])
def mrgL (f : B → B × Bool) (ks : List B) : List T × List B := ks.foldl (mrgS f) ([], [])
def mergeR (b o t : List T) : List T × List B :=
  if vld b && vld o && vld t then mrgL (fun k => oneR (getV b k) (getV o k) (getV t k)) (keysR [b, o, t]) else ([], [])
/-- the text. -/
def txt1 (t : T) : B := t.1 ++ 61 :: Lx.quote t.2
def txtL : List T → B
  | [] => []
  | [t] => txt1 t
  | t :: u :: l => txt1 t ++ 32 :: txtL (u :: l)
def textR (l : List T) : B × Int := if vld l then (if 20000 < (txtL l).length then ([], 2) else (txtL l, 0)) else ([], 1)
theorem txt_snoc (l : List T) (t : T) : txtL (l ++ [t]) = txtL l ++ (if l = [] then [] else [32]) ++ txt1 t := by
  induction l with
  | nil => simp [txtL]
  | cons a l ih =>
    cases l with
    | nil => simp [txtL]
    | cons b l =>
      show txt1 a ++ 32 :: txtL ((b :: l) ++ [t]) = _
      rw [ih]
      simp [txtL]
end Go.Proofs.Ytlknbjaippfemaa.Tg
