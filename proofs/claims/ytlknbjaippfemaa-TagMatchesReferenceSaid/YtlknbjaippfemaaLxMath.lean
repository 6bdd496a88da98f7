/- Plain mathematics of tokens: classes of bytes, gaps, strings in quotes, one token, the tokens of a text. -/
namespace Go.Proofs.Ytlknbjaippfemaa.Lx
abbrev B := List UInt8
def isLet (c : UInt8) : Bool := (65 ≤ c && c ≤ 90) || (97 ≤ c && c ≤ 122)
def isDig (c : UInt8) : Bool := 48 ≤ c && c ≤ 57
def isWord (c : UInt8) : Bool := isLet c || isDig c || c == 95
def isBlk (c : UInt8) : Bool := c == 32 || c == 9 || c == 10
def symB : B := [59, 44, 46, 58, 40, 41, 123, 125, 91, 93, 61, 60, 62, 47, 45]
def isSym (c : UInt8) : Bool := symB.contains c
/-- the class of a byte. -/
def cls (c : UInt8) : Nat := if isLet c then 1 else if isDig c then 2 else if c = 95 then 4 else if isBlk c then 8 else if c = 35 then 16 else if c = 34 then 32 else if isSym c then 64 else 0
theorem all_u8 {P : UInt8 → Prop} (h : ∀ k : Fin 256, P (UInt8.ofNat k.val)) (c : UInt8) : P c := by
  have := h ⟨c.toNat, c.toNat_lt⟩
  simpa using this
/-- how many bytes of a kind follow each other at the beginning. -/
def run (p : UInt8 → Bool) : B → Nat
  | [] => 0
  | c :: l => if p c then run p l + 1 else 0
/-- how many bytes of gaps there are at the beginning; true: in a comment. -/
def gp : Bool → B → Nat
  | _, [] => 0
  | false, c :: l => if isBlk c then gp false l + 1 else if c = 35 then gp true l + 1 else 0
  | true, c :: l => if c = 10 then gp false l + 1 else gp true l + 1
/-- behind the first quote: what a string stands for, and how many bytes it takes; true: behind a stroke. -/
def st : Bool → B → Option (B × Nat)
  | _, [] => none
  | false, c :: l => if c = 34 then some ([], 1) else if c = 10 then none else if c = 92 then (st true l).map fun r => (r.1, r.2 + 1) else (st false l).map fun r => (c :: r.1, r.2 + 1)
  | true, c :: l => if c = 92 ∨ c = 34 then (st false l).map fun r => (c :: r.1, r.2 + 1) else if c = 110 then (st false l).map fun r => (10 :: r.1, r.2 + 1) else none
def esc : B → B
  | [] => []
  | c :: l => if c = 92 ∨ c = 34 then 92 :: c :: esc l else if c = 10 then 92 :: 110 :: esc l else c :: esc l
def quote (t : B) : B := 34 :: (esc t ++ [34])
inductive Rd
  | bad (e : Int)
  | tok (k : Int) (t : B) (n : Nat)
/-- is the next byte one of a kind. -/
def hd (p : UInt8 → Bool) : B → Bool
  | [] => false
  | c :: _ => p c
/-- the token at the beginning. -/
def nx : B → Rd
  | [] => .bad 3
  | c :: l =>
    if isLet c then if 24 < run isWord (c :: l) then .bad 2 else .tok 1 ((c :: l).take (run isWord (c :: l))) (run isWord (c :: l))
    else if isDig c then if 7 < run isDig (c :: l) ∨ hd isWord ((c :: l).drop (run isDig (c :: l))) = true then .bad 4 else .tok 2 ((c :: l).take (run isDig (c :: l))) (run isDig (c :: l))
    else if c = 34 then match st false l with | none => .bad 3 | some r => .tok 3 r.1 (r.2 + 1)
    else if isSym c then .tok 4 [c] 1 else .bad 3
structure Tk where
  k : Int
  t : B
  a : Nat
deriving DecidableEq
/-- the tokens of a text from an offset on. -/
inductive Lx : Nat → B → List Tk → Option (Int × Nat) → Prop
  | done {a : Nat} {l : B} : l.drop (gp false l) = [] → Lx a l [] none
  | bad {a : Nat} {l m : B} {e : Int} : l.drop (gp false l) = m → m ≠ [] → nx m = .bad e → Lx a l [] (some (e, a + gp false l))
  | tok {a : Nat} {l m : B} {k : Int} {t : B} {n : Nat} {ts : List Tk} {r : Option (Int × Nat)} : l.drop (gp false l) = m → m ≠ [] → nx m = .tok k t n → Lx (a + gp false l + n) (m.drop n) ts r → Lx a l (⟨k, t, a + gp false l⟩ :: ts) r
section
variable {p q : UInt8 → Bool} {l m : B}
theorem run_le (p : UInt8 → Bool) : ∀ l : B, run p l ≤ l.length
  | [] => Nat.le_refl _
  | c :: l => by unfold run; have := run_le p l; split <;> simp; omega
theorem run_hd (p : UInt8 → Bool) : ∀ l : B, hd p (l.drop (run p l)) = false
  | [] => rfl
  | c :: l => by
    unfold run
    by_cases h : p c
    · rw [if_pos h, List.drop_succ_cons]; exact run_hd p l
    · rw [if_neg h]; simpa [hd] using h
theorem run_all (p : UInt8 → Bool) : ∀ l : B, ∀ c ∈ l.take (run p l), p c = true
  | [] => by simp [run]
  | c :: l => by
    unfold run
    by_cases h : p c
    · rw [if_pos h]
      intro d hd
      rw [List.take_succ_cons, List.mem_cons] at hd
      rcases hd with rfl | hd
      · exact h
      · exact run_all p l d hd
    · rw [if_neg h]; simp
/-- a run is what it is: all bytes of the kind, and the next one none. -/
theorem run_eq : ∀ (l : B) (n : Nat), n ≤ l.length → (∀ c ∈ l.take n, p c = true) → hd p (l.drop n) = false → run p l = n
  | [], n, h, _, _ => by simp at h; subst h; rfl
  | c :: l, 0, _, _, h => by unfold run; rw [if_neg]; simpa [hd] using h
  | c :: l, n + 1, h, ha, hh => by
    unfold run
    rw [if_pos (ha c (by simp)), run_eq l n (by simpa using h) (fun d hd => ha d (by simp [hd])) (by simpa using hh)]
theorem run_app (s : B) (hs : hd p s = false) : run p (l ++ s) = run p l := by
  induction l with
  | nil => cases s with
    | nil => rfl
    | cons d s => show run p (d :: s) = 0; unfold run; rw [if_neg]; simpa [hd] using hs
  | cons c l ih => show run p (c :: (l ++ s)) = _; unfold run; rw [ih]
theorem run_take : ∀ (l : B) (j : Nat), run p l ≤ j → run p (l.take j) = run p l
  | [], j, _ => by simp
  | c :: l, 0, h => by unfold run at h ⊢; split at h <;> simp_all
  | c :: l, j + 1, h => by
    rw [List.take_succ_cons]
    unfold run at h ⊢
    by_cases hc : p c
    · rw [if_pos hc] at h ⊢; rw [if_pos hc, run_take l j (by omega)]
    · rw [if_neg hc, if_neg hc]
theorem run_step {c : UInt8} (h : p c = true) : run p (c :: l) = run p l + 1 := by rw [run, if_pos h]
theorem run_none {c : UInt8} (h : p c = false) : run p (c :: l) = 0 := by rw [run, if_neg (by simp [h])]
theorem run_mono (h : ∀ c, p c = true → q c = true) : ∀ l : B, run p l ≤ run q l
  | [] => Nat.le_refl _
  | c :: l => by
    unfold run
    have := run_mono h l
    by_cases hc : p c
    · rw [if_pos hc, if_pos (h c hc)]; omega
    · rw [if_neg hc]; exact Nat.zero_le _
theorem gp_le : ∀ (b : Bool) (l : B), gp b l ≤ l.length
  | _, [] => by simp [gp]
  | false, c :: l => by unfold gp; have := gp_le false l; have := gp_le true l; (repeat' split) <;> simp <;> omega
  | true, c :: l => by unfold gp; have := gp_le false l; have := gp_le true l; (repeat' split) <;> simp <;> omega
theorem gp_blk : ∀ l : B, gp false l = run isBlk l + gp false (l.drop (run isBlk l))
  | [] => rfl
  | c :: l => by
    by_cases h : isBlk c
    · rw [run_step h, List.drop_succ_cons, gp, if_pos h, gp_blk l]; omega
    · rw [run_none (by simpa using h)]; simp
theorem gp_cmt : ∀ l : B, gp true l = run (· != 10) l + gp false (l.drop (run (· != 10) l))
  | [] => rfl
  | c :: l => by
    by_cases h : c = 10
    · subst h
      rw [run_none (by rfl), List.drop_zero, Nat.zero_add]
      rfl
    · rw [run_step (by simpa using h), List.drop_succ_cons, gp, if_neg h, gp_cmt l]; omega
theorem gp_hash {c : UInt8} (h : c = 35) : gp false (c :: l) = run (· != 10) (c :: l) + gp false ((c :: l).drop (run (· != 10) (c :: l))) := by
  subst h
  rw [run_step (by decide), List.drop_succ_cons, gp, if_neg (by decide), if_pos rfl, gp_cmt l]
  omega
/-- behind the gaps comes no gap. -/
theorem gp_end : ∀ (b : Bool) (l : B), hd (fun c => isBlk c || c == 35) (l.drop (gp b l)) = false
  | _, [] => by simp [gp, hd]
  | false, c :: l => by
    unfold gp
    by_cases h : isBlk c
    · rw [if_pos h, List.drop_succ_cons]; exact gp_end false l
    · rw [if_neg h]
      by_cases h2 : c = 35
      · rw [if_pos h2, List.drop_succ_cons]; exact gp_end true l
      · rw [if_neg h2]; simp [hd, h, h2]
  | true, c :: l => by
    unfold gp
    by_cases h : c = 10
    · rw [if_pos h, List.drop_succ_cons]; exact gp_end false l
    · rw [if_neg h, List.drop_succ_cons]; exact gp_end true l
theorem gp_zero {c : UInt8} (h : isBlk c = false) (h2 : c ≠ 35) : gp false (c :: l) = 0 := by rw [gp, if_neg (by simp [h]), if_neg h2]
theorem gp_drop (b : Bool) (l : B) : gp false (l.drop (gp b l)) = 0 := by
  have h := gp_end b l
  cases hm : l.drop (gp b l) with
  | nil => rfl
  | cons c m =>
    rw [hm] at h
    simp only [hd, Bool.or_eq_false_iff, beq_eq_false_iff_ne, ne_eq] at h
    exact gp_zero h.1 h.2
/-- the gaps themselves are gaps. -/
theorem gp_self : ∀ (b : Bool) (l : B), gp b (l.take (gp b l)) = gp b l
  | b, [] => by simp
  | false, c :: l => by
    by_cases h : isBlk c
    · rw [show gp false (c :: l) = gp false l + 1 by rw [gp, if_pos h], List.take_succ_cons, gp, if_pos h, gp_self false l]
    · by_cases h2 : c = 35
      · rw [show gp false (c :: l) = gp true l + 1 by rw [gp, if_neg h, if_pos h2], List.take_succ_cons, gp, if_neg h, if_pos h2, gp_self true l]
      · rw [show gp false (c :: l) = 0 by rw [gp, if_neg h, if_neg h2]]; rfl
  | true, c :: l => by
    by_cases h : c = 10
    · rw [show gp true (c :: l) = gp false l + 1 by rw [gp, if_pos h], List.take_succ_cons, gp, if_pos h, gp_self false l]
    · rw [show gp true (c :: l) = gp true l + 1 by rw [gp, if_neg h], List.take_succ_cons, gp, if_neg h, gp_self true l]
/-- gaps stay gaps in a comment. -/
theorem gp_in : ∀ g : B, gp false g = g.length → gp true g = g.length
  | [], _ => rfl
  | c :: g, h => by
    rw [gp] at h
    rw [gp]
    by_cases h1 : c = 10
    · subst h1
      rw [if_pos (by decide)] at h
      rw [if_pos rfl]; simpa using h
    · rw [if_neg h1]
      by_cases h2 : isBlk c
      · rw [if_pos h2] at h
        rw [gp_in g (by simpa using h)]; rfl
      · rw [if_neg h2] at h
        by_cases h3 : c = 35
        · rw [if_pos h3] at h; exact h
        · rw [if_neg h3] at h; simp at h
theorem gp_more (s : B) : ∀ (b : Bool) (l : B), gp b l < l.length → gp b (l ++ s) = gp b l
  | b, [], h => by simp [gp] at h
  | false, c :: l, h => by
    rw [List.cons_append]
    by_cases h1 : isBlk c
    · rw [gp, if_pos h1] at h ⊢; rw [gp, if_pos h1, gp_more s false l (by simpa using h)]
    · rw [gp, if_neg h1] at h ⊢
      by_cases h2 : c = 35
      · rw [if_pos h2] at h ⊢; rw [gp, if_neg h1, if_pos h2, gp_more s true l (by simpa using h)]
      · rw [if_neg h2, gp, if_neg h1, if_neg h2]
  | true, c :: l, h => by
    rw [List.cons_append]
    by_cases h1 : c = 10
    · rw [gp, if_pos h1] at h ⊢; rw [gp, if_pos h1, gp_more s false l (by simpa using h)]
    · rw [gp, if_neg h1] at h ⊢; rw [gp, if_neg h1, gp_more s true l (by simpa using h)]
/-- whole gaps, and a line feed. -/
theorem gp_line (s : B) : ∀ (b : Bool) (l : B), gp b l = l.length → gp b (l ++ 10 :: s) = l.length + 1 + gp false s
  | false, [], _ => by show gp false (10 :: s) = _; rw [gp, if_pos (by decide)]; simp; omega
  | true, [], _ => by show gp true (10 :: s) = _; rw [gp, if_pos rfl]; simp; omega
  | false, c :: l, h => by
    rw [List.cons_append]
    by_cases h1 : isBlk c
    · rw [gp, if_pos h1] at h ⊢; rw [gp_line s false l (by simpa using h)]; simp; omega
    · rw [gp, if_neg h1] at h ⊢
      by_cases h2 : c = 35
      · rw [if_pos h2] at h ⊢; rw [gp_line s true l (by simpa using h)]; simp; omega
      · rw [if_neg h2] at h; simp at h
  | true, c :: l, h => by
    rw [List.cons_append]
    by_cases h1 : c = 10
    · rw [gp, if_pos h1] at h ⊢; rw [gp_line s false l (by simpa using h)]; simp; omega
    · rw [gp, if_neg h1] at h ⊢; rw [gp_line s true l (by simpa using h)]; simp; omega
/-- whole gaps, and gaps. -/
theorem gp_gaps {g : B} (hg : gp false g = g.length) : ∀ (b : Bool) (l : B), gp b l = l.length → gp b (l ++ g) = l.length + g.length
  | false, [], _ => by show gp false g = _; simp [hg]
  | true, [], _ => by show gp true g = _; simp [gp_in g hg]
  | false, c :: l, h => by
    rw [List.cons_append]
    by_cases h1 : isBlk c
    · rw [gp, if_pos h1] at h ⊢; rw [gp_gaps hg false l (by simpa using h)]; simp; omega
    · rw [gp, if_neg h1] at h ⊢
      by_cases h2 : c = 35
      · rw [if_pos h2] at h ⊢; rw [gp_gaps hg true l (by simpa using h)]; simp; omega
      · rw [if_neg h2] at h; simp at h
  | true, c :: l, h => by
    rw [List.cons_append]
    by_cases h1 : c = 10
    · rw [gp, if_pos h1] at h ⊢; rw [gp_gaps hg false l (by simpa using h)]; simp; omega
    · rw [gp, if_neg h1] at h ⊢; rw [gp_gaps hg true l (by simpa using h)]; simp; omega
end
end Go.Proofs.Ytlknbjaippfemaa.Lx
