/- lexer: pair; the reader's quoted. -/
import Derived.Test.YtlknbjaippfemaaLxQuote
import Derived.WalkMore
namespace Go.Proofs.Ytlknbjaippfemaa.Lx
open Go.RowKit
/-- what a pair stands for, behind its stroke. -/
def prv : B → UInt8
  | [] => 0
  | d :: _ => if d = 92 ∨ d = 34 then d else if d = 110 then 10 else 0
def prk : B → Bool
  | [] => false
  | d :: _ => d == 92 || d == 34 || d == 110
theorem pre_two (d : UInt8) : ∀ l : B, Lib.hasPrefix (92 :: l) [92, d] = hd (· == d) l
  | [] => by rfl
  | c :: l => by
    show ([92, d] : B).isPrefixOf (92 :: c :: l) = (c == d)
    simp only [List.isPrefixOf, beq_self_eq_true, Bool.true_and, Bool.and_true]
    rw [Bool.eq_iff_iff]; simp; exact ⟨fun h => h.symm, fun h => h.symm⟩
set_option maxRecDepth 100000 in
set_option maxHeartbeats 400000 in
theorem pair_any (s : ByteArray) (l : B) (w : World) (hl : s.data.toList = 92 :: l) :
    Calls Try.prog 88 #[.string s] w fun e w' => e = .returned (.tuple #[.int .u8 (prv l).toNat, .bool (prk l)]) ∧ w' = w := by
  have k1 := fun W => Try.strings_HasPrefix s ⟨#[92, 92]⟩ W
  have k2 := fun W => Try.strings_HasPrefix s ⟨#[92, 34]⟩ W
  have k3 := fun W => Try.strings_HasPrefix s ⟨#[92, 110]⟩ W
  rw [hl] at k1 k2 k3
  rw [show (ByteArray.mk #[92, 92]).data.toList = [92, 92] from rfl, pre_two] at k1
  rw [show (ByteArray.mk #[92, 34]).data.toList = [92, 34] from rfl, pre_two] at k2
  rw [show (ByteArray.mk #[92, 110]).data.toList = [92, 110] from rfl, pre_two] at k3
  clear hl
  have H : Hid ((prv l, prk l) = if hd (· == 92) l = true then (92, true) else if hd (· == 34) l = true then (34, true) else if hd (· == 110) l = true then (10, true) else (0, false)) := by
    cases l with
    | nil => exact Lib.hid rfl
    | cons d m =>
      have : ∀ d : UInt8, ((if d = 92 ∨ d = 34 then d else if d = 110 then 10 else 0 : UInt8), (d == 92 || d == 34 || d == 110)) = if (d == 92) = true then ((92 : UInt8), true) else if (d == 34) = true then (34, true) else if (d == 110) = true then (10, true) else (0, false) := all_u8 (by decide +kernel)
      exact Lib.hid (this d)
  generalize prv l = v at *
  generalize prk l = b at *
  cases h1 : hd (· == 92) l with
  | true =>
    rw [h1] at k1
    have e := H.out
    rw [h1, if_pos rfl] at e
    obtain ⟨rfl, rfl⟩ := Prod.mk.inj e
    clear h1 H e
    go_enter Try.func88, Try.ntmps88
    go_wp2_with ((with_reducible refine (k1 _).mono ?_); rintro e w' ⟨rfl, rfl⟩)
    go_ret2
    exact ⟨rfl, rfl⟩
  | false =>
    rw [h1] at k1
    cases h2 : hd (· == 34) l with
    | true =>
      rw [h2] at k2
      have e := H.out
      rw [h1, if_neg (by decide), h2, if_pos rfl] at e
      obtain ⟨rfl, rfl⟩ := Prod.mk.inj e
      clear h1 h2 H e
      go_enter Try.func88, Try.ntmps88
      go_wp2_with (first | ((with_reducible refine (k1 _).mono ?_); rintro e w' ⟨rfl, rfl⟩) | ((with_reducible refine (k2 _).mono ?_); rintro e w' ⟨rfl, rfl⟩))
      go_ret2
      exact ⟨rfl, rfl⟩
    | false =>
      rw [h2] at k2
      cases h3 : hd (· == 110) l with
      | true =>
        rw [h3] at k3
        have e := H.out
        rw [h1, if_neg (by decide), h2, if_neg (by decide), h3, if_pos rfl] at e
        obtain ⟨rfl, rfl⟩ := Prod.mk.inj e
        clear h1 h2 h3 H e
        go_enter Try.func88, Try.ntmps88
        go_wp2_with (first | ((with_reducible refine (k1 _).mono ?_); rintro e w' ⟨rfl, rfl⟩) | ((with_reducible refine (k2 _).mono ?_); rintro e w' ⟨rfl, rfl⟩) | ((with_reducible refine (k3 _).mono ?_); rintro e w' ⟨rfl, rfl⟩))
        go_ret2
        exact ⟨rfl, rfl⟩
      | false =>
        rw [h3] at k3
        have e := H.out
        rw [h1, if_neg (by decide), h2, if_neg (by decide), h3, if_neg (by decide)] at e
        obtain ⟨rfl, rfl⟩ := Prod.mk.inj e
        clear h1 h2 h3 H e
        go_enter Try.func88, Try.ntmps88
        go_wp2_with (first | ((with_reducible refine (k1 _).mono ?_); rintro e w' ⟨rfl, rfl⟩) | ((with_reducible refine (k2 _).mono ?_); rintro e w' ⟨rfl, rfl⟩) | ((with_reducible refine (k3 _).mono ?_); rintro e w' ⟨rfl, rfl⟩))
        go_ret2
        exact ⟨rfl, rfl⟩
theorem st_true (l : B) : st true l = if prk l then (st false (l.drop 1)).map fun r => (prv l :: r.1, r.2 + 1) else none := by
  cases l with
  | nil => rfl
  | cons d m =>
    rw [st, List.drop_succ_cons, List.drop_zero, show prk (d :: m) = (d == 92 || d == 34 || d == 110) from rfl, show prv (d :: m) = if d = 92 ∨ d = 34 then d else if d = 110 then 10 else 0 from rfl]
    by_cases h1 : d = 92 ∨ d = 34
    · rw [if_pos h1, if_pos (by rcases h1 with rfl | rfl <;> rfl), if_pos h1]
    · rw [if_neg h1, if_neg h1]
      by_cases h2 : d = 110
      · subst h2; rfl
      · rw [if_neg h2, if_neg]
        intro h
        simp only [Bool.or_eq_true, beq_iff_eq] at h
        rcases h with h | h
        · exact h1 h
        · exact h2 h
def cont (acc : B) (n : Nat) (o : Option (B × Nat)) : Option (B × Nat) := o.map fun r => (acc ++ r.1, n + r.2)
theorem cont_start (o : Option (B × Nat)) : o = cont [] 0 o := by cases o <;> simp [cont]
theorem cont_plain {acc l : B} {c : UInt8} {n : Nat} (h1 : c ≠ 34) (h2 : c ≠ 10) (h3 : c ≠ 92) : cont acc n (st false (c :: l)) = cont (acc ++ [c]) (n + 1) (st false l) := by
  rw [st, if_neg h1, if_neg h2, if_neg h3]
  unfold cont
  cases st false l with
  | none => rfl
  | some r => simp; omega
theorem cont_pair {acc l : B} {n : Nat} (h : prk l = true) : cont acc n (st false (92 :: l)) = cont (acc ++ [prv l]) (n + 2) (st false (l.drop 1)) := by
  rw [st, if_neg (by decide), if_neg (by decide), if_pos rfl, st_true, if_pos h]
  unfold cont
  cases st false (l.drop 1) with
  | none => rfl
  | some r => simp; omega
theorem cont_nopair {acc l : B} {n : Nat} (h : prk l = false) : cont acc n (st false (92 :: l)) = none := by
  rw [st, if_neg (by decide), if_neg (by decide), if_pos rfl, st_true, h]; rfl
/-- a call that leaves its world as it was, in a region behind others that drew. -/
theorem still_again {P : Program} {f : FuncId} {args : Array Value} {v : Value} (k : ∀ W, Calls P f args W fun e w' => e = .returned v ∧ w' = W) (w : World) (a n : Nat) :
    Calls P f args (w.drewN (a + n)) fun e w' => e = .returned v ∧ ∃ m, w' = w.drewN (a + m) := (k _).mono fun _ _ h => ⟨h.1, n, h.2⟩
/-- what quoted answers and leaves. -/
def QOut (w : World) (g : Nat) (s : ByteArray) (i : Nat) (o : Option (B × Nat)) (e : Ending) (w' : World) : Prop :=
  match o with
  | some r => e = .returned (.tuple #[.string ⟨r.1.toArray⟩, .int .i64 0]) ∧ w.grownBy w' (some g) ∧ Rdr w' g s (i + 1 + r.2)
  | none => e = .returned (.tuple #[.string ⟨#[]⟩, .int .i64 3]) ∧ w.grownBy w' (some g)
theorem used_put {B b : Nat} {p : Value} {bs : List Value} {w : World} (h : Lib.BuilderAt 59 5 B b p bs w) (g j : Nat) (hg : g < B) (u : Value) : Lib.BuilderAt 59 5 B b p bs (w.setCell ⟨g, j, none⟩ u) := by
  obtain ⟨hB, v, hbk, hown, hne⟩ := h
  refine ⟨hB, v, (Below.heap_setCell w ⟨g, j, none⟩ u b (by show b ≠ g; omega)).trans hbk, hown.kept (row := some g) (grown_put w g j u) (Or.inr fun e => ?_), hne⟩
  have := (hown.lt g e).1
  omega
theorem Holds.put {B b : Nat} {bs : List Value} {w : World} (h : Holds B b bs w) (g j : Nat) (hg : g < B) (u : Value) : Holds B b bs (w.setCell ⟨g, j, none⟩ u) := by
  rcases h with h | h
  · exact .inl (used_put h g j hg u)
  · exact .inr (used_put h g j hg u)
theorem grown_b {w w1 w2 : World} {row : Option Nat} (h : w.grownBy w1 row) (hb : Below w.heap.size w1 w2) : w.grownBy w2 row :=
  ⟨hb.os.trans h.os, hb.tape.trans h.tape, hb.output.trans h.output, Nat.le_trans h.size hb.size, fun i hi hne => (hb.block i hi).trans (h.block i hi hne)⟩
theorem Rdr.belowB {w w' : World} {g B : Nat} {s : ByteArray} {i : Nat} (h : Rdr w g s i) (hb : Below B w w') (hg : g < B) : Rdr w' g s i := IsRow.below h hb hg
/-- what stands between two rounds of quoted. -/
structure QInv (w : World) (g : Nat) (s : ByteArray) (i k : Nat) (acc : B) (wr : World) : Prop where
  k1 : i + 1 ≤ k
  k2 : k ≤ s.size
  st : st false (s.data.toList.drop (i + 1)) = cont acc (k - (i + 1)) (st false (s.data.toList.drop k))
  len : acc.length ≤ k
  gr : w.grownBy wr (some g)
  rd : Rdr wr g s k
  hb : Holds w.heap.size w.heap.size (Lib.byteCells acc) wr
set_option maxRecDepth 100000 in
set_option maxHeartbeats 1000000 in
theorem quoted_any (g : Nat) (s : ByteArray) (i : Nat) (w : World) (h : Rdr w g s i) (hi : i < s.size) (hm : s.size ≤ 20000) :
    Calls Try.prog 75 #[.pointer (some ⟨g, 0, none⟩)] w fun e w' => QOut w g s i (st false (s.data.toList.drop (i + 1))) e w' := by
  have hgs := h.inside
  obtain ⟨W, hW⟩ : ∃ W, w.alloc (.cells #[.pointer none, .slice none 0 0] 59) = W := ⟨_, rfl⟩
  have B0 : Below w.heap.size w W := hW ▸ alloc1 w _
  have U0 : Holds w.heap.size w.heap.size (Lib.byteCells []) W := hW ▸ Lib.fresh_isBuilder _ _ _
  have R0 : Rdr W g s i := h.below B0
  have c1 := R0.at_
  have f1 := R0.open_ 1
  have e1 : (i : Int) + 1 = ((i + 1 : Nat) : Int) := by omega
  have Q0 : Hid (QInv w g s i (i + 1) [] (W.setCell ⟨g, 1, none⟩ (.int .i64 ((i : Int) + 1)))) := by
    rw [e1]
    exact ⟨Nat.le_refl _, hi, by rw [Nat.sub_self]; exact cont_start _, by simp, grown_trans (grown_of_below B0 _) (grown_put _ _ _ _), R0.put _, U0.put g 1 hgs _⟩
  have HW := Lib.hid hW
  clear hW B0 U0 R0 h e1
  obtain ⟨O, hO⟩ : ∃ O, st false (s.data.toList.drop (i + 1)) = O := ⟨_, rfl⟩
  have HO := Lib.hid hO
  rw [hO]
  clear hO
  go_enter Try.func75, Try.ntmps75
  go_wp2
  go_step3
  go_wp2_with fail
  go_step3
  rw [HW.out]
  go_wp2
  clear c1 f1
  go_loopg [] (s.size - (i + 1)) (fun q wr => ∃ (k : Nat) (acc : B), Hid (k + q = s.size) ∧ Hid (QInv w g s i k acc wr))
  case atStart => exact ⟨i + 1, [], Lib.hid (by omega), Q0⟩
  case round =>
    clear Q0 HW
    obtain ⟨k, acc, HK, HQ⟩ := hrel
    have c0 := HQ.out.rd.text
    have c1 := HQ.out.rd.at_
    have f1 := HQ.out.rd.open_ 1
    have hk1 := HQ.out.k1
    have hk2 := HQ.out.k2
    by_cases hlt : k < s.size
    · have hd := drop_at s k hlt
      have HI := HQ.out.st
      rw [HO.out, hd] at HI
      have hl1 : (k : Int) < (s.size : Int) := by omega
      have G1 : Hid (∀ n, Holds w.heap.size w.heap.size (Lib.byteCells acc) (wr.drewN n)) := Lib.hid fun n => HQ.out.hb.below (below_drewN (Below.refl _ _) _)
      by_cases h34 : s[k] = 34
      · have e1 : ((s[k].toNat : Int) == 34) = true := by rw [h34]; rfl
        have HF : Hid (O = some (acc, k - (i + 1) + 1)) := by rw [HI, h34, st, if_pos rfl]; exact Lib.hid (by simp [cont])
        have e3 : (k : Int) + 1 = ((k + 1 : Nat) : Int) := by omega
        have R3 : Hid (∀ n, Rdr ((wr.drewN n).setCell ⟨g, 1, none⟩ (.int .i64 ((k : Int) + 1))) g s (k + 1)) := Lib.hid fun n => by rw [e3]; exact Rdr.put (HQ.out.rd.below (below_drewN (Below.refl _ _) _)) _
        have GR3 : Hid (∀ n, w.grownBy ((wr.drewN n).setCell ⟨g, 1, none⟩ (.int .i64 ((k : Int) + 1))) (some g)) := Lib.hid fun n => grown_trans (grown_trans HQ.out.gr (grown_of_below (below_drewN (Below.refl _ _) _) _)) (grown_put _ _ _ _)
        have U3 : Hid (∀ n, Holds w.heap.size w.heap.size (Lib.byteCells acc) ((wr.drewN n).setCell ⟨g, 1, none⟩ (.int .i64 ((k : Int) + 1)))) := Lib.hid fun n => (G1.out n).put g 1 hgs _
        clear HI hd h34 e3
        go_wp2
        go_quiet (fail)
        go_wp2
        go_quiet (fail)
        go_wp2_with fail
        refine (Try.Builder_String_any w.heap.size w.heap.size acc _ (U3.out _) (GR3.out _).size).mono ?_
        rintro e w4 ⟨rfl, hb4⟩
        have R4 := Lib.hid ((R3.out _).belowB hb4 hgs)
        have GR4 := Lib.hid (grown_b (GR3.out _) hb4)
        clear hb4 R3 GR3 U3 G1
        go_wp2
        rw [Exit.noGoto_ret]
        go_ret2
        rw [HF.out]
        exact ⟨rfl, GR4.out, by rw [show i + 1 + (k - (i + 1) + 1) = k + 1 by omega]; exact R4.out⟩
      · have e1 : ((s[k].toNat : Int) == 34) = false := by
          have := u8_beq s[k] 34 (by decide)
          rw [show ((34 : Nat) : Int) = 34 from rfl] at this
          rw [this, beq_eq_false_iff_ne]; exact h34
        by_cases h10 : s[k] = 10
        · have e2 : ((s[k].toNat : Int) == 10) = true := by rw [h10]; rfl
          have HF : Hid (O = none) := by rw [HI, h10, st, if_neg (by decide), if_pos rfl]; exact Lib.hid rfl
          have GR3 : Hid (∀ n, w.grownBy (wr.drewN n) (some g)) := Lib.hid fun n => grown_trans HQ.out.gr (grown_of_below (below_drewN (Below.refl _ _) _) _)
          clear HI hd h34 h10 G1
          go_wp2
          go_quiet (fail)
          go_wp2
          go_quiet (fail)
          go_wp2
          try rw [Exit.noGoto_ret]
          go_ret2
          rw [HF.out]
          exact ⟨rfl, GR3.out _⟩
        · have e2 : ((s[k].toNat : Int) == 10) = false := by
            have := u8_beq s[k] 10 (by decide)
            rw [show ((10 : Nat) : Int) = 10 from rfl] at this
            rw [this, beq_eq_false_iff_ne]; exact h10
          by_cases h92 : s[k] = 92
          · have e3 : ((s[k].toNat : Int) == 92) = true := by rw [h92]; rfl
            have K1 : ∀ W, Calls Try.prog 88 #[.string (s.extract k s.size)] W fun e w' => e = .returned (.tuple #[.int .u8 (prv (s.data.toList.drop (k + 1))).toNat, .bool (prk (s.data.toList.drop (k + 1)))]) ∧ w' = W := fun W => pair_any _ _ W (by rw [ext_end, hd, h92])
            rw [h92] at HI
            cases hp : prk (s.data.toList.drop (k + 1)) with
            | false =>
              rw [hp] at K1
              have HF : Hid (O = none) := by rw [HI, cont_nopair hp]; exact Lib.hid rfl
              have GR3 : Hid (∀ n, w.grownBy (wr.drewN n) (some g)) := Lib.hid fun n => grown_trans HQ.out.gr (grown_of_below (below_drewN (Below.refl _ _) _) _)
              clear HI hd h34 h10 G1 h92 hp
              go_wp2
              go_quiet (fail)
              go_wp2
              go_quiet (fail)
              go_wp2
              go_quiet (exact still_again K1 _ _ _)
              go_wp2
              try rw [Exit.noGoto_ret]
              go_ret2
              rw [HF.out]
              exact ⟨rfl, GR3.out _⟩
            | true =>
              rw [hp] at K1
              obtain ⟨hk3, hne⟩ : k + 2 ≤ s.size ∧ s.data.toList.drop (k + 1) ≠ [] := by
                cases hl : s.data.toList.drop (k + 1) with
                | nil => rw [hl] at hp; cases hp
                | cons d m =>
                  refine ⟨?_, by simp⟩
                  have := congrArg List.length hl
                  simp at this
                  omega
              rw [cont_pair hp, List.drop_drop] at HI
              have HI2 := Lib.hid HI
              generalize prv (s.data.toList.drop (k + 1)) = v at *
              have ek : (k : Int) + 1 = ((k + 1 : Nat) : Int) := by omega
              have R3 : Hid (∀ n, Rdr ((wr.drewN n).setCell ⟨g, 1, none⟩ (.int .i64 ((k : Int) + 1))) g s (k + 1)) := Lib.hid fun n => by rw [ek]; exact Rdr.put (HQ.out.rd.below (below_drewN (Below.refl _ _) _)) _
              have GR3 : Hid (∀ n, w.grownBy ((wr.drewN n).setCell ⟨g, 1, none⟩ (.int .i64 ((k : Int) + 1))) (some g)) := Lib.hid fun n => grown_trans (grown_trans HQ.out.gr (grown_of_below (below_drewN (Below.refl _ _) _) _)) (grown_put _ _ _ _)
              have U3 : Hid (∀ n, Holds w.heap.size w.heap.size (Lib.byteCells acc) ((wr.drewN n).setCell ⟨g, 1, none⟩ (.int .i64 ((k : Int) + 1)))) := Lib.hid fun n => (G1.out n).put g 1 hgs _
              have hlen := HQ.out.len
              clear HI hd h34 h10 G1 h92 hp ek hne
              go_wp2
              go_quiet (fail)
              go_wp2
              go_quiet (fail)
              go_wp2
              go_quiet (exact still_again K1 _ _ _)
              go_wp2_with fail
              refine (writeByte_any w.heap.size w.heap.size (Lib.byteCells acc) _ _ (U3.out _) (by simp [Lib.byteCells_length]; omega)).mono ?_
              rintro e w4 ⟨rfl, hu4, hb4⟩
              have R4 := (R3.out _).belowB hb4 hgs
              have GR4 := grown_b (GR3.out _) hb4
              have d1 := R4.at_
              have g1 := R4.open_ 1
              have QN : Hid (QInv w g s i (k + 2) (acc ++ [v]) (w4.setCell ⟨g, 1, none⟩ (.int .i64 ((k + 1 : Nat) + 1 : Int)))) := by
                have ek : ((k + 1 : Nat) + 1 : Int) = ((k + 2 : Nat) : Int) := by omega
                rw [ek]
                exact ⟨by omega, hk3, by rw [HO.out, HI2.out, show k - (i + 1) + 2 = k + 2 - (i + 1) by omega], by simp; omega, grown_trans GR4 (grown_put _ _ _ _), R4.put _, Holds.put (.inr (by rw [cells_one]; exact hu4)) g 1 hgs _⟩
              clear R4 GR4 hu4 hb4 R3 GR3 U3 HI2 HQ K1
              go_wp2
              go_roundg (s.size - (k + 2))
              case rel => exact ⟨k + 2, acc ++ [v], Lib.hid (by have := HK.out; omega), QN⟩
              case measure => have := HK.out; omega
          · have e3 : ((s[k].toNat : Int) == 92) = false := by
              have := u8_beq s[k] 92 (by decide)
              rw [show ((92 : Nat) : Int) = 92 from rfl] at this
              rw [this, beq_eq_false_iff_ne]; exact h92
            rw [cont_plain h34 h10 h92] at HI
            have HI2 := Lib.hid HI
            have GR3 : Hid (∀ n, w.grownBy (wr.drewN n) (some g)) := Lib.hid fun n => grown_trans HQ.out.gr (grown_of_below (below_drewN (Below.refl _ _) _) _)
            have R3 : Hid (∀ n, Rdr (wr.drewN n) g s k) := Lib.hid fun n => HQ.out.rd.below (below_drewN (Below.refl _ _) _)
            have hlen := HQ.out.len
            clear HI hd h34 h10 h92
            go_wp2
            go_quiet (fail)
            go_wp2
            go_quiet (fail)
            go_wp2_with fail
            refine (writeByte_any w.heap.size w.heap.size (Lib.byteCells acc) _ _ (G1.out _) (by simp [Lib.byteCells_length]; omega)).mono ?_
            rintro e w4 ⟨rfl, hu4, hb4⟩
            have R4 := (R3.out _).belowB hb4 hgs
            have GR4 := grown_b (GR3.out _) hb4
            have d1 := R4.at_
            have g1 := R4.open_ 1
            have QN : Hid (QInv w g s i (k + 1) (acc ++ [s[k]]) (w4.setCell ⟨g, 1, none⟩ (.int .i64 ((k : Int) + 1)))) := by
              have ek : (k : Int) + 1 = ((k + 1 : Nat) : Int) := by omega
              rw [ek]
              exact ⟨by omega, by omega, by rw [HO.out, HI2.out, show k - (i + 1) + 1 = k + 1 - (i + 1) by omega], by simp; omega, grown_trans GR4 (grown_put _ _ _ _), R4.put _, Holds.put (.inr (by rw [cells_one]; exact hu4)) g 1 hgs _⟩
            clear R4 GR4 hu4 hb4 R3 GR3 G1 HI2 HQ
            go_wp2
            go_roundg (s.size - (k + 1))
            case rel => exact ⟨k + 1, acc ++ [s[k]], Lib.hid (by have := HK.out; omega), QN⟩
            case measure => have := HK.out; omega
    · obtain rfl : k = s.size := by omega
      have HI := HQ.out.st
      rw [HO.out, List.drop_of_length_le (by simp)] at HI
      have HF : Hid (O = none) := by rw [HI]; exact Lib.hid rfl
      have GR3 : Hid (∀ n, w.grownBy (wr.drewN n) (some g)) := Lib.hid fun n => grown_trans HQ.out.gr (grown_of_below (below_drewN (Below.refl _ _) _) _)
      clear HI
      go_wp2
      go_quiet (fail)
      go_wp2
      try rw [Exit.noGoto_ret]
      go_ret2
      rw [HF.out]
      exact ⟨rfl, GR3.out _⟩
end Go.Proofs.Ytlknbjaippfemaa.Lx
