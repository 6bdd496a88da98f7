/- areDigests, isFormed, follow and Verify by contract. -/
import Derived.Test.YtanlpcdljclnmaaDoorSlSigner
import Derived.Lib.QuietBelow
namespace Go.Proofs.YtanlpcdljclnmaaDoor.Sl
open Go.RowKit
open Go.Proofs.YtanlpcdljclnmaaDoor.Dg hiding intOf

theorem isDig_of (x : B) (b : Bool) (w : World) (hx : x.length ≤ 1000000) (hb : isDig x = b) :
    Calls Tryd.prog 49 #[.string ⟨x.toArray⟩] w fun e w' => e = .returned (.bool b) ∧ w = w' :=
  hb ▸ is_any ⟨x.toArray⟩ w (by rw [str_size]; unfold maxLen; omega)
theorem all_take_next {L : List B} {k : Nat} (h : k < L.length) (ha : (L.take k).all isDig = true) (hd : isDig (L.getD k []) = true) : (L.take (k + 1)).all isDig = true := by
  rw [List.take_succ_eq_append_getElem h, List.all_append, ha]
  rw [List.getD_eq_getElem?_getD, List.getElem?_eq_getElem h] at hd
  simpa using hd
theorem all_not {L : List B} {k : Nat} (h : k < L.length) (hd : isDig (L.getD k []) = false) : L.all isDig = false := by
  rw [List.all_eq_false]
  exact ⟨_, getD_mem h, by rw [hd]; simp⟩
set_option maxRecDepth 100000 in
set_option maxHeartbeats 1000000 in
theorem areDigests_any (a : Option Addr) (n cap : Nat) (L : List B) (w : World) {N : Nat} (hl : Txt w N a L) (hn : n = L.length) (hbig : n ≤ 1000000) (hx : ∀ x ∈ L, x.length ≤ 1000000) :
    Calls Tryd.prog 39 #[.slice a n cap] w fun e w' => e = .returned (.bool (L.all isDig)) ∧ w = w' := by
  have h1 : n ≤ L.length := by omega
  have h2 : L.length ≤ n := by omega
  have HX := Lib.hid hx
  clear hn hx
  go_enter Tryd.func39, Tryd.ntmps39
  go_wp2
  go_loop [7] (fun i => ∃ k : Nat, k ≤ n ∧ i = .int .i64 k ∧ Hid ((L.take k).all isDig = true)) (fun i => n - (intOf i).toNat)
  case atStart => exact ⟨0, by omega, rfl, rfl⟩
  case round =>
    obtain ⟨k, hk, rfl, hall⟩ := hrel
    by_cases hlt : k < n
    · obtain ⟨b, off, rfl, _, c1⟩ := hl.at_ (k := k) (by omega)
      have hsz := getD_small HX.out k
      cases hd : isDig (L.getD k []) with
      | true =>
        have A1 := Lib.hid (all_take_next (by omega) hall.out hd)
        have HD := Lib.hid hd
        clear hd hall
        go_wp2_with fail
        refine (isDig_of (L.getD k []) true _ hsz HD.out).mono ?_
        rintro e w' ⟨rfl, rfl⟩
        go_wp2
        go_round
        case rel => exact ⟨k + 1, by omega, by go_num, A1⟩
        case measure => simp [intOf]; omega
      | false =>
        have A1 := Lib.hid (all_not (by omega) hd)
        have HD := Lib.hid hd
        clear hd hall
        go_wp2_with fail
        refine (isDig_of (L.getD k []) false _ hsz HD.out).mono ?_
        rintro e w' ⟨rfl, rfl⟩
        go_wp2
        go_ret
        exact ⟨ret_bool A1.out.symm, rfl⟩
    · obtain rfl : k = n := by omega
      rw [List.take_of_length_le (by omega)] at hall
      go_wp2
      go_ret
      exact ⟨ret_bool hall.out.symm, rfl⟩
theorem areDigests_of (a : Option Addr) (n cap : Nat) (L : List B) (b : Bool) (w : World) {N : Nat} (hl : Txt w N a L) (hn : n = L.length) (hbig : n ≤ 1000000) (hx : ∀ x ∈ L, x.length ≤ 1000000) (hb : L.all isDig = b) :
    Calls Tryd.prog 39 #[.slice a n cap] w fun e w' => e = .returned (.bool b) ∧ w = w' := hb ▸ areDigests_any a n cap L w hl hn hbig hx
theorem isHeight_of (h : Int) (b : Bool) (w : World) (hb : (decide (0 ≤ h) && decide (h ≤ 8)) = b) :
    Calls Tryd.prog 13 #[.int .i64 h] w fun e w' => e = .returned (.bool b) ∧ w = w' := hb ▸ isHeight_any h w
theorem isIndex_of (i : Int) (h : Nat) (b : Bool) (w : World) (hh : h ≤ 8) (hb : inB i h = b) :
    Calls Tryd.prog 16 #[.int .i64 i, .int .i64 h] w fun e w' => e = .returned (.bool b) ∧ w = w' := hb ▸ isIndex_any i h w hh
theorem formed_eq (idx : Int) (sig ps : List B) : formed idx sig ps = (decide (sig.length = 18) && decide (ps.length ≤ 8) && inB idx ps.length && sig.all isDig && ps.all isDig) := rfl
set_option maxRecDepth 100000 in
set_option maxHeartbeats 2000000 in
theorem isFormed_any (idx : Int) (a p : Option Addr) (na ca np cp : Nat) (sig ps : List B) (w : World) (hl : Txt w w.heap.size a sig) (hp : Txt w w.heap.size p ps) (hna : na = sig.length) (hnp : np = ps.length)
    (h1 : na ≤ 1000000) (h2 : np ≤ 1000000) (hx : ∀ x ∈ sig, x.length ≤ 1000000) (hy : ∀ x ∈ ps, x.length ≤ 1000000) :
    Calls Tryd.prog 22 #[.agg #[.int .i64 idx, .slice a na ca, .slice p np cp]] w fun e w' => e = .returned (.bool (formed idx sig ps)) ∧ Below w.heap.size w w' := by
  rw [formed_eq, ← hna, ← hnp]
  have HA := Lib.hid hna
  have HP := Lib.hid hnp
  have bn := below_new w (.cells #[.int .i64 idx, .slice a na ca, .slice p np cp] 29)
  have TA : Hid (Txt (w.alloc (.cells #[.int .i64 idx, .slice a na ca, .slice p np cp] 29)) w.heap.size a sig) := hl.below bn
  have TP : Hid (Txt (w.alloc (.cells #[.int .i64 idx, .slice a na ca, .slice p np cp] 29)) w.heap.size p ps) := hp.below bn
  clear hna hnp hl hp
  go_enter Tryd.func22, Tryd.ntmps22
  by_cases h18 : na = 18
  · have e18 : ((na : Int) == 18) = true := by simp [h18]
    have H18 := Lib.hid h18
    clear h18
    by_cases h8 : np ≤ 8
    · have HB8 : Hid ((decide (0 ≤ (np : Int)) && decide ((np : Int) ≤ 8)) = true) := by show _ = _; simp; omega
      go_wp2_with fail
      refine (isHeight_of (np : Int) true _ HB8.out).mono ?_
      rintro e w' ⟨rfl, rfl⟩
      cases hi : inB idx np with
      | true =>
        have HI := Lib.hid hi
        clear hi
        go_wp2_with fail
        refine (isIndex_of idx np true _ h8 HI.out).mono ?_
        rintro e w' ⟨rfl, rfl⟩
        cases hs : sig.all isDig with
        | true =>
          have HS := Lib.hid hs
          clear hs
          go_wp2_with fail
          refine (areDigests_of a na ca sig true _ TA.out HA.out h1 hx HS.out).mono ?_
          rintro e w' ⟨rfl, rfl⟩
          obtain ⟨b, hb⟩ : ∃ b, ps.all isDig = b := ⟨_, rfl⟩
          have HPS := Lib.hid hb
          clear hb
          go_wp2_with fail
          refine (areDigests_of p np cp ps b _ TP.out HP.out h2 hy HPS.out).mono ?_
          rintro e w' ⟨rfl, rfl⟩
          go_wp2
          go_ret
          exact ⟨ret_bool (by rw [HI.out, HS.out, HPS.out]; simp [H18.out, h8]), bn⟩
        | false =>
          have HS := Lib.hid hs
          clear hs
          go_wp2_with fail
          refine (areDigests_of a na ca sig false _ TA.out HA.out h1 hx HS.out).mono ?_
          rintro e w' ⟨rfl, rfl⟩
          go_wp2
          go_ret
          exact ⟨ret_bool (by rw [HS.out]; simp), bn⟩
      | false =>
        have HI := Lib.hid hi
        clear hi
        go_wp2_with fail
        refine (isIndex_of idx np false _ h8 HI.out).mono ?_
        rintro e w' ⟨rfl, rfl⟩
        go_wp2
        go_ret
        exact ⟨ret_bool (by rw [HI.out]; simp), bn⟩
    · have HB8 : Hid ((decide (0 ≤ (np : Int)) && decide ((np : Int) ≤ 8)) = false) := by show _ = _; simp; omega
      go_wp2_with fail
      refine (isHeight_of (np : Int) false _ HB8.out).mono ?_
      rintro e w' ⟨rfl, rfl⟩
      go_wp2
      go_ret
      exact ⟨ret_bool (by simp [h8]), bn⟩
  · have e18 : ((na : Int) == 18) = false := by simp; omega
    have H18 := Lib.hid h18
    clear h18
    go_wp2
    go_ret
    exact ⟨ret_bool (by simp [H18.out]), bn⟩
theorem and_bit (q : Nat) (h : q < 4611686018427387904) : bits .and .i64 (q : Int) 1 = ((q % 2 : Nat) : Int) := by
  have o : ∀ a : Nat, a < 9223372036854775808 → (BitVec.ofInt 64 (a : Int)).toNat = a := fun a ha => by
    rw [BitVec.ofInt_natCast, BitVec.toNat_ofNat]; exact Nat.mod_eq_of_lt (by omega)
  show IntKind.i64.wrap ((BitVec.ofInt 64 (q : Int) &&& BitVec.ofInt 64 ((1 : Nat) : Int)).toNat : Int) = _
  rw [BitVec.toNat_and, o q (by omega), o 1 (by decide), Nat.and_one_is_mod, IntKind.wrap_i64]
  omega
theorem bit_eq (idx k : Nat) (h : idx < 1000000) : (bits .and .i64 ((idx : Int) / 2 ^ k) 1 == 1) = decide (idx / 2 ^ k % 2 = 1) := by
  have hq : idx / 2 ^ k ≤ idx := Nat.div_le_self _ _
  have e : (idx : Int) / 2 ^ k = ((idx / 2 ^ k : Nat) : Int) := by simp
  rw [e, and_bit _ (by omega), Bool.eq_iff_iff, beq_iff_eq, decide_eq_true_eq]
  omega
theorem val_small {t : B} {ps : List B} {idx : Nat} (h : t.length ≤ 1000) (k : Nat) : (val t ps idx k).length ≤ 1000 := by
  cases k with
  | zero => exact h
  | succ k => rw [val]; exact dsum_small _
theorem val_odd (t : B) (ps : List B) (idx k : Nat) (h : idx / 2 ^ k % 2 = 1) : val t ps idx (k + 1) = nodeOf (ps.getD k []) (val t ps idx k) := by
  rw [val]; unfold upT; rw [if_pos h]; rfl
theorem val_even (t : B) (ps : List B) (idx k : Nat) (h : ¬ idx / 2 ^ k % 2 = 1) : val t ps idx (k + 1) = nodeOf (val t ps idx k) (ps.getD k []) := by
  rw [val]; unfold upT; rw [if_neg h]; rfl
set_option maxRecDepth 100000 in
set_option maxHeartbeats 2000000 in
theorem follow_any (t : B) (idx : Nat) (a p : Option Addr) (na ca np cp : Nat) (ps : List B) (w : World) (ht : Tab w) (hp : Txt w w.heap.size p ps) (hnp : np = ps.length)
    (h2 : np ≤ 8) (hi : idx < 1000000) (hx : t.length ≤ 1000) (hy : ∀ x ∈ ps, x.length ≤ 1000) :
    Calls Tryd.prog 23 #[.string ⟨t.toArray⟩, .agg #[.int .i64 idx, .slice a na ca, .slice p np cp]] w fun e w' => e = .returned (.string ⟨(val t ps idx ps.length).toArray⟩) ∧ Below w.heap.size w w' := by
  rw [← hnp]
  have HP := Lib.hid hnp
  have HT := Lib.hid ht
  have HY := Lib.hid hy
  clear hnp ht hy
  go_enter Tryd.func23, Tryd.ntmps23
  go_wp2
  go_loopw [0, 10] (fun v i wr => ∃ k : Nat, k ≤ np ∧ i = .int .i64 k ∧ v = .string ⟨(val t ps idx k).toArray⟩ ∧ Hid (IsRow wr w.heap.size 29 #[.int .i64 idx, .slice a na ca, .slice p np cp]) ∧ Hid (Below w.heap.size w wr)) (fun _ i _ => np - (intOf i).toNat)
  case atStart => exact ⟨0, by omega, rfl, rfl, IsRow.made _ _ _, below_new _ _⟩
  case round =>
    obtain ⟨k, hk, rfl, rfl, hrow, hb⟩ := hrel
    by_cases hlt : k < np
    · obtain ⟨b, off, rfl, hbN, e0⟩ := hp.at_ (k := k) (by rw [← HP.out]; exact hlt)
      have c1 : wr.cell? ⟨b, off + k, none⟩ = some (.string ⟨(ps.getD k []).toArray⟩) := (hb.out.cell (p := ⟨b, off + k, none⟩) hbN).trans e0
      have c2 : wr.cell? ⟨w.heap.size, 0, none⟩ = some (.int .i64 idx) := hrow.out.get 0
      have hbit := bit_eq idx k hi
      have hps := getD_small HY.out k
      have hvs := val_small (ps := ps) (idx := idx) hx k
      have HTR : Hid (Tab wr) := Tab.below HT.out hb.out (Nat.le_refl _)
      clear e0
      by_cases hodd : idx / 2 ^ k % 2 = 1
      · have VO := Lib.hid (val_odd t ps idx k hodd)
        rw [decide_eq_true hodd] at hbit
        clear hodd
        go_wp2_with fail
        refine (node_any (ps.getD k []) (val t ps idx k) _ HTR.out hps hvs).mono ?_
        rintro e w1 ⟨rfl, hb1⟩
        have R1 : Hid (IsRow w1 w.heap.size 29 #[.int .i64 idx, .slice a na ca, .slice (some ⟨b, off, none⟩) np cp]) := hrow.out.below hb1 hrow.out.inside
        have B1 : Hid (Below w.heap.size w w1) := hb.out.trans (hb1.mono hb.out.size)
        clear hrow hb hb1 HTR hbit
        go_wp2
        go_roundw
        case rel => exact ⟨k + 1, by omega, by go_num, by rw [VO.out]; simp, R1, B1⟩
        case measure => simp [intOf]; omega
      · have VO := Lib.hid (val_even t ps idx k hodd)
        rw [decide_eq_false hodd] at hbit
        clear hodd
        go_wp2_with fail
        refine (node_any (val t ps idx k) (ps.getD k []) _ HTR.out hvs hps).mono ?_
        rintro e w1 ⟨rfl, hb1⟩
        have R1 : Hid (IsRow w1 w.heap.size 29 #[.int .i64 idx, .slice a na ca, .slice (some ⟨b, off, none⟩) np cp]) := hrow.out.below hb1 hrow.out.inside
        have B1 : Hid (Below w.heap.size w w1) := hb.out.trans (hb1.mono hb.out.size)
        clear hrow hb hb1 HTR hbit
        go_wp2
        go_roundw
        case rel => exact ⟨k + 1, by omega, by go_num, by rw [VO.out]; simp, R1, B1⟩
        case measure => simp [intOf]; omega
    · obtain rfl : k = np := by omega
      go_wp2
      go_ret
      exact ⟨rfl, hb.out⟩
theorem str_beq (x y : B) : ((ByteArray.mk x.toArray).toList == (ByteArray.mk y.toArray).toList) = decide (x = y) := by
  rw [Lib.toList_data, Lib.toList_data, Bool.eq_iff_iff, beq_iff_eq, decide_eq_true_iff]
theorem isFormed_of (idx : Int) (a p : Option Addr) (na ca np cp : Nat) (sig ps : List B) (b : Bool) (w : World) (hl : Txt w w.heap.size a sig) (hp : Txt w w.heap.size p ps) (hna : na = sig.length) (hnp : np = ps.length)
    (h1 : na ≤ 1000000) (h2 : np ≤ 1000000) (hx : ∀ x ∈ sig, x.length ≤ 1000) (hy : ∀ x ∈ ps, x.length ≤ 1000) (hb : formed idx sig ps = b) :
    Calls Tryd.prog 22 #[.agg #[.int .i64 idx, .slice a na ca, .slice p np cp]] w fun e w' => e = .returned (.bool b) ∧ Below w.heap.size w w' :=
  hb ▸ isFormed_any idx a p na ca np cp sig ps w hl hp hna hnp h1 h2 (fun x h => Nat.le_trans (hx x h) (by decide)) (fun x h => Nat.le_trans (hy x h) (by decide))
theorem follow_of (t : B) (i : Int) (idx : Nat) (a p : Option Addr) (na ca np cp : Nat) (ps r : List B) (v : B) (w : World) (hi' : i = (idx : Int)) (ht : Tab w) (hp : Txt w w.heap.size p ps) (hnp : np = ps.length)
    (h2 : np ≤ 8) (hi : idx < 1000000) (hx : t.length ≤ 1000) (hy : ∀ x ∈ ps, x.length ≤ 1000) (hv : val t ps idx ps.length = v) (_ : r = ps) :
    Calls Tryd.prog 23 #[.string ⟨t.toArray⟩, .agg #[.int .i64 i, .slice a na ca, .slice p np cp]] w fun e w' => e = .returned (.string ⟨v.toArray⟩) ∧ Below w.heap.size w w' := by
  subst hi' hv
  exact follow_any t idx a p na ca np cp ps w ht hp hnp h2 hi hx hy
theorem formed_parts {idx : Int} {sig ps : List B} (h : formed idx sig ps = true) : sig.length = 18 ∧ ps.length ≤ 8 ∧ 0 ≤ idx ∧ idx.toNat < 1000000 ∧ (∀ x ∈ sig, isDig x = true) ∧ ∀ x ∈ ps, isDig x = true := by
  unfold formed at h
  simp only [Bool.and_eq_true, decide_eq_true_eq] at h
  obtain ⟨⟨⟨⟨h1, h2⟩, h3, h4⟩, h5⟩, h6⟩ := h
  refine ⟨h1, h2, h3, ?_, List.all_eq_true.1 h5, List.all_eq_true.1 h6⟩
  have e : ((2 ^ ps.length : Nat) : Int) = 2 ^ ps.length := by simp
  have := pow_le ps.length 0 h2
  simp only [Nat.sub_zero] at this
  omega
theorem three_regrown {w : World} {H : Nat} {t : TypeId} {x y z : Value} (h : IsRow w H t #[x, y, z]) : (∀ d os, (Sort.grow (redrawn w d) os).cell? ⟨H, 0, none⟩ = some x) ∧ (∀ d os, (Sort.grow (redrawn w d) os).cell? ⟨H, 1, none⟩ = some y) ∧ (∀ d os, (Sort.grow (redrawn w d) os).cell? ⟨H, 2, none⟩ = some z) :=
  ⟨fun d os => cell_regrown (h.get 0) d os, fun d os => cell_regrown (h.get 1) d os, fun d os => cell_regrown (h.get 2) d os⟩
theorem three_later {w w' : World} {H : Nat} {t : TypeId} {x y z : Value} (h : IsRow w H t #[x, y, z]) (hb : Below w.heap.size w w') : w'.cell? ⟨H, 0, none⟩ = some x ∧ w'.cell? ⟨H, 1, none⟩ = some y ∧ w'.cell? ⟨H, 2, none⟩ = some z := by
  have h' := h.below hb h.inside
  exact ⟨h'.get 0, h'.get 1, h'.get 2⟩
set_option maxRecDepth 100000 in
set_option maxHeartbeats 4000000 in
theorem verify_any (pub m : B) (idx : Int) (a p : Option Addr) (na ca np cp : Nat) (sig ps : List B) (w : World) (ht : Tab w) (hl : Txt w w.heap.size a sig) (hp : Txt w w.heap.size p ps) (hna : na = sig.length) (hnp : np = ps.length)
    (hm : m.length ≤ 1000) (h1 : na ≤ 1000000) (h2 : np ≤ 1000000) (hx : ∀ x ∈ sig, x.length ≤ 1000) (hy : ∀ x ∈ ps, x.length ≤ 1000) :
    Calls Tryd.prog 9 #[.string ⟨pub.toArray⟩, .string ⟨m.toArray⟩, .agg #[.int .i64 idx, .slice a na ca, .slice p np cp]] w fun e w' => e = .returned (.bool (verB pub m idx sig ps)) ∧ Below w.heap.size w w' := by
  have HA := Lib.hid hna
  have HP := Lib.hid hnp
  have HT := Lib.hid ht
  have HL := Lib.hid hl
  have HPL := Lib.hid hp
  have HX := Lib.hid hx
  have HY := Lib.hid hy
  obtain ⟨W0, hW0⟩ : ∃ W0, w.alloc (.cells #[.int .i64 idx, .slice a na ca, .slice p np cp] 29) = W0 := ⟨_, rfl⟩
  have R0 : Hid (IsRow W0 w.heap.size 29 #[.int .i64 idx, .slice a na ca, .slice p np cp]) := hW0 ▸ IsRow.made _ _ _
  have B0 : Hid (Below w.heap.size w W0) := hW0 ▸ below_new _ _
  have HW0 := Lib.hid hW0
  clear hna hnp ht hl hp hx hy hW0
  cases hf : formed idx sig ps with
  | false =>
    have HF := Lib.hid hf
    clear hf
    have cF : ∀ d os, Calls Tryd.prog 22 #[.agg #[.int .i64 idx, .slice a na ca, .slice p np cp]] (Sort.grow (redrawn W0 d) os) fun e w'' => e = .returned (.bool false) ∧ ∃ q : Regrown, w'' = Sort.grow (redrawn W0 q.d) q.os :=
      fun d os => Calls.regrown_of (isFormed_of idx a p na ca np cp sig ps false _ ((HL.out.later B0.out).later (below_regrown W0 d os)) ((HPL.out.later B0.out).later (below_regrown W0 d os)) HA.out HP.out h1 h2 HX.out HY.out HF.out)
    obtain ⟨k0, k1, k2⟩ := three_regrown R0.out
    have VB : Hid (verB pub m idx sig ps = false) := by show _ = _; unfold verB; rw [HF.out]; rfl
    go_enter Tryd.func9, Tryd.ntmps9
    go_wp2_with fail
    rw [HW0.out]
    refine wp_region_quiet_below (by kernel_rfl) (by kernel_rfl) ?_
    repeat (first | go_big_quiet_step (first | with_reducible exact cF _ _) | quiet_step (first | with_reducible exact cF _ _))
    refine wpQuiet_nil ?_
    intro _ hw'
    obtain ⟨⟨dq, osq⟩, hw''⟩ := hw'
    subst hw''
    go_wp2
    go_ret
    exact ⟨ret_bool VB.out.symm, B0.out.trans ((below_regrown W0 dq osq).mono B0.out.size)⟩
  | true =>
    obtain ⟨p1, p2, p3, p4, _, _⟩ := formed_parts hf
    have HF := Lib.hid hf
    have hi : idx = ((idx.toNat : Nat) : Int) := by omega
    have HI := Lib.hid hi
    have P1 := Lib.hid p1
    have hn8 : np ≤ 8 := by have := HP.out; omega
    have hn18 : Hid (na = 18) := by have := HA.out; show _ = _; omega
    have hsg : (signer m sig).length ≤ 1000 := dsum_small _
    have cF : ∀ d os, Calls Tryd.prog 22 #[.agg #[.int .i64 idx, .slice a na ca, .slice p np cp]] (Sort.grow (redrawn W0 d) os) fun e w'' => e = .returned (.bool true) ∧ ∃ q : Regrown, w'' = Sort.grow (redrawn W0 q.d) q.os :=
      fun d os => Calls.regrown_of (isFormed_of idx a p na ca np cp sig ps true _ ((HL.out.later B0.out).later (below_regrown W0 d os)) ((HPL.out.later B0.out).later (below_regrown W0 d os)) HA.out HP.out h1 h2 HX.out HY.out HF.out)
    have cS : ∀ d os, Calls Tryd.prog 24 #[.string ⟨m.toArray⟩, .slice a na ca] (Sort.grow (redrawn W0 d) os) fun e w'' => e = .returned (.string ⟨(signer m sig).toArray⟩) ∧ ∃ q : Regrown, w'' = Sort.grow (redrawn W0 q.d) q.os :=
      fun d os => Calls.regrown_of (signer_any m a na ca sig _ (Tab.at_ (Tab.at_ HT.out B0.out) (below_regrown W0 d os)) hm ((HL.out.later B0.out).later (below_regrown W0 d os)) hn18.out P1.out HX.out)
    have cW : ∀ d os, Calls Tryd.prog 23 #[.string ⟨(signer m sig).toArray⟩, .agg #[.int .i64 idx, .slice a na ca, .slice p np cp]] (Sort.grow (redrawn W0 d) os) fun e w'' => e = .returned (.string ⟨(rootBy m idx.toNat sig ps).toArray⟩) ∧ ∃ q : Regrown, w'' = Sort.grow (redrawn W0 q.d) q.os :=
      fun d os => Calls.regrown_of (follow_of (signer m sig) idx idx.toNat a p na ca np cp ps ps (rootBy m idx.toNat sig ps) _ HI.out (Tab.at_ (Tab.at_ HT.out B0.out) (below_regrown W0 d os)) ((HPL.out.later B0.out).later (below_regrown W0 d os)) HP.out hn8 p4 hsg HY.out rfl rfl)
    obtain ⟨k0, k1, k2⟩ := three_regrown R0.out
    have VB : Hid (verB pub m idx sig ps = (rootBy m idx.toNat sig ps == pub)) := by show _ = _; unfold verB; rw [HF.out, Bool.true_and, Bool.eq_iff_iff, beq_iff_eq, decide_eq_true_eq]
    generalize rootBy m idx.toNat sig ps = rt at *
    generalize signer m sig = sg at *
    clear hf hi p1 p2 p3 p4 hsg
    go_enter Tryd.func9, Tryd.ntmps9
    go_wp2_with fail
    rw [HW0.out]
    refine wp_region_quiet_below (by kernel_rfl) (by kernel_rfl) ?_
    repeat (first | go_big_quiet_step (first | with_reducible exact cF _ _ | with_reducible exact cS _ _ | with_reducible exact cW _ _) | quiet_step (first | with_reducible exact cF _ _ | with_reducible exact cS _ _ | with_reducible exact cW _ _))
    refine wpQuiet_nil ?_
    intro _ hw'
    obtain ⟨⟨dq, osq⟩, hw''⟩ := hw'
    subst hw''
    go_wp2
    go_ret
    exact ⟨ret_bool VB.out.symm, B0.out.trans ((below_regrown W0 dq osq).mono B0.out.size)⟩
end Go.Proofs.YtanlpcdljclnmaaDoor.Sl
