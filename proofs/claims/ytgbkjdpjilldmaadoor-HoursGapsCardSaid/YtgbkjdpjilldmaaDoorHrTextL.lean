/- Plain: a text of spans is read as its spans. -/
import Derived.Test.YtgbkjdpjilldmaaDoorHm23
import Derived.Test.YtgbkjdpjilldmaaDoorHm21
import Derived.Test.YtgbkjdpjilldmaaDoorHm24
namespace Go.Proofs.YtgbkjdpjilldmaaDoor.Hr
open Lx (Tk B lexR nx isDig isWord isLet isSym run hd kt)
/-- a text has these tokens, wherever it stands. -/
def LxK (s : B) (K : List (Int × B)) : Prop := ∀ a, ∃ us, Lx.Lx a s us none ∧ us.map kt = K
theorem lk_nil : LxK [] [] := fun _ => ⟨[], .done rfl, rfl⟩
theorem lk_tok {s l : B} {K : List (Int × B)} {k : Int} {t : B} (hn : nx (l ++ s) = .tok k t l.length) (h0 : l ≠ []) (h : LxK s K) : LxK (l ++ s) ((k, t) :: K) := fun a => by
  have hg : Lx.gp false (l ++ s) = 0 := by
    have := Lx.nx_gap hn
    cases hq : l ++ s with
    | nil => rfl
    | cons c q =>
      rw [hq] at this
      simp only [hd, Bool.or_eq_false_iff, beq_eq_false_iff_ne, ne_eq] at this
      exact Lx.gp_zero this.1 this.2
  obtain ⟨us, h1, h2⟩ := h (a + 0 + l.length)
  refine ⟨⟨k, t, a + Lx.gp false (l ++ s)⟩ :: us, .tok (m := l ++ s) (n := l.length) (by rw [hg]; rfl) (fun e => h0 (List.append_eq_nil_iff.1 e).1) hn ?_, by rw [List.map_cons, h2]; rfl⟩
  rw [hg, List.drop_left' rfl]
  exact h1
theorem lk_blank {s : B} {K : List (Int × B)} (h : LxK s K) : LxK (32 :: s) K := fun a => by
  obtain ⟨us, h1, h2⟩ := h (a + 1)
  exact ⟨us, Lx.lx_blank h1, h2⟩
theorem word_dig {s : B} (h : hd isWord s = false) : hd isDig s = false := by
  cases s with
  | nil => rfl
  | cons c s =>
    have h : isWord c = false := h
    show isDig c = false
    cases hc : isDig c with
    | false => rfl
    | true =>
      unfold isWord at h
      rw [hc] at h
      simp at h
theorem lk_num {s ds : B} {K : List (Int × B)} (h0 : ds ≠ []) (hd1 : ∀ c ∈ ds, isDig c = true) (h7 : ds.length ≤ 7) (hs : hd isWord s = false) (h : LxK s K) : LxK (ds ++ s) ((2, ds) :: K) := by
  refine lk_tok ?_ h0 h
  cases ds with
  | nil => exact absurd rfl h0
  | cons c l =>
    have hc := hd1 c (by simp)
    have hl : isLet c = false := (Lx.all_u8 (P := fun c => isDig c = true → isLet c = false) (by decide +kernel)) c hc
    have hr : run isDig (c :: l ++ s) = (c :: l).length := by
      refine Lx.run_eq _ _ (by rw [List.length_append]; omega) (fun d hd => ?_) ?_
      · rw [List.take_left' rfl] at hd; exact hd1 d hd
      · rw [List.drop_left' rfl]; exact word_dig hs
    rw [List.cons_append] at hr ⊢
    rw [nx, if_neg (by rw [hl]; decide), if_pos hc, hr, if_neg, ← List.cons_append, List.take_left' rfl]
    rintro (h | h)
    · omega
    · rw [← List.cons_append, List.drop_left' rfl, hs] at h
      cases h
theorem lk_word {s n : B} {K : List (Int × B)} (hn : Lx.nmB n = true) (h0 : n ≠ []) (hs : hd isWord s = false) (h : LxK s K) : LxK (n ++ s) ((1, n) :: K) := lk_tok (Lx.name_nx hn s hs).1 h0 h
theorem lk_sym {s : B} {K : List (Int × B)} {c : UInt8} (hn : nx (c :: s) = .tok 4 [c] 1) (h : LxK s K) : LxK (c :: s) ((4, [c]) :: K) := lk_tok (l := [c]) hn (by simp) h
/-- a piece of a day: the day, from, to. -/
abbrev Pc := Nat × Nat × Nat
def okP (p : Pc) : Prop := p.1 < 7 ∧ p.2.1 < p.2.2 ∧ p.2.2 ≤ 1440
def hN (m : Nat) : B := if m / 60 < 10 then [d1 (m / 60)] else [d1 (m / 60 / 10), d1 (m / 60 % 10)]
def mN (m : Nat) : B := [d1 (m % 60 / 10), d1 (m % 60 % 10)]
theorem ckD_is (m : Nat) : ckD m = hN m ++ 58 :: mN m := rfl
def pcB (p : Pc) : B := part1 p.1 p.2.1 p.2.2
def pcK (p : Pc) : List (Int × B) := [(1, dayB p.1), (2, hN p.2.1), (4, [58]), (2, mN p.2.1), (4, [45]), (2, hN p.2.2), (4, [58]), (2, mN p.2.2)]
theorem d1_dig : ∀ k : Fin 10, isDig (d1 k.val) = true ∧ (d1 k.val).toNat - 48 = k.val := by decide +kernel
theorem d1_is {n : Nat} (h : n < 10) : isDig (d1 n) = true ∧ (d1 n).toNat - 48 = n := d1_dig ⟨n, h⟩
theorem hN_ok {m : Nat} (h : m ≤ 1440) : hN m ≠ [] ∧ (∀ c ∈ hN m, isDig c = true) ∧ (hN m).length ≤ 7 ∧ valN (hN m) = m / 60 := by
  unfold hN
  split
  · rename_i h1
    have := d1_is h1
    refine ⟨by simp, fun c hc => by simp at hc; subst hc; exact this.1, by simp, ?_⟩
    show 10 * 0 + ((d1 (m / 60)).toNat - 48) = m / 60
    rw [this.2]; omega
  · rename_i h1
    have e1 := d1_is (show m / 60 / 10 < 10 by omega)
    have e2 := d1_is (show m / 60 % 10 < 10 by omega)
    refine ⟨by simp, fun c hc => by simp at hc; exact hc.elim (fun h => h ▸ e1.1) (fun h => h ▸ e2.1), by simp, ?_⟩
    show 10 * (10 * 0 + ((d1 (m / 60 / 10)).toNat - 48)) + ((d1 (m / 60 % 10)).toNat - 48) = m / 60
    rw [e1.2, e2.2]; omega
theorem mN_ok (m : Nat) : mN m ≠ [] ∧ (∀ c ∈ mN m, isDig c = true) ∧ (mN m).length = 2 ∧ valN (mN m) = m % 60 := by
  unfold mN
  have e1 := d1_is (show m % 60 / 10 < 10 by omega)
  have e2 := d1_is (show m % 60 % 10 < 10 by omega)
  refine ⟨by simp, fun c hc => (List.mem_cons.1 hc).elim (fun h => h ▸ e1.1) (fun h => List.mem_singleton.1 h ▸ e2.1), by simp, ?_⟩
  show 10 * (10 * 0 + ((d1 (m % 60 / 10)).toNat - 48)) + ((d1 (m % 60 % 10)).toNat - 48) = m % 60
  rw [e1.2, e2.2]; omega
theorem day_nm : ∀ k : Fin 7, Lx.nmB (dayB k.val) = true ∧ dayB k.val ≠ [] ∧ dayAt 0 7 [⟨1, dayB k.val, 0⟩] = some (k.val, []) ∧ dayB k.val ≠ [97, 108, 119, 97, 121, 115] ∧ dayB k.val ≠ [110, 101, 118, 101, 114] := by decide +kernel
theorem clock_lk {m : Nat} (h : m ≤ 1440) {s : B} {K : List (Int × B)} (hs : hd isWord s = false) (hk : LxK s K) : LxK (ckD m ++ s) ((2, hN m) :: (4, [58]) :: (2, mN m) :: K) := by
  obtain ⟨h1, h2, h3, _⟩ := hN_ok h
  obtain ⟨m1, m2, m3, _⟩ := mN_ok m
  rw [ckD_is, List.append_assoc, List.cons_append]
  exact lk_num h1 h2 h3 (by show isWord 58 = false; decide) (lk_sym (by rfl) (lk_num m1 m2 (by omega) hs hk))
theorem pc_lk {p : Pc} (h : okP p) {s : B} {K : List (Int × B)} (hs : hd isWord s = false) (hk : LxK s K) : LxK (pcB p ++ s) (pcK p ++ K) := by
  obtain ⟨d, a, b⟩ := p
  obtain ⟨h1, h2, h3⟩ := h
  dsimp only at h1 h2 h3
  obtain ⟨n1, n2, _⟩ := day_nm ⟨d, h1⟩
  show LxK (part1 d a b ++ s) ((1, dayB d) :: (2, hN a) :: (4, [58]) :: (2, mN a) :: (4, [45]) :: (2, hN b) :: (4, [58]) :: (2, mN b) :: K)
  unfold part1
  rw [List.append_assoc, List.cons_append, List.append_assoc, List.cons_append]
  refine lk_word n1 n2 (by show isWord 32 = false; decide) (lk_blank (clock_lk (by omega) (by show isWord 45 = false; decide) (lk_sym (by rfl) (clock_lk h3 hs hk))))
def tailK (r : List Pc) : List (Int × B) := r.flatMap fun p => (4, [44]) :: pcK p
theorem tail_lk : ∀ (r : List Pc), (∀ p ∈ r, okP p) → LxK (Lib.joinTail [44, 32] (r.map pcB)) (tailK r) ∧ hd isWord (Lib.joinTail [44, 32] (r.map pcB)) = false
  | [], _ => ⟨lk_nil, rfl⟩
  | p :: r, h => by
    obtain ⟨h1, h2⟩ := tail_lk r (fun q hq => h q (List.mem_cons_of_mem _ hq))
    have e : Lib.joinTail [44, 32] ((p :: r).map pcB) = 44 :: 32 :: (pcB p ++ Lib.joinTail [44, 32] (r.map pcB)) := by simp [Lib.joinTail]
    rw [e]
    exact ⟨lk_sym (by rfl) (lk_blank (pc_lk (h p (by simp)) h2 h1)), by show isWord 44 = false; decide⟩
theorem text_lk {p : Pc} {r : List Pc} (hp : okP p) (h : ∀ q ∈ r, okP q) : LxK (Lib.join ((p :: r).map pcB) [44, 32]) (pcK p ++ tailK r) := by
  rw [List.map_cons, Lib.join_cons]
  obtain ⟨h1, h2⟩ := tail_lk r h
  exact pc_lk hp h2 h1
/-- tokens that all stand at 0. -/
def mkT (K : List (Int × B)) : List Tk := K.map fun x => ⟨x.1, x.2, 0⟩
theorem mk_re {us : List Tk} {K : List (Int × B)} (h : us.map kt = K) : mkT K = rl (fun _ => 0) us := by
  subst h
  unfold mkT
  rw [List.map_map]
  rfl
theorem read_kt {us : List Tk} {K : List (Int × B)} {L : List Sq} (e : Nat) (h : us.map kt = K) (hr : textR 0 (mkT K) = .ok L) : textR e us = .ok L := by
  have := textR_re (fun _ => 0) e us
  rw [← mk_re h, hr] at this
  cases ht : textR e us with
  | error f => rw [ht] at this; cases this
  | ok M =>
    rw [ht] at this
    injection this with this
    rw [this]
    rfl
def pcS (p : Pc) : Sq := ((p.1 * 1440 + p.2.1 : Nat), (p.1 * 1440 + p.2.2 : Nat))
theorem num_mk (e : Nat) (t : B) (r : List Tk) : numR e (⟨2, t, 0⟩ :: r) = .ok (⟨2, t, 0⟩, r) := by rw [numR, if_pos rfl]
theorem sym_mk (e : Nat) (c : B) (r : List Tk) : symR c e (⟨4, c, 0⟩ :: r) = .ok r := by unfold symR; rw [acc, if_pos ⟨rfl, rfl⟩]
theorem clock_mk {m most : Nat} (h : m ≤ 1440) (hm : m / 60 ≤ most) (e : Nat) (r : List Tk) : clockR most e (⟨2, hN m, 0⟩ :: ⟨4, [58], 0⟩ :: ⟨2, mN m, 0⟩ :: r) = .ok ((m, 0), r) := by
  obtain ⟨_, _, _, h4⟩ := hN_ok h
  obtain ⟨_, _, m3, m4⟩ := mN_ok m
  unfold clockR
  rw [num_mk]
  dsimp only
  rw [if_neg (by rw [h4]; omega), sym_mk]
  dsimp only
  rw [num_mk]
  dsimp only
  rw [if_neg (by rw [h4, m4, m3]; omega), h4, m4, show m / 60 * 60 + m % 60 = m by omega]
theorem pc_read {p : Pc} (h : okP p) : partsR 0 [] (mkT (pcK p)) = .ok ([pcS p], []) := by
  obtain ⟨d, a, b⟩ := p
  obtain ⟨h1, h2, h3⟩ := h
  dsimp only at h1 h2 h3
  obtain ⟨_, _, n3, _⟩ := day_nm ⟨d, h1⟩
  dsimp only at n3
  have hd := dayAt_app 7 0 _ _ _ n3 (mkT [(2, hN a), (4, [58]), (2, mN a), (4, [45]), (2, hN b), (4, [58]), (2, mN b)])
  have hD : dayR 0 (mkT (pcK (d, a, b))) = .ok (d, mkT [(2, hN a), (4, [58]), (2, mN a), (4, [45]), (2, hN b), (4, [58]), (2, mN b)]) := by
    unfold dayR
    rw [show mkT (pcK (d, a, b)) = [⟨1, dayB d, 0⟩] ++ mkT [(2, hN a), (4, [58]), (2, mN a), (4, [45]), (2, hN b), (4, [58]), (2, mN b)] from rfl, hd]
    rfl
  have hDs : daysR 0 (mkT (pcK (d, a, b))) = .ok ([d], mkT [(2, hN a), (4, [58]), (2, mN a), (4, [45]), (2, hN b), (4, [58]), (2, mN b)]) := by
    unfold daysR
    rw [hD]
    rfl
  have hT : timeR 0 [d] (mkT [(2, hN a), (4, [58]), (2, mN a), (4, [45]), (2, hN b), (4, [58]), (2, mN b)]) = .ok ([pcS (d, a, b)], []) := by
    show timeR 0 [d] (⟨2, hN a, 0⟩ :: ⟨4, [58], 0⟩ :: ⟨2, mN a, 0⟩ :: ⟨4, [45], 0⟩ :: ⟨2, hN b, 0⟩ :: ⟨4, [58], 0⟩ :: ⟨2, mN b, 0⟩ :: []) = _
    unfold timeR
    rw [clock_mk (by omega) (by omega)]
    dsimp only
    rw [sym_mk]
    dsimp only
    rw [clock_mk h3 (by omega)]
    dsimp only
    rw [if_neg (by omega)]
    simp only [List.flatMap_cons, List.flatMap_nil, List.append_nil]
    rw [if_neg (by omega)]
    unfold addS
    rw [if_neg (by omega)]
    unfold pcS
    simp
  unfold partsR
  rw [hDs]
  dsimp only
  rw [hT]
  rfl
theorem mkT_app (K J : List (Int × B)) : mkT (K ++ J) = mkT K ++ mkT J := by unfold mkT; rw [List.map_append]
theorem pcs_read : ∀ (r : List Pc) (p : Pc), okP p → (∀ q ∈ r, okP q) → partsR 0 [] (mkT (pcK p ++ tailK r)) = .ok ((p :: r).map pcS, [])
  | [], p, hp, _ => by
    rw [show tailK [] = [] from rfl, List.append_nil]
    exact pc_read hp
  | q :: r, p, hp, h => by
    have ih := pcs_read r q (h q (by simp)) (fun x hx => h x (List.mem_cons_of_mem _ hx))
    rw [mkT_app, show mkT (tailK (q :: r)) = ⟨4, [44], 0⟩ :: mkT (pcK q ++ tailK r) from rfl]
    have := partsR_both (c := ⟨4, [44], 0⟩) ⟨rfl, rfl⟩ (pc_read hp) ih
    rw [this]
    rfl
theorem pcs_textR {p : Pc} {r : List Pc} (hp : okP p) (h : ∀ q ∈ r, okP q) : textR 0 (mkT (pcK p ++ tailK r)) = .ok ((p :: r).map pcS) := by
  refine parts_textR ?_ (pcs_read r p hp h)
  obtain ⟨_, _, _, n4, n5⟩ := day_nm ⟨p.1, hp.1⟩
  dsimp only at n4 n5
  constructor
  · show acc 1 _ (⟨1, dayB p.1, 0⟩ :: _) = none
    rw [acc, if_neg (fun q => n4 q.2)]
  · show acc 1 _ (⟨1, dayB p.1, 0⟩ :: _) = none
    rw [acc, if_neg (fun q => n5 q.2)]
/-- the pieces of spans. -/
def psS (s : Sq) : List Pc := (List.range (nD s.1.toNat s.2.toNat)).map fun k => (dyN s.1.toNat k, loN s.1.toNat s.2.toNat k, hiN s.1.toNat s.2.toNat k)
def psL (l : List Sq) : List Pc := l.flatMap psS
theorem times_ps : ∀ (l : List Sq), timesL l = (psL l).map pcB
  | [] => rfl
  | s :: l => by
    show timesS s ++ timesL l = (psS s ++ psL l).map pcB
    rw [List.map_append, times_ps l]
    congr 1
    unfold timesS psS
    rw [List.map_map]
    rfl
theorem psS_ok {s : Sq} (h : okS s) : (∀ p ∈ psS s, okP p) ∧ ∀ m, On m ((psS s).map pcS) ↔ s.1 ≤ m ∧ m < s.2 := by
  obtain ⟨f, t⟩ := s
  obtain ⟨h1, h2, h3⟩ := h
  dsimp only at h1 h2 h3
  obtain ⟨f, rfl⟩ := Int.eq_ofNat_of_zero_le h1
  obtain ⟨t, rfl⟩ := Int.eq_ofNat_of_zero_le (show 0 ≤ t by omega)
  have hft : f < t := by omega
  have ht : t ≤ 10080 := by omega
  unfold psS
  dsimp only
  rw [Int.toNat_natCast, Int.toNat_natCast]
  constructor
  · intro p hp
    obtain ⟨k, hk, rfl⟩ := List.mem_map.1 hp
    obtain ⟨k1, k2, k3, _⟩ := day_ok hft ht (List.mem_range.1 hk)
    exact ⟨k1, k2, k3⟩
  · intro m
    constructor
    · rintro ⟨u, hu, u1, u2⟩
      obtain ⟨p, hp, rfl⟩ := List.mem_map.1 hu
      obtain ⟨k, hk, rfl⟩ := List.mem_map.1 hp
      obtain ⟨_, _, _, k4, k5⟩ := day_ok hft ht (List.mem_range.1 hk)
      unfold pcS at u1 u2
      dsimp only at u1 u2
      rw [k4] at u1
      rw [k5] at u2
      unfold frm at u1
      unfold too at u2
      omega
    · rintro ⟨u1, u2⟩
      obtain ⟨m, rfl⟩ := Int.eq_ofNat_of_zero_le (show 0 ≤ m by omega)
      have hk : m / 1440 - f / 1440 < nD f t := by unfold nD; omega
      obtain ⟨_, _, _, k4, k5⟩ := day_ok hft ht hk
      refine ⟨_, List.mem_map.2 ⟨_, List.mem_map.2 ⟨m / 1440 - f / 1440, List.mem_range.2 hk, rfl⟩, rfl⟩, ?_, ?_⟩
      · unfold pcS
        dsimp only
        rw [k4]
        unfold frm
        omega
      · unfold pcS
        dsimp only
        rw [k5]
        unfold too
        omega
theorem psL_ok {l : List Sq} (h : ∀ s ∈ l, okS s) : (∀ p ∈ psL l, okP p) ∧ ∀ m, On m ((psL l).map pcS) ↔ On m l := by
  constructor
  · intro p hp
    obtain ⟨s, hs, hp⟩ := List.mem_flatMap.1 hp
    exact (psS_ok (h s hs)).1 p hp
  · intro m
    unfold psL
    rw [List.map_flatMap]
    constructor
    · rintro ⟨u, hu, u1⟩
      obtain ⟨s, hs, hu⟩ := List.mem_flatMap.1 hu
      exact ⟨s, hs, ((psS_ok (h s hs)).2 m).1 ⟨u, hu, u1⟩⟩
    · rintro ⟨s, hs, u1⟩
      obtain ⟨u, hu, u2⟩ := ((psS_ok (h s hs)).2 m).2 u1
      exact ⟨u, List.mem_flatMap.2 ⟨s, hs, hu⟩, u2⟩
theorem pcS_ok {p : Pc} (h : okP p) : okS (pcS p) := by
  obtain ⟨h1, h2, h3⟩ := h
  unfold okS pcS
  dsimp only
  omega
theorem ps_len : ∀ (l : List Sq) (c : Nat), Val l → c ≤ 6 → (∀ u ∈ l, (c : Int) * 1440 ≤ u.1) → (psL l).length + c ≤ l.length + 6
  | [], c, _, hc, _ => by show 0 + c ≤ 0 + 6; omega
  | s :: l, c, hv, hc, h => by
    obtain ⟨h1, h2, h3⟩ := hv.head.1
    have h4 := h s (by simp)
    have ih := ps_len l ((s.2.toNat - 1) / 1440) hv.tail (by omega) (fun u hu => by have := hv.head.2 u hu; omega)
    show (psS s ++ psL l).length + c ≤ _
    rw [List.length_append, List.length_cons]
    have e : (psS s).length = nD s.1.toNat s.2.toNat := by unfold psS; simp
    rw [e]
    unfold nD
    omega
theorem textL_short {l : List Sq} (hv : Val l) (h60 : l.length ≤ 60) : (textL l).length ≤ 1056 := by
  unfold textL
  have h1 := join_len_le 14 (l := timesL l) timesL_short
  have h2 : (timesL l).length ≤ 66 := by
    rw [times_ps, List.length_map]
    have := ps_len l 0 hv (by omega) (fun u hu => by have := (hv.1 u hu).1; omega)
    omega
  have : (14 + 2) * (timesL l).length ≤ 16 * 66 := Nat.mul_le_mul_left 16 h2
  omega
theorem text_parse {l : List Sq} (hv : Val l) (h0 : l ≠ []) (h60 : l.length ≤ 60) : parseR (textL l) = (l, 0, 0) := by
  obtain ⟨ok1, ok2⟩ := psL_ok hv.1
  have hne : psL l ≠ [] := by
    cases l with
    | nil => exact absurd rfl h0
    | cons s l =>
      intro e
      have o := hv.head.1
      have := ((psS_ok o).2 s.1).2 ⟨Int.le_refl _, o.2.1⟩
      have e2 : psS s = [] := (List.append_eq_nil_iff.1 (show psS s ++ psL l = [] from e)).1
      rw [e2] at this
      exact on_nil _ this
  obtain ⟨p, r, hpr⟩ : ∃ p r, psL l = p :: r := by
    cases h : psL l with
    | nil => exact absurd h hne
    | cons p r => exact ⟨p, r, rfl⟩
  have lk : LxK (textL l) (pcK p ++ tailK r) := by
    unfold textL
    rw [times_ps, hpr]
    exact text_lk (ok1 p (by rw [hpr]; simp)) (fun q hq => ok1 q (by rw [hpr]; exact List.mem_cons_of_mem _ hq))
  obtain ⟨us, h1, h2⟩ := lk 0
  have hs := textL_short hv h60
  have hlex : lexR (textL l) = (us, 0, 0) := Lx.lex_lx h1 (by omega)
  have hT := read_kt (textL l).length h2 (pcs_textR (ok1 p (by rw [hpr]; simp)) (fun q hq => ok1 q (by rw [hpr]; exact List.mem_cons_of_mem _ hq)))
  rw [← hpr] at hT
  have hu : uni ((psL l).map pcS) = l := by
    have hok : ∀ s ∈ (psL l).map pcS, okS s := fun s hs => by
      obtain ⟨q, hq, rfl⟩ := List.mem_map.1 hs
      exact pcS_ok (ok1 q hq)
    obtain ⟨v, e⟩ := uni_val hok
    exact val_ext v hv fun m => (e m).trans (ok2 m)
  unfold parseR
  rw [hlex]
  dsimp only
  rw [if_neg (by simp), hT]
  dsimp only
  rw [hu, if_neg (by omega)]
theorem week_is {l : List Sq} (hv : Val l) (h0 : l ≠ []) (h : (l.headD (0, 0)).2 - (l.headD (0, 0)).1 = 10080) : l = [((0 : Int), (10080 : Int))] := by
  cases l with
  | nil => exact absurd rfl h0
  | cons s l =>
    obtain ⟨h1, h2, h3⟩ := hv.head.1
    have h : s.2 - s.1 = 10080 := h
    have e : s = (0, 10080) := Prod.ext (by show s.1 = 0; omega) (by show s.2 = 10080; omega)
    cases l with
    | nil => rw [e]
    | cons u l =>
      have := hv.head.2 u (by simp)
      have := (hv.1 u (by simp)).2.1
      have := (hv.1 u (by simp)).2.2
      omega
theorem never_is : parseR neverB = ([], 0, 0) := by decide +kernel
theorem always_is : parseR alwaysB = ([(0, 10080)], 0, 0) := by decide +kernel
/-- a valid list of at most 60 spans is parsed from its text. -/
theorem textW_parse {l : List Sq} (hv : Val l) (h60 : l.length ≤ 60) : (textW l).2 = 0 ∧ (textW l).1.length ≤ 1056 ∧ parseR (textW l).1 = (l, 0, 0) := by
  unfold textW
  rw [if_pos (vld_val.2 hv), if_neg (show ¬ 60 < l.length by omega)]
  by_cases h0 : l = []
  · rw [if_pos h0, h0]
    exact ⟨rfl, by decide, never_is⟩
  · rw [if_neg h0]
    by_cases hw : (l.headD (0, 0)).2 - (l.headD (0, 0)).1 = 10080
    · rw [if_pos hw, week_is hv h0 hw]
      exact ⟨rfl, by decide, always_is⟩
    · rw [if_neg hw]
      exact ⟨rfl, textL_short hv h60, text_parse hv h0 h60⟩
theorem textW_bad {l : List Sq} (h : ¬ (vldS l = true ∧ l.length ≤ 60)) : (textW l).2 ≠ 0 := by
  unfold textW
  by_cases h1 : vldS l = true
  · rw [if_pos h1, if_pos (show 60 < l.length from Nat.lt_of_not_le fun q => h ⟨h1, q⟩)]; decide
  · rw [if_neg h1]; decide
/-- what Parse returns is valid, and of at most 60 spans. -/
theorem parse_ok {s : B} (h : (parseR s).2.1 = 0) : Val (parseR s).1 ∧ (parseR s).1.length ≤ 60 ∧ (parseR s).2.2 = 0 := by
  unfold parseR at h ⊢
  by_cases he : (lexR s).2.1 ≠ 0
  · rw [if_pos he] at h
    exact absurd h he
  · rw [if_neg he] at h ⊢
    cases hT : textR s.length (lexR s).1 with
    | error f =>
      rw [hT] at h
      have h : f.1 = 0 := h
      have ec := textR_ec hT
      unfold Ec at ec
      omega
    | ok L =>
      rw [hT] at h
      dsimp only at h ⊢
      by_cases h60 : 60 < (uni L).length
      · rw [if_pos h60] at h; cases h
      · rw [if_neg h60]
        exact ⟨(uni_val (textR_ok hT).1).1, by dsimp only; omega, rfl⟩
end Go.Proofs.YtgbkjdpjilldmaaDoor.Hr
