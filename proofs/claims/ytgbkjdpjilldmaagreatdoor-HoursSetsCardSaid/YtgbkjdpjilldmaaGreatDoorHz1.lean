/- Merged: StMath, StSwap, LxMath. -/
import Derived.Sort.LotA
import Derived.Test.YtgbkjdpjilldmaaGreatDoorProg
import Derived.Shelf.SlSortCmp.KitK
import Derived.Sort.WalkB2
import Derived.Sort.WalkB12
import Derived.Deep.LoopGhost
import Derived.BigRegion
import Derived.WalkKit
import Derived.Lib.Hide
/- Plain mathematics of a stable sort by merging in place: swapped ranges, rotations, cuts, blocks. -/
namespace Go.Proofs.YtgbkjdpjilldmaaGreatDoor.St
open Go.Sort
variable {α : Type} {lt : α → α → Bool}
theorem le_trans' (hS : SWO lt) {x y z : α} (h1 : lt y x = false) (h2 : lt z y = false) : lt z x = false := hS.ntrans z y x h2 h1
theorem lt_le (hS : SWO lt) {x y : α} (h : lt x y = true) : lt y x = false := hS.asymmA h
variable [Inhabited α]
theorem at_eq {d : Array α} {x y : Nat} (h : x = y) : d[x]! = d[y]! := by rw [h]
/-- n places from p on and n places from q on are exchanged. -/
def IsSwp (p q n : Nat) (d d' : Array α) : Prop := d'.size = d.size ∧ ∀ x, d'[x]! = if p ≤ x ∧ x < p + n then d[x - p + q]! else if q ≤ x ∧ x < q + n then d[x - q + p]! else d[x]!
theorem isSwp_zero (p q : Nat) (d : Array α) : IsSwp p q 0 d d := ⟨rfl, fun x => by rw [if_neg (by omega), if_neg (by omega)]⟩
theorem IsSwp.step {p q n : Nat} {d d' : Array α} (h : IsSwp p q n d d') (hpq : p + n < q) (hq : q + n < d.size) : IsSwp p q (n + 1) d (swp d' (p + n) (q + n)) := by
  refine ⟨by rw [size_swp, h.1], fun x => ?_⟩
  rw [swp_get d' (by rw [h.1]; omega) (by rw [h.1]; omega) x, h.2, h.2, h.2]
  (repeat' split) <;> first | (exfalso; omega) | exact at_eq (by omega)
/-- the places from a on with those from m on, up to b, exchanged asz two pieces. -/
def rotF (d : Array α) (a m b x : Nat) : α := if a ≤ x ∧ x < a + (b - m) then d[x + (m - a)]! else if a + (b - m) ≤ x ∧ x < b then d[x - (b - m)]! else d[x]!
def IsRot (a m b : Nat) (d d' : Array α) : Prop := d'.size = d.size ∧ ∀ x, d'[x]! = rotF d a m b x
theorem rot_none {a m b : Nat} (d : Array α) (ham : a ≤ m) (hmb : m ≤ b) (h : a = m ∨ m = b) : IsRot a m b d d := by
  refine ⟨rfl, fun x => ?_⟩
  unfold rotF
  (repeat' split) <;> first | rfl | exact at_eq (by omega)
/-- the left piece is longer. -/
theorem rot_left {m i j : Nat} {d d1 : Array α} (hi : i ≤ m) (hij : j ≤ i) (h : IsSwp (m - i) m j d d1) (x : Nat) : rotF d1 (m - (i - j)) m (m + j) x = rotF d (m - i) m (m + j) x := by
  unfold rotF
  rw [h.2, h.2, h.2]
  (repeat' split) <;> first | (exfalso; omega) | exact at_eq (by omega)
theorem rot_right {m i j : Nat} {d d1 : Array α} (hi : i ≤ m) (hij : i ≤ j) (h : IsSwp (m - i) (m + j - i) i d d1) (x : Nat) : rotF d1 (m - i) m (m + (j - i)) x = rotF d (m - i) m (m + j) x := by
  unfold rotF
  rw [h.2, h.2, h.2]
  (repeat' split) <;> first | (exfalso; omega) | exact at_eq (by omega)
theorem rot_end {m i : Nat} {d d1 : Array α} (hi : i ≤ m) (h : IsSwp (m - i) m i d d1) (x : Nat) : d1[x]! = rotF d (m - i) m (m + i) x := by
  unfold rotF
  rw [h.2]
  (repeat' split) <;> first | (exfalso; omega) | exact at_eq (by omega)
theorem srt {a b : Nat} {d : Array α} (hS : SWO lt) (h : SortedIn lt a b d) {i j : Nat} (hi : a ≤ i) (hij : i ≤ j) (hj : j < b) : lt d[j]! d[i]! = false := by
  by_cases e : i = j
  · subst e; exact hS.irrefl _
  · exact h i j hi (by omega) hj
theorem sorted_sub {a b a' b' : Nat} {d : Array α} (h : SortedIn lt a b d) (ha : a ≤ a') (hb : b' ≤ b) : SortedIn lt a' b' d := fun i j h1 h2 h3 => h i j (by omega) h2 (by omega)
/-- one element put behind those that are less. -/
theorem ins_left (hS : SWO lt) {a i b : Nat} {d d' : Array α} (hai : a < i) (hib : i ≤ b) (hr : IsRot a (a + 1) i d d') (hs : SortedIn lt (a + 1) b d) (h1 : i = a + 1 ∨ lt d[i - 1]! d[a]! = true) (h2 : i = b ∨ lt d[i]! d[a]! = false) : SortedIn lt a b d' := by
  have le1 : ∀ p, a + 1 ≤ p → p < i → lt d[a]! d[p]! = false := fun p hp hpi => by
    rcases h1 with h1 | h1
    · omega
    · exact le_trans' hS (srt hS hs hp (show p ≤ i - 1 by omega) (by omega)) (lt_le hS h1)
  have le2 : ∀ q, i ≤ q → q < b → lt d[q]! d[a]! = false := fun q hq hqb => by
    rcases h2 with h2 | h2
    · omega
    · exact le_trans' hS h2 (srt hS hs (by omega) hq hqb)
  intro p q hp hpq hq
  rw [hr.2, hr.2]
  unfold rotF
  (repeat' split) <;> first | (exfalso; omega) | skip
  · exact srt hS hs (by omega) (by omega) (by omega)
  · rw [show q - (i - (a + 1)) = a by omega]; exact le1 _ (by omega) (by omega)
  · exact srt hS hs (by omega) (by omega) (by omega)
  · rw [show p - (i - (a + 1)) = a by omega]; exact le2 _ (by omega) hq
  · exact srt hS hs (by omega) (by omega) (by omega)
/-- one element put ahead of those that are greater. -/
theorem ins_right (hS : SWO lt) {a i m : Nat} {d d' : Array α} (hai : a ≤ i) (him : i ≤ m) (hr : IsRot i m (m + 1) d d') (hs : SortedIn lt a m d) (h1 : i = a ∨ lt d[m]! d[i - 1]! = false) (h2 : i = m ∨ lt d[m]! d[i]! = true) : SortedIn lt a (m + 1) d' := by
  have le1 : ∀ p, a ≤ p → p < i → lt d[m]! d[p]! = false := fun p hp hpi => by
    rcases h1 with h1 | h1
    · omega
    · exact le_trans' hS (srt hS hs hp (show p ≤ i - 1 by omega) (by omega)) h1
  have le2 : ∀ q, i ≤ q → q < m → lt d[q]! d[m]! = false := fun q hq hqb => by
    rcases h2 with h2 | h2
    · omega
    · exact le_trans' hS (lt_le hS h2) (srt hS hs (by omega) hq hqb)
  intro p q hp hpq hq
  rw [hr.2, hr.2]
  unfold rotF
  (repeat' split) <;> first | (exfalso; omega) | skip
  · rw [show q + (m - i) = m by omega]; exact le1 _ (by omega) (by omega)
  · rw [show p + (m - i) = m by omega]; exact le2 _ (by omega) (by omega)
  · exact srt hS hs (by omega) (by omega) (by omega)
  · exact srt hS hs (by omega) (by omega) (by omega)
  · exact srt hS hs (by omega) (by omega) (by omega)
/-- where the two runs are cut. -/
structure Cut (lt : α → α → Bool) (a m b start en : Nat) (d : Array α) : Prop where
  asz : a ≤ start
  sm : start ≤ m
  me : m ≤ en
  eb : en ≤ b
  one : ∀ i j, a ≤ i → i < start → en ≤ j → j < b → lt d[j]! d[i]! = false
  two : ∀ i j, start ≤ i → i < m → m ≤ j → j < en → lt d[i]! d[j]! = false
theorem Cut.made (hS : SWO lt) {a m b mid start lo hi : Nat} {d : Array α} (ham : a < m) (hmb : m < b) (hmid : mid = (a + b) / 2) (hlo : lo = if m > mid then mid + m - b else a) (hhi : hi = if m > mid then mid else m) (h1 : lo ≤ start) (h2 : start ≤ hi)
    (s1 : SortedIn lt a m d) (s2 : SortedIn lt m b d) (p1 : start = lo ∨ lt d[mid + m - start]! d[start - 1]! = false) (p2 : start = hi ∨ lt d[mid + m - 1 - start]! d[start]! = true) : Cut lt a m b start (mid + m - start) d := by
  refine ⟨?_, ?_, ?_, ?_, fun i j hi1 hi2 hj1 hj2 => ?_, fun i j hi1 hi2 hj1 hj2 => ?_⟩
  · split at hlo <;> omega
  · split at hhi <;> omega
  · split at hhi <;> omega
  · split at hlo <;> omega
  · rcases p1 with p1 | p1
    · split at hlo <;> omega
    · refine le_trans' hS (srt hS s1 hi1 (show i ≤ start - 1 by omega) (by split at hhi <;> omega)) (le_trans' hS p1 (srt hS s2 (by split at hhi <;> omega) hj1 hj2))
  · rcases p2 with p2 | p2
    · split at hhi <;> omega
    · refine le_trans' hS (srt hS s2 hj1 (show j ≤ mid + m - 1 - start by omega) (by split at hlo <;> omega)) (le_trans' hS (lt_le hS p2) (srt hS s1 (by split at hlo <;> omega) hi1 hi2))
/-- behind the rotation: four runs, and nothing on the right is less than something on the left. -/
structure Four (lt : α → α → Bool) (a start mid en b : Nat) (d : Array α) : Prop where
  r1 : SortedIn lt a start d
  r2 : SortedIn lt start mid d
  r3 : SortedIn lt mid en d
  r4 : SortedIn lt en b d
  cross : ∀ i j, a ≤ i → i < mid → mid ≤ j → j < b → lt d[j]! d[i]! = false
theorem Four.made (hS : SWO lt) {a m b start en mid : Nat} {d d1 : Array α} (hc : Cut lt a m b start en d) (hm : mid + m = start + en) (s1 : SortedIn lt a m d) (s2 : SortedIn lt m b d) (hr : IsRot start m en d d1) : Four lt a start mid en b d1 := by
  have h1 := hc.asz
  have h2 := hc.sm
  have h3 := hc.me
  have h4 := hc.eb
  have emid : mid = start + (en - m) := by omega
  have v1 : ∀ x, x < start → d1[x]! = d[x]! := fun x hx => by rw [hr.2]; unfold rotF; rw [if_neg (by omega), if_neg (by omega)]
  have v2 : ∀ x, start ≤ x → x < mid → d1[x]! = d[x + (m - start)]! := fun x hx hx2 => by rw [hr.2]; unfold rotF; rw [if_pos (by omega)]
  have v3 : ∀ x, mid ≤ x → x < en → d1[x]! = d[x - (en - m)]! := fun x hx hx2 => by rw [hr.2]; unfold rotF; rw [if_neg (by omega), if_pos (by omega)]
  have v4 : ∀ x, en ≤ x → d1[x]! = d[x]! := fun x hx => by rw [hr.2]; unfold rotF; rw [if_neg (by omega), if_neg (by omega)]
  refine ⟨fun i j hi hij hj => ?_, fun i j hi hij hj => ?_, fun i j hi hij hj => ?_, fun i j hi hij hj => ?_, fun i j hi hi2 hj hj2 => ?_⟩
  · rw [v1 i (by omega), v1 j hj]; exact srt hS s1 hi (by omega) (by omega)
  · rw [v2 i hi (by omega), v2 j (by omega) hj]; exact srt hS s2 (by omega) (by omega) (by omega)
  · rw [v3 i hi (by omega), v3 j (by omega) hj]; exact srt hS s1 (by omega) (by omega) (by omega)
  · rw [v4 i hi, v4 j (by omega)]; exact srt hS s2 (by omega) (by omega) (by omega)
  · by_cases g1 : i < start
    · rw [v1 i g1]
      by_cases g2 : j < en
      · rw [v3 j hj g2]; exact srt hS s1 hi (by omega) (by omega)
      · rw [v4 j (by omega)]; exact hc.one i j hi g1 (by omega) hj2
    · rw [v2 i (by omega) hi2]
      by_cases g2 : j < en
      · rw [v3 j hj g2]; exact hc.two _ _ (by omega) (by omega) (by omega) (by omega)
      · rw [v4 j (by omega)]; exact srt hS s2 (by omega) (by omega) hj2
theorem perm_at {a b : Nat} {d d' : Array α} (hb : b ≤ d.size) (h : PermIn a b d d') {p : α → Prop} (hp : ∀ i, a ≤ i → i < b → p d[i]!) : ∀ i, a ≤ i → i < b → p d'[i]! := by
  intro i h1 h2
  have hm : d'[i]! ∈ (d'.extract a b).toList := by
    rw [extract_toList d' a b (by rw [h.1]; exact hb)]
    exact List.mem_map.2 ⟨i, List.mem_range'_1.2 ⟨h1, by omega⟩, rfl⟩
  have hm2 := h.2.2.mem_iff.1 hm
  rw [extract_toList d a b hb] at hm2
  obtain ⟨k, hk, e⟩ := List.mem_map.1 hm2
  obtain ⟨k1, k2⟩ := List.mem_range'_1.1 hk
  rw [← e]
  exact hp k k1 (by omega)
theorem sorted_perm_out {a b p q : Nat} {d d' : Array α} (h : PermIn p q d d') (hs : SortedIn lt a b d) (ho : b ≤ p ∨ q ≤ a) : SortedIn lt a b d' := fun i j h1 h2 h3 => by
  rw [h.2.1 i (by omega), h.2.1 j (by omega)]
  exact hs i j h1 h2 h3
/-- both halves sorted: all is. -/
theorem merge_end {a mid b : Nat} {d1 d2 d3 : Array α} (hb : b ≤ d1.size) (hc : ∀ i j, a ≤ i → i < mid → mid ≤ j → j < b → lt d1[j]! d1[i]! = false) (p1 : PermIn a mid d1 d2) (s1 : SortedIn lt a mid d2) (p2 : PermIn mid b d2 d3) (s2 : SortedIn lt mid b d3) :
    SortedIn lt a b d3 := by
  have c2 : ∀ i j, a ≤ i → i < mid → mid ≤ j → j < b → lt d2[j]! d2[i]! = false := fun i j h1 h2 h3 h4 =>
    perm_at (by omega) p1 (p := fun y => ∀ j, mid ≤ j → j < b → lt d2[j]! y = false) (fun i h1 h2 j h3 h4 => by rw [p1.2.1 j (by omega)]; exact hc i j h1 h2 h3 h4) i h1 h2 j h3 h4
  have c3 : ∀ i j, a ≤ i → i < mid → mid ≤ j → j < b → lt d3[j]! d3[i]! = false := fun i j h1 h2 h3 h4 => by
    have := perm_at (by rw [p1.1]; exact hb) p2 (p := fun y => ∀ i, a ≤ i → i < mid → lt y d2[i]! = false) (fun j h3 h4 i h1 h2 => c2 i j h1 h2 h3 h4) j h3 h4 i h1 h2
    rw [p2.2.1 i (by omega)]
    exact this
  intro i j h1 h2 h3
  by_cases g1 : j < mid
  · rw [p2.2.1 i (by omega), p2.2.1 j (by omega)]; exact s1 i j h1 h2 g1
  · by_cases g2 : mid ≤ i
    · exact s2 i j g2 h2 h3
    · exact c3 i j h1 (by omega) (by omega) h3
theorem permIn_sub {a b a' b' : Nat} {d d' : Array α} (h : PermIn a' b' d d') (ha : a ≤ a') (hb : b' ≤ b) (hd : b ≤ d.size) : PermIn a b d d' := permIn_mono _ _ _ _ _ _ ha hb hd h
/-- every block of c places from a multiple of c on is sorted. -/
def Blocks (lt : α → α → Bool) (c n : Nat) (d : Array α) : Prop := ∀ k, SortedIn lt (k * c) (min (k * c + c) n) d
end Go.Proofs.YtgbkjdpjilldmaaGreatDoor.St
/- slices.SortStableFunc at spans: swapRange. -/
namespace Go.Proofs.YtgbkjdpjilldmaaGreatDoor.St
open Go.Shelf Go.RowKit Go.Lib Go.Sort
/-- a span, and its two cells. -/
abbrev Sp := Int × Int
def encS (s : Sp) : List Value := [.int .i64 s.1, .int .i64 s.2]
theorem encS_len (s : Sp) : (encS s).length = 2 := rfl
theorem encS_one (s : Sp) : ∀ v ∈ encS s, v.oneCell' = true := by
  intro v hv
  simp [encS] at hv
  rcases hv with rfl | rfl <;> rfl
variable {w0 : World} {blk off : Nat} {d0 : Array Sp}
theorem two {W : World} {dk : Array Sp} (h : SWK encS 2 w0 blk off dk W) (R : RowK encS 2 w0 blk off d0) (hs : dk.size = d0.size) {i : Nat} (hi : i < dk.size) :
    W.cell? ⟨blk, off + i * 2, none⟩ = some (.int .i64 dk[i]!.1) ∧ W.cell? ⟨blk, off + i * 2 + 1, none⟩ = some (.int .i64 dk[i]!.2) ∧ W.frozen? ⟨blk, off + i * 2, none⟩ = false ∧ W.frozen? ⟨blk, off + i * 2 + 1, none⟩ = false := by
  have hh := h.holds R.hblk R.hH hs
  have c0 := hh.cell (c := 0) hi (by decide)
  have c1 := hh.cell (c := 1) hi (by decide)
  exact ⟨c0.1, c1.1, c0.2, c1.2⟩
set_option maxHeartbeats 4000000 in
set_option maxRecDepth 1000000 in
theorem swapRange_any (g : Nat) (cb : Array Value) (cap p q n : Nat) (d : Array Sp) (w : World)
    (R : RowK encS 2 w0 blk off d0) (hs : d0.size = d.size) (S : SWK encS 2 w0 blk off d w) (hpq : p + n ≤ q) (hq : q + n ≤ d.size) (hsz : d.size < 4611686018427387904) :
    Calls Tryz.prog 181 #[.slice (some ⟨blk, off, none⟩) d.size cap, .int .i64 p, .int .i64 q, .int .i64 n, .func (.func g) #[] cb] w fun e w' => e = .returned (.tuple #[]) ∧ ∃ d', IsSwp p q n d d' ∧ PermIn p (q + n) d d' ∧ SWK encS 2 w0 blk off d' w' := by
  have S0 : Aside (SWK encS 2 w0 blk off d w) := S
  have PR : Aside (PermIn p (q + n) d d) := permIn_refl _ _ _
  clear S
  go_enter Tryz.func181, Tryz.ntmps181
  go_wp2
  go_loopg [10] n (fun kx s10 wr => ∃ (i : Nat) (dk : Array Sp), s10 = .int .i64 i ∧ i ≤ n ∧ n - i ≤ kx ∧ dk.size = d.size ∧ Aside (IsSwp p q i d dk) ∧ Aside (PermIn p (q + n) d dk) ∧ Aside (SWK encS 2 w0 blk off dk wr))
  case atStart => exact ⟨0, d, rfl, by omega, by omega, rfl, isSwp_zero p q d, PR, S0⟩
  case round =>
    clear S0 PR
    obtain ⟨i, dk, rfl, hin, hkx, hds, HI, HP, S1⟩ := hrel
    by_cases hlt : i < n
    · have hltz : (i : Int) < (n : Int) := by omega
      go_wp2_with fail
      have ea : ((p : Int) + (i : Int)).toNat = p + i := by omega
      have ba : (p : Int) + (i : Int) < (d.size : Int) := by omega
      have ra : IntKind.i64.wrap ((p : Int) + (i : Int)) = (p : Int) + (i : Int) := by rw [IntKind.wrap_i64]; omega
      have pa : (0 : Int) ≤ (p : Int) + (i : Int) := by omega
      have ec : ((q : Int) + (i : Int)).toNat = q + i := by omega
      have bc : (q : Int) + (i : Int) < (d.size : Int) := by omega
      have rc : IntKind.i64.wrap ((q : Int) + (i : Int)) = (q : Int) + (i : Int) := by rw [IntKind.wrap_i64]; omega
      have pc : (0 : Int) ≤ (q : Int) + (i : Int) := by omega
      have S2 : Aside (SWK encS 2 w0 blk off (swp dk (p + i) (q + i)) ((wr.setCells blk (off + (p + i) * 2) (encS dk[q + i]!)).setCells blk (off + (q + i) * 2) (encS dk[p + i]!)).drew) := (S1.out.swap R.hk R.hblk (p + i) (q + i) (by omega) (by omega)).drew
      obtain ⟨x0, x1, fx0, fx1⟩ := two S1.out R (by omega) (i := p + i) (by omega)
      obtain ⟨y0, y1, fy0, fy1⟩ := two S1.out R (by omega) (i := q + i) (by omega)
      have n0 : ¬ (p + i) * 2 = (q + i) * 2 := by omega
      have n1 : ¬ (q + i) * 2 = (p + i) * 2 := by omega
      generalize dk[p + i]! = u at *
      generalize dk[q + i]! = v at *
      obtain ⟨u1, u2⟩ := u
      obtain ⟨v1, v2⟩ := v
      dsimp only at x0 x1 y0 y1
      clear S1
      go_region
      all_goals
        clear x0 x1 y0 y1 fx0 fx1 fy0 fy1 n0 n1
        go_wp2
        go_roundg (n - (i + 1))
        case measure => omega
        case rel => exact ⟨i + 1, swp dk (p + i) (q + i), by go_num, by omega, Nat.le_refl _, by rw [size_swp]; exact hds, HI.out.step (by omega) (by omega), permIn_trans _ _ _ _ _ HP.out (swp_permIn _ _ _ _ _ (by omega) (by omega) (by omega) (by omega) (by omega)), S2⟩
    · obtain rfl : i = n := by omega
      go_wp2
      go_end0
      exact ⟨rfl, dk, HI.out, HP.out, S1.out⟩
end Go.Proofs.YtgbkjdpjilldmaaGreatDoor.St
/- Plain mathematics of tokens: classes of bytes, gaps, strings in quotes, one token, the tokens of a text. -/
namespace Go.Proofs.YtgbkjdpjilldmaaGreatDoor.Lx
abbrev B := List UInt8
def isLet (c : UInt8) : Bool := (65 ≤ c && c ≤ 90) || (97 ≤ c && c ≤ 122)
def isDig (c : UInt8) : Bool := 48 ≤ c && c ≤ 57
def isWord (c : UInt8) : Bool := isLet c || isDig c || c == 95
def isBlk (c : UInt8) : Bool := c == 32 || c == 9 || c == 10
def symB : B := [59, 44, 46, 58, 40, 41, 123, 125, 91, 93, 61, 60, 62, 47, 45]
def isSym (c : UInt8) : Bool := symB.contains c
/-- the class of a byte. -/
def cls (c : UInt8) : Nat := if isLet c then 1 else if isDig c then 2 else if c = 95 then 4 else if isBlk c then 8 else if c = 35 then 16 else if c = 34 then 32 else if isSym c then 64 else 0
theorem all_u8 {P : UInt8 → Prop} (h : ∀ k : Fin 256, P (UInt8.ofNat k.val)) (c : UInt8) : P c := by
  have := h ⟨c.toNat, c.toNat_lt⟩
  simpa using this
/-- how many bytes of a kind follow each other at the beginning. -/
def run (p : UInt8 → Bool) : B → Nat
  | [] => 0
  | c :: l => if p c then run p l + 1 else 0
/-- how many bytes of gaps there are at the beginning; true: in a comment. -/
def gp : Bool → B → Nat
  | _, [] => 0
  | false, c :: l => if isBlk c then gp false l + 1 else if c = 35 then gp true l + 1 else 0
  | true, c :: l => if c = 10 then gp false l + 1 else gp true l + 1
/-- behind the first quote: what a string stands for, and how many bytes it takes; true: behind a stroke. -/
def st : Bool → B → Option (B × Nat)
  | _, [] => none
  | false, c :: l => if c = 34 then some ([], 1) else if c = 10 then none else if c = 92 then (st true l).map fun r => (r.1, r.2 + 1) else (st false l).map fun r => (c :: r.1, r.2 + 1)
  | true, c :: l => if c = 92 ∨ c = 34 then (st false l).map fun r => (c :: r.1, r.2 + 1) else if c = 110 then (st false l).map fun r => (10 :: r.1, r.2 + 1) else none
def esc : B → B
  | [] => []
  | c :: l => if c = 92 ∨ c = 34 then 92 :: c :: esc l else if c = 10 then 92 :: 110 :: esc l else c :: esc l
def quote (t : B) : B := 34 :: (esc t ++ [34])
inductive Rd
  | bad (e : Int)
  | tok (k : Int) (t : B) (n : Nat)
/-- is the next byte one of a kind. -/
def hd (p : UInt8 → Bool) : B → Bool
  | [] => false
  | c :: _ => p c
/-- the token at the beginning. -/
def nx : B → Rd
  | [] => .bad 3
  | c :: l =>
    if isLet c then if 24 < run isWord (c :: l) then .bad 2 else .tok 1 ((c :: l).take (run isWord (c :: l))) (run isWord (c :: l))
    else if isDig c then if 7 < run isDig (c :: l) ∨ hd isWord ((c :: l).drop (run isDig (c :: l))) = true then .bad 4 else .tok 2 ((c :: l).take (run isDig (c :: l))) (run isDig (c :: l))
    else if c = 34 then match st false l with | none => .bad 3 | some r => .tok 3 r.1 (r.2 + 1)
    else if isSym c then .tok 4 [c] 1 else .bad 3
structure Tk where
  k : Int
  t : B
  a : Nat
deriving DecidableEq
/-- the tokens of a text from an offset on. -/
inductive Lx : Nat → B → List Tk → Option (Int × Nat) → Prop
  | done {a : Nat} {l : B} : l.drop (gp false l) = [] → Lx a l [] none
  | bad {a : Nat} {l m : B} {e : Int} : l.drop (gp false l) = m → m ≠ [] → nx m = .bad e → Lx a l [] (some (e, a + gp false l))
  | tok {a : Nat} {l m : B} {k : Int} {t : B} {n : Nat} {ts : List Tk} {r : Option (Int × Nat)} : l.drop (gp false l) = m → m ≠ [] → nx m = .tok k t n → Lx (a + gp false l + n) (m.drop n) ts r → Lx a l (⟨k, t, a + gp false l⟩ :: ts) r
section
variable {p q : UInt8 → Bool} {l m : B}
theorem run_le (p : UInt8 → Bool) : ∀ l : B, run p l ≤ l.length
  | [] => Nat.le_refl _
  | c :: l => by unfold run; have := run_le p l; split <;> simp; omega
theorem run_hd (p : UInt8 → Bool) : ∀ l : B, hd p (l.drop (run p l)) = false
  | [] => rfl
  | c :: l => by
    unfold run
    by_cases h : p c
    · rw [if_pos h, List.drop_succ_cons]; exact run_hd p l
    · rw [if_neg h]; simpa [hd] using h
theorem run_all (p : UInt8 → Bool) : ∀ l : B, ∀ c ∈ l.take (run p l), p c = true
  | [] => by simp [run]
  | c :: l => by
    unfold run
    by_cases h : p c
    · rw [if_pos h]
      intro d hd
      rw [List.take_succ_cons, List.mem_cons] at hd
      rcases hd with rfl | hd
      · exact h
      · exact run_all p l d hd
    · rw [if_neg h]; simp
/-- a run is what it is: all bytes of the kind, and the next one none. -/
theorem run_eq : ∀ (l : B) (n : Nat), n ≤ l.length → (∀ c ∈ l.take n, p c = true) → hd p (l.drop n) = false → run p l = n
  | [], n, h, _, _ => by simp at h; subst h; rfl
  | c :: l, 0, _, _, h => by unfold run; rw [if_neg]; simpa [hd] using h
  | c :: l, n + 1, h, ha, hh => by
    unfold run
    rw [if_pos (ha c (by simp)), run_eq l n (by simpa using h) (fun d hd => ha d (by simp [hd])) (by simpa using hh)]
theorem run_app (s : B) (hs : hd p s = false) : run p (l ++ s) = run p l := by
  induction l with
  | nil => cases s with
    | nil => rfl
    | cons d s => show run p (d :: s) = 0; unfold run; rw [if_neg]; simpa [hd] using hs
  | cons c l ih => show run p (c :: (l ++ s)) = _; unfold run; rw [ih]
theorem run_take : ∀ (l : B) (j : Nat), run p l ≤ j → run p (l.take j) = run p l
  | [], j, _ => by simp
  | c :: l, 0, h => by unfold run at h ⊢; split at h <;> simp_all
  | c :: l, j + 1, h => by
    rw [List.take_succ_cons]
    unfold run at h ⊢
    by_cases hc : p c
    · rw [if_pos hc] at h ⊢; rw [if_pos hc, run_take l j (by omega)]
    · rw [if_neg hc, if_neg hc]
theorem run_step {c : UInt8} (h : p c = true) : run p (c :: l) = run p l + 1 := by rw [run, if_pos h]
theorem run_none {c : UInt8} (h : p c = false) : run p (c :: l) = 0 := by rw [run, if_neg (by simp [h])]
theorem run_mono (h : ∀ c, p c = true → q c = true) : ∀ l : B, run p l ≤ run q l
  | [] => Nat.le_refl _
  | c :: l => by
    unfold run
    have := run_mono h l
    by_cases hc : p c
    · rw [if_pos hc, if_pos (h c hc)]; omega
    · rw [if_neg hc]; exact Nat.zero_le _
theorem gp_le : ∀ (b : Bool) (l : B), gp b l ≤ l.length
  | _, [] => by simp [gp]
  | false, c :: l => by unfold gp; have := gp_le false l; have := gp_le true l; (repeat' split) <;> simp <;> omega
  | true, c :: l => by unfold gp; have := gp_le false l; have := gp_le true l; (repeat' split) <;> simp <;> omega
theorem gp_blk : ∀ l : B, gp false l = run isBlk l + gp false (l.drop (run isBlk l))
  | [] => rfl
  | c :: l => by
    by_cases h : isBlk c
    · rw [run_step h, List.drop_succ_cons, gp, if_pos h, gp_blk l]; omega
    · rw [run_none (by simpa using h)]; simp
theorem gp_cmt : ∀ l : B, gp true l = run (· != 10) l + gp false (l.drop (run (· != 10) l))
  | [] => rfl
  | c :: l => by
    by_cases h : c = 10
    · subst h
      rw [run_none (by rfl), List.drop_zero, Nat.zero_add]
      rfl
    · rw [run_step (by simpa using h), List.drop_succ_cons, gp, if_neg h, gp_cmt l]; omega
theorem gp_hash {c : UInt8} (h : c = 35) : gp false (c :: l) = run (· != 10) (c :: l) + gp false ((c :: l).drop (run (· != 10) (c :: l))) := by
  subst h
  rw [run_step (by decide), List.drop_succ_cons, gp, if_neg (by decide), if_pos rfl, gp_cmt l]
  omega
/-- behind the gaps comes no gap. -/
theorem gp_end : ∀ (b : Bool) (l : B), hd (fun c => isBlk c || c == 35) (l.drop (gp b l)) = false
  | _, [] => by simp [gp, hd]
  | false, c :: l => by
    unfold gp
    by_cases h : isBlk c
    · rw [if_pos h, List.drop_succ_cons]; exact gp_end false l
    · rw [if_neg h]
      by_cases h2 : c = 35
      · rw [if_pos h2, List.drop_succ_cons]; exact gp_end true l
      · rw [if_neg h2]; simp [hd, h, h2]
  | true, c :: l => by
    unfold gp
    by_cases h : c = 10
    · rw [if_pos h, List.drop_succ_cons]; exact gp_end false l
    · rw [if_neg h, List.drop_succ_cons]; exact gp_end true l
theorem gp_zero {c : UInt8} (h : isBlk c = false) (h2 : c ≠ 35) : gp false (c :: l) = 0 := by rw [gp, if_neg (by simp [h]), if_neg h2]
theorem gp_drop (b : Bool) (l : B) : gp false (l.drop (gp b l)) = 0 := by
  have h := gp_end b l
  cases hm : l.drop (gp b l) with
  | nil => rfl
  | cons c m =>
    rw [hm] at h
    simp only [hd, Bool.or_eq_false_iff, beq_eq_false_iff_ne, ne_eq] at h
    exact gp_zero h.1 h.2
/-- the gaps themselves are gaps. -/
theorem gp_self : ∀ (b : Bool) (l : B), gp b (l.take (gp b l)) = gp b l
  | b, [] => by simp
  | false, c :: l => by
    by_cases h : isBlk c
    · rw [show gp false (c :: l) = gp false l + 1 by rw [gp, if_pos h], List.take_succ_cons, gp, if_pos h, gp_self false l]
    · by_cases h2 : c = 35
      · rw [show gp false (c :: l) = gp true l + 1 by rw [gp, if_neg h, if_pos h2], List.take_succ_cons, gp, if_neg h, if_pos h2, gp_self true l]
      · rw [show gp false (c :: l) = 0 by rw [gp, if_neg h, if_neg h2]]; rfl
  | true, c :: l => by
    by_cases h : c = 10
    · rw [show gp true (c :: l) = gp false l + 1 by rw [gp, if_pos h], List.take_succ_cons, gp, if_pos h, gp_self false l]
    · rw [show gp true (c :: l) = gp true l + 1 by rw [gp, if_neg h], List.take_succ_cons, gp, if_neg h, gp_self true l]
/-- gaps stay gaps in a comment. -/
theorem gp_in : ∀ g : B, gp false g = g.length → gp true g = g.length
  | [], _ => rfl
  | c :: g, h => by
    rw [gp] at h
    rw [gp]
    by_cases h1 : c = 10
    · subst h1
      rw [if_pos (by decide)] at h
      rw [if_pos rfl]; simpa using h
    · rw [if_neg h1]
      by_cases h2 : isBlk c
      · rw [if_pos h2] at h
        rw [gp_in g (by simpa using h)]; rfl
      · rw [if_neg h2] at h
        by_cases h3 : c = 35
        · rw [if_pos h3] at h; exact h
        · rw [if_neg h3] at h; simp at h
theorem gp_more (s : B) : ∀ (b : Bool) (l : B), gp b l < l.length → gp b (l ++ s) = gp b l
  | b, [], h => by simp [gp] at h
  | false, c :: l, h => by
    rw [List.cons_append]
    by_cases h1 : isBlk c
    · rw [gp, if_pos h1] at h ⊢; rw [gp, if_pos h1, gp_more s false l (by simpa using h)]
    · rw [gp, if_neg h1] at h ⊢
      by_cases h2 : c = 35
      · rw [if_pos h2] at h ⊢; rw [gp, if_neg h1, if_pos h2, gp_more s true l (by simpa using h)]
      · rw [if_neg h2, gp, if_neg h1, if_neg h2]
  | true, c :: l, h => by
    rw [List.cons_append]
    by_cases h1 : c = 10
    · rw [gp, if_pos h1] at h ⊢; rw [gp, if_pos h1, gp_more s false l (by simpa using h)]
    · rw [gp, if_neg h1] at h ⊢; rw [gp, if_neg h1, gp_more s true l (by simpa using h)]
/-- whole gaps, and a line feed. -/
theorem gp_line (s : B) : ∀ (b : Bool) (l : B), gp b l = l.length → gp b (l ++ 10 :: s) = l.length + 1 + gp false s
  | false, [], _ => by show gp false (10 :: s) = _; rw [gp, if_pos (by decide)]; simp; omega
  | true, [], _ => by show gp true (10 :: s) = _; rw [gp, if_pos rfl]; simp; omega
  | false, c :: l, h => by
    rw [List.cons_append]
    by_cases h1 : isBlk c
    · rw [gp, if_pos h1] at h ⊢; rw [gp_line s false l (by simpa using h)]; simp; omega
    · rw [gp, if_neg h1] at h ⊢
      by_cases h2 : c = 35
      · rw [if_pos h2] at h ⊢; rw [gp_line s true l (by simpa using h)]; simp; omega
      · rw [if_neg h2] at h; simp at h
  | true, c :: l, h => by
    rw [List.cons_append]
    by_cases h1 : c = 10
    · rw [gp, if_pos h1] at h ⊢; rw [gp_line s false l (by simpa using h)]; simp; omega
    · rw [gp, if_neg h1] at h ⊢; rw [gp_line s true l (by simpa using h)]; simp; omega
/-- whole gaps, and gaps. -/
theorem gp_gaps {g : B} (hg : gp false g = g.length) : ∀ (b : Bool) (l : B), gp b l = l.length → gp b (l ++ g) = l.length + g.length
  | false, [], _ => by show gp false g = _; simp [hg]
  | true, [], _ => by show gp true g = _; simp [gp_in g hg]
  | false, c :: l, h => by
    rw [List.cons_append]
    by_cases h1 : isBlk c
    · rw [gp, if_pos h1] at h ⊢; rw [gp_gaps hg false l (by simpa using h)]; simp; omega
    · rw [gp, if_neg h1] at h ⊢
      by_cases h2 : c = 35
      · rw [if_pos h2] at h ⊢; rw [gp_gaps hg true l (by simpa using h)]; simp; omega
      · rw [if_neg h2] at h; simp at h
  | true, c :: l, h => by
    rw [List.cons_append]
    by_cases h1 : c = 10
    · rw [gp, if_pos h1] at h ⊢; rw [gp_gaps hg false l (by simpa using h)]; simp; omega
    · rw [gp, if_neg h1] at h ⊢; rw [gp_gaps hg true l (by simpa using h)]; simp; omega
end
end Go.Proofs.YtgbkjdpjilldmaaGreatDoor.Lx
