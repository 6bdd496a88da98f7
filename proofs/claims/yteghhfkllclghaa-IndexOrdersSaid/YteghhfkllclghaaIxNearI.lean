/- index: what Near's loop keeps. -/
import Derived.Test.YteghhfkllclghaaIxNearMath
namespace Go.Proofs.Yteghhfkllclghaa.Ix
open Go.RowKit Go.Sort
/-- what is out, and what is still in the queue. -/
structure NearI (x y : Int) (S : List It) (k N : Nat) (P : List (Qi × Prt)) (out : List Id) : Prop where
  all : (nearA x y S).map Prod.fst = out ++ (nearA x y (itsP P)).map Prod.fst
  nodup : ((itsP P).map Prod.fst).Nodup
  cnt : cntP P ≤ N
  few : out.length ≤ k
/-- how many rounds there are at most. -/
def Prt.ms : Prt → Nat
  | .one _ => 1
  | .sub u => 2 * u.leaves.length + u.items.length - 1
def meaP (P : List (Qi × Prt)) : Nat := (P.map fun z => z.2.ms).sum
theorem mea_perm {P R : List (Qi × Prt)} (h : P.Perm R) : meaP P = meaP R := (h.map _).sum_nat
theorem mea_cons (z : Qi × Prt) (P : List (Qi × Prt)) : meaP (z :: P) = z.2.ms + meaP P := by
  unfold meaP
  rw [List.map_cons, List.sum_cons]
theorem wt_leaf (p : Nat) (b : Bx) (ids : List Id) (v : Value) : (Prt.sub (.leaf p b ids v)).wt = 1 + ids.length ∧ (Prt.sub (.leaf p b ids v)).ms = 1 + ids.length := by
  have ei : (Tr.leaf p b ids v).items.length = ids.length := by rw [Tr.items_leaf, List.length_map]
  have el : (Tr.leaf p b ids v).leaves.length = 1 := rfl
  constructor
  · show (Tr.leaf p b ids v).leaves.length + (Tr.leaf p b ids v).items.length = _
    rw [ei, el]
  · show 2 * (Tr.leaf p b ids v).leaves.length + (Tr.leaf p b ids v).items.length - 1 = _
    rw [ei, el]; omega
theorem wt_fork (p f : Nat) (u1 u2 : Tr Value) : (Prt.sub (.fork p f u1 u2)).wt = (Prt.sub u1).wt + (Prt.sub u2).wt ∧ (Prt.sub u1).ms + (Prt.sub u2).ms < (Prt.sub (.fork p f u1 u2)).ms := by
  have ei : (Tr.fork p f u1 u2).items.length = u1.items.length + u2.items.length := by rw [Tr.items_fork, List.length_append]
  have el : (Tr.fork p f u1 u2).leaves.length = u1.leaves.length + u2.leaves.length := List.length_append
  have p1 := leaves_pos u1
  have p2 := leaves_pos u2
  constructor
  · show (Tr.fork p f u1 u2).leaves.length + (Tr.fork p f u1 u2).items.length = (u1.leaves.length + u1.items.length) + (u2.leaves.length + u2.items.length)
    rw [ei, el]; omega
  · show (2 * u1.leaves.length + u1.items.length - 1) + (2 * u2.leaves.length + u2.items.length - 1) < 2 * (Tr.fork p f u1 u2).leaves.length + (Tr.fork p f u1 u2).items.length - 1
    rw [ei, el]; omega
theorem NearI.perm {x y : Int} {S : List It} {k N : Nat} {P R : List (Qi × Prt)} {out : List Id} (h : NearI x y S k N P out) (hp : (itsP P).Perm (itsP R)) (hc : cntP R ≤ N) : NearI x y S k N R out := by
  have hn : ((itsP R).map Prod.fst).Nodup := (hp.map Prod.fst).nodup_iff.1 h.nodup
  exact ⟨by rw [h.all, near_perm hp hn], hn, hc, h.few⟩
theorem NearI.start {x y : Int} {S : List It} {k N : Nat} {tt : Tr Value} {q : Qi} (hp : (itemsL tt.leaves).Perm S) (hs : Srt S) (hc : tt.leaves.length + tt.items.length ≤ N) : NearI x y S k N [(q, .sub tt)] [] := by
  have e : itsP [(q, Prt.sub tt)] = tt.items := by rw [itsP_cons]; exact List.append_nil _
  have hn : (tt.items.map Prod.fst).Nodup := (hp.map Prod.fst).nodup_iff.2 hs.nodup
  refine ⟨?_, by rw [e]; exact hn, ?_, Nat.zero_le _⟩
  · rw [e, List.nil_append, near_perm (show tt.items.Perm S from hp) hs.nodup]
  · rw [cnt_cons]; exact hc
/-- a box of its own comes out. -/
theorem NearI.one {x y : Int} {S : List It} {k N : Nat} {P R : List (Qi × Prt)} {out : List Id} {r : Qi} {b : Bx} (h : NearI x y S k N P out) (hp : P.Perm ((r, .one b) :: R)) (hg : (Prt.one b).good x y r) (hR : ∀ z ∈ R, z.2.good x y z.1) (hm : ∀ z ∈ R, bfQ z.1 r = false) (hk : out.length < k) :
    NearI x y S k N R (out ++ [r.id]) ∧ meaP R < meaP P := by
  have h1 : (itsP P).Perm ((r.id, b) :: itsP R) := by
    have := itsP_perm hp
    rw [itsP_cons] at this
    exact this
  have h2 := near_step h1 h.nodup (near_first hg.1 hg.2 hR hm)
  have hn : (((r.id, b) :: itsP R).map Prod.fst).Nodup := (h1.map Prod.fst).nodup_iff.1 h.nodup
  rw [List.map_cons, List.nodup_cons] at hn
  have hc := h.cnt
  rw [cnt_perm hp, cnt_cons] at hc
  have hw : (Prt.one b).wt = 1 := rfl
  have hw2 : (Prt.one b).ms = 1 := rfl
  dsimp only at hc
  refine ⟨⟨?_, hn.2, by omega, by rw [List.length_append]; exact hk⟩, ?_⟩
  · rw [h.all, h2]; simp
  · rw [mea_perm hp, mea_cons]; dsimp only; omega
/-- the boxes of a leaf. -/
def onesL (s : Int) (b : Bx) (ids : List Id) : List (Qi × Prt) := ids.map fun i => (⟨s, none, i⟩, .one b)
theorem its_ones (s : Int) (b : Bx) (ids : List Id) : itsP (onesL s b ids) = ids.map fun i => (i, b) := by
  unfold itsP onesL
  induction ids with
  | nil => rfl
  | cons i ids ih => rw [List.map_cons, List.flatMap_cons, ih]; rfl
theorem cnt_ones (s : Int) (b : Bx) (ids : List Id) (R : List (Qi × Prt)) : cntP (onesL s b ids ++ R) = ids.length + cntP R ∧ meaP (onesL s b ids ++ R) = ids.length + meaP R := by
  induction ids with
  | nil => exact ⟨by simp [onesL], by simp [onesL]⟩
  | cons i ids ih =>
    have e : onesL s b (i :: ids) ++ R = (⟨s, none, i⟩, .one b) :: (onesL s b ids ++ R) := rfl
    have hw : (Prt.one b).wt = 1 := rfl
    have hw2 : (Prt.one b).ms = 1 := rfl
    rw [e, cnt_cons, mea_cons, ih.1, ih.2, List.length_cons]
    dsimp only
    rw [hw, hw2]
    omega
theorem NearI.leaf {x y : Int} {S : List It} {k N : Nat} {P R : List (Qi × Prt)} {out : List Id} {r : Qi} {p : Nat} {b : Bx} {ids : List Id} {v : Value} {s : Int} (h : NearI x y S k N P out) (hp : P.Perm ((r, .sub (.leaf p b ids v)) :: R)) :
    NearI x y S k N (onesL s b ids ++ R) out ∧ meaP (onesL s b ids ++ R) < meaP P := by
  have hc := h.cnt
  obtain ⟨hw, hw2⟩ := wt_leaf p b ids v
  rw [cnt_perm hp, cnt_cons] at hc
  dsimp only at hc
  refine ⟨h.perm ?_ (by rw [(cnt_ones s b ids R).1]; omega), ?_⟩
  · refine (itsP_perm hp).trans ?_
    rw [itsP_cons]
    have : itsP (onesL s b ids ++ R) = itsP (onesL s b ids) ++ itsP R := List.flatMap_append
    rw [this, its_ones]
    show ((Tr.leaf p b ids v).items ++ itsP R).Perm _
    rw [Tr.items_leaf]
  · rw [(cnt_ones s b ids R).2, mea_perm hp, mea_cons]
    dsimp only
    omega
theorem NearI.fork {x y : Int} {S : List It} {k N : Nat} {P R : List (Qi × Prt)} {out : List Id} {r q1 q2 : Qi} {p f : Nat} {u1 u2 : Tr Value} (h : NearI x y S k N P out) (hp : P.Perm ((r, .sub (.fork p f u1 u2)) :: R)) :
    NearI x y S k N ((q2, .sub u2) :: (q1, .sub u1) :: R) out ∧ meaP ((q2, .sub u2) :: (q1, .sub u1) :: R) < meaP P := by
  have hc := h.cnt
  obtain ⟨hw, hw2⟩ := wt_fork p f u1 u2
  rw [cnt_perm hp, cnt_cons] at hc
  dsimp only at hc
  refine ⟨h.perm ?_ (by rw [cnt_cons, cnt_cons]; dsimp only; omega), ?_⟩
  · refine (itsP_perm hp).trans ?_
    rw [itsP_cons, itsP_cons, itsP_cons]
    show ((Tr.fork p f u1 u2).items ++ itsP R).Perm (u2.items ++ (u1.items ++ itsP R))
    rw [Tr.items_fork, ← List.append_assoc]
    exact List.perm_append_comm.append_right _
  · rw [mea_perm hp, mea_cons, mea_cons, mea_cons]
    dsimp only
    omega
theorem NearI.done {x y : Int} {S : List It} {k N : Nat} {P : List (Qi × Prt)} {out : List Id} (h : NearI x y S k N P out) (hd : k ≤ out.length ∨ P = []) : out = nearS x y k S := by
  unfold nearS
  rw [List.map_take, h.all]
  have := h.few
  rcases hd with hd | rfl
  · rw [List.take_append_of_le_length hd, List.take_of_length_le (by omega)]
  · have e : (nearA x y (itsP [])).map Prod.fst = [] := by unfold nearA itsP; simp
    rw [e, List.append_nil, List.take_of_length_le (by omega)]
end Go.Proofs.Yteghhfkllclghaa.Ix
