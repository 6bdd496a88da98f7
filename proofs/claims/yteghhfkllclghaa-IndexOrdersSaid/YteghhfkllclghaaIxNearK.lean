/- index: a node that Near takes out of the queue: its Ids, its kids. -/
import Derived.Test.YteghhfkllclghaaIxNearQ
import Derived.Test.YteghhfkllclghaaIxNearI
import Derived.Test.YteghhfkllclghaaIxNearOut
import Derived.Test.YteghhfkllclghaaIxDropEnd
namespace Go.Proofs.Yteghhfkllclghaa.Ix
open Go.RowKit Go.Sort
def _root_.Go.Proofs.Yteghhfkllclghaa.Ix.Tr.idl : Tr Value → List Id
  | .leaf _ _ ids _ => ids
  | .fork _ _ _ _ => []
theorem inT_ids {w : World} : ∀ {t : Tr Value}, t.inT w → OwnS w t.idsV t.idl
  | .leaf _ _ _ _, h => h.2
  | .fork _ _ _ _, _ => OwnS.nil w
theorem ids_shape {w : World} {v : Value} {L : List Id} (h : OwnS w v L) : ∃ ia ic, v = .slice ia L.length ic ∧ L.length ≤ ic ∧ (0 < L.length → ∃ g, ia = some ⟨g, 0, none⟩) := by
  obtain ⟨_, ⟨hv, h0⟩ | ⟨g, cap, cur, hv, _, _, h1, _⟩⟩ := h
  · exact ⟨none, 0, by rw [h0]; exact hv, by omega, fun h => by omega⟩
  · exact ⟨_, cap, hv, h1, fun _ => ⟨g, rfl⟩⟩
def kidV (u : Tr Value) (k : Nat) : Value := if k = 0 then u.kid0 else u.kid1
def nodeP (x y : Int) (t : Tr Value) : Qi × Prt := (⟨sqN t.box x y, some t.blk, []⟩, .sub t)
def kidsP (x y : Int) (u : Tr Value) (k : Nat) : List (Qi × Prt) := match u with
  | .leaf _ _ _ _ => []
  | .fork _ _ l r => if k = 0 then [] else if k = 1 then [nodeP x y l] else [nodeP x y r, nodeP x y l]
theorem kid_ptr (u : Tr Value) : ∃ z0 z1 : Option Addr, u.kid0 = .pointer z0 ∧ u.kid1 = .pointer z1 := by
  cases u with
  | leaf _ _ _ _ => exact ⟨none, none, rfl, rfl⟩
  | fork _ _ _ _ => exact ⟨_, _, rfl, rfl⟩
theorem kid_at {W : World} {base : Nat} (x y : Int) {u : Tr Value} (h : u.inT W) (hf : ∀ r ∈ u.fp, r < base) (ho : u.ok) {k : Nat} (hk : k < 2) (z : Option Addr) (hz : kidV u k = .pointer z) :
    (z = none ∧ kidsP x y u (k + 1) = kidsP x y u k) ∨ ∃ t : Tr Value, z = some ⟨t.blk, 0, none⟩ ∧ kidsP x y u (k + 1) = nodeP x y t :: kidsP x y u k ∧ t.inT W ∧ (∀ r ∈ t.fp, r < base) ∧ t.ok := by
  cases u with
  | leaf p b ids v =>
    left
    have h2 : k = 0 ∨ k = 1 := by omega
    rcases h2 with rfl | rfl
    all_goals
      refine ⟨?_, rfl⟩
      have : (Value.pointer none) = .pointer z := hz
      injection this with e
      exact e.symm
  | fork p f l r =>
    right
    have h2 : k = 0 ∨ k = 1 := by omega
    rcases h2 with rfl | rfl
    · have : ptr l.blk = .pointer z := hz
      injection this with e
      exact ⟨l, e.symm, rfl, h.2.1, fun r hr => hf r (by unfold Tr.fp; simp [hr]), ho.2.1⟩
    · have : ptr r.blk = .pointer z := hz
      injection this with e
      exact ⟨r, e.symm, rfl, h.2.2, fun x hx => hf x (by unfold Tr.fp; simp [hx]), ho.2.2.1⟩
theorem NQ.perm {w0 wr : World} {base qb : Nat} {px py : Int} {P R : List (Qi × Prt)} (h : NQ w0 wr base qb px py P) (hp : P.Perm R) : NQ w0 wr base qb px py R := by
  obtain ⟨⟨v, L, h1, h2, h3⟩, hg, hb⟩ := h
  exact ⟨⟨v, L, h1, h2, h3.trans (hp.map Prod.fst)⟩, fun z hz => hg z (hp.mem_iff.2 hz), hb⟩
theorem NQ.off {w0 w : World} {base qb : Nat} {px py : Int} {P : List (Qi × Prt)} (h : NQ w0 w base qb px py P) (o : Obj) : Off (w.alloc o) qb w.heap.size := by
  obtain ⟨⟨v, L, h1, _, _⟩, _, _⟩ := h
  have hi := h1.row.inside
  refine ⟨by simp, by simp; omega, by omega, fun u hu => ?_⟩
  have e : v = u := by
    have h2 := (h1.row.later o).get 0
    rw [h2] at hu
    simpa using hu
  subst e
  intro e
  have := (World.ownsRow.lt h1.own _ e).2
  omega
theorem ones_snoc (s : Int) (b : Bx) (ids : List Id) {k : Nat} (hk : k < ids.length) (R : List (Qi × Prt)) : ((⟨s, none, ids[k]⟩, Prt.one b) :: (onesL s b (ids.take k) ++ R)).Perm (onesL s b (ids.take (k + 1)) ++ R) := by
  have e : onesL s b (ids.take (k + 1)) = onesL s b (ids.take k) ++ [(⟨s, none, ids[k]⟩, Prt.one b)] := by
    rw [List.take_succ_eq_append_getElem hk]; unfold onesL; rw [List.map_append]; rfl
  rw [e, List.append_assoc]
  exact List.perm_middle.symm
theorem ones_len (s : Int) (b : Bx) (ids : List Id) : (onesL s b ids).length = ids.length := by unfold onesL; rw [List.length_map]
/-- what a node becomes. -/
theorem NearI.node {x y : Int} {S : List It} {k N : Nat} {P R : List (Qi × Prt)} {out : List Id} {r : Qi} {u : Tr Value} (h : NearI x y S k N P out) (hp : P.Perm ((r, .sub u) :: R)) (s : Int) :
    NearI x y S k N (kidsP x y u 2 ++ (onesL s u.box u.idl ++ R)) out ∧ meaP (kidsP x y u 2 ++ (onesL s u.box u.idl ++ R)) < meaP P := by
  cases u with
  | leaf p b ids v => exact NearI.leaf h hp
  | fork p f l r => exact NearI.fork h hp
theorem lens {x y : Int} {u : Tr Value} {s : Int} {R : List (Qi × Prt)} {N : Nat} (h : cntP (kidsP x y u 2 ++ (onesL s u.box u.idl ++ R)) ≤ N) : (∀ j, (onesL s u.box (u.idl.take j) ++ R).length ≤ N) ∧ ∀ k, k ≤ 2 → (kidsP x y u k ++ (onesL s u.box u.idl ++ R)).length ≤ N := by
  have h1 := len_cnt (kidsP x y u 2 ++ (onesL s u.box u.idl ++ R))
  rw [List.length_append, List.length_append] at h1
  have e : ∀ ids : List Id, (onesL s u.box ids).length = ids.length := fun ids => by unfold onesL; rw [List.length_map]
  rw [e] at h1
  refine ⟨fun j => ?_, fun k hk => ?_⟩
  · rw [List.length_append, e, List.length_take]; omega
  · have h2 : (kidsP x y u k).length ≤ (kidsP x y u 2).length := by
      cases u with
      | leaf p b ids v => exact Nat.le_refl _
      | fork p f l r =>
        have h2 : k = 0 ∨ k = 1 ∨ k = 2 := by omega
        rcases h2 with rfl | rfl | rfl <;> simp [kidsP]
    rw [List.length_append, List.length_append, e]; omega
end Go.Proofs.Yteghhfkllclghaa.Ix
