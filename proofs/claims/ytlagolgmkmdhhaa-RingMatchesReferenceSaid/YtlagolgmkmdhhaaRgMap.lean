/- the map of corners: its keys are points, its elements corners. -/
import Derived.Test.YtlagolgmkmdhhaaRgBegins
import Derived.Maps.OwnIn
import Derived.DeepKeys4
namespace Go.Proofs.Ytlagolgmkmdhhaa.Rg
open Go.RowKit Go.Sort Go.Shelf
open Go.Maps (Keyed IsMap has)
open Go.Proofs.Ytlagolgmkmdhhaa.Geo hiding intOf Apart
/-- an element is held as it is. -/
def heldE (v : Value) : Option (DataW Value × List MemPlace) := some (.held v, [])
theorem laidOut : laidOutB Try.prog = true := by kernel_rfl
theorem pt_wide : (match Try.prog.underlying 24 with | some (.array _ _) | some (.struct _) => true | _ => false) = true := by rw [Try.underlying24]
theorem pt_row : (24 : TypeId) < Try.prog.types.size := of_decide_eq_true (by kernel_rfl)
theorem pt_deep : Try.prog.keyTypeAt 2 24 = true := by kernel_rfl
set_option maxRecDepth 100000 in
theorem pt_law : WideMaps.KeyLaw Try.prog 24 := deep_law_laid laidOut (m := 2) (by omega) pt_row pt_deep (by rw [Try.underlying24])
theorem pt_keyed : Keyed Try.prog 24 := Keyed.of_law pt_law
def keyP (p : Pt) : Lit := .string (keyBytes [.int .i64 p.x, .int .i64 p.y])
theorem near_wf {p : Pt} (h : nearB p = true) : (Lit.int .i64 p.x).wf = true ∧ (Lit.int .i64 p.y).wf = true := by
  rw [nearB_iff] at h
  obtain ⟨a1, a2, a3, a4⟩ := h
  exact ⟨WalkArith.wf_i64 (by omega), WalkArith.wf_i64 (by omega)⟩
theorem keyOf_pt {p : Pt} (h : nearB p = true) : keyOf Try.prog 24 (.agg #[.int .i64 p.x, .int .i64 p.y]) = some (keyP p) := by
  obtain ⟨w1, w2⟩ := near_wf h
  have hk : Try.prog.keyType 24 = true := by kernel_rfl
  have hf : (Value.agg #[Value.int .i64 p.x, .int .i64 p.y]).formed Try.prog 24 = true := by
    have : Try.prog.cellsOf 24 = 2 := by kernel_rfl
    simp [Value.formed, Try.underlying24, this]
  obtain ⟨m, hm⟩ : ∃ m, Try.prog.types.size = m + 1 := ⟨Try.prog.types.size - 1, by have : 0 < Try.prog.types.size := of_decide_eq_true (by kernel_rfl); omega⟩
  have hl : Try.prog.keyLits (Try.prog.types.size + 1) 24 [.int .i64 p.x, .int .i64 p.y] = some [.int .i64 p.x, .int .i64 p.y] := by
    have c2 : Try.prog.cellsOf 24 = 2 := by kernel_rfl
    have c1 : Try.prog.cellsOf 3 = 1 := by kernel_rfl
    rw [hm]
    simp [Program.keyLits, Try.underlying24, Try.underlying3, c1, c2, w1, w2]
  unfold keyOf
  rw [Try.underlying24]
  simp only [hk, hf, Bool.and_true, if_true]
  rw [show (Value.agg #[Value.int .i64 p.x, .int .i64 p.y]).cells.toList = [.int .i64 p.x, .int .i64 p.y] from rfl, hl]
  rfl
theorem key_ne {p q : Pt} (hp : nearB p = true) (hq : nearB q = true) (h : p ≠ q) : keyP p ≠ keyP q := by
  intro e
  have h1 := keyOf_pt hp
  rw [e] at h1
  have := pt_keyed.inj h1 (keyOf_pt hq)
  apply h
  cases p; cases q
  simpa using this
theorem key_lit {p : Pt} (hp : nearB p = true) : WideAt.IsKeyLit (keyP p) := pt_keyed.key (keyOf_pt hp)
/-- the corner before one. -/
def prv (l : List Pt) (i : Nat) : Pt := cor (l.drop (l.length - 1) ++ l.take (l.length - 1)) i
def cnAt (l : List Pt) (i : Nat) : Cn := if twiceN l < 0 then ⟨nxt l i, cor l i, prv l i⟩ else ⟨prv l i, cor l i, nxt l i⟩
def valC (c : Cn) : Value := .agg (encCn c).toArray
def cornsTo (l : List Pt) : Nat → DataW Value
  | 0 => .map []
  | k + 1 => (cornsTo l k).put (keyP (cor l k)) (.held (valC (cnAt l k)))
theorem corns_isMap (l : List Pt) : ∀ k, IsMap (cornsTo l k)
  | 0 => ⟨[], rfl⟩
  | k + 1 => (corns_isMap l k).put _ _
/-- the last corner at a point. -/
def lastAt (l : List Pt) (p : Pt) : Nat → Option Nat
  | 0 => none
  | k + 1 => if eqP (cor l k) p then some k else lastAt l p k
theorem corns_look {l : List Pt} (hl : l.all nearB = true) {p : Pt} (hp : nearB p = true) (z : DataW Value) : ∀ k, k ≤ l.length →
    (cornsTo l k).atKey (keyP p) z = (match lastAt l p k with | some i => .held (valC (cnAt l i)) | none => z) ∧ has (cornsTo l k) (keyP p) = (lastAt l p k).isSome
  | 0, _ => ⟨rfl, rfl⟩
  | k + 1, hk => by
    obtain ⟨h1, h2⟩ := corns_look hl hp z k (by omega)
    have hc := near_cor hl (show k < l.length by omega)
    unfold cornsTo lastAt
    by_cases e : cor l k = p
    · rw [if_pos (eqP_iff.2 e), ← e]
      exact ⟨Maps.atKey_put_same (corns_isMap l k) (key_lit hc) _ _, Maps.has_put_same (corns_isMap l k) (key_lit hc) _⟩
    · rw [if_neg (fun h => e (eqP_iff.1 h)), Maps.atKey_put_other (key_ne hp hc (fun h => e h.symm)), Maps.has_put_other (key_ne hp hc (fun h => e h.symm))]
      exact ⟨h1, h2⟩
theorem zero_corner (w : World) : (zeroValue 75).run Try.prog w = .ok (.agg #[.int .i64 0, .int .i64 0, .int .i64 0, .int .i64 0, .int .i64 0, .int .i64 0]) w := by kernel_rfl
section
variable {w : World} {F : Fence} {nF : Nat} {ops : Array Oper} {rest : List Oper} {o : Oper} {a : Act} {Q : Exit → Act → World → Prop}
set_option maxRecDepth 100000 in
/-- the lookup that says whether the key is there, of a map of held elements. -/
theorem wpListIn_lookup_held (hg : o.guard = none) (m x : Operand) (t : TypeId) (hop : o.op = Op.lookup t m x true)
    (k e : TypeId) (K : Keyed Try.prog k) (ht : Try.prog.underlying t = some (.map k e)) {z : Value} (hz : (zeroValue e).run Try.prog w = .ok z w) (b n : Nat) (D : DataW Value)
    (hm : a.eval m = .map (some b)) (hown : w.ownsMap Try.prog k heldE b n D) (key : Value) (kl : Lit) (hx : a.eval x = key) (hkey : keyOf Try.prog k key = some kl) (v0 : Value) (c : Bool)
    (hat : D.atKey kl (.held z) = .held v0) (hc : has D kl = c)
    (hK : wpListIn F nF Try.prog ops Q rest (a.put o.dst (.tuple #[v0, .bool c])) w) :
    wpListIn F nF Try.prog ops Q (o :: rest) a w :=
  wpListIn_lookup_own_ok w hg m x t hop k e K ht heldE hz (.held z) [] rfl b n D hm hown key kl hx hkey (fun v ps hv => by
    have hv' : v = v0 := by
      unfold heldE at hv
      rw [hat] at hv
      injection hv with hv
      injection hv with h1 h2
      injection h1
    subst hv' hc
    exact hK)
/-- the map stays while blocks from B on turn. -/
theorem ownFrom_map {β : Type} {B b n : Nat} {k : TypeId} {D : DataW Value} (h : b < B) : OwnFrom B (fun (_ : β) W => W.ownsMap Try.prog k heldE b n D) := fun _ _ _ _ hs hg hr => hs.kept hg (fun e => by have := (hr b e.symm).1; omega)
theorem map_below {W W' : World} {k : TypeId} {b n : Nat} {D : DataW Value} (hs : W.ownsMap Try.prog k heldE b n D) (h : Below W.heap.size W W') : W'.ownsMap Try.prog k heldE b n D := hs.kept (grown_of_below h none) (by simp)
end
end Go.Proofs.Ytlagolgmkmdhhaa.Rg
