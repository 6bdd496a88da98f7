/- Small facts on memory that the walks of this seat share. -/
import Derived.Test.YtlknbjaippfemaaProg
import Derived.Test.YtlknbjaippfemaaChecked
import Derived.Test.YtlknbjaippfemaaLxNext
import Derived.WalkKit
import Derived.WalkSpells
import Derived.WalkLawsBesides
import Derived.Lib.Hide
import Derived.ChangeAlike
import Derived.Laws.CopyOwn
import Derived.Lib.AppendStr
import Derived.Lib.Strings
import Derived.Below
import Derived.Deep.QuietTactic
import Derived.BigQuiet
import Derived.IntWalk
import Derived.Lib.QuietBelow
import Derived.RegionTactic
import Derived.StillTailTactics
import Derived.Deep.CutRange
import Derived.Deep.CutBlock
import Derived.Deep.LoopGhost
import Derived.Deep.RegionHeld3
import Derived.Deep.RegionWith
import Derived.Deep.RegionLaw
namespace Go.Proofs.Ytlknbjaippfemaa.Lx
open Go.RowKit
theorem ret_int {k : IntKind} {a b : Int} (h : a = b) : Ending.returned (.int k a) = .returned (.int k b) := by rw [h]
theorem ret_bool {a b : Bool} (h : a = b) : Ending.returned (.bool a) = .returned (.bool b) := by rw [h]
theorem ret_str {a b : ByteArray} (h : a = b) : Ending.returned (.string a) = .returned (.string b) := by rw [h]
def intOf : Value → Int | .int _ q => q | _ => 0
/-- block g is the row cs of element type t, nothing of it frozen. -/
def IsRow (w : World) (g : Nat) (t : TypeId) (cs : Array Value) : Prop := w.heap[g]? = some (.cells cs t (0, 0))
section
variable {w w' : World} {g : Nat} {t : TypeId} {cs : Array Value}
theorem IsRow.inside (h : IsRow w g t cs) : g < w.heap.size := by
  refine Nat.lt_of_not_le fun hge => ?_
  unfold IsRow at h
  rw [Array.getElem?_eq_none hge] at h
  cases h
theorem IsRow.get (h : IsRow w g t cs) (i : Nat) : w.cell? ⟨g, i, none⟩ = cs[i]? := by unfold IsRow at h; simp [World.cell?, h]
theorem IsRow.open_ (h : IsRow w g t cs) (i : Nat) : w.frozen? ⟨g, i, none⟩ = false := by unfold IsRow at h; simp [World.frozen?, h]
theorem IsRow.made (w : World) (t : TypeId) (cs : Array Value) : IsRow (w.alloc (.cells cs t)) w.heap.size t cs := heap_alloc_new w _
theorem IsRow.later (h : IsRow w g t cs) (o : Obj) : IsRow (w.alloc o) g t cs := (Below.heap_alloc w o g h.inside).trans h
theorem IsRow.put (h : IsRow w g t cs) (i : Nat) (u : Value) : IsRow (w.setCell ⟨g, i, none⟩ u) g t (cs.setIfInBounds i u) := by
  unfold IsRow at h ⊢
  simp [World.setCell, Array.getElem?_modify, h]
theorem IsRow.putOther (h : IsRow w g t cs) {p : Addr} (hp : g ≠ p.block) (u : Value) : IsRow (w.setCell p u) g t cs := (Below.heap_setCell w p u g hp).trans h
theorem IsRow.below {B : Nat} (h : IsRow w g t cs) (hb : Below B w w') (hg : g < B) : IsRow w' g t cs := (hb.block g hg).trans h
theorem IsRow.grown {row : Option Nat} (h : IsRow w g t cs) (hg : w.grownBy w' row) (hne : row ≠ some g) : IsRow w' g t cs := (hg.block g h.inside (fun e => hne e.symm)).trans h
theorem IsRow.drew (h : IsRow w g t cs) : IsRow w.drew g t cs := h
end
theorem drew_below (w : World) : Below w.heap.size w w.drew := (Below.refl _ w).drew
theorem alloc1 (w : World) (o : Obj) : Below w.heap.size w (w.alloc o) := (Below.refl _ _).alloc (Nat.le_refl _) _
theorem below_drewN {B : Nat} {a w : World} (h : Below B a w) (n : Nat) : Below B a (w.drewN n) := h.trans ⟨rfl, rfl, rfl, Nat.le_refl _, fun _ _ => rfl⟩
theorem grown_of_below {w w' : World} (h : Below w.heap.size w w') (row : Option Nat) : w.grownBy w' row := ⟨h.os, h.tape, h.output, h.size, fun i hi _ => h.block i hi⟩
theorem grown_trans {w w' w'' : World} {row : Option Nat} (h : w.grownBy w' row) (k : w'.grownBy w'' row) : w.grownBy w'' row :=
  ⟨k.os.trans h.os, k.tape.trans h.tape, k.output.trans h.output, Nat.le_trans h.size k.size, fun i hi hne => (k.block i (Nat.lt_of_lt_of_le hi h.size) hne).trans (h.block i hi hne)⟩
theorem grown_refl (w : World) (row : Option Nat) : w.grownBy w row := ⟨rfl, rfl, rfl, Nat.le_refl _, fun _ _ _ => rfl⟩
theorem grown_put (w : World) (g i : Nat) (u : Value) : w.grownBy (w.setCell ⟨g, i, none⟩ u) (some g) :=
  ⟨rfl, rfl, rfl, by simp, fun k _ hne => Below.heap_setCell w _ u k (fun e => hne (by rw [e]))⟩
theorem below_grown {w w' : World} {b B : Nat} (h : w.grownBy w' (some b)) (hB : B ≤ b) (hw : B ≤ w.heap.size) : Below B w w' :=
  (Below.refl B w).grown h hw (fun k e => by injection e with e; omega)
theorem facts3 {w : World} {g : Nat} {t : TypeId} {a b c : Value} (h : IsRow w g t #[a, b, c]) :
    w.cell? ⟨g, 0, none⟩ = some a ∧ w.cell? ⟨g, 1, none⟩ = some b ∧ w.cell? ⟨g, 2, none⟩ = some c ∧ w.frozen? ⟨g, 0, none⟩ = false ∧ w.frozen? ⟨g, 1, none⟩ = false ∧ w.frozen? ⟨g, 2, none⟩ = false := ⟨h.get 0, h.get 1, h.get 2, h.open_ 0, h.open_ 1, h.open_ 2⟩
theorem set3 {w : World} {g : Nat} {t : TypeId} {a b c : Value} (h : IsRow w g t #[a, b, c]) (a' b' c' : Value) : IsRow (((w.setCell ⟨g, 0, none⟩ a').setCell ⟨g, 1, none⟩ b').setCell ⟨g, 2, none⟩ c') g t #[a', b', c'] := by
  have := ((h.put 0 a').put 1 b').put 2 c'
  simpa using this
theorem below3 {w w' : World} {B g : Nat} (h : Below B w w') (hg : B ≤ g) (a b c : Value) : Below B w (((w'.setCell ⟨g, 0, none⟩ a).setCell ⟨g, 1, none⟩ b).setCell ⟨g, 2, none⟩ c) :=
  ((h.setCell (p := ⟨g, 0, none⟩) hg a).setCell (p := ⟨g, 1, none⟩) hg b).setCell (p := ⟨g, 2, none⟩) hg c
/-- strings and lists of bytes. -/
theorem str_size (l : List UInt8) : (ByteArray.mk l.toArray).size = l.length := by simp [ByteArray.size]
theorem len_data (s : ByteArray) : s.data.toList.length = s.size := by simp
theorem str_eq (l : List UInt8) : (ByteArray.mk l.toArray).data.toList = l := by simp
theorem str_self (s : ByteArray) : ByteArray.mk s.data.toList.toArray = s := by simp
theorem str_of {s : ByteArray} {l : List UInt8} (h : s.data.toList = l) : s = ⟨l.toArray⟩ := by subst h; simp
theorem ext_list (s : ByteArray) (a b : Nat) : (s.extract a b).data.toList = (s.data.toList.drop a).take (b - a) := by
  simp [List.take_drop]
theorem drop_at (s : ByteArray) (i : Nat) (h : i < s.size) : s.data.toList.drop i = s[i] :: s.data.toList.drop (i + 1) := by
  rw [List.drop_eq_getElem_cons (by simpa using h)]; rfl
/-- two byte values of which the numbers are equal. -/
theorem u8_iff (c : UInt8) (k : Nat) (hk : k < 256) : (c.toNat : Int) = (k : Int) ↔ c = UInt8.ofNat k := by
  constructor
  · intro h
    have h2 : c.toNat = k := by omega
    rw [← h2]; simp
  · rintro rfl
    simp [Nat.mod_eq_of_lt hk]
theorem u8_beq (c : UInt8) (k : Nat) (hk : k < 256) : ((c.toNat : Int) == (k : Int)) = (c == UInt8.ofNat k) := by
  rw [Bool.eq_iff_iff]
  simpa using u8_iff c k hk
end Go.Proofs.Ytlknbjaippfemaa.Lx
