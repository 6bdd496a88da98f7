/- grid: rows of cells, answers, tiles as values; the sides' table. -/
import Derived.Test.YtenacgeahaoglaaDoorProg
import Derived.Test.YtenacgeahaoglaaDoorChecked
import Derived.Test.YtenacgeahaoglaaDoorGdMath
import Derived.WalkKit
import Derived.WalkLawsBesides
import Derived.Lib.Hide
import Derived.Lib.QuietBelow
import Derived.ChangeAlike
import Derived.Below
import Derived.Laws.Rows
import Derived.Lib.LaidTab
import Derived.BigQuiet
import Derived.Deep.QuietTactic
import Derived.StillTailTactics
import Derived.Deep.CutRange
import Derived.Deep.RegionHeld3
namespace Go.Proofs.YtenacgeahaoglaaDoor.Gd
open Go.RowKit Go.Sort
theorem ret_int {k : IntKind} {a b : Int} (h : a = b) : Ending.returned (.int k a) = .returned (.int k b) := by rw [h]
theorem ret_bool {a b : Bool} (h : a = b) : Ending.returned (.bool a) = .returned (.bool b) := by rw [h]
def intOf : Value → Int | .int _ q => q | _ => 0
/-- block g is the row cs of element type t, nothing of it frozen. -/
def IsRow (w : World) (g : Nat) (t : TypeId) (cs : Array Value) : Prop := w.heap[g]? = some (.cells cs t (0, 0))
section
variable {w w' : World} {g : Nat} {t : TypeId} {cs : Array Value}
theorem IsRow.inside (h : IsRow w g t cs) : g < w.heap.size := by
  refine Nat.lt_of_not_le fun hge => ?_
  unfold IsRow at h
  rw [Array.getElem?_eq_none hge] at h
  cases h
theorem IsRow.get (h : IsRow w g t cs) (i : Nat) : w.cell? ⟨g, i, none⟩ = cs[i]? := by unfold IsRow at h; simp [World.cell?, h]
theorem IsRow.open_ (h : IsRow w g t cs) (i : Nat) : w.frozen? ⟨g, i, none⟩ = false := by unfold IsRow at h; simp [World.frozen?, h]
theorem IsRow.made (w : World) (t : TypeId) (cs : Array Value) : IsRow (w.alloc (.cells cs t)) w.heap.size t cs := heap_alloc_new w _
theorem IsRow.later (h : IsRow w g t cs) (o : Obj) : IsRow (w.alloc o) g t cs := (Below.heap_alloc w o g h.inside).trans h
theorem IsRow.put (h : IsRow w g t cs) (i : Nat) (u : Value) : IsRow (w.setCell ⟨g, i, none⟩ u) g t (cs.setIfInBounds i u) := by
  unfold IsRow at h ⊢
  simp [World.setCell, Array.getElem?_modify, h]
theorem IsRow.putOther (h : IsRow w g t cs) {p : Addr} (hp : g ≠ p.block) (u : Value) : IsRow (w.setCell p u) g t cs := (Below.heap_setCell w p u g hp).trans h
theorem IsRow.below {B : Nat} (h : IsRow w g t cs) (hb : Below B w w') (hg : g < B) : IsRow w' g t cs := (hb.block g hg).trans h
end
/-- A call that answers v in whatever world, and leaves all that there was as it was. -/
def Answers (P : Program) (f : FuncId) (args : Array Value) (v : Value) : Prop := ∀ w, Calls P f args w fun e w' => e = .returned v ∧ Below w.heap.size w w'
theorem Answers.quiet {P : Program} {f : FuncId} {args : Array Value} {v : Value} (h : Answers P f args v) (w : World) (d : Nat) (os : Array Obj) :
    Calls P f args (grow (redrawn w d) os) fun e w'' => e = .returned v ∧ ∃ p : Regrown, w'' = grow (redrawn w p.d) p.os := Calls.regrown_of (h _)
theorem Answers.to {P : Program} {f : FuncId} {args : Array Value} {v u : Value} (h : Answers P f args v) (e : v = u) : Answers P f args u := e ▸ h
theorem drew_below (w : World) : Below w.heap.size w w.drew := (Below.refl _ w).drew
theorem alloc1 (w : World) (o : Obj) : Below w.heap.size w (w.alloc o) := (Below.refl _ _).alloc (Nat.le_refl _) _
theorem alloc2 (w : World) (o p : Obj) : Below w.heap.size w ((w.alloc o).alloc p) := ((Below.refl _ _).alloc (Nat.le_refl _) _).alloc (by simp) _
theorem alloc3 (w : World) (o p q : Obj) : Below w.heap.size w (((w.alloc o).alloc p).alloc q) :=
  (((Below.refl _ _).alloc (Nat.le_refl _) _).alloc (by simp) _).alloc (by simp; omega) _
theorem quiet_of {P : Program} {f : FuncId} {args : Array Value} {v : Value} {w : World} (h : ∀ w', Below w.heap.size w w' → Calls P f args w' fun e w'' => e = .returned v ∧ Below w'.heap.size w' w'') (d : Nat) (os : Array Obj) :
    Calls P f args (grow (redrawn w d) os) fun e w'' => e = .returned v ∧ ∃ p : Regrown, w'' = grow (redrawn w p.d) p.os := Calls.regrown_of (h _ (below_regrown w d os))
/-- tiles, points and boxes as values. -/
def cT (t : Tl) : Array Value := #[.int .i64 t.z, .int .i64 t.x, .int .i64 t.y]
def vT (t : Tl) : Value := .agg #[.int .i64 t.z, .int .i64 t.x, .int .i64 t.y]
def cP (p : Pn) : Array Value := #[.int .i64 p.x, .int .i64 p.y]
def vP (p : Pn) : Value := .agg #[.int .i64 p.x, .int .i64 p.y]
def cB (b : Bb) : Array Value := #[.int .i64 b.a.x, .int .i64 b.a.y, .int .i64 b.b.x, .int .i64 b.b.y]
def vB (b : Bb) : Value := .agg #[.int .i64 b.a.x, .int .i64 b.a.y, .int .i64 b.b.x, .int .i64 b.b.y]
/-- a result and its error. -/
def vR (v : Value) (e : Int) : Value := .tuple #[v, .int .i64 e]
/-- the table of sides lies as it was laid. -/
def sideTab : List Int := [1048576, 524288, 262144, 131072, 65536, 32768, 16384, 8192, 4096, 2048, 1024, 512, 256, 128, 64, 32, 16, 8]
def Sides (w : World) : Prop := Lib.TabIs Tryd.prog w "planisphere/grid.sides" .i64 sideTab
theorem sides_at : Tryd.prog.globalNamed "planisphere/grid.sides" = some 0 := by kernel_rfl
theorem Sides.inside {w : World} (h : Sides w) : 0 < w.heap.size := by
  refine Nat.lt_of_not_le fun hge => ?_
  unfold Sides Lib.TabIs World.var? at h
  rw [sides_at] at h
  simp [Array.getElem?_eq_none hge] at h
theorem Sides.below {w w' : World} (h : Sides w) {B : Nat} (hb : Below B w w') (hB : w.heap.size ≤ B) : Sides w' := var?_below hb sides_at (Nat.lt_of_lt_of_le h.inside hB) h
theorem sideTab_at : ∀ k : Fin 18, sideTab[k.val]? = some (sd (k.val : Int)) := by decide
theorem Sides.cell {w : World} (h : Sides w) {z : Int} (hz : isZ z) : w.cell? ⟨0, z.toNat, none⟩ = some (.int .i64 (sd z)) := by
  obtain ⟨k, rfl⟩ := Int.eq_ofNat_of_zero_le hz.1
  have hk : k < 18 := by have := hz.2; omega
  have e := sideTab_at ⟨k, hk⟩
  have := Lib.TabIs.cell h sides_at k (by show k < 18; exact hk)
  simp only [Int.toNat_natCast]
  rw [this]
  obtain ⟨_, e2⟩ := List.getElem?_eq_some_iff.1 e
  simp_all
/-- A call that answers v in whatever world holds the table, and leaves all that there was as it was. -/
def AnsS (P : Program) (f : FuncId) (args : Array Value) (v : Value) : Prop := ∀ w, Sides w → Calls P f args w fun e w' => e = .returned v ∧ Below w.heap.size w w'
theorem AnsS.to {P : Program} {f : FuncId} {args : Array Value} {v u : Value} (h : AnsS P f args v) (e : v = u) : AnsS P f args u := e ▸ h
theorem Answers.s {P : Program} {f : FuncId} {args : Array Value} {v : Value} (h : Answers P f args v) : AnsS P f args v := fun w _ => h w
theorem two_made (w : World) (t1 t2 : TypeId) (cs ds : Array Value) : ∃ W, (w.alloc (.cells cs t1)).alloc (.cells ds t2) = W ∧ Below w.heap.size w W ∧ IsRow W w.heap.size t1 cs ∧ IsRow W (w.heap.size + 1) t2 ds := by
  refine ⟨_, rfl, alloc2 w _ _, (IsRow.made w t1 _).later _, ?_⟩
  have h2 := IsRow.made (w.alloc (.cells cs t1)) t2 ds
  rw [World.size_alloc] at h2
  exact h2
theorem three_made (w : World) (t1 t2 t3 : TypeId) (cs ds es : Array Value) : ∃ W, ((w.alloc (.cells cs t1)).alloc (.cells ds t2)).alloc (.cells es t3) = W ∧ Below w.heap.size w W ∧ IsRow W w.heap.size t1 cs ∧ IsRow W (w.heap.size + 1) t2 ds ∧ IsRow W (w.heap.size + 1 + 1) t3 es := by
  refine ⟨_, rfl, alloc3 w _ _ _, ((IsRow.made w t1 _).later _).later _, ?_, ?_⟩
  · have h2 := (IsRow.made (w.alloc (.cells cs t1)) t2 ds).later (.cells es t3)
    rw [World.size_alloc] at h2
    exact h2
  · have h3 := IsRow.made ((w.alloc (.cells cs t1)).alloc (.cells ds t2)) t3 es
    rw [World.size_alloc, World.size_alloc] at h3
    exact h3
theorem facts2 {w : World} {g : Nat} {t : TypeId} {a b : Value} (h : IsRow w g t #[a, b]) :
    w.cell? ⟨g, 0, none⟩ = some a ∧ w.cell? ⟨g, 1, none⟩ = some b ∧ w.frozen? ⟨g, 0, none⟩ = false ∧ w.frozen? ⟨g, 1, none⟩ = false := ⟨h.get 0, h.get 1, h.open_ 0, h.open_ 1⟩
theorem facts3 {w : World} {g : Nat} {t : TypeId} {a b c : Value} (h : IsRow w g t #[a, b, c]) :
    w.cell? ⟨g, 0, none⟩ = some a ∧ w.cell? ⟨g, 1, none⟩ = some b ∧ w.cell? ⟨g, 2, none⟩ = some c ∧ w.frozen? ⟨g, 0, none⟩ = false ∧ w.frozen? ⟨g, 1, none⟩ = false ∧ w.frozen? ⟨g, 2, none⟩ = false := ⟨h.get 0, h.get 1, h.get 2, h.open_ 0, h.open_ 1, h.open_ 2⟩
theorem facts4 {w : World} {g : Nat} {t : TypeId} {a b c d : Value} (h : IsRow w g t #[a, b, c, d]) :
    w.cell? ⟨g, 0, none⟩ = some a ∧ w.cell? ⟨g, 1, none⟩ = some b ∧ w.cell? ⟨g, 2, none⟩ = some c ∧ w.cell? ⟨g, 3, none⟩ = some d ∧
    w.frozen? ⟨g, 0, none⟩ = false ∧ w.frozen? ⟨g, 1, none⟩ = false ∧ w.frozen? ⟨g, 2, none⟩ = false ∧ w.frozen? ⟨g, 3, none⟩ = false :=
  ⟨h.get 0, h.get 1, h.get 2, h.get 3, h.open_ 0, h.open_ 1, h.open_ 2, h.open_ 3⟩
theorem set2 {w : World} {g : Nat} {t : TypeId} {a b : Value} (h : IsRow w g t #[a, b]) (a' b' : Value) : IsRow ((w.setCell ⟨g, 0, none⟩ a').setCell ⟨g, 1, none⟩ b') g t #[a', b'] := by
  have := (h.put 0 a').put 1 b'
  simpa using this
theorem set3 {w : World} {g : Nat} {t : TypeId} {a b c : Value} (h : IsRow w g t #[a, b, c]) (a' b' c' : Value) : IsRow (((w.setCell ⟨g, 0, none⟩ a').setCell ⟨g, 1, none⟩ b').setCell ⟨g, 2, none⟩ c') g t #[a', b', c'] := by
  have := ((h.put 0 a').put 1 b').put 2 c'
  simpa using this
theorem set4 {w : World} {g : Nat} {t : TypeId} {a b c d : Value} (h : IsRow w g t #[a, b, c, d]) (a' b' c' d' : Value) :
    IsRow ((((w.setCell ⟨g, 0, none⟩ a').setCell ⟨g, 1, none⟩ b').setCell ⟨g, 2, none⟩ c').setCell ⟨g, 3, none⟩ d') g t #[a', b', c', d'] := by
  have := (((h.put 0 a').put 1 b').put 2 c').put 3 d'
  simpa using this
theorem below2 {w w' : World} {B g : Nat} (h : Below B w w') (hg : B ≤ g) (a b : Value) : Below B w ((w'.setCell ⟨g, 0, none⟩ a).setCell ⟨g, 1, none⟩ b) := (h.setCell (p := ⟨g, 0, none⟩) hg a).setCell (p := ⟨g, 1, none⟩) hg b
theorem below3 {w w' : World} {B g : Nat} (h : Below B w w') (hg : B ≤ g) (a b c : Value) : Below B w (((w'.setCell ⟨g, 0, none⟩ a).setCell ⟨g, 1, none⟩ b).setCell ⟨g, 2, none⟩ c) := (below2 h hg a b).setCell (p := ⟨g, 2, none⟩) hg c
theorem below4 {w w' : World} {B g : Nat} (h : Below B w w') (hg : B ≤ g) (a b c d : Value) :
    Below B w ((((w'.setCell ⟨g, 0, none⟩ a).setCell ⟨g, 1, none⟩ b).setCell ⟨g, 2, none⟩ c).setCell ⟨g, 3, none⟩ d) := (below3 h hg a b c).setCell (p := ⟨g, 3, none⟩) hg d
theorem infoTile : (Tryd.prog.info? 25).map (·.size) = some 3 := by kernel_rfl
theorem infoPt : (Tryd.prog.info? 23).map (·.size) = some 2 := by kernel_rfl
theorem infoBox : (Tryd.prog.info? 27).map (·.size) = some 4 := by kernel_rfl
end Go.Proofs.YtenacgeahaoglaaDoor.Gd
