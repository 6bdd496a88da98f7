/- P2.2, SealVerifies: its walk. -/
import Derived.Test.YtanlpcdljclnmaaDoorSlSame
import Derived.Test.YtanlpcdljclnmaaDoorSlFormWalk
namespace Go.Proofs.YtanlpcdljclnmaaDoor.Sl
open Go.RowKit
open Go.Proofs.YtanlpcdljclnmaaDoor.Dg hiding intOf

structure VW (Y : World) (g1 g2 g3 : Nat) (i : Int) (h h' : Nat) (a p a' p' a'' p'' : Option Addr) (c cp c' cp' c'' cp'' : Nat) (sig ps : List B) : Prop where
  r1 : IsRow Y g1 29 #[.int .i64 i, .slice a 18 c, .slice p h cp]
  r2 : IsRow Y g2 29 #[.int .i64 i, .slice a' 18 c', .slice p' h cp']
  r3 : IsRow Y g3 29 #[.int .i64 i, .slice a'' 18 c'', .slice p'' h' cp'']
  tab : Tab Y
  t1 : Txt Y Y.heap.size a sig
  t2 : Txt Y Y.heap.size p ps
  t3 : Txt Y Y.heap.size a' sig
  t4 : Txt Y Y.heap.size p' ps
  t5 : Txt Y Y.heap.size a'' sig
theorem VW.later {Y Z : World} {g1 g2 g3 : Nat} {i : Int} {h h' : Nat} {a p a' p' a'' p'' : Option Addr} {c cp c' cp' c'' cp'' : Nat} {sig ps : List B} (k : VW Y g1 g2 g3 i h h' a p a' p' a'' p'' c cp c' cp' c'' cp'' sig ps) (hb : Below Y.heap.size Y Z) :
    VW Z g1 g2 g3 i h h' a p a' p' a'' p'' c cp c' cp' c'' cp'' sig ps :=
  ⟨k.r1.below hb k.r1.inside, k.r2.below hb k.r2.inside, k.r3.below hb k.r3.inside, Tab.at_ k.tab hb, k.t1.later hb, k.t2.later hb, k.t3.later hb, k.t4.later hb, k.t5.later hb⟩
theorem refsame_of (x : Int) (a p a' p' : Option Addr) (na ca np cp ca' cp' : Nat) (s q : List B) (w : World) (h1 : Txt w w.heap.size a s) (h2 : Txt w w.heap.size p q) (h3 : Txt w w.heap.size a' s) (h4 : Txt w w.heap.size p' q)
    (n1 : na = s.length) (n2 : np = q.length) (l1 : na ≤ maxLen) (l2 : np ≤ maxLen) :
    Calls Tryd.prog 8 #[.agg #[.int .i64 x, .slice a na ca, .slice p np cp], .agg #[.int .i64 x, .slice a' na ca', .slice p' np cp']] w fun e w' => e = .returned (.bool true) ∧ Below w.heap.size w w' := by
  have := refsame_any x x a p a' p' na ca np cp na ca' np cp' s q s q w h1 h2 h3 h4 n1 n2 n1 n2 l1 l2
  simp only [decide_true, Bool.and_true] at this
  exact this
theorem mod_idx (h r : Nat) (hh : h ≤ 8) : ((r : Int) % wrap64 (2 ^ h)) = ((r % 2 ^ h : Nat) : Int) := by
  rw [wrap_pow h hh]
  simp
end Go.Proofs.YtanlpcdljclnmaaDoor.Sl
