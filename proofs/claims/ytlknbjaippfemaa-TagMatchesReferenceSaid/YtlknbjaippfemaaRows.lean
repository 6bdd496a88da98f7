/-
  No cell of these rows narrows 'for every input' (looked for: loops, veiled, ifaces, maps, wideKeys, modest, calm, conditions, laid).
  DERIVED. THE GIVEN ROWS OF THIS SEAT. 3 by the template 'for every input the law returns true; each argument reads behind the call as it read before'; 0 by the template 'total and deterministic' (their statements: YtlknbjaippfemaaTotals.lean).
  GIVEN WITH THE SEED: the statements are not yours to turn. If you find one false, say at which input.
  Laid BY PROGRAM, IN A SANDBOX (cutbox-rows.mjs): the forced cells as the released guide's own fill.sh prints them over the translation 2fd91466272e5fdb… (all of the seat's roots in one cut). By AI agents, Wed Nov 11 2026. No macro, syntax, notation, axiom, sorry.
-/
import Derived.Test.YtlknbjaippfemaaChecked
import GoSem.Claim
import GoSem.ClaimJoined
import GoSem.ClaimMapViews
import Derived.JoinedTies
import Derived.KernelRfl
namespace Go.Proofs.Ytlknbjaippfemaa
/- THE CELL 'sum', in the pinned program and in every row, IS THE sha256 OF THE DUMP (.gsa) THAT YtlknbjaippfemaaProg.lean LOADS. Nothing in Lean hashes anything: it is a label: what it is worth is what the hold of that sum in a sandbox is worth. -/
noncomputable def Try.pinned : Pinned := { name := "ytlknbjaippfemaa", sum := "2fd91466272e5fdb20ed1e413cb10f16341a6ed85e27559a8a5ba19d823d993a", checked := Try.checked }
namespace Rows
def none {H : Type} : Left H := { results := [], args := [] }

/-- 'planispherelaw09.TagMatchesReference': WHATEVER THE INPUT: true; the input reads as it did. -/
def tagMatchesReferenceSpec : ChangeSpec := { name := "tagMatchesReference", fn := fun _ => fun
  | [d1, d2, d3, d4, d5, d6] => { results := [.lit (.bool true)], args := [d1, d2, d3, d4, d5, d6] }
  | _ => none }
def tagMatchesReferenceRow : OpenClaim := { program := "ytlknbjaippfemaa", sum := "2fd91466272e5fdb20ed1e413cb10f16341a6ed85e27559a8a5ba19d823d993a", func := "planisphere/planispherelaw09.TagMatchesReference", spec := "tagMatchesReference", inPlace := ["internal/abi.NoEscape", "internal/bytealg.IndexByteString", "internal/bytealg.abigen_runtime_cmpstring"], unfollowed := true, recurses := true, apart := false }
def TagMatchesReferenceSaid : Prop := tagMatchesReferenceRow.holds Try.pinned (OpenSpec.ofChange tagMatchesReferenceSpec)

/-- ITS FALSE NEIGHBOUR: 'it returns false'. Refute it at one input. -/
def tagMatchesReferenceWrong : ChangeSpec := { name := "tagMatchesReference", fn := fun _ => fun
  | [d1, d2, d3, d4, d5, d6] => { results := [.lit (.bool false)], args := [d1, d2, d3, d4, d5, d6] }
  | _ => none }
def TagMatchesReferenceWrongFalsely : Prop := tagMatchesReferenceRow.holds Try.pinned (OpenSpec.ofChange tagMatchesReferenceWrong)

/-- 'planispherelaw09.TagTexts': WHATEVER THE INPUT: true; the input reads as it did. -/
def tagTextsSpec : ChangeSpec := { name := "tagTexts", fn := fun _ => fun
  | [d1, d2, d3] => { results := [.lit (.bool true)], args := [d1, d2, d3] }
  | _ => none }
def tagTextsRow : OpenClaim := { program := "ytlknbjaippfemaa", sum := "2fd91466272e5fdb20ed1e413cb10f16341a6ed85e27559a8a5ba19d823d993a", func := "planisphere/planispherelaw09.TagTexts", spec := "tagTexts", inPlace := ["internal/abi.NoEscape", "internal/bytealg.IndexByteString", "internal/bytealg.abigen_runtime_cmpstring"], unfollowed := true, recurses := true, apart := false }
def TagTextsSaid : Prop := tagTextsRow.holds Try.pinned (OpenSpec.ofChange tagTextsSpec)

/-- ITS FALSE NEIGHBOUR: 'it returns false'. Refute it at one input. -/
def tagTextsWrong : ChangeSpec := { name := "tagTexts", fn := fun _ => fun
  | [d1, d2, d3] => { results := [.lit (.bool false)], args := [d1, d2, d3] }
  | _ => none }
def TagTextsWrongFalsely : Prop := tagTextsRow.holds Try.pinned (OpenSpec.ofChange tagTextsWrong)

/-- 'planispherelaw09.TagConflicts': WHATEVER THE INPUT: true; the input reads as it did. -/
def tagConflictsSpec : ChangeSpec := { name := "tagConflicts", fn := fun _ => fun
  | [d1, d2, d3, d4] => { results := [.lit (.bool true)], args := [d1, d2, d3, d4] }
  | _ => none }
def tagConflictsRow : OpenClaim := { program := "ytlknbjaippfemaa", sum := "2fd91466272e5fdb20ed1e413cb10f16341a6ed85e27559a8a5ba19d823d993a", func := "planisphere/planispherelaw09.TagConflicts", spec := "tagConflicts", inPlace := ["internal/abi.NoEscape", "internal/bytealg.IndexByteString", "internal/bytealg.abigen_runtime_cmpstring"], unfollowed := true, recurses := true, apart := false }
def TagConflictsSaid : Prop := tagConflictsRow.holds Try.pinned (OpenSpec.ofChange tagConflictsSpec)

/-- ITS FALSE NEIGHBOUR: 'it returns false'. Refute it at one input. -/
def tagConflictsWrong : ChangeSpec := { name := "tagConflicts", fn := fun _ => fun
  | [d1, d2, d3, d4] => { results := [.lit (.bool false)], args := [d1, d2, d3, d4] }
  | _ => none }
def TagConflictsWrongFalsely : Prop := tagConflictsRow.holds Try.pinned (OpenSpec.ofChange tagConflictsWrong)

/- THE SECOND FORM. 'bulk': how many values and letters a reading holds, each counted each time it is reached (what is shared counts as often as it is met; a slice's spare places count too). A statement '..UptoSaid' is the law's where the arguments, and the package variables that the reading takes, are together of bulk at most 1048576: NARROWER than '..Said'. Prove '..Said' where nothing that the law and all that it calls make is longer than what came in: it says more and counts as full. Else prove '..UptoSaid'. A law counts once. -/
mutual
def uptoBulk {H : Type} : DataW H → Nat
  | .lit (.string bytes) => bytes.length + 1
  | .lit _ => 1
  | .nil => 1
  | .ptr d => uptoBulk d + 1
  | .slice elems spare => uptoBulkAll elems + uptoBulkAll spare + 1
  | .agg parts => uptoBulkAll parts + 1
  | .iface _ d => uptoBulk d + 1
  | .map entries => uptoBulkEntries entries + 1
  | .held _ => 1
def uptoBulkAll {H : Type} : List (DataW H) → Nat
  | [] => 0
  | d :: r => uptoBulk d + uptoBulkAll r
def uptoBulkEntries {H : Type} : List (Lit × DataW H) → Nat
  | [] => 0
  | x :: r => uptoBulkEntry x + uptoBulkEntries r
def uptoBulkEntry {H : Type} : Lit × DataW H → Nat
  | (.string bytes, d) => bytes.length + uptoBulk d + 1
  | (_, d) => uptoBulk d + 1
 end
def uptoSmall : (H : Type) → List (DataW H) → Bool := fun _ ds => decide (uptoBulkAll ds ≤ 1048576)
def OpenSpec.upto (s : _root_.Go.ChangeSpec) : _root_.Go.OpenSpec := { _root_.Go.OpenSpec.ofChange s with cond := some uptoSmall }

/-- 'planispherelaw09.TagMatchesReference', WHERE WHAT IT READS IS OF BULK AT MOST 1048576: true; the input reads as it did. -/
def tagMatchesReferenceUptoRow : OpenClaim := { program := "ytlknbjaippfemaa", sum := "2fd91466272e5fdb20ed1e413cb10f16341a6ed85e27559a8a5ba19d823d993a", func := "planisphere/planispherelaw09.TagMatchesReference", spec := "tagMatchesReference", inPlace := ["internal/abi.NoEscape", "internal/bytealg.IndexByteString", "internal/bytealg.abigen_runtime_cmpstring"], unfollowed := true, recurses := true, apart := false, narrowed := true }
def TagMatchesReferenceUptoSaid : Prop := tagMatchesReferenceUptoRow.holds Try.pinned (OpenSpec.upto tagMatchesReferenceSpec)

/-- 'planispherelaw09.TagTexts', WHERE WHAT IT READS IS OF BULK AT MOST 1048576: true; the input reads as it did. -/
def tagTextsUptoRow : OpenClaim := { program := "ytlknbjaippfemaa", sum := "2fd91466272e5fdb20ed1e413cb10f16341a6ed85e27559a8a5ba19d823d993a", func := "planisphere/planispherelaw09.TagTexts", spec := "tagTexts", inPlace := ["internal/abi.NoEscape", "internal/bytealg.IndexByteString", "internal/bytealg.abigen_runtime_cmpstring"], unfollowed := true, recurses := true, apart := false, narrowed := true }
def TagTextsUptoSaid : Prop := tagTextsUptoRow.holds Try.pinned (OpenSpec.upto tagTextsSpec)

/-- 'planispherelaw09.TagConflicts', WHERE WHAT IT READS IS OF BULK AT MOST 1048576: true; the input reads as it did. -/
def tagConflictsUptoRow : OpenClaim := { program := "ytlknbjaippfemaa", sum := "2fd91466272e5fdb20ed1e413cb10f16341a6ed85e27559a8a5ba19d823d993a", func := "planisphere/planispherelaw09.TagConflicts", spec := "tagConflicts", inPlace := ["internal/abi.NoEscape", "internal/bytealg.IndexByteString", "internal/bytealg.abigen_runtime_cmpstring"], unfollowed := true, recurses := true, apart := false, narrowed := true }
def TagConflictsUptoSaid : Prop := tagConflictsUptoRow.holds Try.pinned (OpenSpec.upto tagConflictsSpec)

end Rows
end Go.Proofs.Ytlknbjaippfemaa
