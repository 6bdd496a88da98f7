/-
  DERIVED. GIVEN WITH THE SEED: THE CARDS: each row of YtgbkjdpjilldmaaGreatDoorRows.lean that lists a variable, with what it lists TIED to the program's text (the seventh form; the later family's looks); each row that meets fmt, with fmt's text TOLD by the authors' own Lean function (tested against real Go, not proved from fmt's source: count such statements apart). THE CARD IS WHAT COUNTS. Prove the row's statement (the work); the ties are given (YtgbkjdpjilldmaaGreatDoorTie.lean); close each card by the builder's one call (the guide's Derived/Test/ToyasCard.lean, 'card_holds'). Laid BY PROGRAM, IN A SANDBOX (cutbox-door.mjs). By AI agents, Wed Nov 11 2026. No macro, syntax, notation, axiom, sorry.
-/
import Derived.Test.YtgbkjdpjilldmaaGreatDoorRows
import GoSem.ClaimSeven
namespace Go.Proofs.YtgbkjdpjilldmaaGreatDoor
namespace Rows

/-- THE TIED CARD OF 'planispherelaw10.HoursMatchesReference'. -/
def hoursMatchesReferenceCard : Claim7 := { stood := { row := hoursMatchesReferenceRow, standIns := [], harness := (true, "7c7c91fe8fb9b5c40f7cd74e151514e79f6fc1f4bdf39e13a192176ce2269a3f"), looks := true }, kinds := [], alts := [], laidByText := true, laidKinds := [.data, .data, .data, .sentinel, .sentinel, .data], laidTests := true, laidLooks := .later }
def HoursMatchesReferenceCardSaid : Prop := Claim7.holds Tryz.pinned (.plain (OpenSpec.ofChange hoursMatchesReferenceSpec)) hoursMatchesReferenceCard

/-- THE TIED CARD OF 'planispherelaw10.HoursSetsMatchReference'. -/
def hoursSetsMatchReferenceCard : Claim7 := { stood := { row := hoursSetsMatchReferenceRow, standIns := [], harness := (true, "7c7c91fe8fb9b5c40f7cd74e151514e79f6fc1f4bdf39e13a192176ce2269a3f"), looks := true }, kinds := [], alts := [], laidByText := true, laidKinds := [.data, .data, .data, .sentinel, .sentinel, .data], laidTests := true, laidLooks := .later }
def HoursSetsMatchReferenceCardSaid : Prop := Claim7.holds Tryz.pinned (.plain (OpenSpec.ofChange hoursSetsMatchReferenceSpec)) hoursSetsMatchReferenceCard

/-- THE TIED CARD OF 'planispherelaw10.HoursSets'. -/
def hoursSetsCard : Claim7 := { stood := { row := hoursSetsRow, standIns := [], harness := (true, "7c7c91fe8fb9b5c40f7cd74e151514e79f6fc1f4bdf39e13a192176ce2269a3f"), looks := true }, kinds := [], alts := [], laidByText := true, laidKinds := [.data, .data, .data, .sentinel, .sentinel, .data], laidTests := true, laidLooks := .later }
def HoursSetsCardSaid : Prop := Claim7.holds Tryz.pinned (.plain (OpenSpec.ofChange hoursSetsSpec)) hoursSetsCard

/-- THE TIED CARD OF 'planispherelaw11.ObjectMany'. -/
def objectManyCard : Claim7 := { stood := { row := objectManyRow, standIns := [], harness := (true, "7c7c91fe8fb9b5c40f7cd74e151514e79f6fc1f4bdf39e13a192176ce2269a3f"), looks := true }, kinds := [], alts := [], laidByText := true, laidKinds := [.data, .data, .data, .data, .sentinel, .sentinel, .data, .pinned], laidTests := true, laidLooks := .later }
def ObjectManyCardSaid : Prop := Claim7.holds Tryz.pinned (.plain (OpenSpec.ofChange objectManySpec)) objectManyCard

/-- THE SECOND FORM's CARD OF 'planispherelaw10.HoursMatchesReference'. -/
def hoursMatchesReferenceUptoCard : Claim7 := { stood := { row := hoursMatchesReferenceUptoRow, standIns := [], harness := (true, "7c7c91fe8fb9b5c40f7cd74e151514e79f6fc1f4bdf39e13a192176ce2269a3f"), looks := true }, kinds := [], alts := [], laidByText := true, laidKinds := [.data, .data, .data, .sentinel, .sentinel, .data], laidTests := true, laidLooks := .later }
def HoursMatchesReferenceUptoCardSaid : Prop := Claim7.holds Tryz.pinned (.plain (OpenSpec.upto hoursMatchesReferenceSpec)) hoursMatchesReferenceUptoCard

/-- THE SECOND FORM's CARD OF 'planispherelaw10.HoursSetsMatchReference'. -/
def hoursSetsMatchReferenceUptoCard : Claim7 := { stood := { row := hoursSetsMatchReferenceUptoRow, standIns := [], harness := (true, "7c7c91fe8fb9b5c40f7cd74e151514e79f6fc1f4bdf39e13a192176ce2269a3f"), looks := true }, kinds := [], alts := [], laidByText := true, laidKinds := [.data, .data, .data, .sentinel, .sentinel, .data], laidTests := true, laidLooks := .later }
def HoursSetsMatchReferenceUptoCardSaid : Prop := Claim7.holds Tryz.pinned (.plain (OpenSpec.upto hoursSetsMatchReferenceSpec)) hoursSetsMatchReferenceUptoCard

/-- THE SECOND FORM's CARD OF 'planispherelaw10.HoursSets'. -/
def hoursSetsUptoCard : Claim7 := { stood := { row := hoursSetsUptoRow, standIns := [], harness := (true, "7c7c91fe8fb9b5c40f7cd74e151514e79f6fc1f4bdf39e13a192176ce2269a3f"), looks := true }, kinds := [], alts := [], laidByText := true, laidKinds := [.data, .data, .data, .sentinel, .sentinel, .data], laidTests := true, laidLooks := .later }
def HoursSetsUptoCardSaid : Prop := Claim7.holds Tryz.pinned (.plain (OpenSpec.upto hoursSetsSpec)) hoursSetsUptoCard

/-- THE SECOND FORM's CARD OF 'planispherelaw11.ObjectMany'. -/
def objectManyUptoCard : Claim7 := { stood := { row := objectManyUptoRow, standIns := [], harness := (true, "7c7c91fe8fb9b5c40f7cd74e151514e79f6fc1f4bdf39e13a192176ce2269a3f"), looks := true }, kinds := [], alts := [], laidByText := true, laidKinds := [.data, .data, .data, .data, .sentinel, .sentinel, .data, .pinned], laidTests := true, laidLooks := .later }
def ObjectManyUptoCardSaid : Prop := Claim7.holds Tryz.pinned (.plain (OpenSpec.upto objectManySpec)) objectManyUptoCard
end Rows
end Go.Proofs.YtgbkjdpjilldmaaGreatDoor
