/-
  DERIVED. GIVEN WITH THE SEED: THE CARDS: each row of YtgbkjdpjilldmaaDoorRows.lean that lists a variable, with what it lists TIED to the program's text (the seventh form; the later family's looks); each row that meets fmt, with fmt's text TOLD by the authors' own Lean function (tested against real Go, not proved from fmt's source: count such statements apart). THE CARD IS WHAT COUNTS. Prove the row's statement (the work); the ties are given (YtgbkjdpjilldmaaDoorTie.lean); close each card by the builder's one call (the guide's Derived/Test/ToyasCard.lean, 'card_holds'). Laid BY PROGRAM, IN A SANDBOX (cutbox-door.mjs). By AI agents, Wed Nov 11 2026. No macro, syntax, notation, axiom, sorry.
-/
import Derived.Test.YtgbkjdpjilldmaaDoorRows
import GoSem.ClaimSeven
namespace Go.Proofs.YtgbkjdpjilldmaaDoor
namespace Rows

/-- THE TIED CARD OF 'planispherelaw10.HoursTexts'. -/
def hoursTextsCard : Claim7 := { stood := { row := hoursTextsRow, standIns := [], harness := (true, "1808483f29d7edded3fecb2ec6855aa42cc4316757713ce3db729db00e6cd44d"), looks := true }, kinds := [], alts := [], laidByText := true, laidKinds := [.data, .data, .data, .sentinel, .sentinel, .data], laidTests := true, laidLooks := .later }
def HoursTextsCardSaid : Prop := Claim7.holds Tryd.pinned (.plain (OpenSpec.ofChange hoursTextsSpec)) hoursTextsCard

/-- THE TIED CARD OF 'planispherelaw10.HoursNext'. -/
def hoursNextCard : Claim7 := { stood := { row := hoursNextRow, standIns := [], harness := (true, "1808483f29d7edded3fecb2ec6855aa42cc4316757713ce3db729db00e6cd44d"), looks := true }, kinds := [], alts := [], laidByText := true, laidKinds := [.data, .data, .data, .sentinel, .sentinel, .data], laidTests := true, laidLooks := .later }
def HoursNextCardSaid : Prop := Claim7.holds Tryd.pinned (.plain (OpenSpec.ofChange hoursNextSpec)) hoursNextCard

/-- THE TIED CARD OF 'planispherelaw10.HoursLaws'. -/
def hoursLawsCard : Claim7 := { stood := { row := hoursLawsRow, standIns := [], harness := (true, "1808483f29d7edded3fecb2ec6855aa42cc4316757713ce3db729db00e6cd44d"), looks := true }, kinds := [], alts := [], laidByText := true, laidKinds := [.data, .data, .data, .sentinel, .sentinel, .data], laidTests := true, laidLooks := .later }
def HoursLawsCardSaid : Prop := Claim7.holds Tryd.pinned (.plain (OpenSpec.ofChange hoursLawsSpec)) hoursLawsCard

/-- THE TIED CARD OF 'planispherelaw10.HoursParts'. -/
def hoursPartsCard : Claim7 := { stood := { row := hoursPartsRow, standIns := [], harness := (true, "1808483f29d7edded3fecb2ec6855aa42cc4316757713ce3db729db00e6cd44d"), looks := true }, kinds := [], alts := [], laidByText := true, laidKinds := [.data, .data, .data, .sentinel, .sentinel, .data], laidTests := true, laidLooks := .later }
def HoursPartsCardSaid : Prop := Claim7.holds Tryd.pinned (.plain (OpenSpec.ofChange hoursPartsSpec)) hoursPartsCard

/-- THE TIED CARD OF 'planispherelaw10.HoursGaps'. -/
def hoursGapsCard : Claim7 := { stood := { row := hoursGapsRow, standIns := [], harness := (true, "1808483f29d7edded3fecb2ec6855aa42cc4316757713ce3db729db00e6cd44d"), looks := true }, kinds := [], alts := [], laidByText := true, laidKinds := [.data, .data, .data, .sentinel, .sentinel, .data], laidTests := true, laidLooks := .later }
def HoursGapsCardSaid : Prop := Claim7.holds Tryd.pinned (.plain (OpenSpec.ofChange hoursGapsSpec)) hoursGapsCard

/-- THE SECOND FORM's CARD OF 'planispherelaw10.HoursTexts'. -/
def hoursTextsUptoCard : Claim7 := { stood := { row := hoursTextsUptoRow, standIns := [], harness := (true, "1808483f29d7edded3fecb2ec6855aa42cc4316757713ce3db729db00e6cd44d"), looks := true }, kinds := [], alts := [], laidByText := true, laidKinds := [.data, .data, .data, .sentinel, .sentinel, .data], laidTests := true, laidLooks := .later }
def HoursTextsUptoCardSaid : Prop := Claim7.holds Tryd.pinned (.plain (OpenSpec.upto hoursTextsSpec)) hoursTextsUptoCard

/-- THE SECOND FORM's CARD OF 'planispherelaw10.HoursNext'. -/
def hoursNextUptoCard : Claim7 := { stood := { row := hoursNextUptoRow, standIns := [], harness := (true, "1808483f29d7edded3fecb2ec6855aa42cc4316757713ce3db729db00e6cd44d"), looks := true }, kinds := [], alts := [], laidByText := true, laidKinds := [.data, .data, .data, .sentinel, .sentinel, .data], laidTests := true, laidLooks := .later }
def HoursNextUptoCardSaid : Prop := Claim7.holds Tryd.pinned (.plain (OpenSpec.upto hoursNextSpec)) hoursNextUptoCard

/-- THE SECOND FORM's CARD OF 'planispherelaw10.HoursLaws'. -/
def hoursLawsUptoCard : Claim7 := { stood := { row := hoursLawsUptoRow, standIns := [], harness := (true, "1808483f29d7edded3fecb2ec6855aa42cc4316757713ce3db729db00e6cd44d"), looks := true }, kinds := [], alts := [], laidByText := true, laidKinds := [.data, .data, .data, .sentinel, .sentinel, .data], laidTests := true, laidLooks := .later }
def HoursLawsUptoCardSaid : Prop := Claim7.holds Tryd.pinned (.plain (OpenSpec.upto hoursLawsSpec)) hoursLawsUptoCard

/-- THE SECOND FORM's CARD OF 'planispherelaw10.HoursParts'. -/
def hoursPartsUptoCard : Claim7 := { stood := { row := hoursPartsUptoRow, standIns := [], harness := (true, "1808483f29d7edded3fecb2ec6855aa42cc4316757713ce3db729db00e6cd44d"), looks := true }, kinds := [], alts := [], laidByText := true, laidKinds := [.data, .data, .data, .sentinel, .sentinel, .data], laidTests := true, laidLooks := .later }
def HoursPartsUptoCardSaid : Prop := Claim7.holds Tryd.pinned (.plain (OpenSpec.upto hoursPartsSpec)) hoursPartsUptoCard

/-- THE SECOND FORM's CARD OF 'planispherelaw10.HoursGaps'. -/
def hoursGapsUptoCard : Claim7 := { stood := { row := hoursGapsUptoRow, standIns := [], harness := (true, "1808483f29d7edded3fecb2ec6855aa42cc4316757713ce3db729db00e6cd44d"), looks := true }, kinds := [], alts := [], laidByText := true, laidKinds := [.data, .data, .data, .sentinel, .sentinel, .data], laidTests := true, laidLooks := .later }
def HoursGapsUptoCardSaid : Prop := Claim7.holds Tryd.pinned (.plain (OpenSpec.upto hoursGapsSpec)) hoursGapsUptoCard
end Rows
end Go.Proofs.YtgbkjdpjilldmaaDoor
