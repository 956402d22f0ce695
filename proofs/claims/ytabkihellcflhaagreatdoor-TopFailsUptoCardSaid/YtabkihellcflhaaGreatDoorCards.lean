/-
  DERIVED. GIVEN WITH THE SEED: THE CARDS: each row of YtabkihellcflhaaGreatDoorRows.lean that lists a variable, with what it lists TIED to the program's text (the seventh form; the later family's looks); each row that meets fmt, with fmt's text TOLD by the authors' own Lean function (tested against real Go, not proved from fmt's source: count such statements apart). THE CARD IS WHAT COUNTS. Prove the row's statement (the work); the ties are given (YtabkihellcflhaaGreatDoorTie.lean); close each card by the builder's one call (the guide's Derived/Test/ToyasCard.lean, 'card_holds'). Laid BY PROGRAM, IN A SANDBOX (cutbox-door.mjs). By AI agents, Wed Nov 11 2026. No macro, syntax, notation, axiom, sorry.
-/
import Derived.Test.YtabkihellcflhaaGreatDoorRows
import GoSem.ClaimSeven
namespace Go.Proofs.YtabkihellcflhaaGreatDoor
namespace Rows

/-- THE TIED CARD OF 'assayerlaw1.RunsTell'. -/
def runsTellCard : Claim7 := { stood := { row := runsTellRow, standIns := [], harness := (true, "08f96ea270b3f494f3494be6896ef3255a20757a7cd50521d8e6dd37701e8f5e"), looks := true }, kinds := [], alts := [], laidByText := true, laidKinds := [.handle, .data], laidTests := true, laidLooks := .later }
def RunsTellCardSaid : Prop := Claim7.holds Tryz.pinned (.plain (OpenSpec.ofChange runsTellSpec)) runsTellCard

/-- THE TIED CARD OF 'assayertop.TopFails'. -/
def topFailsCard : Claim7 := { stood := { row := topFailsRow, standIns := [], harness := (true, "08f96ea270b3f494f3494be6896ef3255a20757a7cd50521d8e6dd37701e8f5e"), looks := true }, kinds := [], alts := [], laidByText := true, laidKinds := [.handle, .data], laidTests := true, laidLooks := .later }
def TopFailsCardSaid : Prop := Claim7.holds Tryz.pinned (.plain (OpenSpec.ofChange topFailsSpec)) topFailsCard

/-- THE SECOND FORM's CARD OF 'assayerlaw1.RunsTell'. -/
def runsTellUptoCard : Claim7 := { stood := { row := runsTellUptoRow, standIns := [], harness := (true, "08f96ea270b3f494f3494be6896ef3255a20757a7cd50521d8e6dd37701e8f5e"), looks := true }, kinds := [], alts := [], laidByText := true, laidKinds := [.handle, .data], laidTests := true, laidLooks := .later }
def RunsTellUptoCardSaid : Prop := Claim7.holds Tryz.pinned (.plain (OpenSpec.upto runsTellSpec)) runsTellUptoCard

/-- THE SECOND FORM's CARD OF 'assayertop.TopFails'. -/
def topFailsUptoCard : Claim7 := { stood := { row := topFailsUptoRow, standIns := [], harness := (true, "08f96ea270b3f494f3494be6896ef3255a20757a7cd50521d8e6dd37701e8f5e"), looks := true }, kinds := [], alts := [], laidByText := true, laidKinds := [.handle, .data], laidTests := true, laidLooks := .later }
def TopFailsUptoCardSaid : Prop := Claim7.holds Tryz.pinned (.plain (OpenSpec.upto topFailsSpec)) topFailsUptoCard
end Rows
end Go.Proofs.YtabkihellcflhaaGreatDoor
