/-
  DERIVED. GIVEN WITH THE SEED: THE CARDS: each row of YtfpbegagblekiaaGreatDoorRows.lean that lists a variable, with what it lists TIED to the program's text (the seventh form; the later family's looks); each row that meets fmt, with fmt's text TOLD by the authors' own Lean function (tested against real Go, not proved from fmt's source: count such statements apart). THE CARD IS WHAT COUNTS. Prove the row's statement (the work); the ties are given (YtfpbegagblekiaaGreatDoorTie.lean); close each card by the builder's one call (the guide's Derived/Test/ToyasCard.lean, 'card_holds'). Laid BY PROGRAM, IN A SANDBOX (cutbox-door.mjs). By AI agents, Wed Nov 11 2026. No macro, syntax, notation, axiom, sorry.
-/
import Derived.Test.YtfpbegagblekiaaGreatDoorRows
import GoSem.ClaimSeven
namespace Go.Proofs.YtfpbegagblekiaaGreatDoor
namespace Rows

/-- THE TIED CARD OF 'assayerlaw1.ShrinkTells'. -/
def shrinkTellsCard : Claim7 := { stood := { row := shrinkTellsRow, standIns := [], harness := (true, "17e98f840c97af1432f2dfe406b735e9f41f7ee1338a127040d1034df683da57"), looks := true }, kinds := [], alts := [], laidByText := true, laidKinds := [.handle, .data], laidTests := true, laidLooks := .later }
def ShrinkTellsCardSaid : Prop := Claim7.holds Tryz.pinned (.plain (OpenSpec.ofChange shrinkTellsSpec)) shrinkTellsCard

/-- THE SECOND FORM's CARD OF 'assayerlaw1.ShrinkTells'. -/
def shrinkTellsUptoCard : Claim7 := { stood := { row := shrinkTellsUptoRow, standIns := [], harness := (true, "17e98f840c97af1432f2dfe406b735e9f41f7ee1338a127040d1034df683da57"), looks := true }, kinds := [], alts := [], laidByText := true, laidKinds := [.handle, .data], laidTests := true, laidLooks := .later }
def ShrinkTellsUptoCardSaid : Prop := Claim7.holds Tryz.pinned (.plain (OpenSpec.upto shrinkTellsSpec)) shrinkTellsUptoCard
end Rows
end Go.Proofs.YtfpbegagblekiaaGreatDoor
