/-
  DERIVED. GIVEN WITH THE SEED: THE CARDS: each row of YtfpbegagblekiaaDoorRows.lean that lists a variable, with what it lists TIED to the program's text (the seventh form; the later family's looks); each row that meets fmt, with fmt's text TOLD by the authors' own Lean function (tested against real Go, not proved from fmt's source: count such statements apart). THE CARD IS WHAT COUNTS. Prove the row's statement (the work); the ties are given (YtfpbegagblekiaaDoorTie.lean); close each card by the builder's one call (the guide's Derived/Test/ToyasCard.lean, 'card_holds'). Laid BY PROGRAM, IN A SANDBOX (cutbox-door.mjs). By AI agents, Wed Nov 11 2026. No macro, syntax, notation, axiom, sorry.
-/
import Derived.Test.YtfpbegagblekiaaDoorRows
import GoSem.ClaimSeven
namespace Go.Proofs.YtfpbegagblekiaaDoor
namespace Rows

/-- THE TIED CARD OF 'assayerlaw1.RoseTells'. -/
def roseTellsCard : Claim7 := { stood := { row := roseTellsRow, standIns := [], harness := (true, "1162299c0b3a9b595315f111e30b2b70a906272994a6987c16a8bb9c83117ac3"), looks := true }, kinds := [], alts := [], laidByText := true, laidKinds := [.handle], laidTests := true, laidLooks := .later }
def RoseTellsCardSaid : Prop := Claim7.holds Tryd.pinned (.plain (OpenSpec.ofChange roseTellsSpec)) roseTellsCard

/-- THE TIED CARD OF 'assayerlaw1.ShrinkLeast'. -/
def shrinkLeastCard : Claim7 := { stood := { row := shrinkLeastRow, standIns := [], harness := (true, "1162299c0b3a9b595315f111e30b2b70a906272994a6987c16a8bb9c83117ac3"), looks := true }, kinds := [], alts := [], laidByText := true, laidKinds := [.data], laidTests := true, laidLooks := .later }
def ShrinkLeastCardSaid : Prop := Claim7.holds Tryd.pinned (.plain (OpenSpec.ofChange shrinkLeastSpec)) shrinkLeastCard

/-- THE TIED CARD OF 'assayerlaw1.ShrinkNumber'. -/
def shrinkNumberCard : Claim7 := { stood := { row := shrinkNumberRow, standIns := [], harness := (true, "1162299c0b3a9b595315f111e30b2b70a906272994a6987c16a8bb9c83117ac3"), looks := true }, kinds := [], alts := [], laidByText := true, laidKinds := [.data], laidTests := true, laidLooks := .later }
def ShrinkNumberCardSaid : Prop := Claim7.holds Tryd.pinned (.plain (OpenSpec.ofChange shrinkNumberSpec)) shrinkNumberCard

/-- THE TIED CARD OF 'assayerlaw5.RoseOwn'. -/
def roseOwnCard : Claim7 := { stood := { row := roseOwnRow, standIns := [], harness := (true, "1162299c0b3a9b595315f111e30b2b70a906272994a6987c16a8bb9c83117ac3"), looks := true }, kinds := [], alts := [], laidByText := true, laidKinds := [.handle], laidTests := true, laidLooks := .later }
def RoseOwnCardSaid : Prop := Claim7.holds Tryd.pinned (.plain (OpenSpec.ofChange roseOwnSpec)) roseOwnCard

/-- THE TIED CARD OF 'assayerlaw5.ShrinkOwn'. -/
def shrinkOwnCard : Claim7 := { stood := { row := shrinkOwnRow, standIns := [], harness := (true, "1162299c0b3a9b595315f111e30b2b70a906272994a6987c16a8bb9c83117ac3"), looks := true }, kinds := [], alts := [], laidByText := true, laidKinds := [.handle, .data], laidTests := true, laidLooks := .later }
def ShrinkOwnCardSaid : Prop := Claim7.holds Tryd.pinned (.plain (OpenSpec.ofChange shrinkOwnSpec)) shrinkOwnCard

/-- THE TIED CARD OF 'assayerlaw6.ShrinkStays'. -/
def shrinkStaysCard : Claim7 := { stood := { row := shrinkStaysRow, standIns := [], harness := (true, "1162299c0b3a9b595315f111e30b2b70a906272994a6987c16a8bb9c83117ac3"), looks := true }, kinds := [], alts := [], laidByText := true, laidKinds := [.handle, .data], laidTests := true, laidLooks := .later }
def ShrinkStaysCardSaid : Prop := Claim7.holds Tryd.pinned (.plain (OpenSpec.ofChange shrinkStaysSpec)) shrinkStaysCard

/-- THE TIED CARD OF 'assayertop.TopLeast'. -/
def topLeastCard : Claim7 := { stood := { row := topLeastRow, standIns := [], harness := (true, "1162299c0b3a9b595315f111e30b2b70a906272994a6987c16a8bb9c83117ac3"), looks := true }, kinds := [], alts := [], laidByText := true, laidKinds := [.data], laidTests := true, laidLooks := .later }
def TopLeastCardSaid : Prop := Claim7.holds Tryd.pinned (.plain (OpenSpec.ofChange topLeastSpec)) topLeastCard

/-- THE SECOND FORM's CARD OF 'assayerlaw1.RoseTells'. -/
def roseTellsUptoCard : Claim7 := { stood := { row := roseTellsUptoRow, standIns := [], harness := (true, "1162299c0b3a9b595315f111e30b2b70a906272994a6987c16a8bb9c83117ac3"), looks := true }, kinds := [], alts := [], laidByText := true, laidKinds := [.handle], laidTests := true, laidLooks := .later }
def RoseTellsUptoCardSaid : Prop := Claim7.holds Tryd.pinned (.plain (OpenSpec.upto roseTellsSpec)) roseTellsUptoCard

/-- THE SECOND FORM's CARD OF 'assayerlaw1.ShrinkLeast'. -/
def shrinkLeastUptoCard : Claim7 := { stood := { row := shrinkLeastUptoRow, standIns := [], harness := (true, "1162299c0b3a9b595315f111e30b2b70a906272994a6987c16a8bb9c83117ac3"), looks := true }, kinds := [], alts := [], laidByText := true, laidKinds := [.data], laidTests := true, laidLooks := .later }
def ShrinkLeastUptoCardSaid : Prop := Claim7.holds Tryd.pinned (.plain (OpenSpec.upto shrinkLeastSpec)) shrinkLeastUptoCard

/-- THE SECOND FORM's CARD OF 'assayerlaw1.ShrinkNumber'. -/
def shrinkNumberUptoCard : Claim7 := { stood := { row := shrinkNumberUptoRow, standIns := [], harness := (true, "1162299c0b3a9b595315f111e30b2b70a906272994a6987c16a8bb9c83117ac3"), looks := true }, kinds := [], alts := [], laidByText := true, laidKinds := [.data], laidTests := true, laidLooks := .later }
def ShrinkNumberUptoCardSaid : Prop := Claim7.holds Tryd.pinned (.plain (OpenSpec.upto shrinkNumberSpec)) shrinkNumberUptoCard

/-- THE SECOND FORM's CARD OF 'assayerlaw5.RoseOwn'. -/
def roseOwnUptoCard : Claim7 := { stood := { row := roseOwnUptoRow, standIns := [], harness := (true, "1162299c0b3a9b595315f111e30b2b70a906272994a6987c16a8bb9c83117ac3"), looks := true }, kinds := [], alts := [], laidByText := true, laidKinds := [.handle], laidTests := true, laidLooks := .later }
def RoseOwnUptoCardSaid : Prop := Claim7.holds Tryd.pinned (.plain (OpenSpec.upto roseOwnSpec)) roseOwnUptoCard

/-- THE SECOND FORM's CARD OF 'assayerlaw5.ShrinkOwn'. -/
def shrinkOwnUptoCard : Claim7 := { stood := { row := shrinkOwnUptoRow, standIns := [], harness := (true, "1162299c0b3a9b595315f111e30b2b70a906272994a6987c16a8bb9c83117ac3"), looks := true }, kinds := [], alts := [], laidByText := true, laidKinds := [.handle, .data], laidTests := true, laidLooks := .later }
def ShrinkOwnUptoCardSaid : Prop := Claim7.holds Tryd.pinned (.plain (OpenSpec.upto shrinkOwnSpec)) shrinkOwnUptoCard

/-- THE SECOND FORM's CARD OF 'assayerlaw6.ShrinkStays'. -/
def shrinkStaysUptoCard : Claim7 := { stood := { row := shrinkStaysUptoRow, standIns := [], harness := (true, "1162299c0b3a9b595315f111e30b2b70a906272994a6987c16a8bb9c83117ac3"), looks := true }, kinds := [], alts := [], laidByText := true, laidKinds := [.handle, .data], laidTests := true, laidLooks := .later }
def ShrinkStaysUptoCardSaid : Prop := Claim7.holds Tryd.pinned (.plain (OpenSpec.upto shrinkStaysSpec)) shrinkStaysUptoCard

/-- THE SECOND FORM's CARD OF 'assayertop.TopLeast'. -/
def topLeastUptoCard : Claim7 := { stood := { row := topLeastUptoRow, standIns := [], harness := (true, "1162299c0b3a9b595315f111e30b2b70a906272994a6987c16a8bb9c83117ac3"), looks := true }, kinds := [], alts := [], laidByText := true, laidKinds := [.data], laidTests := true, laidLooks := .later }
def TopLeastUptoCardSaid : Prop := Claim7.holds Tryd.pinned (.plain (OpenSpec.upto topLeastSpec)) topLeastUptoCard
end Rows
end Go.Proofs.YtfpbegagblekiaaDoor
