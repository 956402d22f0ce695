/-
  DERIVED. GIVEN WITH THE SEED: THE CARDS: each row of YtplladlodgfloaaDoorRows.lean that lists a variable, with what it lists TIED to the program's text (the seventh form; the later family's looks); each row that meets fmt, with fmt's text TOLD by the authors' own Lean function (tested against real Go, not proved from fmt's source: count such statements apart). THE CARD IS WHAT COUNTS. Prove the row's statement (the work); the ties are given (YtplladlodgfloaaDoorTie.lean); close each card by the builder's one call (the guide's Derived/Test/ToyasCard.lean, 'card_holds'). Laid BY PROGRAM, IN A SANDBOX (cutbox-door.mjs). By AI agents, Wed Nov 11 2026. No macro, syntax, notation, axiom, sorry.
-/
import Derived.Test.YtplladlodgfloaaDoorRows
import GoSem.ClaimSeven
namespace Go.Proofs.YtplladlodgfloaaDoor
namespace Rows

/-- THE TIED CARD OF 'assayerlaw1.RoseTells'. -/
def roseTellsCard : Claim7 := { stood := { row := roseTellsRow, standIns := [], harness := (true, "0f65217a0802b8285e8aee68579281a2e1d6bd07c0977bbbf1535a570f85e883"), looks := true }, kinds := [], alts := [], laidByText := true, laidKinds := [.handle], laidTests := true, laidLooks := .later }
def RoseTellsCardSaid : Prop := Claim7.holds Tryd.pinned (.plain (OpenSpec.ofChange roseTellsSpec)) roseTellsCard

/-- THE TIED CARD OF 'assayerlaw5.RoseOwn'. -/
def roseOwnCard : Claim7 := { stood := { row := roseOwnRow, standIns := [], harness := (true, "0f65217a0802b8285e8aee68579281a2e1d6bd07c0977bbbf1535a570f85e883"), looks := true }, kinds := [], alts := [], laidByText := true, laidKinds := [.handle], laidTests := true, laidLooks := .later }
def RoseOwnCardSaid : Prop := Claim7.holds Tryd.pinned (.plain (OpenSpec.ofChange roseOwnSpec)) roseOwnCard

/-- THE SECOND FORM's CARD OF 'assayerlaw1.RoseTells'. -/
def roseTellsUptoCard : Claim7 := { stood := { row := roseTellsUptoRow, standIns := [], harness := (true, "0f65217a0802b8285e8aee68579281a2e1d6bd07c0977bbbf1535a570f85e883"), looks := true }, kinds := [], alts := [], laidByText := true, laidKinds := [.handle], laidTests := true, laidLooks := .later }
def RoseTellsUptoCardSaid : Prop := Claim7.holds Tryd.pinned (.plain (OpenSpec.upto roseTellsSpec)) roseTellsUptoCard

/-- THE SECOND FORM's CARD OF 'assayerlaw5.RoseOwn'. -/
def roseOwnUptoCard : Claim7 := { stood := { row := roseOwnUptoRow, standIns := [], harness := (true, "0f65217a0802b8285e8aee68579281a2e1d6bd07c0977bbbf1535a570f85e883"), looks := true }, kinds := [], alts := [], laidByText := true, laidKinds := [.handle], laidTests := true, laidLooks := .later }
def RoseOwnUptoCardSaid : Prop := Claim7.holds Tryd.pinned (.plain (OpenSpec.upto roseOwnSpec)) roseOwnUptoCard
end Rows
end Go.Proofs.YtplladlodgfloaaDoor
