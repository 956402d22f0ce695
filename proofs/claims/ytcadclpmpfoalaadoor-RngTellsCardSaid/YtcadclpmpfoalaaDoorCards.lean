/-
  DERIVED. GIVEN WITH THE SEED: THE CARDS: each row of YtcadclpmpfoalaaDoorRows.lean that lists a variable, with what it lists TIED to the program's text (the seventh form; the later family's looks); each row that meets fmt, with fmt's text TOLD by the authors' own Lean function (tested against real Go, not proved from fmt's source: count such statements apart). THE CARD IS WHAT COUNTS. Prove the row's statement (the work); the ties are given (YtcadclpmpfoalaaDoorTie.lean); close each card by the builder's one call (the guide's Derived/Test/ToyasCard.lean, 'card_holds'). Laid BY PROGRAM, IN A SANDBOX (cutbox-door.mjs). By AI agents, Wed Nov 11 2026. No macro, syntax, notation, axiom, sorry.
-/
import Derived.Test.YtcadclpmpfoalaaDoorRows
import GoSem.ClaimSeven
namespace Go.Proofs.YtcadclpmpfoalaaDoor
namespace Rows

/-- THE TIED CARD OF 'assayerlaw1.RngTells'. -/
def rngTellsCard : Claim7 := { stood := { row := rngTellsRow, standIns := [], harness := (true, "adc8f61244b4452b49df4e051f958bcf85e313159135e0717ad39c09f0a07bed"), looks := true }, kinds := [], alts := [], laidByText := true, laidKinds := [.handle], laidTests := true, laidLooks := .later }
def RngTellsCardSaid : Prop := Claim7.holds Tryd.pinned (.plain (OpenSpec.ofChange rngTellsSpec)) rngTellsCard

/-- THE SECOND FORM's CARD OF 'assayerlaw1.RngTells'. -/
def rngTellsUptoCard : Claim7 := { stood := { row := rngTellsUptoRow, standIns := [], harness := (true, "adc8f61244b4452b49df4e051f958bcf85e313159135e0717ad39c09f0a07bed"), looks := true }, kinds := [], alts := [], laidByText := true, laidKinds := [.handle], laidTests := true, laidLooks := .later }
def RngTellsUptoCardSaid : Prop := Claim7.holds Tryd.pinned (.plain (OpenSpec.upto rngTellsSpec)) rngTellsUptoCard
end Rows
end Go.Proofs.YtcadclpmpfoalaaDoor
