/-
  DERIVED. GIVEN WITH THE SEED: THE CARDS: each row of YtdmoigompmeacaaDoorRows.lean that lists a variable, with what it lists TIED to the program's text (the seventh form; the later family's looks); each row that meets fmt, with fmt's text TOLD by the authors' own Lean function (tested against real Go, not proved from fmt's source: count such statements apart). THE CARD IS WHAT COUNTS. Prove the row's statement (the work); the ties are given (YtdmoigompmeacaaDoorTie.lean); close each card by the builder's one call (the guide's Derived/Test/ToyasCard.lean, 'card_holds'). Laid BY PROGRAM, IN A SANDBOX (cutbox-door.mjs). By AI agents, Wed Nov 11 2026. No macro, syntax, notation, axiom, sorry.
-/
import Derived.Test.YtdmoigompmeacaaDoorRows
import GoSem.ClaimSeven
namespace Go.Proofs.YtdmoigompmeacaaDoor
namespace Rows

/-- THE TIED CARD OF 'assayerlaw2.CondTells'. -/
def condTellsCard : Claim7 := { stood := { row := condTellsRow, standIns := [], harness := (true, "3da2e4202848d8b0c46b9e21d212d4d08d944239ea05e0ae658b8585f457834f"), looks := true }, kinds := [], alts := [], laidByText := true, laidKinds := [.handle], laidTests := true, laidLooks := .later }
def CondTellsCardSaid : Prop := Claim7.holds Tryd.pinned (.plain (OpenSpec.ofChange condTellsSpec)) condTellsCard

/-- THE TIED CARD OF 'assayerlaw2.CondNot'. -/
def condNotCard : Claim7 := { stood := { row := condNotRow, standIns := [], harness := (true, "3da2e4202848d8b0c46b9e21d212d4d08d944239ea05e0ae658b8585f457834f"), looks := true }, kinds := [], alts := [], laidByText := true, laidKinds := [.handle], laidTests := true, laidLooks := .later }
def CondNotCardSaid : Prop := Claim7.holds Tryd.pinned (.plain (OpenSpec.ofChange condNotSpec)) condNotCard

/-- THE TIED CARD OF 'assayerlaw5.CondOwn'. -/
def condOwnCard : Claim7 := { stood := { row := condOwnRow, standIns := [], harness := (true, "3da2e4202848d8b0c46b9e21d212d4d08d944239ea05e0ae658b8585f457834f"), looks := true }, kinds := [], alts := [], laidByText := true, laidKinds := [.handle], laidTests := true, laidLooks := .later }
def CondOwnCardSaid : Prop := Claim7.holds Tryd.pinned (.plain (OpenSpec.ofChange condOwnSpec)) condOwnCard

/-- THE SECOND FORM's CARD OF 'assayerlaw2.CondTells'. -/
def condTellsUptoCard : Claim7 := { stood := { row := condTellsUptoRow, standIns := [], harness := (true, "3da2e4202848d8b0c46b9e21d212d4d08d944239ea05e0ae658b8585f457834f"), looks := true }, kinds := [], alts := [], laidByText := true, laidKinds := [.handle], laidTests := true, laidLooks := .later }
def CondTellsUptoCardSaid : Prop := Claim7.holds Tryd.pinned (.plain (OpenSpec.upto condTellsSpec)) condTellsUptoCard

/-- THE SECOND FORM's CARD OF 'assayerlaw2.CondNot'. -/
def condNotUptoCard : Claim7 := { stood := { row := condNotUptoRow, standIns := [], harness := (true, "3da2e4202848d8b0c46b9e21d212d4d08d944239ea05e0ae658b8585f457834f"), looks := true }, kinds := [], alts := [], laidByText := true, laidKinds := [.handle], laidTests := true, laidLooks := .later }
def CondNotUptoCardSaid : Prop := Claim7.holds Tryd.pinned (.plain (OpenSpec.upto condNotSpec)) condNotUptoCard

/-- THE SECOND FORM's CARD OF 'assayerlaw5.CondOwn'. -/
def condOwnUptoCard : Claim7 := { stood := { row := condOwnUptoRow, standIns := [], harness := (true, "3da2e4202848d8b0c46b9e21d212d4d08d944239ea05e0ae658b8585f457834f"), looks := true }, kinds := [], alts := [], laidByText := true, laidKinds := [.handle], laidTests := true, laidLooks := .later }
def CondOwnUptoCardSaid : Prop := Claim7.holds Tryd.pinned (.plain (OpenSpec.upto condOwnSpec)) condOwnUptoCard
end Rows
end Go.Proofs.YtdmoigompmeacaaDoor
