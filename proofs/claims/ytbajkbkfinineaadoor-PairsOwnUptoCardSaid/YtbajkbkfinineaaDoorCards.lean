/-
  DERIVED. GIVEN WITH THE SEED: THE CARDS: each row of YtbajkbkfinineaaDoorRows.lean that lists a variable, with what it lists TIED to the program's text (the seventh form; the later family's looks); each row that meets fmt, with fmt's text TOLD by the authors' own Lean function (tested against real Go, not proved from fmt's source: count such statements apart). THE CARD IS WHAT COUNTS. Prove the row's statement (the work); the ties are given (YtbajkbkfinineaaDoorTie.lean); close each card by the builder's one call (the guide's Derived/Test/ToyasCard.lean, 'card_holds'). Laid BY PROGRAM, IN A SANDBOX (cutbox-door.mjs). By AI agents, Wed Nov 11 2026. No macro, syntax, notation, axiom, sorry.
-/
import Derived.Test.YtbajkbkfinineaaDoorRows
import GoSem.ClaimSeven
namespace Go.Proofs.YtbajkbkfinineaaDoor
namespace Rows

/-- THE TIED CARD OF 'assayerlaw2.PairsTell'. -/
def pairsTellCard : Claim7 := { stood := { row := pairsTellRow, standIns := [], harness := (true, "1dacf279acd843eba16c6834090177ad15cb0b0716bd11b366f34a75f77a2ab2"), looks := true }, kinds := [], alts := [], laidByText := true, laidKinds := [.handle], laidTests := true, laidLooks := .later }
def PairsTellCardSaid : Prop := Claim7.holds Tryd.pinned (.plain (OpenSpec.ofChange pairsTellSpec)) pairsTellCard

/-- THE TIED CARD OF 'assayerlaw5.PairsOwn'. -/
def pairsOwnCard : Claim7 := { stood := { row := pairsOwnRow, standIns := [], harness := (true, "1dacf279acd843eba16c6834090177ad15cb0b0716bd11b366f34a75f77a2ab2"), looks := true }, kinds := [], alts := [], laidByText := true, laidKinds := [.handle], laidTests := true, laidLooks := .later }
def PairsOwnCardSaid : Prop := Claim7.holds Tryd.pinned (.plain (OpenSpec.ofChange pairsOwnSpec)) pairsOwnCard

/-- THE SECOND FORM's CARD OF 'assayerlaw2.PairsTell'. -/
def pairsTellUptoCard : Claim7 := { stood := { row := pairsTellUptoRow, standIns := [], harness := (true, "1dacf279acd843eba16c6834090177ad15cb0b0716bd11b366f34a75f77a2ab2"), looks := true }, kinds := [], alts := [], laidByText := true, laidKinds := [.handle], laidTests := true, laidLooks := .later }
def PairsTellUptoCardSaid : Prop := Claim7.holds Tryd.pinned (.plain (OpenSpec.upto pairsTellSpec)) pairsTellUptoCard

/-- THE SECOND FORM's CARD OF 'assayerlaw5.PairsOwn'. -/
def pairsOwnUptoCard : Claim7 := { stood := { row := pairsOwnUptoRow, standIns := [], harness := (true, "1dacf279acd843eba16c6834090177ad15cb0b0716bd11b366f34a75f77a2ab2"), looks := true }, kinds := [], alts := [], laidByText := true, laidKinds := [.handle], laidTests := true, laidLooks := .later }
def PairsOwnUptoCardSaid : Prop := Claim7.holds Tryd.pinned (.plain (OpenSpec.upto pairsOwnSpec)) pairsOwnUptoCard
end Rows
end Go.Proofs.YtbajkbkfinineaaDoor
