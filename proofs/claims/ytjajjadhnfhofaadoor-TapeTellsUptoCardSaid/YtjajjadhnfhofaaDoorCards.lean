/-
  DERIVED. GIVEN WITH THE SEED: THE CARDS: each row of YtjajjadhnfhofaaDoorRows.lean that lists a variable, with what it lists TIED to the program's text (the seventh form; the later family's looks); each row that meets fmt, with fmt's text TOLD by the authors' own Lean function (tested against real Go, not proved from fmt's source: count such statements apart). THE CARD IS WHAT COUNTS. Prove the row's statement (the work); the ties are given (YtjajjadhnfhofaaDoorTie.lean); close each card by the builder's one call (the guide's Derived/Test/ToyasCard.lean, 'card_holds'). Laid BY PROGRAM, IN A SANDBOX (cutbox-door.mjs). By AI agents, Wed Nov 11 2026. No macro, syntax, notation, axiom, sorry.
-/
import Derived.Test.YtjajjadhnfhofaaDoorRows
import GoSem.ClaimSeven
namespace Go.Proofs.YtjajjadhnfhofaaDoor
namespace Rows

/-- THE TIED CARD OF 'assayerlaw1.TapeTells'. -/
def tapeTellsCard : Claim7 := { stood := { row := tapeTellsRow, standIns := [], harness := (true, "fae0bcc38a1f380a7912721e02756d8c5e5a15c6169639c95823b9275fa7b72c"), looks := true }, kinds := [], alts := [], laidByText := true, laidKinds := [.data, .data, .data, .handle, .sentinel, .sentinel], laidTests := true, laidLooks := .later }
def TapeTellsCardSaid : Prop := Claim7.holds Tryd.pinned (.plain (OpenSpec.ofChange tapeTellsSpec)) tapeTellsCard

/-- THE TIED CARD OF 'assayerlaw1.TapeBack'. -/
def tapeBackCard : Claim7 := { stood := { row := tapeBackRow, standIns := [], harness := (true, "fae0bcc38a1f380a7912721e02756d8c5e5a15c6169639c95823b9275fa7b72c"), looks := true }, kinds := [], alts := [], laidByText := true, laidKinds := [.data, .data, .data, .sentinel, .sentinel], laidTests := true, laidLooks := .later }
def TapeBackCardSaid : Prop := Claim7.holds Tryd.pinned (.plain (OpenSpec.ofChange tapeBackSpec)) tapeBackCard

/-- THE TIED CARD OF 'assayerlaw6.TapeLonger'. -/
def tapeLongerCard : Claim7 := { stood := { row := tapeLongerRow, standIns := [], harness := (true, "fae0bcc38a1f380a7912721e02756d8c5e5a15c6169639c95823b9275fa7b72c"), looks := true }, kinds := [], alts := [], laidByText := true, laidKinds := [.data, .data, .data], laidTests := true, laidLooks := .later }
def TapeLongerCardSaid : Prop := Claim7.holds Tryd.pinned (.plain (OpenSpec.ofChange tapeLongerSpec)) tapeLongerCard

/-- THE SECOND FORM's CARD OF 'assayerlaw1.TapeTells'. -/
def tapeTellsUptoCard : Claim7 := { stood := { row := tapeTellsUptoRow, standIns := [], harness := (true, "fae0bcc38a1f380a7912721e02756d8c5e5a15c6169639c95823b9275fa7b72c"), looks := true }, kinds := [], alts := [], laidByText := true, laidKinds := [.data, .data, .data, .handle, .sentinel, .sentinel], laidTests := true, laidLooks := .later }
def TapeTellsUptoCardSaid : Prop := Claim7.holds Tryd.pinned (.plain (OpenSpec.upto tapeTellsSpec)) tapeTellsUptoCard

/-- THE SECOND FORM's CARD OF 'assayerlaw1.TapeBack'. -/
def tapeBackUptoCard : Claim7 := { stood := { row := tapeBackUptoRow, standIns := [], harness := (true, "fae0bcc38a1f380a7912721e02756d8c5e5a15c6169639c95823b9275fa7b72c"), looks := true }, kinds := [], alts := [], laidByText := true, laidKinds := [.data, .data, .data, .sentinel, .sentinel], laidTests := true, laidLooks := .later }
def TapeBackUptoCardSaid : Prop := Claim7.holds Tryd.pinned (.plain (OpenSpec.upto tapeBackSpec)) tapeBackUptoCard

/-- THE SECOND FORM's CARD OF 'assayerlaw6.TapeLonger'. -/
def tapeLongerUptoCard : Claim7 := { stood := { row := tapeLongerUptoRow, standIns := [], harness := (true, "fae0bcc38a1f380a7912721e02756d8c5e5a15c6169639c95823b9275fa7b72c"), looks := true }, kinds := [], alts := [], laidByText := true, laidKinds := [.data, .data, .data], laidTests := true, laidLooks := .later }
def TapeLongerUptoCardSaid : Prop := Claim7.holds Tryd.pinned (.plain (OpenSpec.upto tapeLongerSpec)) tapeLongerUptoCard
end Rows
end Go.Proofs.YtjajjadhnfhofaaDoor
