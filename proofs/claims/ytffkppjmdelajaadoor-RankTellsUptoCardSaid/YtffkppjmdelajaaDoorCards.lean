/-
  DERIVED. GIVEN WITH THE SEED: THE CARDS: each row of YtffkppjmdelajaaDoorRows.lean that lists a variable, with what it lists TIED to the program's text (the seventh form; the later family's looks); each row that meets fmt, with fmt's text TOLD by the authors' own Lean function (tested against real Go, not proved from fmt's source: count such statements apart). THE CARD IS WHAT COUNTS. Prove the row's statement (the work); the ties are given (YtffkppjmdelajaaDoorTie.lean); close each card by the builder's one call (the guide's Derived/Test/ToyasCard.lean, 'card_holds'). Laid BY PROGRAM, IN A SANDBOX (cutbox-door.mjs). By AI agents, Wed Nov 11 2026. No macro, syntax, notation, axiom, sorry.
-/
import Derived.Test.YtffkppjmdelajaaDoorRows
import GoSem.ClaimSeven
namespace Go.Proofs.YtffkppjmdelajaaDoor
namespace Rows

/-- THE TIED CARD OF 'assayerlaw1.GenTells'. -/
def genTellsCard : Claim7 := { stood := { row := genTellsRow, standIns := [], harness := (true, "eecf1b083b6ca7f0f261a81e98f1394c86b30cc732418d89cc1e3659bd3b0e66"), looks := true }, kinds := [], alts := [], laidByText := true, laidKinds := [.handle], laidTests := true, laidLooks := .later }
def GenTellsCardSaid : Prop := Claim7.holds Tryd.pinned (.plain (OpenSpec.ofChange genTellsSpec)) genTellsCard

/-- THE TIED CARD OF 'assayerlaw1.RankTells'. -/
def rankTellsCard : Claim7 := { stood := { row := rankTellsRow, standIns := [], harness := (true, "eecf1b083b6ca7f0f261a81e98f1394c86b30cc732418d89cc1e3659bd3b0e66"), looks := true }, kinds := [], alts := [], laidByText := true, laidKinds := [.handle], laidTests := true, laidLooks := .later }
def RankTellsCardSaid : Prop := Claim7.holds Tryd.pinned (.plain (OpenSpec.ofChange rankTellsSpec)) rankTellsCard

/-- THE TIED CARD OF 'assayerlaw1.ExprTells'. -/
def exprTellsCard : Claim7 := { stood := { row := exprTellsRow, standIns := [], harness := (true, "eecf1b083b6ca7f0f261a81e98f1394c86b30cc732418d89cc1e3659bd3b0e66"), looks := true }, kinds := [], alts := [], laidByText := true, laidKinds := [.handle, .data], laidTests := true, laidLooks := .later }
def ExprTellsCardSaid : Prop := Claim7.holds Tryd.pinned (.plain (OpenSpec.ofChange exprTellsSpec)) exprTellsCard

/-- THE TIED CARD OF 'assayerlaw1.ExprMorgan'. -/
def exprMorganCard : Claim7 := { stood := { row := exprMorganRow, standIns := [], harness := (true, "eecf1b083b6ca7f0f261a81e98f1394c86b30cc732418d89cc1e3659bd3b0e66"), looks := true }, kinds := [], alts := [], laidByText := true, laidKinds := [.data], laidTests := true, laidLooks := .later }
def ExprMorganCardSaid : Prop := Claim7.holds Tryd.pinned (.plain (OpenSpec.ofChange exprMorganSpec)) exprMorganCard

/-- THE TIED CARD OF 'assayerlaw1.ExprLess'. -/
def exprLessCard : Claim7 := { stood := { row := exprLessRow, standIns := [], harness := (true, "eecf1b083b6ca7f0f261a81e98f1394c86b30cc732418d89cc1e3659bd3b0e66"), looks := true }, kinds := [], alts := [], laidByText := true, laidKinds := [.data], laidTests := true, laidLooks := .later }
def ExprLessCardSaid : Prop := Claim7.holds Tryd.pinned (.plain (OpenSpec.ofChange exprLessSpec)) exprLessCard

/-- THE TIED CARD OF 'assayerlaw1.ExprLeft'. -/
def exprLeftCard : Claim7 := { stood := { row := exprLeftRow, standIns := [], harness := (true, "eecf1b083b6ca7f0f261a81e98f1394c86b30cc732418d89cc1e3659bd3b0e66"), looks := true }, kinds := [], alts := [], laidByText := true, laidKinds := [.handle, .data], laidTests := true, laidLooks := .later }
def ExprLeftCardSaid : Prop := Claim7.holds Tryd.pinned (.plain (OpenSpec.ofChange exprLeftSpec)) exprLeftCard

/-- THE TIED CARD OF 'assayerlaw6.ExprTwice'. -/
def exprTwiceCard : Claim7 := { stood := { row := exprTwiceRow, standIns := [], harness := (true, "eecf1b083b6ca7f0f261a81e98f1394c86b30cc732418d89cc1e3659bd3b0e66"), looks := true }, kinds := [], alts := [], laidByText := true, laidKinds := [.data], laidTests := true, laidLooks := .later }
def ExprTwiceCardSaid : Prop := Claim7.holds Tryd.pinned (.plain (OpenSpec.ofChange exprTwiceSpec)) exprTwiceCard

/-- THE TIED CARD OF 'assayerlaw6.ExprSums'. -/
def exprSumsCard : Claim7 := { stood := { row := exprSumsRow, standIns := [], harness := (true, "eecf1b083b6ca7f0f261a81e98f1394c86b30cc732418d89cc1e3659bd3b0e66"), looks := true }, kinds := [], alts := [], laidByText := true, laidKinds := [.data], laidTests := true, laidLooks := .later }
def ExprSumsCardSaid : Prop := Claim7.holds Tryd.pinned (.plain (OpenSpec.ofChange exprSumsSpec)) exprSumsCard

/-- THE SECOND FORM's CARD OF 'assayerlaw1.GenTells'. -/
def genTellsUptoCard : Claim7 := { stood := { row := genTellsUptoRow, standIns := [], harness := (true, "eecf1b083b6ca7f0f261a81e98f1394c86b30cc732418d89cc1e3659bd3b0e66"), looks := true }, kinds := [], alts := [], laidByText := true, laidKinds := [.handle], laidTests := true, laidLooks := .later }
def GenTellsUptoCardSaid : Prop := Claim7.holds Tryd.pinned (.plain (OpenSpec.upto genTellsSpec)) genTellsUptoCard

/-- THE SECOND FORM's CARD OF 'assayerlaw1.RankTells'. -/
def rankTellsUptoCard : Claim7 := { stood := { row := rankTellsUptoRow, standIns := [], harness := (true, "eecf1b083b6ca7f0f261a81e98f1394c86b30cc732418d89cc1e3659bd3b0e66"), looks := true }, kinds := [], alts := [], laidByText := true, laidKinds := [.handle], laidTests := true, laidLooks := .later }
def RankTellsUptoCardSaid : Prop := Claim7.holds Tryd.pinned (.plain (OpenSpec.upto rankTellsSpec)) rankTellsUptoCard

/-- THE SECOND FORM's CARD OF 'assayerlaw1.ExprTells'. -/
def exprTellsUptoCard : Claim7 := { stood := { row := exprTellsUptoRow, standIns := [], harness := (true, "eecf1b083b6ca7f0f261a81e98f1394c86b30cc732418d89cc1e3659bd3b0e66"), looks := true }, kinds := [], alts := [], laidByText := true, laidKinds := [.handle, .data], laidTests := true, laidLooks := .later }
def ExprTellsUptoCardSaid : Prop := Claim7.holds Tryd.pinned (.plain (OpenSpec.upto exprTellsSpec)) exprTellsUptoCard

/-- THE SECOND FORM's CARD OF 'assayerlaw1.ExprMorgan'. -/
def exprMorganUptoCard : Claim7 := { stood := { row := exprMorganUptoRow, standIns := [], harness := (true, "eecf1b083b6ca7f0f261a81e98f1394c86b30cc732418d89cc1e3659bd3b0e66"), looks := true }, kinds := [], alts := [], laidByText := true, laidKinds := [.data], laidTests := true, laidLooks := .later }
def ExprMorganUptoCardSaid : Prop := Claim7.holds Tryd.pinned (.plain (OpenSpec.upto exprMorganSpec)) exprMorganUptoCard

/-- THE SECOND FORM's CARD OF 'assayerlaw1.ExprLess'. -/
def exprLessUptoCard : Claim7 := { stood := { row := exprLessUptoRow, standIns := [], harness := (true, "eecf1b083b6ca7f0f261a81e98f1394c86b30cc732418d89cc1e3659bd3b0e66"), looks := true }, kinds := [], alts := [], laidByText := true, laidKinds := [.data], laidTests := true, laidLooks := .later }
def ExprLessUptoCardSaid : Prop := Claim7.holds Tryd.pinned (.plain (OpenSpec.upto exprLessSpec)) exprLessUptoCard

/-- THE SECOND FORM's CARD OF 'assayerlaw1.ExprLeft'. -/
def exprLeftUptoCard : Claim7 := { stood := { row := exprLeftUptoRow, standIns := [], harness := (true, "eecf1b083b6ca7f0f261a81e98f1394c86b30cc732418d89cc1e3659bd3b0e66"), looks := true }, kinds := [], alts := [], laidByText := true, laidKinds := [.handle, .data], laidTests := true, laidLooks := .later }
def ExprLeftUptoCardSaid : Prop := Claim7.holds Tryd.pinned (.plain (OpenSpec.upto exprLeftSpec)) exprLeftUptoCard

/-- THE SECOND FORM's CARD OF 'assayerlaw6.ExprTwice'. -/
def exprTwiceUptoCard : Claim7 := { stood := { row := exprTwiceUptoRow, standIns := [], harness := (true, "eecf1b083b6ca7f0f261a81e98f1394c86b30cc732418d89cc1e3659bd3b0e66"), looks := true }, kinds := [], alts := [], laidByText := true, laidKinds := [.data], laidTests := true, laidLooks := .later }
def ExprTwiceUptoCardSaid : Prop := Claim7.holds Tryd.pinned (.plain (OpenSpec.upto exprTwiceSpec)) exprTwiceUptoCard

/-- THE SECOND FORM's CARD OF 'assayerlaw6.ExprSums'. -/
def exprSumsUptoCard : Claim7 := { stood := { row := exprSumsUptoRow, standIns := [], harness := (true, "eecf1b083b6ca7f0f261a81e98f1394c86b30cc732418d89cc1e3659bd3b0e66"), looks := true }, kinds := [], alts := [], laidByText := true, laidKinds := [.data], laidTests := true, laidLooks := .later }
def ExprSumsUptoCardSaid : Prop := Claim7.holds Tryd.pinned (.plain (OpenSpec.upto exprSumsSpec)) exprSumsUptoCard
end Rows
end Go.Proofs.YtffkppjmdelajaaDoor
