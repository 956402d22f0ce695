/-
  NARROWER THAN 'FOR EVERY INPUT', by the rows' own cells (each row's printed sentence says how): RoseTells: loops, laid · ShrinkLeast: loops, laid · ShrinkNumber: laid · RoseOwn: loops, laid · ShrinkOwn: loops, laid · ShrinkStays: loops, laid · TopLeast: laid.
  DERIVED. THE GIVEN ROWS OF THIS SEAT. 7 by the template 'for every input the law returns true; each argument reads behind the call as it read before'; 0 by the template 'total and deterministic' (their statements: YtfpbegagblekiaaDoorTotals.lean).
  GIVEN WITH THE SEED: the statements are not yours to turn. If you find one false, say at which input.
  Laid BY PROGRAM, IN A SANDBOX (cutbox-rows.mjs): the forced cells as the released guide's own fill.sh prints them over the translation acab6be3aba5ee29… (all of the seat's roots in one cut). By AI agents, Wed Nov 11 2026. No macro, syntax, notation, axiom, sorry.
-/
import Derived.Test.YtfpbegagblekiaaDoorChecked
import GoSem.Claim
import GoSem.ClaimJoined
import GoSem.ClaimMapViews
import Derived.JoinedTies
import Derived.KernelRfl
namespace Go.Proofs.YtfpbegagblekiaaDoor
/- THE CELL 'sum', in the pinned program and in every row, IS THE sha256 OF THE DUMP (.gsa) THAT YtfpbegagblekiaaDoorProg.lean LOADS. Nothing in Lean hashes anything: it is a label: what it is worth is what the hold of that sum in a sandbox is worth. -/
noncomputable def Tryd.pinned : Pinned := { name := "ytfpbegagblekiaadoor", sum := "acab6be3aba5ee29aeab31944aa181bc49b9f7b77706ead5332fcc7f1c6bef6b", checked := Tryd.checked }
namespace Rows
def none {H : Type} : Left H := { results := [], args := [] }

/- WHAT THE LISTED PACKAGE-LEVEL VARIABLES READ AS WHEN THE CALL BEGINS. Each datum BY PROGRAM (the guide's laid-datum.mjs) off the statement by which the dump's own 'gosem.cut.vars' lays the variable. In a bare row this is a premise. The card (YtfpbegagblekiaaDoorCards.lean) ties it to the program's text. -/
def laid_errors_errorType {H : Type} : DataW H := .iface "internal/reflectlite.rtype" (.agg [.ptr (.lit (.string [101, 114, 114, 111, 114]))])
def laid_assayer_expr_subsByKind {H : Type} : DataW H := .agg [.lit (.int .i64 0), .lit (.int .i64 0), .lit (.int .i64 0), .lit (.int .i64 0), .lit (.int .i64 0), .lit (.int .i64 2), .lit (.int .i64 2), .lit (.int .i64 2), .lit (.int .i64 2), .lit (.int .i64 1), .lit (.int .i64 2), .lit (.int .i64 2)]

/-- 'assayerlaw1.RoseTells': WHATEVER THE INPUT: true; the input reads as it did. -/
def roseTellsSpec : ChangeSpec := { name := "roseTells", fn := fun _ => fun
  | [d1, d2] => { results := [.lit (.bool true)], args := [d1, d2] }
  | _ => none }
def roseTellsRow : OpenClaim := { program := "ytfpbegagblekiaadoor", sum := "acab6be3aba5ee29aeab31944aa181bc49b9f7b77706ead5332fcc7f1c6bef6b", func := "assayer/assayerlaw1.RoseTells", spec := "roseTells", inPlace := ["internal/reflectlite.ValueOf", "(internal/reflectlite.Value).Type", "(internal/reflectlite.Value).IsNil", "internal/reflectlite.TypeOf", "(internal/reflectlite.Value).Elem", "(internal/reflectlite.Value).Set"], unfollowed := true, recurses := true, named := ["errors.errorType"], loops := true, apart := false, laid := [("errors.errorType", laid_errors_errorType)] }
def RoseTellsSaid : Prop := roseTellsRow.holds Tryd.pinned (OpenSpec.ofChange roseTellsSpec)

/-- ITS FALSE NEIGHBOUR: 'it returns false'. Refute it at one input. -/
def roseTellsWrong : ChangeSpec := { name := "roseTells", fn := fun _ => fun
  | [d1, d2] => { results := [.lit (.bool false)], args := [d1, d2] }
  | _ => none }
def RoseTellsWrongFalsely : Prop := roseTellsRow.holds Tryd.pinned (OpenSpec.ofChange roseTellsWrong)

/-- 'assayerlaw1.ShrinkLeast': WHATEVER THE INPUT: true; the input reads as it did. -/
def shrinkLeastSpec : ChangeSpec := { name := "shrinkLeast", fn := fun _ => fun
  | [d1, d2, d3] => { results := [.lit (.bool true)], args := [d1, d2, d3] }
  | _ => none }
def shrinkLeastRow : OpenClaim := { program := "ytfpbegagblekiaadoor", sum := "acab6be3aba5ee29aeab31944aa181bc49b9f7b77706ead5332fcc7f1c6bef6b", func := "assayer/assayerlaw1.ShrinkLeast", spec := "shrinkLeast", inPlace := ["internal/reflectlite.TypeOf"], unfollowed := true, recurses := true, named := ["assayer/expr.subsByKind"], loops := true, apart := false, laid := [("assayer/expr.subsByKind", laid_assayer_expr_subsByKind)] }
def ShrinkLeastSaid : Prop := shrinkLeastRow.holds Tryd.pinned (OpenSpec.ofChange shrinkLeastSpec)

/-- ITS FALSE NEIGHBOUR: 'it returns false'. Refute it at one input. -/
def shrinkLeastWrong : ChangeSpec := { name := "shrinkLeast", fn := fun _ => fun
  | [d1, d2, d3] => { results := [.lit (.bool false)], args := [d1, d2, d3] }
  | _ => none }
def ShrinkLeastWrongFalsely : Prop := shrinkLeastRow.holds Tryd.pinned (OpenSpec.ofChange shrinkLeastWrong)

/-- 'assayerlaw1.ShrinkNumber': WHATEVER THE INPUT: true; the input reads as it did. -/
def shrinkNumberSpec : ChangeSpec := { name := "shrinkNumber", fn := fun _ => fun
  | [d1, d2, d3, d4] => { results := [.lit (.bool true)], args := [d1, d2, d3, d4] }
  | _ => none }
def shrinkNumberRow : OpenClaim := { program := "ytfpbegagblekiaadoor", sum := "acab6be3aba5ee29aeab31944aa181bc49b9f7b77706ead5332fcc7f1c6bef6b", func := "assayer/assayerlaw1.ShrinkNumber", spec := "shrinkNumber", inPlace := ["internal/reflectlite.TypeOf"], unfollowed := true, recurses := true, named := ["assayer/expr.subsByKind"], apart := false, laid := [("assayer/expr.subsByKind", laid_assayer_expr_subsByKind)] }
def ShrinkNumberSaid : Prop := shrinkNumberRow.holds Tryd.pinned (OpenSpec.ofChange shrinkNumberSpec)

/-- ITS FALSE NEIGHBOUR: 'it returns false'. Refute it at one input. -/
def shrinkNumberWrong : ChangeSpec := { name := "shrinkNumber", fn := fun _ => fun
  | [d1, d2, d3, d4] => { results := [.lit (.bool false)], args := [d1, d2, d3, d4] }
  | _ => none }
def ShrinkNumberWrongFalsely : Prop := shrinkNumberRow.holds Tryd.pinned (OpenSpec.ofChange shrinkNumberWrong)

/-- 'assayerlaw5.RoseOwn': WHATEVER THE INPUT: true; the input reads as it did. -/
def roseOwnSpec : ChangeSpec := { name := "roseOwn", fn := fun _ => fun
  | [d1, d2, d3] => { results := [.lit (.bool true)], args := [d1, d2, d3] }
  | _ => none }
def roseOwnRow : OpenClaim := { program := "ytfpbegagblekiaadoor", sum := "acab6be3aba5ee29aeab31944aa181bc49b9f7b77706ead5332fcc7f1c6bef6b", func := "assayer/assayerlaw5.RoseOwn", spec := "roseOwn", inPlace := ["internal/reflectlite.ValueOf", "(internal/reflectlite.Value).Type", "(internal/reflectlite.Value).IsNil", "internal/reflectlite.TypeOf", "(internal/reflectlite.Value).Elem", "(internal/reflectlite.Value).Set"], unfollowed := true, recurses := true, named := ["errors.errorType"], loops := true, apart := false, laid := [("errors.errorType", laid_errors_errorType)] }
def RoseOwnSaid : Prop := roseOwnRow.holds Tryd.pinned (OpenSpec.ofChange roseOwnSpec)

/-- ITS FALSE NEIGHBOUR: 'it returns false'. Refute it at one input. -/
def roseOwnWrong : ChangeSpec := { name := "roseOwn", fn := fun _ => fun
  | [d1, d2, d3] => { results := [.lit (.bool false)], args := [d1, d2, d3] }
  | _ => none }
def RoseOwnWrongFalsely : Prop := roseOwnRow.holds Tryd.pinned (OpenSpec.ofChange roseOwnWrong)

/-- 'assayerlaw5.ShrinkOwn': WHATEVER THE INPUT: true; the input reads as it did. -/
def shrinkOwnSpec : ChangeSpec := { name := "shrinkOwn", fn := fun _ => fun
  | [d1, d2, d3, d4] => { results := [.lit (.bool true)], args := [d1, d2, d3, d4] }
  | _ => none }
def shrinkOwnRow : OpenClaim := { program := "ytfpbegagblekiaadoor", sum := "acab6be3aba5ee29aeab31944aa181bc49b9f7b77706ead5332fcc7f1c6bef6b", func := "assayer/assayerlaw5.ShrinkOwn", spec := "shrinkOwn", inPlace := ["internal/reflectlite.TypeOf", "internal/reflectlite.ValueOf", "(internal/reflectlite.Value).Type", "(internal/reflectlite.Value).IsNil", "(internal/reflectlite.Value).Elem", "(internal/reflectlite.Value).Set"], unfollowed := true, recurses := true, named := ["assayer/expr.subsByKind", "errors.errorType"], loops := true, apart := false, laid := [("errors.errorType", laid_errors_errorType), ("assayer/expr.subsByKind", laid_assayer_expr_subsByKind)] }
def ShrinkOwnSaid : Prop := shrinkOwnRow.holds Tryd.pinned (OpenSpec.ofChange shrinkOwnSpec)

/-- ITS FALSE NEIGHBOUR: 'it returns false'. Refute it at one input. -/
def shrinkOwnWrong : ChangeSpec := { name := "shrinkOwn", fn := fun _ => fun
  | [d1, d2, d3, d4] => { results := [.lit (.bool false)], args := [d1, d2, d3, d4] }
  | _ => none }
def ShrinkOwnWrongFalsely : Prop := shrinkOwnRow.holds Tryd.pinned (OpenSpec.ofChange shrinkOwnWrong)

/-- 'assayerlaw6.ShrinkStays': WHATEVER THE INPUT: true; the input reads as it did. -/
def shrinkStaysSpec : ChangeSpec := { name := "shrinkStays", fn := fun _ => fun
  | [d1, d2] => { results := [.lit (.bool true)], args := [d1, d2] }
  | _ => none }
def shrinkStaysRow : OpenClaim := { program := "ytfpbegagblekiaadoor", sum := "acab6be3aba5ee29aeab31944aa181bc49b9f7b77706ead5332fcc7f1c6bef6b", func := "assayer/assayerlaw6.ShrinkStays", spec := "shrinkStays", inPlace := ["internal/reflectlite.TypeOf", "internal/reflectlite.ValueOf", "(internal/reflectlite.Value).Type", "(internal/reflectlite.Value).IsNil", "(internal/reflectlite.Value).Elem", "(internal/reflectlite.Value).Set"], unfollowed := true, recurses := true, named := ["assayer/expr.subsByKind", "errors.errorType"], loops := true, apart := false, laid := [("errors.errorType", laid_errors_errorType), ("assayer/expr.subsByKind", laid_assayer_expr_subsByKind)] }
def ShrinkStaysSaid : Prop := shrinkStaysRow.holds Tryd.pinned (OpenSpec.ofChange shrinkStaysSpec)

/-- ITS FALSE NEIGHBOUR: 'it returns false'. Refute it at one input. -/
def shrinkStaysWrong : ChangeSpec := { name := "shrinkStays", fn := fun _ => fun
  | [d1, d2] => { results := [.lit (.bool false)], args := [d1, d2] }
  | _ => none }
def ShrinkStaysWrongFalsely : Prop := shrinkStaysRow.holds Tryd.pinned (OpenSpec.ofChange shrinkStaysWrong)

/-- 'assayertop.TopLeast': WHATEVER THE INPUT: true; the input reads as it did. -/
def topLeastSpec : ChangeSpec := { name := "topLeast", fn := fun _ => fun
  | [d1, d2, d3, d4] => { results := [.lit (.bool true)], args := [d1, d2, d3, d4] }
  | _ => none }
def topLeastRow : OpenClaim := { program := "ytfpbegagblekiaadoor", sum := "acab6be3aba5ee29aeab31944aa181bc49b9f7b77706ead5332fcc7f1c6bef6b", func := "assayer/assayertop.TopLeast", spec := "topLeast", inPlace := ["internal/reflectlite.TypeOf"], unfollowed := true, recurses := true, named := ["assayer/expr.subsByKind"], apart := false, laid := [("assayer/expr.subsByKind", laid_assayer_expr_subsByKind)] }
def TopLeastSaid : Prop := topLeastRow.holds Tryd.pinned (OpenSpec.ofChange topLeastSpec)

/-- ITS FALSE NEIGHBOUR: 'it returns false'. Refute it at one input. -/
def topLeastWrong : ChangeSpec := { name := "topLeast", fn := fun _ => fun
  | [d1, d2, d3, d4] => { results := [.lit (.bool false)], args := [d1, d2, d3, d4] }
  | _ => none }
def TopLeastWrongFalsely : Prop := topLeastRow.holds Tryd.pinned (OpenSpec.ofChange topLeastWrong)

/- THE SECOND FORM. 'bulk': how many values and letters a reading holds, each counted each time it is reached (what is shared counts as often as it is met; a slice's spare places count too). A statement '..UptoSaid' is the law's where the arguments, and the package variables that the reading takes, are together of bulk at most 1048576: NARROWER than '..Said'. Prove '..Said' where nothing that the law and all that it calls make is longer than what came in: it says more and counts as full. Else prove '..UptoSaid'. A law counts once. -/
mutual
def uptoBulk {H : Type} : DataW H → Nat
  | .lit (.string bytes) => bytes.length + 1
  | .lit _ => 1
  | .nil => 1
  | .ptr d => uptoBulk d + 1
  | .slice elems spare => uptoBulkAll elems + uptoBulkAll spare + 1
  | .agg parts => uptoBulkAll parts + 1
  | .iface _ d => uptoBulk d + 1
  | .map entries => uptoBulkEntries entries + 1
  | .held _ => 1
def uptoBulkAll {H : Type} : List (DataW H) → Nat
  | [] => 0
  | d :: r => uptoBulk d + uptoBulkAll r
def uptoBulkEntries {H : Type} : List (Lit × DataW H) → Nat
  | [] => 0
  | x :: r => uptoBulkEntry x + uptoBulkEntries r
def uptoBulkEntry {H : Type} : Lit × DataW H → Nat
  | (.string bytes, d) => bytes.length + uptoBulk d + 1
  | (_, d) => uptoBulk d + 1
 end
def uptoSmall : (H : Type) → List (DataW H) → Bool := fun _ ds => decide (uptoBulkAll ds ≤ 1048576)
def OpenSpec.upto (s : _root_.Go.ChangeSpec) : _root_.Go.OpenSpec := { _root_.Go.OpenSpec.ofChange s with cond := some uptoSmall }

/-- 'assayerlaw1.RoseTells', WHERE WHAT IT READS IS OF BULK AT MOST 1048576: true; the input reads as it did. -/
def roseTellsUptoRow : OpenClaim := { program := "ytfpbegagblekiaadoor", sum := "acab6be3aba5ee29aeab31944aa181bc49b9f7b77706ead5332fcc7f1c6bef6b", func := "assayer/assayerlaw1.RoseTells", spec := "roseTells", inPlace := ["internal/reflectlite.ValueOf", "(internal/reflectlite.Value).Type", "(internal/reflectlite.Value).IsNil", "internal/reflectlite.TypeOf", "(internal/reflectlite.Value).Elem", "(internal/reflectlite.Value).Set"], unfollowed := true, recurses := true, named := ["errors.errorType"], loops := true, apart := false, laid := [("errors.errorType", laid_errors_errorType)], narrowed := true }
def RoseTellsUptoSaid : Prop := roseTellsUptoRow.holds Tryd.pinned (OpenSpec.upto roseTellsSpec)

/-- 'assayerlaw1.ShrinkLeast', WHERE WHAT IT READS IS OF BULK AT MOST 1048576: true; the input reads as it did. -/
def shrinkLeastUptoRow : OpenClaim := { program := "ytfpbegagblekiaadoor", sum := "acab6be3aba5ee29aeab31944aa181bc49b9f7b77706ead5332fcc7f1c6bef6b", func := "assayer/assayerlaw1.ShrinkLeast", spec := "shrinkLeast", inPlace := ["internal/reflectlite.TypeOf"], unfollowed := true, recurses := true, named := ["assayer/expr.subsByKind"], loops := true, apart := false, laid := [("assayer/expr.subsByKind", laid_assayer_expr_subsByKind)], narrowed := true }
def ShrinkLeastUptoSaid : Prop := shrinkLeastUptoRow.holds Tryd.pinned (OpenSpec.upto shrinkLeastSpec)

/-- 'assayerlaw1.ShrinkNumber', WHERE WHAT IT READS IS OF BULK AT MOST 1048576: true; the input reads as it did. -/
def shrinkNumberUptoRow : OpenClaim := { program := "ytfpbegagblekiaadoor", sum := "acab6be3aba5ee29aeab31944aa181bc49b9f7b77706ead5332fcc7f1c6bef6b", func := "assayer/assayerlaw1.ShrinkNumber", spec := "shrinkNumber", inPlace := ["internal/reflectlite.TypeOf"], unfollowed := true, recurses := true, named := ["assayer/expr.subsByKind"], apart := false, laid := [("assayer/expr.subsByKind", laid_assayer_expr_subsByKind)], narrowed := true }
def ShrinkNumberUptoSaid : Prop := shrinkNumberUptoRow.holds Tryd.pinned (OpenSpec.upto shrinkNumberSpec)

/-- 'assayerlaw5.RoseOwn', WHERE WHAT IT READS IS OF BULK AT MOST 1048576: true; the input reads as it did. -/
def roseOwnUptoRow : OpenClaim := { program := "ytfpbegagblekiaadoor", sum := "acab6be3aba5ee29aeab31944aa181bc49b9f7b77706ead5332fcc7f1c6bef6b", func := "assayer/assayerlaw5.RoseOwn", spec := "roseOwn", inPlace := ["internal/reflectlite.ValueOf", "(internal/reflectlite.Value).Type", "(internal/reflectlite.Value).IsNil", "internal/reflectlite.TypeOf", "(internal/reflectlite.Value).Elem", "(internal/reflectlite.Value).Set"], unfollowed := true, recurses := true, named := ["errors.errorType"], loops := true, apart := false, laid := [("errors.errorType", laid_errors_errorType)], narrowed := true }
def RoseOwnUptoSaid : Prop := roseOwnUptoRow.holds Tryd.pinned (OpenSpec.upto roseOwnSpec)

/-- 'assayerlaw5.ShrinkOwn', WHERE WHAT IT READS IS OF BULK AT MOST 1048576: true; the input reads as it did. -/
def shrinkOwnUptoRow : OpenClaim := { program := "ytfpbegagblekiaadoor", sum := "acab6be3aba5ee29aeab31944aa181bc49b9f7b77706ead5332fcc7f1c6bef6b", func := "assayer/assayerlaw5.ShrinkOwn", spec := "shrinkOwn", inPlace := ["internal/reflectlite.TypeOf", "internal/reflectlite.ValueOf", "(internal/reflectlite.Value).Type", "(internal/reflectlite.Value).IsNil", "(internal/reflectlite.Value).Elem", "(internal/reflectlite.Value).Set"], unfollowed := true, recurses := true, named := ["assayer/expr.subsByKind", "errors.errorType"], loops := true, apart := false, laid := [("errors.errorType", laid_errors_errorType), ("assayer/expr.subsByKind", laid_assayer_expr_subsByKind)], narrowed := true }
def ShrinkOwnUptoSaid : Prop := shrinkOwnUptoRow.holds Tryd.pinned (OpenSpec.upto shrinkOwnSpec)

/-- 'assayerlaw6.ShrinkStays', WHERE WHAT IT READS IS OF BULK AT MOST 1048576: true; the input reads as it did. -/
def shrinkStaysUptoRow : OpenClaim := { program := "ytfpbegagblekiaadoor", sum := "acab6be3aba5ee29aeab31944aa181bc49b9f7b77706ead5332fcc7f1c6bef6b", func := "assayer/assayerlaw6.ShrinkStays", spec := "shrinkStays", inPlace := ["internal/reflectlite.TypeOf", "internal/reflectlite.ValueOf", "(internal/reflectlite.Value).Type", "(internal/reflectlite.Value).IsNil", "(internal/reflectlite.Value).Elem", "(internal/reflectlite.Value).Set"], unfollowed := true, recurses := true, named := ["assayer/expr.subsByKind", "errors.errorType"], loops := true, apart := false, laid := [("errors.errorType", laid_errors_errorType), ("assayer/expr.subsByKind", laid_assayer_expr_subsByKind)], narrowed := true }
def ShrinkStaysUptoSaid : Prop := shrinkStaysUptoRow.holds Tryd.pinned (OpenSpec.upto shrinkStaysSpec)

/-- 'assayertop.TopLeast', WHERE WHAT IT READS IS OF BULK AT MOST 1048576: true; the input reads as it did. -/
def topLeastUptoRow : OpenClaim := { program := "ytfpbegagblekiaadoor", sum := "acab6be3aba5ee29aeab31944aa181bc49b9f7b77706ead5332fcc7f1c6bef6b", func := "assayer/assayertop.TopLeast", spec := "topLeast", inPlace := ["internal/reflectlite.TypeOf"], unfollowed := true, recurses := true, named := ["assayer/expr.subsByKind"], apart := false, laid := [("assayer/expr.subsByKind", laid_assayer_expr_subsByKind)], narrowed := true }
def TopLeastUptoSaid : Prop := topLeastUptoRow.holds Tryd.pinned (OpenSpec.upto topLeastSpec)

end Rows
end Go.Proofs.YtfpbegagblekiaaDoor
