/-
  NARROWER THAN 'FOR EVERY INPUT', by the rows' own cells (each row's printed sentence says how): GenTells: loops, laid · RankTells: loops, laid · ExprTells: loops, laid · ExprMorgan: loops, laid · ExprLess: loops, laid · ExprLeft: loops, laid · ExprTwice: loops, laid · ExprSums: loops, laid.
  DERIVED. THE GIVEN ROWS OF THIS SEAT. 8 by the template 'for every input the law returns true; each argument reads behind the call as it read before'; 0 by the template 'total and deterministic' (their statements: YtffkppjmdelajaaDoorTotals.lean).
  GIVEN WITH THE SEED: the statements are not yours to turn. If you find one false, say at which input.
  Laid BY PROGRAM, IN A SANDBOX (cutbox-rows.mjs): the forced cells as the released guide's own fill.sh prints them over the translation 1376d99df08717e0… (all of the seat's roots in one cut). By AI agents, Wed Nov 11 2026. No macro, syntax, notation, axiom, sorry.
-/
import Derived.Test.YtffkppjmdelajaaDoorChecked
import GoSem.Claim
import GoSem.ClaimJoined
import GoSem.ClaimMapViews
import Derived.JoinedTies
import Derived.KernelRfl
namespace Go.Proofs.YtffkppjmdelajaaDoor
/- THE CELL 'sum', in the pinned program and in every row, IS THE sha256 OF THE DUMP (.gsa) THAT YtffkppjmdelajaaDoorProg.lean LOADS. Nothing in Lean hashes anything: it is a label: what it is worth is what the hold of that sum in a sandbox is worth. -/
noncomputable def Tryd.pinned : Pinned := { name := "ytffkppjmdelajaadoor", sum := "1376d99df08717e0c45fe197510237a882de2a4da0171a2ce3a680d254910f02", checked := Tryd.checked }
namespace Rows
def none {H : Type} : Left H := { results := [], args := [] }

/- WHAT THE LISTED PACKAGE-LEVEL VARIABLES READ AS WHEN THE CALL BEGINS. Each datum BY PROGRAM (the guide's laid-datum.mjs) off the statement by which the dump's own 'gosem.cut.vars' lays the variable. In a bare row this is a premise. The card (YtffkppjmdelajaaDoorCards.lean) ties it to the program's text. -/
def laid_errors_errorType {H : Type} : DataW H := .iface "internal/reflectlite.rtype" (.agg [.ptr (.lit (.string [101, 114, 114, 111, 114]))])
def laid_assayer_expr_subsByKind {H : Type} : DataW H := .agg [.lit (.int .i64 0), .lit (.int .i64 0), .lit (.int .i64 0), .lit (.int .i64 0), .lit (.int .i64 0), .lit (.int .i64 2), .lit (.int .i64 2), .lit (.int .i64 2), .lit (.int .i64 2), .lit (.int .i64 1), .lit (.int .i64 2), .lit (.int .i64 2)]

/-- 'assayerlaw1.GenTells': WHATEVER THE INPUT: true; the input reads as it did. -/
def genTellsSpec : ChangeSpec := { name := "genTells", fn := fun _ => fun
  | [d1, d2, d3] => { results := [.lit (.bool true)], args := [d1, d2, d3] }
  | _ => none }
def genTellsRow : OpenClaim := { program := "ytffkppjmdelajaadoor", sum := "1376d99df08717e0c45fe197510237a882de2a4da0171a2ce3a680d254910f02", func := "assayer/assayerlaw1.GenTells", spec := "genTells", inPlace := ["internal/reflectlite.ValueOf", "(internal/reflectlite.Value).Type", "(internal/reflectlite.Value).IsNil", "internal/reflectlite.TypeOf", "(internal/reflectlite.Value).Elem", "(internal/reflectlite.Value).Set"], unfollowed := true, recurses := true, named := ["errors.errorType"], loops := true, apart := false, laid := [("errors.errorType", laid_errors_errorType)] }
def GenTellsSaid : Prop := genTellsRow.holds Tryd.pinned (OpenSpec.ofChange genTellsSpec)

/-- ITS FALSE NEIGHBOUR: 'it returns false'. Refute it at one input. -/
def genTellsWrong : ChangeSpec := { name := "genTells", fn := fun _ => fun
  | [d1, d2, d3] => { results := [.lit (.bool false)], args := [d1, d2, d3] }
  | _ => none }
def GenTellsWrongFalsely : Prop := genTellsRow.holds Tryd.pinned (OpenSpec.ofChange genTellsWrong)

/-- 'assayerlaw1.RankTells': WHATEVER THE INPUT: true; the input reads as it did. -/
def rankTellsSpec : ChangeSpec := { name := "rankTells", fn := fun _ => fun
  | [d1, d2, d3] => { results := [.lit (.bool true)], args := [d1, d2, d3] }
  | _ => none }
def rankTellsRow : OpenClaim := { program := "ytffkppjmdelajaadoor", sum := "1376d99df08717e0c45fe197510237a882de2a4da0171a2ce3a680d254910f02", func := "assayer/assayerlaw1.RankTells", spec := "rankTells", inPlace := ["internal/reflectlite.ValueOf", "(internal/reflectlite.Value).Type", "(internal/reflectlite.Value).IsNil", "internal/reflectlite.TypeOf", "(internal/reflectlite.Value).Elem", "(internal/reflectlite.Value).Set"], unfollowed := true, recurses := true, named := ["errors.errorType"], loops := true, apart := false, laid := [("errors.errorType", laid_errors_errorType)] }
def RankTellsSaid : Prop := rankTellsRow.holds Tryd.pinned (OpenSpec.ofChange rankTellsSpec)

/-- ITS FALSE NEIGHBOUR: 'it returns false'. Refute it at one input. -/
def rankTellsWrong : ChangeSpec := { name := "rankTells", fn := fun _ => fun
  | [d1, d2, d3] => { results := [.lit (.bool false)], args := [d1, d2, d3] }
  | _ => none }
def RankTellsWrongFalsely : Prop := rankTellsRow.holds Tryd.pinned (OpenSpec.ofChange rankTellsWrong)

/-- 'assayerlaw1.ExprTells': WHATEVER THE INPUT: true; the input reads as it did. -/
def exprTellsSpec : ChangeSpec := { name := "exprTells", fn := fun _ => fun
  | [d1, d2] => { results := [.lit (.bool true)], args := [d1, d2] }
  | _ => none }
def exprTellsRow : OpenClaim := { program := "ytffkppjmdelajaadoor", sum := "1376d99df08717e0c45fe197510237a882de2a4da0171a2ce3a680d254910f02", func := "assayer/assayerlaw1.ExprTells", spec := "exprTells", inPlace := ["internal/reflectlite.ValueOf", "(internal/reflectlite.Value).Type", "(internal/reflectlite.Value).IsNil", "internal/reflectlite.TypeOf", "(internal/reflectlite.Value).Elem", "(internal/reflectlite.Value).Set"], unfollowed := true, recurses := true, named := ["assayer/expr.subsByKind", "errors.errorType"], loops := true, apart := false, laid := [("errors.errorType", laid_errors_errorType), ("assayer/expr.subsByKind", laid_assayer_expr_subsByKind)] }
def ExprTellsSaid : Prop := exprTellsRow.holds Tryd.pinned (OpenSpec.ofChange exprTellsSpec)

/-- ITS FALSE NEIGHBOUR: 'it returns false'. Refute it at one input. -/
def exprTellsWrong : ChangeSpec := { name := "exprTells", fn := fun _ => fun
  | [d1, d2] => { results := [.lit (.bool false)], args := [d1, d2] }
  | _ => none }
def ExprTellsWrongFalsely : Prop := exprTellsRow.holds Tryd.pinned (OpenSpec.ofChange exprTellsWrong)

/-- 'assayerlaw1.ExprMorgan': WHATEVER THE INPUT: true; the input reads as it did. -/
def exprMorganSpec : ChangeSpec := { name := "exprMorgan", fn := fun _ => fun
  | [d1, d2, d3] => { results := [.lit (.bool true)], args := [d1, d2, d3] }
  | _ => none }
def exprMorganRow : OpenClaim := { program := "ytffkppjmdelajaadoor", sum := "1376d99df08717e0c45fe197510237a882de2a4da0171a2ce3a680d254910f02", func := "assayer/assayerlaw1.ExprMorgan", spec := "exprMorgan", inPlace := ["internal/reflectlite.TypeOf"], unfollowed := true, recurses := true, named := ["assayer/expr.subsByKind"], loops := true, apart := false, laid := [("assayer/expr.subsByKind", laid_assayer_expr_subsByKind)] }
def ExprMorganSaid : Prop := exprMorganRow.holds Tryd.pinned (OpenSpec.ofChange exprMorganSpec)

/-- ITS FALSE NEIGHBOUR: 'it returns false'. Refute it at one input. -/
def exprMorganWrong : ChangeSpec := { name := "exprMorgan", fn := fun _ => fun
  | [d1, d2, d3] => { results := [.lit (.bool false)], args := [d1, d2, d3] }
  | _ => none }
def ExprMorganWrongFalsely : Prop := exprMorganRow.holds Tryd.pinned (OpenSpec.ofChange exprMorganWrong)

/-- 'assayerlaw1.ExprLess': WHATEVER THE INPUT: true; the input reads as it did. -/
def exprLessSpec : ChangeSpec := { name := "exprLess", fn := fun _ => fun
  | [d1, d2, d3, d4] => { results := [.lit (.bool true)], args := [d1, d2, d3, d4] }
  | _ => none }
def exprLessRow : OpenClaim := { program := "ytffkppjmdelajaadoor", sum := "1376d99df08717e0c45fe197510237a882de2a4da0171a2ce3a680d254910f02", func := "assayer/assayerlaw1.ExprLess", spec := "exprLess", unfollowed := true, recurses := true, named := ["assayer/expr.subsByKind"], loops := true, apart := false, laid := [("assayer/expr.subsByKind", laid_assayer_expr_subsByKind)] }
def ExprLessSaid : Prop := exprLessRow.holds Tryd.pinned (OpenSpec.ofChange exprLessSpec)

/-- ITS FALSE NEIGHBOUR: 'it returns false'. Refute it at one input. -/
def exprLessWrong : ChangeSpec := { name := "exprLess", fn := fun _ => fun
  | [d1, d2, d3, d4] => { results := [.lit (.bool false)], args := [d1, d2, d3, d4] }
  | _ => none }
def ExprLessWrongFalsely : Prop := exprLessRow.holds Tryd.pinned (OpenSpec.ofChange exprLessWrong)

/-- 'assayerlaw1.ExprLeft': WHATEVER THE INPUT: true; the input reads as it did. -/
def exprLeftSpec : ChangeSpec := { name := "exprLeft", fn := fun _ => fun
  | [d1, d2, d3] => { results := [.lit (.bool true)], args := [d1, d2, d3] }
  | _ => none }
def exprLeftRow : OpenClaim := { program := "ytffkppjmdelajaadoor", sum := "1376d99df08717e0c45fe197510237a882de2a4da0171a2ce3a680d254910f02", func := "assayer/assayerlaw1.ExprLeft", spec := "exprLeft", inPlace := ["internal/reflectlite.ValueOf", "(internal/reflectlite.Value).Type", "(internal/reflectlite.Value).IsNil", "internal/reflectlite.TypeOf", "(internal/reflectlite.Value).Elem", "(internal/reflectlite.Value).Set"], unfollowed := true, recurses := true, named := ["assayer/expr.subsByKind", "errors.errorType"], loops := true, apart := false, laid := [("errors.errorType", laid_errors_errorType), ("assayer/expr.subsByKind", laid_assayer_expr_subsByKind)] }
def ExprLeftSaid : Prop := exprLeftRow.holds Tryd.pinned (OpenSpec.ofChange exprLeftSpec)

/-- ITS FALSE NEIGHBOUR: 'it returns false'. Refute it at one input. -/
def exprLeftWrong : ChangeSpec := { name := "exprLeft", fn := fun _ => fun
  | [d1, d2, d3] => { results := [.lit (.bool false)], args := [d1, d2, d3] }
  | _ => none }
def ExprLeftWrongFalsely : Prop := exprLeftRow.holds Tryd.pinned (OpenSpec.ofChange exprLeftWrong)

/-- 'assayerlaw6.ExprTwice': WHATEVER THE INPUT: true; the input reads as it did. -/
def exprTwiceSpec : ChangeSpec := { name := "exprTwice", fn := fun _ => fun
  | [d1, d2, d3, d4] => { results := [.lit (.bool true)], args := [d1, d2, d3, d4] }
  | _ => none }
def exprTwiceRow : OpenClaim := { program := "ytffkppjmdelajaadoor", sum := "1376d99df08717e0c45fe197510237a882de2a4da0171a2ce3a680d254910f02", func := "assayer/assayerlaw6.ExprTwice", spec := "exprTwice", unfollowed := true, recurses := true, named := ["assayer/expr.subsByKind"], loops := true, apart := false, laid := [("assayer/expr.subsByKind", laid_assayer_expr_subsByKind)] }
def ExprTwiceSaid : Prop := exprTwiceRow.holds Tryd.pinned (OpenSpec.ofChange exprTwiceSpec)

/-- ITS FALSE NEIGHBOUR: 'it returns false'. Refute it at one input. -/
def exprTwiceWrong : ChangeSpec := { name := "exprTwice", fn := fun _ => fun
  | [d1, d2, d3, d4] => { results := [.lit (.bool false)], args := [d1, d2, d3, d4] }
  | _ => none }
def ExprTwiceWrongFalsely : Prop := exprTwiceRow.holds Tryd.pinned (OpenSpec.ofChange exprTwiceWrong)

/-- 'assayerlaw6.ExprSums': WHATEVER THE INPUT: true; the input reads as it did. -/
def exprSumsSpec : ChangeSpec := { name := "exprSums", fn := fun _ => fun
  | [d] => { results := [.lit (.bool true)], args := [d] }
  | _ => none }
def exprSumsRow : OpenClaim := { program := "ytffkppjmdelajaadoor", sum := "1376d99df08717e0c45fe197510237a882de2a4da0171a2ce3a680d254910f02", func := "assayer/assayerlaw6.ExprSums", spec := "exprSums", unfollowed := true, recurses := true, named := ["assayer/expr.subsByKind"], loops := true, apart := false, laid := [("assayer/expr.subsByKind", laid_assayer_expr_subsByKind)] }
def ExprSumsSaid : Prop := exprSumsRow.holds Tryd.pinned (OpenSpec.ofChange exprSumsSpec)

/-- ITS FALSE NEIGHBOUR: 'it returns false'. Refute it at one input. -/
def exprSumsWrong : ChangeSpec := { name := "exprSums", fn := fun _ => fun
  | [d] => { results := [.lit (.bool false)], args := [d] }
  | _ => none }
def ExprSumsWrongFalsely : Prop := exprSumsRow.holds Tryd.pinned (OpenSpec.ofChange exprSumsWrong)

/- THE SECOND FORM. 'bulk': how many values and letters a reading holds, each counted each time it is reached (what is shared counts as often as it is met; a slice's spare places count too). A statement '..UptoSaid' is the law's where the arguments, and the package variables that the reading takes, are together of bulk at most 1048576: NARROWER than '..Said'. Prove '..Said' where nothing that the law and all that it calls make is longer than what came in: it says more and counts as full. Else prove '..UptoSaid'. A law counts once. -/
mutual
def uptoBulk {H : Type} : DataW H → Nat
  | .lit (.string bytes) => bytes.length + 1
  | .lit _ => 1
  | .nil => 1
  | .ptr d => uptoBulk d + 1
  | .slice elems spare => uptoBulkAll elems + uptoBulkAll spare + 1
  | .agg parts => uptoBulkAll parts + 1
  | .iface _ d => uptoBulk d + 1
  | .map entries => uptoBulkEntries entries + 1
  | .held _ => 1
def uptoBulkAll {H : Type} : List (DataW H) → Nat
  | [] => 0
  | d :: r => uptoBulk d + uptoBulkAll r
def uptoBulkEntries {H : Type} : List (Lit × DataW H) → Nat
  | [] => 0
  | x :: r => uptoBulkEntry x + uptoBulkEntries r
def uptoBulkEntry {H : Type} : Lit × DataW H → Nat
  | (.string bytes, d) => bytes.length + uptoBulk d + 1
  | (_, d) => uptoBulk d + 1
 end
def uptoSmall : (H : Type) → List (DataW H) → Bool := fun _ ds => decide (uptoBulkAll ds ≤ 1048576)
def OpenSpec.upto (s : _root_.Go.ChangeSpec) : _root_.Go.OpenSpec := { _root_.Go.OpenSpec.ofChange s with cond := some uptoSmall }

/-- 'assayerlaw1.GenTells', WHERE WHAT IT READS IS OF BULK AT MOST 1048576: true; the input reads as it did. -/
def genTellsUptoRow : OpenClaim := { program := "ytffkppjmdelajaadoor", sum := "1376d99df08717e0c45fe197510237a882de2a4da0171a2ce3a680d254910f02", func := "assayer/assayerlaw1.GenTells", spec := "genTells", inPlace := ["internal/reflectlite.ValueOf", "(internal/reflectlite.Value).Type", "(internal/reflectlite.Value).IsNil", "internal/reflectlite.TypeOf", "(internal/reflectlite.Value).Elem", "(internal/reflectlite.Value).Set"], unfollowed := true, recurses := true, named := ["errors.errorType"], loops := true, apart := false, laid := [("errors.errorType", laid_errors_errorType)], narrowed := true }
def GenTellsUptoSaid : Prop := genTellsUptoRow.holds Tryd.pinned (OpenSpec.upto genTellsSpec)

/-- 'assayerlaw1.RankTells', WHERE WHAT IT READS IS OF BULK AT MOST 1048576: true; the input reads as it did. -/
def rankTellsUptoRow : OpenClaim := { program := "ytffkppjmdelajaadoor", sum := "1376d99df08717e0c45fe197510237a882de2a4da0171a2ce3a680d254910f02", func := "assayer/assayerlaw1.RankTells", spec := "rankTells", inPlace := ["internal/reflectlite.ValueOf", "(internal/reflectlite.Value).Type", "(internal/reflectlite.Value).IsNil", "internal/reflectlite.TypeOf", "(internal/reflectlite.Value).Elem", "(internal/reflectlite.Value).Set"], unfollowed := true, recurses := true, named := ["errors.errorType"], loops := true, apart := false, laid := [("errors.errorType", laid_errors_errorType)], narrowed := true }
def RankTellsUptoSaid : Prop := rankTellsUptoRow.holds Tryd.pinned (OpenSpec.upto rankTellsSpec)

/-- 'assayerlaw1.ExprTells', WHERE WHAT IT READS IS OF BULK AT MOST 1048576: true; the input reads as it did. -/
def exprTellsUptoRow : OpenClaim := { program := "ytffkppjmdelajaadoor", sum := "1376d99df08717e0c45fe197510237a882de2a4da0171a2ce3a680d254910f02", func := "assayer/assayerlaw1.ExprTells", spec := "exprTells", inPlace := ["internal/reflectlite.ValueOf", "(internal/reflectlite.Value).Type", "(internal/reflectlite.Value).IsNil", "internal/reflectlite.TypeOf", "(internal/reflectlite.Value).Elem", "(internal/reflectlite.Value).Set"], unfollowed := true, recurses := true, named := ["assayer/expr.subsByKind", "errors.errorType"], loops := true, apart := false, laid := [("errors.errorType", laid_errors_errorType), ("assayer/expr.subsByKind", laid_assayer_expr_subsByKind)], narrowed := true }
def ExprTellsUptoSaid : Prop := exprTellsUptoRow.holds Tryd.pinned (OpenSpec.upto exprTellsSpec)

/-- 'assayerlaw1.ExprMorgan', WHERE WHAT IT READS IS OF BULK AT MOST 1048576: true; the input reads as it did. -/
def exprMorganUptoRow : OpenClaim := { program := "ytffkppjmdelajaadoor", sum := "1376d99df08717e0c45fe197510237a882de2a4da0171a2ce3a680d254910f02", func := "assayer/assayerlaw1.ExprMorgan", spec := "exprMorgan", inPlace := ["internal/reflectlite.TypeOf"], unfollowed := true, recurses := true, named := ["assayer/expr.subsByKind"], loops := true, apart := false, laid := [("assayer/expr.subsByKind", laid_assayer_expr_subsByKind)], narrowed := true }
def ExprMorganUptoSaid : Prop := exprMorganUptoRow.holds Tryd.pinned (OpenSpec.upto exprMorganSpec)

/-- 'assayerlaw1.ExprLess', WHERE WHAT IT READS IS OF BULK AT MOST 1048576: true; the input reads as it did. -/
def exprLessUptoRow : OpenClaim := { program := "ytffkppjmdelajaadoor", sum := "1376d99df08717e0c45fe197510237a882de2a4da0171a2ce3a680d254910f02", func := "assayer/assayerlaw1.ExprLess", spec := "exprLess", unfollowed := true, recurses := true, named := ["assayer/expr.subsByKind"], loops := true, apart := false, laid := [("assayer/expr.subsByKind", laid_assayer_expr_subsByKind)], narrowed := true }
def ExprLessUptoSaid : Prop := exprLessUptoRow.holds Tryd.pinned (OpenSpec.upto exprLessSpec)

/-- 'assayerlaw1.ExprLeft', WHERE WHAT IT READS IS OF BULK AT MOST 1048576: true; the input reads as it did. -/
def exprLeftUptoRow : OpenClaim := { program := "ytffkppjmdelajaadoor", sum := "1376d99df08717e0c45fe197510237a882de2a4da0171a2ce3a680d254910f02", func := "assayer/assayerlaw1.ExprLeft", spec := "exprLeft", inPlace := ["internal/reflectlite.ValueOf", "(internal/reflectlite.Value).Type", "(internal/reflectlite.Value).IsNil", "internal/reflectlite.TypeOf", "(internal/reflectlite.Value).Elem", "(internal/reflectlite.Value).Set"], unfollowed := true, recurses := true, named := ["assayer/expr.subsByKind", "errors.errorType"], loops := true, apart := false, laid := [("errors.errorType", laid_errors_errorType), ("assayer/expr.subsByKind", laid_assayer_expr_subsByKind)], narrowed := true }
def ExprLeftUptoSaid : Prop := exprLeftUptoRow.holds Tryd.pinned (OpenSpec.upto exprLeftSpec)

/-- 'assayerlaw6.ExprTwice', WHERE WHAT IT READS IS OF BULK AT MOST 1048576: true; the input reads as it did. -/
def exprTwiceUptoRow : OpenClaim := { program := "ytffkppjmdelajaadoor", sum := "1376d99df08717e0c45fe197510237a882de2a4da0171a2ce3a680d254910f02", func := "assayer/assayerlaw6.ExprTwice", spec := "exprTwice", unfollowed := true, recurses := true, named := ["assayer/expr.subsByKind"], loops := true, apart := false, laid := [("assayer/expr.subsByKind", laid_assayer_expr_subsByKind)], narrowed := true }
def ExprTwiceUptoSaid : Prop := exprTwiceUptoRow.holds Tryd.pinned (OpenSpec.upto exprTwiceSpec)

/-- 'assayerlaw6.ExprSums', WHERE WHAT IT READS IS OF BULK AT MOST 1048576: true; the input reads as it did. -/
def exprSumsUptoRow : OpenClaim := { program := "ytffkppjmdelajaadoor", sum := "1376d99df08717e0c45fe197510237a882de2a4da0171a2ce3a680d254910f02", func := "assayer/assayerlaw6.ExprSums", spec := "exprSums", unfollowed := true, recurses := true, named := ["assayer/expr.subsByKind"], loops := true, apart := false, laid := [("assayer/expr.subsByKind", laid_assayer_expr_subsByKind)], narrowed := true }
def ExprSumsUptoSaid : Prop := exprSumsUptoRow.holds Tryd.pinned (OpenSpec.upto exprSumsSpec)

end Rows
end Go.Proofs.YtffkppjmdelajaaDoor
