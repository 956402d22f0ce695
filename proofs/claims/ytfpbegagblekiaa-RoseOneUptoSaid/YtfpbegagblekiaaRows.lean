/-
  NARROWER THAN 'FOR EVERY INPUT', by the rows' own cells (each row's printed sentence says how): RoseLess: loops · RoseNone: loops.
  DERIVED. THE GIVEN ROWS OF THIS SEAT. 3 by the template 'for every input the law returns true; each argument reads behind the call as it read before'; 0 by the template 'total and deterministic' (their statements: YtfpbegagblekiaaTotals.lean).
  GIVEN WITH THE SEED: the statements are not yours to turn. If you find one false, say at which input.
  Laid BY PROGRAM, IN A SANDBOX (cutbox-rows.mjs): the forced cells as the released guide's own fill.sh prints them over the translation b2bf519fa43a8adb… (all of the seat's roots in one cut). By AI agents, Wed Nov 11 2026. No macro, syntax, notation, axiom, sorry.
-/
import Derived.Test.YtfpbegagblekiaaChecked
import GoSem.Claim
import GoSem.ClaimJoined
import GoSem.ClaimMapViews
import Derived.JoinedTies
import Derived.KernelRfl
namespace Go.Proofs.Ytfpbegagblekiaa
/- THE CELL 'sum', in the pinned program and in every row, IS THE sha256 OF THE DUMP (.gsa) THAT YtfpbegagblekiaaProg.lean LOADS. Nothing in Lean hashes anything: it is a label: what it is worth is what the hold of that sum in a sandbox is worth. -/
noncomputable def Try.pinned : Pinned := { name := "ytfpbegagblekiaa", sum := "b2bf519fa43a8adb59ccfd7090c9083bf358664a0a91906fc38b3f0e952b16ae", checked := Try.checked }
namespace Rows
def none {H : Type} : Left H := { results := [], args := [] }

/-- 'assayerlaw1.RoseLess': WHATEVER THE INPUT: true; the input reads as it did. -/
def roseLessSpec : ChangeSpec := { name := "roseLess", fn := fun _ => fun
  | [d1, d2] => { results := [.lit (.bool true)], args := [d1, d2] }
  | _ => none }
def roseLessRow : OpenClaim := { program := "ytfpbegagblekiaa", sum := "b2bf519fa43a8adb59ccfd7090c9083bf358664a0a91906fc38b3f0e952b16ae", func := "assayer/assayerlaw1.RoseLess", spec := "roseLess", unfollowed := true, recurses := true, loops := true, apart := false }
def RoseLessSaid : Prop := roseLessRow.holds Try.pinned (OpenSpec.ofChange roseLessSpec)

/-- ITS FALSE NEIGHBOUR: 'it returns false'. Refute it at one input. -/
def roseLessWrong : ChangeSpec := { name := "roseLess", fn := fun _ => fun
  | [d1, d2] => { results := [.lit (.bool false)], args := [d1, d2] }
  | _ => none }
def RoseLessWrongFalsely : Prop := roseLessRow.holds Try.pinned (OpenSpec.ofChange roseLessWrong)

/-- 'assayerlaw1.RoseOne': WHATEVER THE INPUT: true; the input reads as it did. -/
def roseOneSpec : ChangeSpec := { name := "roseOne", fn := fun _ => fun
  | [d1, d2, d3] => { results := [.lit (.bool true)], args := [d1, d2, d3] }
  | _ => none }
def roseOneRow : OpenClaim := { program := "ytfpbegagblekiaa", sum := "b2bf519fa43a8adb59ccfd7090c9083bf358664a0a91906fc38b3f0e952b16ae", func := "assayer/assayerlaw1.RoseOne", spec := "roseOne", unfollowed := true, recurses := true, apart := false }
def RoseOneSaid : Prop := roseOneRow.holds Try.pinned (OpenSpec.ofChange roseOneSpec)

/-- ITS FALSE NEIGHBOUR: 'it returns false'. Refute it at one input. -/
def roseOneWrong : ChangeSpec := { name := "roseOne", fn := fun _ => fun
  | [d1, d2, d3] => { results := [.lit (.bool false)], args := [d1, d2, d3] }
  | _ => none }
def RoseOneWrongFalsely : Prop := roseOneRow.holds Try.pinned (OpenSpec.ofChange roseOneWrong)

/-- 'assayerlaw6.RoseNone': WHATEVER THE INPUT: true; the input reads as it did. -/
def roseNoneSpec : ChangeSpec := { name := "roseNone", fn := fun _ => fun
  | [d1, d2] => { results := [.lit (.bool true)], args := [d1, d2] }
  | _ => none }
def roseNoneRow : OpenClaim := { program := "ytfpbegagblekiaa", sum := "b2bf519fa43a8adb59ccfd7090c9083bf358664a0a91906fc38b3f0e952b16ae", func := "assayer/assayerlaw6.RoseNone", spec := "roseNone", unfollowed := true, recurses := true, loops := true, apart := false }
def RoseNoneSaid : Prop := roseNoneRow.holds Try.pinned (OpenSpec.ofChange roseNoneSpec)

/-- ITS FALSE NEIGHBOUR: 'it returns false'. Refute it at one input. -/
def roseNoneWrong : ChangeSpec := { name := "roseNone", fn := fun _ => fun
  | [d1, d2] => { results := [.lit (.bool false)], args := [d1, d2] }
  | _ => none }
def RoseNoneWrongFalsely : Prop := roseNoneRow.holds Try.pinned (OpenSpec.ofChange roseNoneWrong)

/- THE SECOND FORM. 'bulk': how many values and letters a reading holds, each counted each time it is reached (what is shared counts as often as it is met; a slice's spare places count too). A statement '..UptoSaid' is the law's where the arguments, and the package variables that the reading takes, are together of bulk at most 1048576: NARROWER than '..Said'. Prove '..Said' where nothing that the law and all that it calls make is longer than what came in: it says more and counts as full. Else prove '..UptoSaid'. A law counts once. -/
mutual
def uptoBulk {H : Type} : DataW H → Nat
  | .lit (.string bytes) => bytes.length + 1
  | .lit _ => 1
  | .nil => 1
  | .ptr d => uptoBulk d + 1
  | .slice elems spare => uptoBulkAll elems + uptoBulkAll spare + 1
  | .agg parts => uptoBulkAll parts + 1
  | .iface _ d => uptoBulk d + 1
  | .map entries => uptoBulkEntries entries + 1
  | .held _ => 1
def uptoBulkAll {H : Type} : List (DataW H) → Nat
  | [] => 0
  | d :: r => uptoBulk d + uptoBulkAll r
def uptoBulkEntries {H : Type} : List (Lit × DataW H) → Nat
  | [] => 0
  | x :: r => uptoBulkEntry x + uptoBulkEntries r
def uptoBulkEntry {H : Type} : Lit × DataW H → Nat
  | (.string bytes, d) => bytes.length + uptoBulk d + 1
  | (_, d) => uptoBulk d + 1
 end
def uptoSmall : (H : Type) → List (DataW H) → Bool := fun _ ds => decide (uptoBulkAll ds ≤ 1048576)
def OpenSpec.upto (s : _root_.Go.ChangeSpec) : _root_.Go.OpenSpec := { _root_.Go.OpenSpec.ofChange s with cond := some uptoSmall }

/-- 'assayerlaw1.RoseLess', WHERE WHAT IT READS IS OF BULK AT MOST 1048576: true; the input reads as it did. -/
def roseLessUptoRow : OpenClaim := { program := "ytfpbegagblekiaa", sum := "b2bf519fa43a8adb59ccfd7090c9083bf358664a0a91906fc38b3f0e952b16ae", func := "assayer/assayerlaw1.RoseLess", spec := "roseLess", unfollowed := true, recurses := true, loops := true, apart := false, narrowed := true }
def RoseLessUptoSaid : Prop := roseLessUptoRow.holds Try.pinned (OpenSpec.upto roseLessSpec)

/-- 'assayerlaw1.RoseOne', WHERE WHAT IT READS IS OF BULK AT MOST 1048576: true; the input reads as it did. -/
def roseOneUptoRow : OpenClaim := { program := "ytfpbegagblekiaa", sum := "b2bf519fa43a8adb59ccfd7090c9083bf358664a0a91906fc38b3f0e952b16ae", func := "assayer/assayerlaw1.RoseOne", spec := "roseOne", unfollowed := true, recurses := true, apart := false, narrowed := true }
def RoseOneUptoSaid : Prop := roseOneUptoRow.holds Try.pinned (OpenSpec.upto roseOneSpec)

/-- 'assayerlaw6.RoseNone', WHERE WHAT IT READS IS OF BULK AT MOST 1048576: true; the input reads as it did. -/
def roseNoneUptoRow : OpenClaim := { program := "ytfpbegagblekiaa", sum := "b2bf519fa43a8adb59ccfd7090c9083bf358664a0a91906fc38b3f0e952b16ae", func := "assayer/assayerlaw6.RoseNone", spec := "roseNone", unfollowed := true, recurses := true, loops := true, apart := false, narrowed := true }
def RoseNoneUptoSaid : Prop := roseNoneUptoRow.holds Try.pinned (OpenSpec.upto roseNoneSpec)

end Rows
end Go.Proofs.Ytfpbegagblekiaa
