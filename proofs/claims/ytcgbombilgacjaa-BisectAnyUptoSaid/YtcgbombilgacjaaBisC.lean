/- Bisection: what a function value that is asked of numbers does; what First tells. Contracts; no program. -/
import Derived.Test.YtcgbombilgacjaaBisL
import Derived.Test.YtcgbombilgacjaaMv
import Derived.Test.YtcgbombilgacjaaErr
namespace Go.Proofs.Ytcgbombilgacjaa.Bis
open Go.RowKit Vals
set_option linter.unusedVariables false

theorem bis_new (w : World) (o : Obj) : (w.alloc o).heap[w.heap.size]? = some o := by
  show (w.heap.push o)[w.heap.size]? = _
  simp

abbrev bfv (k : Nat) (cap : Array Value) : Value := .func (.func k) #[] cap
/-- a function value that tells P of the numbers below n, and may write into the blocks X, all below B: I j, it was asked j times -/
structure BadF (k : Nat) (cap : Array Value) (B : Nat) (n : Int) (P : Int → Bool) (X : Nat → Prop) (I : Nat → World → Prop) : Prop where
  ent : ∀ args w, (callFunc k args).run Try.prog w = .ok (.enter k args) w
  lt : ∀ b, X b → b < B
  keep : ∀ j w w', I j w → Below B w w' → I j w'
  call : ∀ j w x, 0 ≤ x → x < n → j ≤ 100 → I j w → Calls Try.prog k (#[.int .i64 x] ++ cap) w fun e w' => e = .returned (.bool (P x)) ∧ I (j + 1) w' ∧ Mv X w w' X
/-- what First tells -/
def FiPost (P : Int → Bool) (n : Int) (X : Nat → Prop) (I : Nat → World → Prop) (w : World) (e : Ending) (w' : World) : Prop :=
  ∃ (v q : Int) (j : Nat), e = .returned (.tuple #[.int .i64 v, errOf q]) ∧ FirstOk P n v q ∧ j ≤ bitsN n.toNat ∧ (¬ (0 ≤ n ∧ n ≤ 1073741824) → j = 0) ∧ I j w' ∧ Mv X w w' X
end Go.Proofs.Ytcgbombilgacjaa.Bis
