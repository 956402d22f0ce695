/- Are two arrays of two numbers unlike? Conditions: none. -/
import Derived.Test.YteaicmjihckbjaaPartsF
import Derived.ChangeKeysEq
namespace Go.Proofs.Yteaicmjihckbjaa.Bnd
open Go.RowKit Ints Vals Arr
set_option linter.unusedVariables false

set_option maxRecDepth 100000 in
theorem pair_neq (a b c d : Int) (w : World) : (binOp .neq 32 (.agg #[.int .i64 a, .int .i64 b]) (.agg #[.int .i64 c, .int .i64 d])).run Try.prog w = .ok (.bool (!(a == c && b == d))) w := by
  obtain ⟨i0, h1, h2, h3, h4⟩ := info_parts int_info
  have hA : (Op.equalIn 10000 32 (.agg #[.int .i64 a, .int .i64 b]) (.agg #[.int .i64 c, .int .i64 d])).run Try.prog w = (Op.eqItems 9999 3 (Try.prog.cellsOf 3) #[.int .i64 a, .int .i64 b] #[.int .i64 c, .int .i64 d] (List.range 2)).run Try.prog w := run_equalIn_array (P := Try.prog) w 9999 #[.int .i64 a, .int .i64 b] #[.int .i64 c, .int .i64 d] Try.underlying32 h1
  have hE : ∀ x y : Int, (Op.equalIn 9999 3 (.int .i64 x) (.int .i64 y)).run Try.prog w = .ok (x == y) w := fun x y => run_equalIn_int w 9998 3 .i64 .i64 x y Try.underlying3
  have hp : ∀ (xs : Array Value) (i : Nat) (v : Value), xs[i]? = some v → (part 3 xs i).run Try.prog w = .ok v w := fun xs i v hv => by
    simp [part, isAgg, run_underlying Try.underlying3, hv, go_sem]
  rw [cellsInt, show List.range 2 = [0, 1] from rfl] at hA
  simp only [Op.eqItems, Sem.run_bind, Nat.zero_mul, Nat.one_mul] at hA
  rw [hp #[.int .i64 a, .int .i64 b] 0 (.int .i64 a) rfl] at hA
  simp only [Result.andThen_ok] at hA
  rw [hp #[.int .i64 c, .int .i64 d] 0 (.int .i64 c) rfl] at hA
  simp only [Result.andThen_ok, hE] at hA
  have g1 := hp #[.int .i64 a, .int .i64 b] 1 (.int .i64 b) rfl
  have g2 := hp #[.int .i64 c, .int .i64 d] 1 (.int .i64 d) rfl
  have hO : (binOp .neq 32 (.agg #[.int .i64 a, .int .i64 b]) (.agg #[.int .i64 c, .int .i64 d])).run Try.prog w = ((Op.equalIn 10000 32 (.agg #[.int .i64 a, .int .i64 b]) (.agg #[.int .i64 c, .int .i64 d])).run Try.prog w).andThen fun r w' => .ok (.bool (!r)) w' := by
    simp only [binOp, Op.equal, Sem.run_bind, Sem.run_pure]
    rfl
  rw [hO, hA]
  cases h : a == c
  · simp
  · cases h' : b == d <;> simp [g1, g2, hE, h']
end Go.Proofs.Yteaicmjihckbjaa.Bnd
