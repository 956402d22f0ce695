/- Two lists of quadruples that are alike (assayersame.Fours): it draws its order. Conditions: the sizes. -/
import Derived.Test.YtbajkbkfinineaaDoorPairC
import Derived.Test.YtbajkbkfinineaaDoorList
import Derived.ChangeKeysEq
import Derived.BigQuiet
namespace Go.Proofs.YtbajkbkfinineaaDoor.Pair
open Go.RowKit Ints Lists Vals Arr
set_option linter.unusedVariables false

set_option maxRecDepth 100000 in
theorem four_same (a b c d : Int) (w : World) : (binOp .neq 46 (.agg #[.int .i64 a, .int .i64 b, .int .i64 c, .int .i64 d]) (.agg #[.int .i64 a, .int .i64 b, .int .i64 c, .int .i64 d])).run Tryd.prog w = .ok (.bool false) w := by
  obtain ⟨i0, h1, h2, h3, h4⟩ := info_parts int_info
  have hA : (Op.equalIn 10000 46 (.agg #[.int .i64 a, .int .i64 b, .int .i64 c, .int .i64 d]) (.agg #[.int .i64 a, .int .i64 b, .int .i64 c, .int .i64 d])).run Tryd.prog w = (Op.eqItems 9999 3 (Tryd.prog.cellsOf 3) #[.int .i64 a, .int .i64 b, .int .i64 c, .int .i64 d] #[.int .i64 a, .int .i64 b, .int .i64 c, .int .i64 d] (List.range 4)).run Tryd.prog w := run_equalIn_array (P := Tryd.prog) w 9999 #[.int .i64 a, .int .i64 b, .int .i64 c, .int .i64 d] #[.int .i64 a, .int .i64 b, .int .i64 c, .int .i64 d] Tryd.underlying46 h1
  have hE : ∀ x : Int, (Op.equalIn 9999 3 (.int .i64 x) (.int .i64 x)).run Tryd.prog w = .ok true w := fun x => by
    have := run_equalIn_int (P := Tryd.prog) w 9998 3 .i64 .i64 x x Tryd.underlying3
    simpa using this
  have hp : ∀ (i : Nat) (v : Value), (#[.int .i64 a, .int .i64 b, .int .i64 c, .int .i64 d] : Array Value)[i]? = some v → (part 3 #[.int .i64 a, .int .i64 b, .int .i64 c, .int .i64 d] i).run Tryd.prog w = .ok v w := fun i v hv => by
    simp [part, isAgg, run_underlying Tryd.underlying3, hv, go_sem]
  have g0 := hp 0 (.int .i64 a) rfl
  have g1 := hp 1 (.int .i64 b) rfl
  have g2 := hp 2 (.int .i64 c) rfl
  have g3 := hp 3 (.int .i64 d) rfl
  have hO : (binOp .neq 46 (.agg #[.int .i64 a, .int .i64 b, .int .i64 c, .int .i64 d]) (.agg #[.int .i64 a, .int .i64 b, .int .i64 c, .int .i64 d])).run Tryd.prog w = ((Op.equalIn 10000 46 (.agg #[.int .i64 a, .int .i64 b, .int .i64 c, .int .i64 d]) (.agg #[.int .i64 a, .int .i64 b, .int .i64 c, .int .i64 d])).run Tryd.prog w).andThen fun r w' => .ok (.bool (!r)) w' := by
    simp only [binOp, Op.equal, Sem.run_bind, Sem.run_pure]
    rfl
  rw [hO, hA, cellsInt, show List.range 4 = [0, 1, 2, 3] from rfl]
  simp [Op.eqItems, Sem.run_bind, g0, g1, g2, g3, hE]

set_option maxHeartbeats 2000000 in
theorem fours_same (z : List Quad) (A B : Option Addr) (c d : Nat) {S S' : Nat → Prop} (hz : z.length ≤ maxLen) (w : World) (ha : AtE 4 four w S A z) (hb : AtE 4 four w S' B z) :
    Calls Tryd.prog 11 #[.slice A z.length c, .slice B z.length d] w fun e w' => e = .returned (.bool true) ∧ Below w.heap.size w w' := by
  unfold maxLen at hz
  have HA := Lib.hid ha
  have HB := Lib.hid hb
  clear ha hb
  go_enter Tryd.func11, Tryd.ntmps11
  go_wp2
  go_loopw [5] (fun i wr => ∃ k n : Nat, k ≤ z.length ∧ i = .int .i64 k ∧ wr = w.drewN n) (fun i _ => z.length - (intOf i).toNat)
  case atStart => exact ⟨0, 0, Nat.zero_le _, rfl, rfl⟩
  case round =>
    obtain ⟨k, n, hk, rfl, rfl⟩ := hrel
    by_cases h1 : k < z.length
    · obtain ⟨b, off, rfl, _, hc⟩ := four_cells HA.out (by omega)
      obtain ⟨c0, c1, c2, c3⟩ := hc k h1
      clear hc
      obtain ⟨b2, off2, rfl, _, hc2⟩ := four_cells HB.out (by omega)
      obtain ⟨d0, d1, d2, d3⟩ := hc2 k h1
      clear hc2
      generalize z[k].a = qa at *
      generalize z[k].x = qx at *
      generalize z[k].b = qb at *
      generalize z[k].y = qy at *
      have SM := fun W => four_same qa qx qb qy W
      have h1i : (k : Int) < z.length := by omega
      go_wp2
      go_quiet (fail)
      go_wp2
      go_roundw
      case rel => exact ⟨k + 1, _, by omega, by go_num, rfl⟩
      case measure => simp [intOf]; omega
    · go_wp2
      go_ret
      exact ⟨rfl, below_drewN w n⟩
end Go.Proofs.YtbajkbkfinineaaDoor.Pair
