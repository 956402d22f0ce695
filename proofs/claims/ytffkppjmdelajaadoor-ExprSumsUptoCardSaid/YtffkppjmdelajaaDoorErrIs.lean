/- errors.Is of the program's own errors: of none, and of two numbers. Conditions: none. -/
import Derived.Test.YtffkppjmdelajaaDoorErr
import Derived.WalkKit
import Derived.LaidEql
import Derived.Stop.Asserts
import Derived.RowKitTokens
import Derived.Below
namespace Go.Proofs.YtffkppjmdelajaaDoor.Vals
open Go.RowKit Go.Extern.Stop Go.Stop Go.Extern
set_option linter.unusedVariables false

theorem errnoComp : (Tryd.prog.info? 30).map (·.comparable) = some true := by kernel_rfl
theorem eql_errno (a b : Int) (w : World) : (binOp .eql 34 (.iface 30 (.int .i64 a)) (.iface 30 (.int .i64 b))).run Tryd.prog w = .ok (.bool (a == b)) w := by
  obtain ⟨i, hi, hc⟩ := Option.map_eq_some_iff.1 errnoComp
  have h : ∀ d, (Op.equalIn (d + 2) 34 (.iface 30 (.int .i64 a)) (.iface 30 (.int .i64 b))).run Tryd.prog w = .ok (a == b) w := fun d => by
    simp [Op.equalIn, run_underlying Tryd.underlying34, run_underlying Tryd.underlying30, typeInfo, hi, hc]
  simp only [binOp]
  simp [Op.equal, Op.maxDepth, h 9998]
theorem isTypeOf (v : Value) (w : World) : (Extern.ReflectliteType.typeOf #[.iface 30 v]).run Tryd.prog w = .ok (.iface 140 (.agg #[.pointer (some ⟨2, 30, none⟩)])) w := by kernel_rfl
theorem isComparable (w : World) : ((Extern.ReflectliteType.method fun t => do Rtype.noPackHeld "Comparable" t; pure (.bool (← typeInfo t).comparable)) #[.agg #[.pointer (some ⟨2, 30, none⟩)]]).run Tryd.prog w = .ok (.bool true) w := by kernel_rfl
theorem isMethodComparable (v : Value) (w : World) : (Go.method 294 140 v "Comparable").run Tryd.prog w = .ok (134, v) w := by kernel_rfl
theorem noIsE (v : Value) (xT : TypeId) (w : World) : (Instr.typeAssert (.iface 30 v) xT 142 true).run Tryd.prog w = .ok (.tuple #[.nilIface, .bool false]) w := run_typeAssert_lacksB Tryd.underlying142 (by kernel_rfl) (by kernel_rfl) v xT w
theorem noUnwrapE (v : Value) (xT : TypeId) (w : World) : (Instr.typeAssert (.iface 30 v) xT 145 true).run Tryd.prog w = .ok (.tuple #[.nilIface, .bool false]) w := run_typeAssert_lacksB Tryd.underlying145 (by kernel_rfl) (by kernel_rfl) v xT w
theorem noUnwrapsE (v : Value) (xT : TypeId) (w : World) : (Instr.typeAssert (.iface 30 v) xT 147 true).run Tryd.prog w = .ok (.tuple #[.nilIface, .bool false]) w := run_typeAssert_lacksB Tryd.underlying147 (by kernel_rfl) (by kernel_rfl) v xT w

theorem is_none (b : Int) (w : World) : Calls Tryd.prog 66 #[.nilIface, .iface 30 (.int .i64 b)] w fun e w' => e = .returned (.bool false) ∧ Below w.heap.size w w' := by
  have hn := run_eql_iface_nil_left (P := Tryd.prog) w 30 (.int .i64 b) Tryd.underlying34
  go_enter Tryd.func66, Tryd.ntmps66
  go_wp2
  go_ret
  exact ⟨rfl, Below.refl _ _⟩
theorem is_inner (a b : Int) (w : World) : Calls Tryd.prog 87 #[.iface 30 (.int .i64 a), .iface 30 (.int .i64 b), .bool true] w fun e w' => e = .returned (.bool (a == b)) ∧ w = w' := by
  have eq := eql_errno a b w
  have nE := noIsE
  have uE := noUnwrapE
  have vE := noUnwrapsE
  cases h : (a == b) with
  | true =>
    rw [h] at eq
    clear h
    go_enter Tryd.func87, Tryd.ntmps87
    go_wp2
    refine wp_loop_rounds 1 ?_
    rw [rounds_succ]
    go_wp2
    go_ret
    exact ⟨rfl, rfl⟩
  | false =>
    rw [h] at eq
    clear h
    go_enter Tryd.func87, Tryd.ntmps87
    go_wp2
    refine wp_loop_rounds 1 ?_
    rw [rounds_succ]
    go_wp2
    go_ret
    exact ⟨rfl, rfl⟩
set_option maxRecDepth 100000 in
theorem call_typeOf (v : Value) (w : World) : (callFunc 86 #[.iface 30 v]).run Tryd.prog w = .ok (.value (.iface 140 (.agg #[.pointer (some ⟨2, 30, none⟩)]))) w := by
  rw [@run_callFunc_extern Tryd.prog 86 _ Extern.ReflectliteType.typeOf Tryd.func86 (by kernel_rfl) (by kernel_rfl) (by kernel_rfl) (by kernel_rfl), isTypeOf]
  rfl
set_option maxRecDepth 100000 in
theorem call_comparable (w : World) : (callFunc 134 #[.agg #[.pointer (some ⟨2, 30, none⟩)]]).run Tryd.prog w = .ok (.value (.bool true)) w := by
  rw [@run_callFunc_extern Tryd.prog 134 _ (Extern.ReflectliteType.method fun t => do Rtype.noPackHeld "Comparable" t; pure (.bool (← typeInfo t).comparable)) Tryd.func134 (by kernel_rfl) (by kernel_rfl) (by kernel_rfl) (by kernel_rfl), isComparable]
  rfl
theorem is_errno (a b : Int) (w : World) : Calls Tryd.prog 66 #[.iface 30 (.int .i64 a), .iface 30 (.int .i64 b)] w fun e w' => e = .returned (.bool (a == b)) ∧ Below w.heap.size w w' := by
  have tT := call_typeOf
  have cT := call_comparable
  have mR := isMethodComparable
  have IN := Lib.hid (is_inner a b)
  go_enter Tryd.func66, Tryd.ntmps66
  go_wp2_with fail
  refine (IN.out _).mono ?_
  rintro e w1 ⟨rfl, rfl⟩
  go_wp2_with fail
  go_ret
  exact ⟨rfl, Below.refl _ _⟩
/-- of an error by its number -/
theorem is_of (f b : Int) (w : World) : Calls Tryd.prog 66 #[errOf f, .iface 30 (.int .i64 b)] w fun e w' => e = .returned (.bool (!(f == 0) && (f == b))) ∧ Below w.heap.size w w' := by
  by_cases h : f = 0
  · subst h
    rw [errOf_ok]
    exact is_none b w
  · rw [errOf_no h, show (f == 0) = false by rw [beq_eq_false_iff_ne]; exact h]
    exact is_errno f b w
end Go.Proofs.YtffkppjmdelajaaDoor.Vals
