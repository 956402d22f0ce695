/- TopFails, part 28 of the proof: errors.Is of the program's own errors: of none, and of two numbers. Conditions: none. · Contracts of val.Check and what it calls. Conditions: the size. -/
import Derived.Test.YtabkihellcflhaaGreatDoorTopFailsZ3
import Derived.WalkKit
import Derived.LaidEql
import Derived.Stop.Asserts
import Derived.RowKitTokens
import Derived.Below
import Derived.Test.YtabkihellcflhaaGreatDoorTopFailsZ25
/- errors.Is of the program's own errors: of none, and of two numbers. Conditions: none. -/
namespace Go.Proofs.YtabkihellcflhaaGreatDoor.Vals
open Go.RowKit Go.Extern.Stop Go.Stop Go.Extern
set_option linter.unusedVariables false

theorem errnoComp : (Tryz.prog.info? 29).map (·.comparable) = some true := by kernel_rfl
theorem eql_errno (a b : Int) (w : World) : (binOp .eql 37 (.iface 29 (.int .i64 a)) (.iface 29 (.int .i64 b))).run Tryz.prog w = .ok (.bool (a == b)) w := by
  obtain ⟨i, hi, hc⟩ := Option.map_eq_some_iff.1 errnoComp
  have h : ∀ d, (Op.equalIn (d + 2) 37 (.iface 29 (.int .i64 a)) (.iface 29 (.int .i64 b))).run Tryz.prog w = .ok (a == b) w := fun d => by
    simp [Op.equalIn, run_underlying Tryz.underlying37, run_underlying Tryz.underlying29, typeInfo, hi, hc]
  simp only [binOp]
  simp [Op.equal, Op.maxDepth, h 9998]
theorem isTypeOf (v : Value) (w : World) : (Extern.ReflectliteType.typeOf #[.iface 29 v]).run Tryz.prog w = .ok (.iface 146 (.agg #[.pointer (some ⟨2, 29, none⟩)])) w := by kernel_rfl
theorem isComparable (w : World) : ((Extern.ReflectliteType.method fun t => do Rtype.noPackHeld "Comparable" t; pure (.bool (← typeInfo t).comparable)) #[.agg #[.pointer (some ⟨2, 29, none⟩)]]).run Tryz.prog w = .ok (.bool true) w := by kernel_rfl
theorem isMethodComparable (v : Value) (w : World) : (Go.method 313 146 v "Comparable").run Tryz.prog w = .ok (151, v) w := by kernel_rfl
theorem noIsE (v : Value) (xT : TypeId) (w : World) : (Instr.typeAssert (.iface 29 v) xT 148 true).run Tryz.prog w = .ok (.tuple #[.nilIface, .bool false]) w := run_typeAssert_lacksB Tryz.underlying148 (by kernel_rfl) (by kernel_rfl) v xT w
theorem noUnwrapE (v : Value) (xT : TypeId) (w : World) : (Instr.typeAssert (.iface 29 v) xT 151 true).run Tryz.prog w = .ok (.tuple #[.nilIface, .bool false]) w := run_typeAssert_lacksB Tryz.underlying151 (by kernel_rfl) (by kernel_rfl) v xT w
theorem noUnwrapsE (v : Value) (xT : TypeId) (w : World) : (Instr.typeAssert (.iface 29 v) xT 153 true).run Tryz.prog w = .ok (.tuple #[.nilIface, .bool false]) w := run_typeAssert_lacksB Tryz.underlying153 (by kernel_rfl) (by kernel_rfl) v xT w

theorem is_none (b : Int) (w : World) : Calls Tryz.prog 39 #[.nilIface, .iface 29 (.int .i64 b)] w fun e w' => e = .returned (.bool false) ∧ Below w.heap.size w w' := by
  have hn := run_eql_iface_nil_left (P := Tryz.prog) w 29 (.int .i64 b) Tryz.underlying37
  go_enter Tryz.func39, Tryz.ntmps39
  go_wp2
  go_ret
  exact ⟨rfl, Below.refl _ _⟩
theorem is_inner (a b : Int) (w : World) : Calls Tryz.prog 70 #[.iface 29 (.int .i64 a), .iface 29 (.int .i64 b), .bool true] w fun e w' => e = .returned (.bool (a == b)) ∧ w = w' := by
  have eq := eql_errno a b w
  have nE := noIsE
  have uE := noUnwrapE
  have vE := noUnwrapsE
  cases h : (a == b) with
  | true =>
    rw [h] at eq
    clear h
    go_enter Tryz.func70, Tryz.ntmps70
    go_wp2
    refine wp_loop_rounds 1 ?_
    rw [rounds_succ]
    go_wp2
    go_ret
    exact ⟨rfl, rfl⟩
  | false =>
    rw [h] at eq
    clear h
    go_enter Tryz.func70, Tryz.ntmps70
    go_wp2
    refine wp_loop_rounds 1 ?_
    rw [rounds_succ]
    go_wp2
    go_ret
    exact ⟨rfl, rfl⟩
set_option maxRecDepth 100000 in
theorem call_typeOf (v : Value) (w : World) : (callFunc 69 #[.iface 29 v]).run Tryz.prog w = .ok (.value (.iface 146 (.agg #[.pointer (some ⟨2, 29, none⟩)]))) w := by
  rw [@run_callFunc_extern Tryz.prog 69 _ Extern.ReflectliteType.typeOf Tryz.func69 (by kernel_rfl) (by kernel_rfl) (by kernel_rfl) (by kernel_rfl), isTypeOf]
  rfl
set_option maxRecDepth 100000 in
theorem call_comparable (w : World) : (callFunc 151 #[.agg #[.pointer (some ⟨2, 29, none⟩)]]).run Tryz.prog w = .ok (.value (.bool true)) w := by
  rw [@run_callFunc_extern Tryz.prog 151 _ (Extern.ReflectliteType.method fun t => do Rtype.noPackHeld "Comparable" t; pure (.bool (← typeInfo t).comparable)) Tryz.func151 (by kernel_rfl) (by kernel_rfl) (by kernel_rfl) (by kernel_rfl), isComparable]
  rfl
theorem is_errno (a b : Int) (w : World) : Calls Tryz.prog 39 #[.iface 29 (.int .i64 a), .iface 29 (.int .i64 b)] w fun e w' => e = .returned (.bool (a == b)) ∧ Below w.heap.size w w' := by
  have tT := call_typeOf
  have cT := call_comparable
  have mR := isMethodComparable
  have IN := Lib.hid (is_inner a b)
  go_enter Tryz.func39, Tryz.ntmps39
  go_wp2_with fail
  refine (IN.out _).mono ?_
  rintro e w1 ⟨rfl, rfl⟩
  go_wp2_with fail
  go_ret
  exact ⟨rfl, Below.refl _ _⟩
/-- of an error by its number -/
theorem is_of (f b : Int) (w : World) : Calls Tryz.prog 39 #[errOf f, .iface 29 (.int .i64 b)] w fun e w' => e = .returned (.bool (!(f == 0) && (f == b))) ∧ Below w.heap.size w w' := by
  by_cases h : f = 0
  · subst h
    rw [errOf_ok]
    exact is_none b w
  · rw [errOf_no h, show (f == 0) = false by rw [beq_eq_false_iff_ne]; exact h]
    exact is_errno f b w
end Go.Proofs.YtabkihellcflhaaGreatDoor.Vals

/- Contracts of val.Check and what it calls. Conditions: the size. -/
namespace Go.Proofs.YtabkihellcflhaaGreatDoor.Vals
open Go.RowKit Lists Ints
set_option linter.unusedVariables false

set_option maxHeartbeats 1000000 in
set_option maxRecDepth 100000 in
theorem check_tree : ∀ (n : Nat) (t : Tr) (v : Value) (B : Nat) (deep : Nat) (w : World), TAt w (Bel B) n v t → B ≤ w.heap.size → t.size ≤ 4294967296 → deep ≤ 6 →
    Calls Tryz.prog 81 #[v, .int .i64 deep] w fun e w' => e = .returned (errOf (faultV t deep)) ∧ Below w.heap.size w w' := by
  intro n
  induction n with
  | zero => intro t v B deep w h; exact h.elim
  | succ n ih =>
    intro t v B deep w h hB hsz hd
    obtain ⟨m, A, c, e, hw, rfl, hit⟩ := h.open_
    obtain rfl : n = m := by omega
    have IH := Lib.hid ih
    have HIT := Lib.hid hit
    have HB := Lib.hid hB
    have HS := Lib.hid hsz
    have hln : t.items.length ≤ 4294967296 := by have := len_sizes t.items; have := size_items t; omega
    have FE := Lib.hid (faultV_eq t deep)
    clear ih hit h hB hsz e hw
    cases t with | node l x its =>
    simp only [Tr.list, Tr.num, Tr.items] at *
    have FB : formBad (.node l x its) = ((l && (x != 0)) || (!l && !its.isEmpty)) := rfl
    cases l with
    | true =>
      by_cases hx : x = 0
      · subst hx
        have hv := Lib.hid (show faultV (.node true 0 its) deep = if 6 ≤ deep then 4 else faultVs its (deep + 1) by rw [FE.out, FB]; simp)
        by_cases h6 : 6 ≤ deep
        · have hv := Lib.hid (show faultV (.node true 0 its) deep = 4 by rw [hv.out, if_pos h6])
          have h6' : (6 : Int) ≤ (deep : Int) := by omega
          go_enter Tryz.func81, Tryz.ntmps81
          go_wp2_with fail
          go_ret
          exact ⟨by rw [hv.out]; rfl, (Below.refl _ _).alloc (Nat.le_refl _) _⟩
        · have hv := Lib.hid (show faultV (.node true 0 its) deep = faultVs its (deep + 1) by rw [hv.out, if_neg h6])
          have h6' : ¬ (6 : Int) ≤ (deep : Int) := by omega
          go_enter Tryz.func81, Tryz.ntmps81
          go_wp2_with fail
          go_loopw [33] (fun i wr => ∃ k : Nat, k ≤ its.length ∧ i = .int .i64 k ∧ Below w.heap.size w wr ∧ Hid (faultVs (its.take k) (deep + 1) = 0)) (fun i _ => its.length - (intOf i).toNat)
          case atStart => exact ⟨0, Nat.zero_le _, rfl, (Below.refl _ _).alloc (Nat.le_refl _) _, rfl⟩
          case round =>
            obtain ⟨k, hk, rfl, hw, hz⟩ := hrel
            have hs2 : w.heap.size ≤ wr.heap.size := hw.size
            by_cases hlt : k < its.length
            · obtain ⟨b, off, D, d, rfl, c0, c1, c2, hti⟩ := item_as HIT.out (hw.mono HB.out) k hlt
              have ha : Below wr.heap.size wr (wr.alloc (.cells #[.bool (its[k]'hlt).list, .int .i64 (its[k]'hlt).num, .slice D (its[k]'hlt).items.length d] 47)) := (Below.refl _ _).alloc (Nat.le_refl _) _
              have C1 := IH.out (its[k]'hlt) _ B (deep + 1) _ (hti.below (ha.mono (Nat.le_trans HB.out hs2))) (by have := HB.out; simp; omega) (by have := size_mem its _ (List.getElem_mem hlt); have h3 := HS.out; simp only [Tr.size] at h3; omega) (by omega)
              have e1 : ((deep + 1 : Nat) : Int) = (deep : Int) + 1 := by omega
              rw [e1] at C1
              clear hti e1
              by_cases hf : faultV (its[k]'hlt) (deep + 1) = 0
              · have hz2 := Lib.hid (fault_step0 its k _ hlt hz.out hf)
                rw [hf, errOf_ok] at C1
                have HC1 := Lib.hid C1
                have HA := Lib.hid ha
                clear C1 hf ha
                generalize its[k]'hlt = y at HC1 c0 c1 c2 HA
                go_wp2_with fail
                refine HC1.out.mono ?_
                rintro e w2 ⟨rfl, hb2⟩
                go_wp2_with fail
                go_roundw
                case rel => exact ⟨k + 1, hlt, by go_num, hw.trans ((on HA.out hb2).mono hs2), hz2.out⟩
                case measure => simp [intOf]; omega
              · have hr := Lib.hid (fault_step1 its k _ hlt hz.out hf)
                rw [errOf_no hf] at C1
                have RE := Lib.hid (errOf_no hf)
                generalize faultV (its[k]'hlt) (deep + 1) = q at C1 hr RE
                have HC1 := Lib.hid C1
                have HA := Lib.hid ha
                clear C1 hf ha
                generalize its[k]'hlt = y at HC1 c0 c1 c2 HA
                go_wp2_with fail
                refine HC1.out.mono ?_
                rintro e w2 ⟨rfl, hb2⟩
                go_wp2_with fail
                go_ret
                exact ⟨ret_v (a := .iface 29 (.int .i64 q)) (by rw [hv.out, ← hr.out, RE.out]), hw.trans ((on HA.out hb2).mono hs2)⟩
            · have hr := Lib.hid (show faultVs its (deep + 1) = 0 by rw [← List.take_of_length_le (show its.length ≤ k by omega)]; exact hz.out)
              go_wp2_with fail
              go_ret
              exact ⟨by rw [hv.out, hr.out]; rfl, hw⟩
      · have hv := Lib.hid (show faultV (.node true x its) deep = 3 by rw [FE.out, FB]; simp [hx])
        have hne : (x != 0) = true := by rw [bne_iff_ne]; exact hx
        clear hx
        go_enter Tryz.func81, Tryz.ntmps81
        go_wp2_with fail
        go_ret
        exact ⟨by rw [hv.out]; rfl, (Below.refl _ _).alloc (Nat.le_refl _) _⟩
    | false =>
      by_cases hi : its = []
      · subst hi
        have hv := Lib.hid (show faultV (.node false x []) deep = if 6 ≤ deep then 4 else 0 by rw [FE.out, FB]; simp [faultVs])
        by_cases h6 : 6 ≤ deep
        · have hv := Lib.hid (show faultV (.node false x []) deep = 4 by rw [hv.out, if_pos h6])
          have h6' : (6 : Int) ≤ (deep : Int) := by omega
          go_enter Tryz.func81, Tryz.ntmps81
          go_wp2_with fail
          go_ret
          exact ⟨by rw [hv.out]; rfl, (Below.refl _ _).alloc (Nat.le_refl _) _⟩
        · have hv := Lib.hid (show faultV (.node false x []) deep = 0 by rw [hv.out, if_neg h6])
          have h6' : ¬ (6 : Int) ≤ (deep : Int) := by omega
          go_enter Tryz.func81, Tryz.ntmps81
          go_wp2_with fail
          refine wp_loop_rounds 1 ?_
          rw [rounds_succ]
          go_wp2_with fail
          go_ret
          exact ⟨by rw [hv.out]; rfl, (Below.refl _ _).alloc (Nat.le_refl _) _⟩
      · have hp : 0 < its.length := List.length_pos_iff.2 hi
        have hv := Lib.hid (show faultV (.node false x its) deep = 3 by
          have : its.isEmpty = false := by cases its with | nil => exact absurd rfl hi | cons _ _ => rfl
          rw [FE.out, FB, this]; simp)
        have hp' : (0 : Int) < its.length := by omega
        clear hi
        go_enter Tryz.func81, Tryz.ntmps81
        go_wp2_with fail
        go_ret
        exact ⟨by rw [hv.out]; rfl, (Below.refl _ _).alloc (Nat.le_refl _) _⟩


set_option maxRecDepth 100000 in
/-- val.Check -/
theorem check_prog {n : Nat} {t : Tr} {v : Value} {B : Nat} (w : World) (h : TAt w (Bel B) n v t) (hB : B ≤ w.heap.size) (hsz : t.size ≤ 4294967296) :
    Calls Tryz.prog 44 #[v] w fun e w' => e = .returned (errOf (faultV t 0)) ∧ Below w.heap.size w w' := by
  obtain ⟨m, A, c, e, hw, rfl, _⟩ := h.open_
  have ha : Below w.heap.size w (w.alloc (.cells #[.bool t.list, .int .i64 t.num, .slice A t.items.length c] 47)) := (Below.refl _ _).alloc (Nat.le_refl _) _
  have CT := Lib.hid (check_tree n t _ B 0 _ (h.below (ha.mono hB)) (by simp; omega) hsz (by omega))
  have HA := Lib.hid ha
  clear h hB hsz e hw ha
  go_enter Tryz.func44, Tryz.ntmps44
  go_wp2_with fail
  refine CT.out.mono ?_
  rintro e w1 ⟨rfl, hb⟩
  have hb' := Lib.hid (on HA.out hb)
  clear CT hb HA
  go_wp2_with fail
  go_ret
  exact ⟨rfl, hb'.out⟩
end Go.Proofs.YtabkihellcflhaaGreatDoor.Vals
