/- RoseOwn, part 30 of the proof: What the statements on candidates say, plainly. No program. · append of a slice of numbers onto a row of the call's own, as one step of a region that draws its order. Conditions: the sizes. -/
import Derived.Test.YtfpbegagblekiaaDoorRoseOwnZ29
import Derived.Test.YtfpbegagblekiaaDoorRoseOwnZ18
import Derived.Deep.RegionLaw
/- What the statements on candidates say, plainly. No program. -/
namespace Go.Proofs.YtfpbegagblekiaaDoor.Gens
open Go.RowKit Lists Ints Vals
set_option linter.unusedVariables false

/-! one number -/
theorem mend_one {a b : Int} {l : List Int} (h0 : genV (.node 2 a b []) = 0) : mendL (.node 2 a b []) l = [mendX l (b - a)] := by
  refine mendL_of (v := .node false (a + mendX l (b - a)) []) (r := l.tail) h0 ?_
  simp [play, mendC]
theorem one_bounds {a b : Int} (h0 : genV (.node 2 a b []) = 0) : 0 ≤ b - a ∧ b - a ≤ 1000 := (right_max (gen_right h0).1).1 rfl
theorem one_right {a b x : Int} (h : errI (repV (.node 2 a b []) [x]) = 0) : genV (.node 2 a b []) = 0 ∧ 0 ≤ x ∧ x ≤ b - a := by
  obtain ⟨h0, h1⟩ := rep_own h
  rw [mend_one h0] at h1
  have hb := one_bounds h0
  simp only [List.cons.injEq, and_true, mendX] at h1
  exact ⟨h0, by omega, by omega⟩
theorem lessL_one1 (x y : Int) : lessL [x] [y] = decide (x < y) := by
  have h1 : lessL [x] [y] = decide (cmpL [x] [y] < 0) := by unfold lessL; rw [if_pos (show [x].length = [y].length from rfl)]
  have h2 : cmpL [x] [y] = if x < y then -1 else if y < x then 1 else 0 := rfl
  rw [h1, decide_eq_decide, h2]
  by_cases h : x < y
  · rw [if_pos h]; simp [h]
  · rw [if_neg h]
    by_cases h3 : y < x
    · rw [if_pos h3]; simp [h]
    · rw [if_neg h3]; simp [h]
theorem kept_one {a b x y : Int} {l : List Int} (h0 : genV (.node 2 a b []) = 0) (hy : mendX l (b - a) = y) : keptL (.node 2 a b []) [x] l = if y < x then [[y]] else [] := by
  unfold keptL
  rw [mend_one h0, hy, lessL_one1]
  simp
theorem rose_one {a b x : Int} (h : errI (repV (.node 2 a b []) [x]) = 0) : roseL (.node 2 a b []) [x] = if x = 0 then [] else [[0], [x / 2], [x - 1], [0]] := by
  obtain ⟨h0, hx0, hx1⟩ := one_right h
  show lessTo _ _ 1 = _
  rw [lessTo_succ, lessTo_zero, List.nil_append]
  by_cases hx : x = 0
  · subst hx
    rw [lessAt_one _ _ _ (by simp), kept_one (y := 0) h0 (by simp [lackL, mendX]; omega)]
    simp
  · rw [lessAt_four _ _ _ (by simp; omega), if_neg hx]
    rw [kept_one (y := 0) h0 (by simp [mendX]; omega), kept_one (y := x / 2) h0 (by simp [mendX]; omega), kept_one (y := x - 1) h0 (by simp [mendX]; omega), kept_one (y := 0) h0 (by simp [lackL, mendX]; omega)]
    rw [if_pos (by omega), if_pos (by omega), if_pos (by omega)]
    rfl

/-! noughts -/
theorem mend_zeros {t : Gn} (h0 : genV t = 0) {l : List Int} (hl : ∀ x ∈ l, x = 0) : mendL t l = mendL t [] := by
  obtain ⟨v1, r1, h1, _⟩ := mend_run (t := t) l h0
  obtain ⟨v2, r2, h2, _⟩ := mend_run (t := t) [] h0
  have hr := (gen_right h0).1
  have hz := small30 h0
  have z1 : ∀ x ∈ mendL t l, x = 0 := (play_inv (P := fun s => ∀ x ∈ s, x = 0) (Q := fun x => x = 0) mend_bounded (fun s m x s' h0 _ hs hc => by
    simp only [mendC, Except.ok.injEq, Prod.mk.injEq] at hc
    obtain ⟨rfl, rfl⟩ := hc
    refine ⟨?_, fun y hy => hs y (List.mem_of_mem_tail hy)⟩
    cases s with
    | nil => simp only [mendX]; omega
    | cons y s => have := hs y (by simp); simp only [mendX]; omega) hr hz h1 hl).1
  have z2 := mend_noughts hr hz h2
  refine mend_alike hr h1 h2 fun i hi hj => ?_
  simp only [List.getD, List.getElem?_eq_getElem hi, List.getElem?_eq_getElem hj, Option.getD_some]
  rw [z1 _ (List.getElem_mem hi), z2 _ (List.getElem_mem hj)]
theorem rose_noughts {t : Gn} (h0 : genV t = 0) : roseL t (mendL t []) = [] := by
  obtain ⟨v2, r2, h2, _⟩ := mend_run (t := t) [] h0
  have z := mend_noughts (gen_right h0).1 (small30 h0) h2
  have all : ∀ k, k ≤ (mendL t []).length → lessTo t (mendL t []) k = [] := by
    intro k
    induction k with
    | zero => intro _; rfl
    | succ k ih =>
      intro hk
      rw [lessTo_succ, ih (by omega), List.nil_append]
      have hg : (mendL t []).getD k 0 = 0 := by
        simp only [List.getD, List.getElem?_eq_getElem (show k < (mendL t []).length by omega), Option.getD_some]
        exact z _ (List.getElem_mem _)
      rw [lessAt_one _ _ _ (by rw [hg]; omega)]
      unfold keptL
      rw [mend_zeros h0 (l := lackL (mendL t []) k) (fun x hx => z x ?_), lessL_irrefl]
      · rfl
      · unfold lackL at hx
        rcases List.mem_append.1 hx with h | h
        · exact List.mem_of_mem_take h
        · exact List.mem_of_mem_drop h
  exact all _ (Nat.le_refl _)
/-- what is mended can be played -/
theorem rep_mend0 {t : Gn} (h0 : genV t = 0) (l : List Int) : errI (repV t (mendL t l)) = 0 := by
  obtain ⟨v, h⟩ := rep_mend h0 l
  rw [h]; rfl
end Go.Proofs.YtfpbegagblekiaaDoor.Gens

/- append of a slice of numbers onto a row of the call's own, as one step of a region that draws its order. Conditions: the sizes. -/
namespace Go.Proofs.YtfpbegagblekiaaDoor.Ints
open Go.RowKit Go.WideShapes Go.ChangeShapes
set_option linter.unusedVariables false
theorem step_append_ints {ops : Array Oper} {o : Oper} {a : Act} {w : World} {K : Act → World → Prop} {Q : Exit → Act → World → Prop} {E : Prop} (hgd : o.guard = none) (s x : Operand)
    (ho : o.op = .call { callee := .builtin .append, args := #[s, x], argTypes := #[25, 25] })
    (base c : Nat) (A : Option Addr) (z : List Int) (hown : Own w base A c z) (B : Nat) (A2 : Option Addr) (c2 : Nat) (l : List Int) (hr : At w B A2 l)
    (hs : a.eval s = .slice A z.length c) (hx : a.eval x = .slice A2 l.length c2)
    (h63 : z.length + l.length ≤ 17592186044416) (hbase : base ≤ w.heap.size)
    (h : ∀ A' c' w' (zl : List Int), Hid (zl = z ++ l) → Own w' base A' c' zl → w.grownBy w' (rowOf A) → (rowOf A' = rowOf A ∨ rowOf A' = some w.heap.size) → K (a.put o.dst (.slice A' zl.length c')) w') :
    if Region.wanted o (yielded ops a.tmps) = true then Oper.wp Tryd.prog o a w K Q else E := by
  have hw : Region.wanted o (yielded ops a.tmps) = true := by simp [Region.wanted, hgd]
  rw [if_pos hw]
  obtain ⟨A', c', w', hrun, h2, h3, h4⟩ := run_append_ints w base c A z hown B A2 c2 l hr h63 hbase o.type
  unfold Oper.wp execOp
  simp only [ho, resolve, invoke, builtin, Sem.run_bind, Sem.run_pure, Result.andThen_ok, List.map_toArray, List.map_cons, List.map_nil, hs, hx, hrun]
  exact h A' c' w' _ rfl h2 h3 h4
theorem Own.cap_ {w : World} {base c : Nat} {A : Option Addr} {z : List Int} (h : Own w base A c z) : z.length ≤ c := by
  rcases h.2 with ⟨he, h0⟩ | ⟨g, cap, cur, he, _, _, hnc, _⟩
  · omega
  · injection he with _ _ h3; omega
end Go.Proofs.YtfpbegagblekiaaDoor.Ints
