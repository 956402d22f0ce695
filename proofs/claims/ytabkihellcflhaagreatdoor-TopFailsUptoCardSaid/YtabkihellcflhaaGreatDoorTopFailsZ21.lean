/- TopFails, part 21 of the proof: Plain laws on expressions: what is wrong with one; the numbers of a value; the number of an expression. No program. -/
import Derived.Test.YtabkihellcflhaaGreatDoorTopFailsZ1
import Derived.Test.YtabkihellcflhaaGreatDoorTopFailsZ7
/- Plain laws on expressions: what is wrong with one; the numbers of a value; the number of an expression. No program. -/
namespace Go.Proofs.YtabkihellcflhaaGreatDoor.Exprs
open Gens Vals
set_option linter.unusedVariables false

/-! what is wrong with an expression -/
def subsE (k : Int) : Int := if k < 1 ∨ 11 < k then -1 else if k ≤ 4 then 0 else if k = 9 then 1 else 2
mutual
def formE : Gn → Bool
  | .node k _ _ s => decide (subsE k = (s.length : Int)) && formEs s
def formEs : List Gn → Bool
  | [] => true
  | g :: r => formE g && formEs r
end
theorem formE_eq (t : Gn) : formE t = (decide (subsE t.kind = (t.subs.length : Int)) && formEs t.subs) := by cases t with | node k a b s => rw [formE]; rfl
theorem formEs_app (l m : List Gn) : formEs (l ++ m) = (formEs l && formEs m) := by
  induction l with
  | nil => simp [formEs]
  | cons g r ih => simp only [List.cons_append, formEs, ih, Bool.and_assoc]
theorem form_step0 (l : List Gn) (k : Nat) (hk : k < l.length) (hz : formEs (l.take k) = true) (h : formE (l[k]'hk) = true) : formEs (l.take (k + 1)) = true := by
  rw [List.take_succ_eq_append_getElem hk, formEs_app, hz]; simp [formEs, h]
theorem form_step1 (l : List Gn) (k : Nat) (hk : k < l.length) (h : formE (l[k]'hk) = false) : formEs l = false := by
  have h2 := formEs_app (l.take k) (l.drop k)
  rw [List.take_append_drop, List.drop_eq_getElem_cons hk, formEs, h] at h2
  rw [h2]; simp
def faultE (t : Gn) : Int := if (largeG t 0).2 = true then 4 else if formE t = true then 0 else 3
theorem fault_ok {t : Gn} (h : faultE t = 0) : (largeG t 0).2 = false ∧ formE t = true := by
  unfold faultE at h
  by_cases hl : (largeG t 0).2 = true
  · rw [if_pos hl] at h; cases h
  · rw [if_neg hl] at h
    by_cases hf : formE t = true
    · exact ⟨by simpa using hl, hf⟩
    · rw [if_neg hf] at h; cases h
theorem forms_mem : ∀ (l : List Gn), formEs l = true → ∀ x ∈ l, formE x = true
  | [], _, x, hx => by cases hx
  | g :: r, h, x, hx => by
    simp only [formEs, Bool.and_eq_true] at h
    rcases List.mem_cons.1 hx with rfl | hx
    · exact h.1
    · exact forms_mem r h.2 x hx
theorem form_subs {t : Gn} (h : formE t = true) : subsE t.kind = (t.subs.length : Int) ∧ ∀ x ∈ t.subs, formE x = true := by
  rw [formE_eq, Bool.and_eq_true] at h
  exact ⟨of_decide_eq_true h.1, forms_mem _ h.2⟩
theorem form_kind {t : Gn} (h : formE t = true) : 1 ≤ t.kind ∧ t.kind ≤ 11 := by
  have h1 := (form_subs h).1
  unfold subsE at h1
  split at h1
  · have : (0 : Int) ≤ t.subs.length := Int.natCast_nonneg _
    omega
  · omega

/-! the numbers of a value -/
mutual
def leavesT : Tr → List Int
  | .node l n its => if l = true then leavesTs its else [n]
def leavesTs : List Tr → List Int
  | [] => []
  | t :: r => leavesT t ++ leavesTs r
end
theorem leavesT_eq (t : Tr) : leavesT t = if t.list = true then leavesTs t.items else [t.num] := by cases t with | node l n i => rw [leavesT]; rfl
theorem leavesTs_app (l m : List Tr) : leavesTs (l ++ m) = leavesTs l ++ leavesTs m := by
  induction l with
  | nil => simp [leavesTs]
  | cons t r ih => simp only [List.cons_append, leavesTs, ih, List.append_assoc]
theorem leaves_take (l : List Tr) (k : Nat) (hk : k < l.length) : leavesTs (l.take (k + 1)) = leavesTs (l.take k) ++ leavesT (l[k]'hk) := by
  rw [List.take_succ_eq_append_getElem hk, leavesTs_app]; simp [leavesTs]
mutual
theorem leaves_len : ∀ t : Tr, (leavesT t).length ≤ t.size
  | .node l n i => by
    have := leavess_len i
    simp only [leavesT, Tr.size]
    split
    · omega
    · simp
theorem leavess_len : ∀ l : List Tr, (leavesTs l).length ≤ sizes l
  | [] => by simp [leavesTs, sizes]
  | t :: r => by
    have := leaves_len t
    have := leavess_len r
    simp only [leavesTs, sizes, List.length_append]
    omega
end
/-- their sum, as it wraps -/
def sumL : List Int → Int → Int
  | [], s => s
  | x :: r, s => sumL r (Go.RowKit.wrap64 (s + x))
theorem sumL_app (l m : List Int) (s : Int) : sumL (l ++ m) s = sumL m (sumL l s) := by
  induction l generalizing s with
  | nil => rfl
  | cons x r ih => simp only [List.cons_append, sumL, ih]
/-- the greatest one so far -/
def topS (l : List Int) : Option Int → Option Int
  | o => l.foldl (fun o x => match o with | none => some x | some m => some (if m < x then x else m)) o
theorem topS_app (l m : List Int) (o : Option Int) : topS (l ++ m) o = topS m (topS l o) := by simp [topS, List.foldl_append]
def sumT (t : Tr) : Int := sumL (leavesT t) 0
def topT (t : Tr) : Int := (topS (leavesT t) none).getD 0

/-! the number of an expression; none: it has none -/
def one (b : Bool) : Int := if b = true then 1 else 0
def bin (k x y : Int) : Option Int :=
  if k = 5 then some (Go.RowKit.wrap64 (x + y)) else if k = 6 then (if y = 0 then none else some (x.tmod y)) else if k = 7 then some (one (decide (x < y))) else if k = 8 then some (one (decide (x = y))) else some y
def comb (k a : Int) (v : Tr) (ns : List (Option Int)) : Option Int :=
  if k = 1 then some a else if k = 2 then some (sumT v) else if k = 3 then some (topT v) else if k = 4 then some (v.items.length : Int)
  else match ns.getD 0 none with
    | none => none
    | some x => if k = 9 then some (one (decide (x = 0))) else if k = 10 ∧ x = 0 then some x else if k = 11 ∧ ¬ x = 0 then some x
      else match ns.getD 1 none with
        | none => none
        | some y => bin k x y
mutual
def numE (v : Tr) : Gn → Option Int
  | .node k a _ s => comb k a v (numEs v s)
def numEs (v : Tr) : List Gn → List (Option Int)
  | [] => []
  | g :: r => numE v g :: numEs v r
end
theorem numEs_map (v : Tr) : ∀ l : List Gn, numEs v l = l.map (numE v)
  | [] => rfl
  | g :: r => by rw [numEs, numEs_map v r]; rfl
theorem numE_eq (v : Tr) (t : Gn) : numE v t = comb t.kind t.a v (t.subs.map (numE v)) := by cases t with | node k a b s => rw [numE, numEs_map]; rfl
end Go.Proofs.YtabkihellcflhaaGreatDoor.Exprs
