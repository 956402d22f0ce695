/- TopFails, part 22 of the proof: Plain laws: what the statements on expressions say of numbers. No program. -/
import Derived.Test.YtabkihellcflhaaGreatDoorTopFailsZ21
import Derived.IntWalk
import Derived.RowKit
/- Plain laws: what the statements on expressions say of numbers. No program. -/
namespace Go.Proofs.YtabkihellcflhaaGreatDoor.Exprs
open Gens Vals Go.RowKit
set_option linter.unusedVariables false

def evN (r : Option Int) : Int := r.getD 0
def evF (r : Option Int) : Int := if r.isSome = true then 0 else 6
def evalF (g : Gn) (t : Tr) : Int := if faultE g = 0 then (if faultV t 0 = 0 then evF (numE t g) else faultV t 0) else faultE g
def evalN (g : Gn) (t : Tr) : Int := if faultE g = 0 then (if faultV t 0 = 0 then evN (numE t g) else 0) else 0
def failF (g : Gn) (t : Tr) : Int := if faultE g = 0 then faultV t 0 else faultE g
def badN (r : Option Int) : Bool := match r with | none => true | some x => x == 0
def failB (g : Gn) (t : Tr) : Bool := if failF g t = 0 then badN (numE t g) else false
theorem ev_ok {g : Gn} {t : Tr} (h : evalF g t = 0) : faultE g = 0 ∧ faultV t 0 = 0 ∧ numE t g = some (evalN g t) := by
  unfold evalF at h
  unfold evalN
  by_cases h1 : faultE g = 0
  · rw [if_pos h1] at h ⊢
    by_cases h2 : faultV t 0 = 0
    · rw [if_pos h2] at h ⊢
      refine ⟨h1, h2, ?_⟩
      cases hr : numE t g with
      | none => rw [hr] at h; cases h
      | some x => rfl
    · rw [if_neg h2] at h; exact absurd h h2
  · rw [if_neg h1] at h; exact absurd h h1
/-- of two parts -/
theorem comb_two (k a : Int) (v : Tr) (p q : Option Int) (h5 : 5 ≤ k) (h9 : k ≠ 9) : comb k a v [p, q] = (match p with | none => none | some x1 => if k = 10 ∧ x1 = 0 then some x1 else if k = 11 ∧ ¬ x1 = 0 then some x1 else match q with | none => none | some y1 => bin k x1 y1) := by
  unfold comb
  rw [if_neg (by omega), if_neg (by omega), if_neg (by omega), if_neg (by omega)]
  cases p with
  | none => rfl
  | some x1 => simp only [List.getD_cons_zero, List.getD_cons_succ]; rw [if_neg h9]; try (cases q <;> rfl)
theorem num_not (t : Tr) (x : Gn) : numE t (.node 9 0 0 [x]) = (match numE t x with | none => none | some y => some (one (decide (y = 0)))) := by rw [numE_eq]; rfl
theorem num_two (t : Tr) (k : Int) (x y : Gn) (h5 : 5 ≤ k) (h9 : k ≠ 9) : numE t (.node k 0 0 [x, y]) = (match numE t x with | none => none | some x1 => if k = 10 ∧ x1 = 0 then some x1 else if k = 11 ∧ ¬ x1 = 0 then some x1 else match numE t y with | none => none | some y1 => bin k x1 y1) := by
  rw [numE_eq]; exact comb_two k 0 t _ _ h5 h9
theorem one_eq0 (b : Bool) : one b = 0 ↔ b = false := by cases b <;> simp [one]

/-! DE MORGAN -/
theorem morgan_num {x y : Gn} {t : Tr} (h1 : evalF x t = 0) (h2 : evalF y t = 0) (h3 : evalF (.node 9 0 0 [.node 10 0 0 [x, y]]) t = 0) (h4 : evalF (.node 11 0 0 [.node 9 0 0 [x], .node 9 0 0 [y]]) t = 0) :
    evalN (.node 9 0 0 [.node 10 0 0 [x, y]]) t = evalN (.node 11 0 0 [.node 9 0 0 [x], .node 9 0 0 [y]]) t := by
  have e1 := (ev_ok h1).2.2
  have e2 := (ev_ok h2).2.2
  have e3 := (ev_ok h3).2.2
  have e4 := (ev_ok h4).2.2
  rw [num_not, num_two _ _ _ _ (by decide) (by decide), e1, e2] at e3
  rw [num_two _ _ _ _ (by decide) (by decide), num_not, num_not, e1, e2] at e4
  by_cases hp : evalN x t = 0
  · simp [hp, one] at e3 e4
    rw [← e3, ← e4]
  · by_cases hq : evalN y t = 0
    · simp [hp, hq, one, bin] at e3 e4
      rw [← e3, ← e4]
    · simp [hp, hq, one, bin] at e3 e4
      rw [← e3, ← e4]
theorem morgan_fail {x : Gn} {t : Tr} (h1 : failF x t = 0) (h2 : failF (.node 9 0 0 [.node 9 0 0 [x]]) t = 0) : failB x t = failB (.node 9 0 0 [.node 9 0 0 [x]]) t := by
  unfold failB
  rw [if_pos h1, if_pos h2, num_not, num_not]
  cases numE t x with
  | none => rfl
  | some p => by_cases hp : p = 0 <;> simp [badN, one, hp]
theorem morgan_same {x : Gn} {t : Tr} (h : evalF (.node 8 0 0 [x, x]) t = 0) : evalN (.node 8 0 0 [x, x]) t = 1 := by
  have e := (ev_ok h).2.2
  rw [num_two _ _ _ _ (by decide) (by decide)] at e
  cases hx : numE t x with
  | none => rw [hx] at e; cases e
  | some p =>
    rw [hx] at e
    simp [bin, one] at e
    exact e.symm

/-! numbers of 64 bits -/
abbrev B64 (x : Int) : Prop := -9223372036854775808 ≤ x ∧ x ≤ 9223372036854775807
theorem wrap_b (x : Int) : B64 (wrap64 x) := by unfold wrap64; unfold B64; omega
theorem wrap_in {x : Int} (h : B64 x) : wrap64 x = x := by unfold wrap64; unfold B64 at h; omega
mutual
def gI : Gn → Prop
  | .node _ a _ s => B64 a ∧ gIs s
def gIs : List Gn → Prop
  | [] => True
  | g :: r => gI g ∧ gIs r
end
mutual
def tI : Tr → Prop
  | .node _ n i => B64 n ∧ tIs i
def tIs : List Tr → Prop
  | [] => True
  | t :: r => tI t ∧ tIs r
end
theorem gIs_mem : ∀ {l : List Gn}, (∀ x ∈ l, gI x) → gIs l
  | [], _ => trivial
  | g :: r, h => ⟨h g (by simp), gIs_mem fun x hx => h x (List.mem_cons_of_mem _ hx)⟩
theorem tIs_mem : ∀ {l : List Tr}, (∀ x ∈ l, tI x) → tIs l
  | [], _ => trivial
  | g :: r, h => ⟨h g (by simp), tIs_mem fun x hx => h x (List.mem_cons_of_mem _ hx)⟩
mutual
theorem leaves_b : ∀ t : Tr, tI t → ∀ x ∈ leavesT t, B64 x
  | .node l n i, h, x, hx => by
    simp only [leavesT] at hx
    split at hx
    · exact leavess_b i h.2 x hx
    · simp at hx; subst hx; exact h.1
theorem leavess_b : ∀ l : List Tr, tIs l → ∀ x ∈ leavesTs l, B64 x
  | [], _, x, hx => by simp [leavesTs] at hx
  | t :: r, h, x, hx => by
    simp only [leavesTs, List.mem_append] at hx
    rcases hx with hx | hx
    · exact leaves_b t h.1 x hx
    · exact leavess_b r h.2 x hx
end
theorem sumL_b : ∀ (l : List Int) (s : Int), B64 s → B64 (sumL l s)
  | [], s, h => h
  | x :: r, s, h => sumL_b r _ (wrap_b _)
theorem topS_b : ∀ (l : List Int) (o : Option Int), (∀ x ∈ l, B64 x) → (∀ x, o = some x → B64 x) → ∀ x, topS l o = some x → B64 x
  | [], o, _, h, x, hx => h x hx
  | y :: r, none, hl, h, x, hx => topS_b r (some y) (fun z hz => hl z (List.mem_cons_of_mem _ hz)) (fun z hz => by cases hz; exact hl y (by simp)) x hx
  | y :: r, some m, hl, h, x, hx => topS_b r (some (if m < y then y else m)) (fun z hz => hl z (List.mem_cons_of_mem _ hz)) (fun z hz => by
      simp only [Option.some.injEq] at hz
      split at hz
      · subst hz; exact hl y (by simp)
      · subst hz; exact h _ rfl) x hx
theorem one_b (b : Bool) : B64 (one b) := by cases b <;> simp [one, B64]
theorem tmod_bd (x y : Int) : -(x.natAbs : Int) ≤ x.tmod y ∧ x.tmod y ≤ x.natAbs ∧ (0 ≤ x → 0 ≤ x.tmod y) ∧ (x ≤ 0 → x.tmod y ≤ 0) ∧ (y ≠ 0 → (x.tmod y).natAbs < y.natAbs) := by
  have h := Int.natAbs_tmod x y
  have h2 : x.natAbs % y.natAbs ≤ x.natAbs := Nat.mod_le _ _
  refine ⟨by omega, by omega, fun h0 => Int.tmod_nonneg y h0, fun h0 => ?_, fun hy => ?_⟩
  · have h3 := Int.tmod_nonneg y (a := -x) (by omega)
    rw [Int.neg_tmod] at h3
    omega
  · rw [h]; exact Nat.mod_lt _ (by omega)
theorem bin_b {k x y z : Int} (hx : B64 x) (hy : B64 y) (h : bin k x y = some z) : B64 z := by
  unfold bin at h
  split at h
  · cases h; exact wrap_b _
  · split at h
    · split at h
      · cases h
      · cases h
        obtain ⟨h1, h2, h3, h4, _⟩ := tmod_bd x y
        unfold B64 at hx ⊢
        omega
    · split at h
      · cases h; exact one_b _
      · split at h
        · cases h; exact one_b _
        · cases h; exact hy
mutual
theorem num_b (t : Tr) (ht : tI t) (hs : t.items.length ≤ 4294967296) : ∀ g, gI g → ∀ x, numE t g = some x → B64 x
  | .node k a b s, hg, x, h => by
    have ih := nums_b t ht hs s hg.2
    rw [numE] at h
    unfold comb at h
    split at h
    · cases h; exact hg.1
    · split at h
      · cases h; exact sumL_b _ _ (by unfold B64; omega)
      · split at h
        · cases h
          unfold topT
          cases hr : topS (leavesT t) none with
          | none => simp [B64]
          | some m => exact topS_b _ none (leaves_b t ht) (fun x hx => by cases hx) m hr
        · split at h
          · cases h; unfold B64; omega
          · have key : ∀ (i : Nat) (z : Int), (numEs t s).getD i none = some z → B64 z := fun i z hz => by
              by_cases hi : i < (numEs t s).length
              · have : (numEs t s).getD i none = (numEs t s)[i] := by simp [List.getD, hi]
                rw [this] at hz
                exact ih _ (List.getElem_mem hi) z hz
              · simp [List.getD, Nat.le_of_not_lt hi] at hz
            split at h
            · cases h
            · rename_i p hp
              have hpb := key 0 p hp
              split at h
              · cases h; exact one_b _
              · split at h
                · cases h; exact hpb
                · split at h
                  · cases h; exact hpb
                  · split at h
                    · cases h
                    · rename_i q hq
                      exact bin_b hpb (key 1 q hq) h
theorem nums_b (t : Tr) (ht : tI t) (hs : t.items.length ≤ 4294967296) : ∀ l, gIs l → ∀ o ∈ numEs t l, ∀ x, o = some x → B64 x
  | [], _, o, ho, x, hx => by simp [numEs] at ho
  | g :: r, hl, o, ho, x, hx => by
    simp only [numEs, List.mem_cons] at ho
    rcases ho with rfl | ho
    · exact num_b t ht hs g hl.1 x hx
    · exact nums_b t ht hs r hl.2 o ho x hx
end

/-! just one of three; what is added to both -/
theorem less_three {x y : Gn} {t : Tr} (h1 : evalF (.node 7 0 0 [x, y]) t = 0) (h2 : evalF (.node 7 0 0 [y, x]) t = 0) (h3 : evalF (.node 8 0 0 [x, y]) t = 0) :
    ∃ p q, numE t x = some p ∧ numE t y = some q ∧ evalN (.node 7 0 0 [x, y]) t = one (decide (p < q)) ∧ evalN (.node 7 0 0 [y, x]) t = one (decide (q < p)) ∧ evalN (.node 8 0 0 [x, y]) t = one (decide (p = q)) := by
  have e1 := (ev_ok h1).2.2
  have e2 := (ev_ok h2).2.2
  have e3 := (ev_ok h3).2.2
  rw [num_two _ _ _ _ (by decide) (by decide)] at e1 e2 e3
  cases hx : numE t x with
  | none => rw [hx] at e1; cases e1
  | some p =>
    cases hy : numE t y with
    | none => rw [hy] at e2; cases e2
    | some q =>
      rw [hx, hy] at e1 e2 e3
      simp [bin] at e1 e2 e3
      exact ⟨p, q, rfl, rfl, e1.symm, e2.symm, e3.symm⟩
theorem three_sum (p q : Int) : one (decide (p < q)) + one (decide (q < p)) + one (decide (p = q)) = 1 := by
  unfold one
  by_cases h1 : p < q
  · have h2 : ¬ q < p := by omega
    have h3 : ¬ p = q := by omega
    simp [h1, h2, h3]
  · by_cases h2 : q < p
    · have h3 : ¬ p = q := by omega
      simp [h1, h2, h3]
    · have h3 : p = q := by omega
      simp [h3]
theorem one_01 (b : Bool) : 0 ≤ one b ∧ one b ≤ 1 := by cases b <;> simp [one]
theorem less_added {x y z : Gn} {t : Tr} {p q : Int} (hp : numE t x = some p) (hq : numE t y = some q) (hpb : B64 p) (hqb : B64 q) (hz : ∀ r, numE t z = some r → B64 r)
    (h : evalF (.node 8 0 0 [.node 5 0 0 [x, z], .node 5 0 0 [y, z]]) t = 0) : evalN (.node 8 0 0 [.node 5 0 0 [x, z], .node 5 0 0 [y, z]]) t = one (decide (p = q)) := by
  have e := (ev_ok h).2.2
  rw [num_two _ _ _ _ (by decide) (by decide), num_two _ _ _ _ (by decide) (by decide), num_two _ _ _ _ (by decide) (by decide), hp, hq] at e
  cases hr : numE t z with
  | none => rw [hr] at e; cases e
  | some r =>
    rw [hr] at e
    simp [bin] at e
    rw [← e]
    have hrb := hz r hr
    congr 1
    apply decide_eq_decide.2
    unfold B64 at hpb hqb hrb
    constructor
    · intro h
      unfold wrap64 at h
      omega
    · rintro rfl; rfl

/-! what is left -/
theorem fault_two {x y : Gn} {k : Int} (hk : subsE k = 2) (hx : faultE x = 0) (hy : faultE y = 0) : faultE (.node k 0 0 [x, y]) = 0 ∨ faultE (.node k 0 0 [x, y]) = 4 := by
  have h1 := (fault_ok hx).2
  have h2 := (fault_ok hy).2
  unfold faultE
  split
  · exact .inr rfl
  · rw [formE_eq, if_pos (by simp [Gn.kind, Gn.subs, hk, formEs, h1, h2])]; exact .inl rfl
theorem left_zero {x y : Gn} {t : Tr} (h1 : evalF x t = 0) (h2 : evalF y t = 0) (hb : evalN y t = 0) : evalF (.node 6 0 0 [x, y]) t = 6 ∨ evalF (.node 6 0 0 [x, y]) t = 4 := by
  obtain ⟨f1, g1, e1⟩ := ev_ok h1
  obtain ⟨f2, _, e2⟩ := ev_ok h2
  unfold evalF
  rcases fault_two (k := 6) (by decide) f1 f2 with h | h
  · rw [if_pos h, if_pos g1, num_two _ _ _ _ (by decide) (by decide), e1, e2, hb]
    simp [bin, evF]
  · rw [h]; simp
theorem left_err {x y : Gn} {t : Tr} (h1 : evalF x t = 0) (h2 : evalF y t = 0) (hb : evalN y t ≠ 0) (h3 : evalF (.node 6 0 0 [x, y]) t ≠ 0) : evalF (.node 6 0 0 [x, y]) t = 4 := by
  obtain ⟨f1, g1, e1⟩ := ev_ok h1
  obtain ⟨f2, _, e2⟩ := ev_ok h2
  unfold evalF at h3 ⊢
  rcases fault_two (k := 6) (by decide) f1 f2 with h | h
  · rw [if_pos h, if_pos g1, num_two _ _ _ _ (by decide) (by decide), e1, e2] at h3
    simp [bin, evF, hb] at h3
  · rw [h]; simp
theorem left_num {x y : Gn} {t : Tr} (h1 : evalF x t = 0) (h2 : evalF y t = 0) (h3 : evalF (.node 6 0 0 [x, y]) t = 0) : evalN y t ≠ 0 ∧ evalN (.node 6 0 0 [x, y]) t = (evalN x t).tmod (evalN y t) := by
  obtain ⟨f1, g1, e1⟩ := ev_ok h1
  obtain ⟨f2, _, e2⟩ := ev_ok h2
  have e3 := (ev_ok h3).2.2
  rw [num_two _ _ _ _ (by decide) (by decide), e1, e2] at e3
  by_cases hb : evalN y t = 0
  · simp [bin, hb] at e3
  · simp [bin, hb] at e3
    exact ⟨hb, e3.symm⟩

theorem left_edge {b r : Int} (h1 : -9223372036854775808 ≤ b) (h : b < 0) (hr : r.natAbs < b.natAbs) : (decide (r < wrap64 (-b)) || (b == -9223372036854775808)) = true := by
  by_cases hb : b = -9223372036854775808
  · rw [hb]; simp
  · rw [decide_eq_true (by unfold wrap64; omega)]; rfl

/-! twice is once -/
theorem twice_and {x : Gn} {t : Tr} (h : evalF x t = 0) (h2 : evalF (.node 10 0 0 [x, x]) t = 0) : evalN (.node 10 0 0 [x, x]) t = evalN x t := by
  have e1 := (ev_ok h).2.2
  have e2 := (ev_ok h2).2.2
  rw [num_two _ _ _ _ (by decide) (by decide), e1] at e2
  by_cases hp : evalN x t = 0 <;> simp [hp, bin] at e2
  · rw [hp]; exact e2.symm
  · exact e2.symm
theorem twice_or {x : Gn} {t : Tr} (h : evalF x t = 0) (h2 : evalF (.node 11 0 0 [x, x]) t = 0) : evalN (.node 11 0 0 [x, x]) t = evalN x t := by
  have e1 := (ev_ok h).2.2
  have e2 := (ev_ok h2).2.2
  rw [num_two _ _ _ _ (by decide) (by decide), e1] at e2
  by_cases hp : evalN x t = 0 <;> simp [hp, bin] at e2
  · rw [hp]; exact e2.symm
  · exact e2.symm
theorem twice_add {x : Gn} {t : Tr} (h : evalF x t = 0) (hb : B64 (evalN x t)) (h2 : evalF (.node 5 0 0 [x, .node 1 0 0 []]) t = 0) : evalN (.node 5 0 0 [x, .node 1 0 0 []]) t = evalN x t := by
  have e1 := (ev_ok h).2.2
  have e2 := (ev_ok h2).2.2
  rw [num_two _ _ _ _ (by decide) (by decide), e1, numE_eq] at e2
  simp [comb, Gn.kind, Gn.a, bin] at e2
  rw [wrap_in hb] at e2
  exact e2.symm
theorem twice_three {x y z : Gn} {t : Tr} {k : Int} (hk : k = 5 ∨ k = 10 ∨ k = 11) (h1 : evalF (.node k 0 0 [.node k 0 0 [x, y], z]) t = 0) (h2 : evalF (.node k 0 0 [x, .node k 0 0 [y, z]]) t = 0) :
    evalN (.node k 0 0 [.node k 0 0 [x, y], z]) t = evalN (.node k 0 0 [x, .node k 0 0 [y, z]]) t := by
  have e1 := (ev_ok h1).2.2
  have e2 := (ev_ok h2).2.2
  have h5 : 5 ≤ k := by omega
  have h9 : k ≠ 9 := by omega
  rw [num_two _ _ _ _ h5 h9, num_two _ _ _ _ h5 h9] at e1 e2
  cases hx : numE t x with
  | none => rw [hx] at e2; cases e2
  | some p =>
    rw [hx] at e1 e2
    rcases hk with rfl | rfl | rfl
    · cases hy : numE t y with
      | none => rw [hy] at e1; cases e1
      | some q =>
        cases hz : numE t z with
        | none => rw [hy, hz] at e1; simp [bin] at e1
        | some r =>
          rw [hy, hz] at e1 e2
          simp [bin] at e1 e2
          rw [← e1, ← e2]
          unfold wrap64
          omega
    · by_cases hp : p = 0
      · simp [hp] at e1 e2
        rw [← e1, ← e2]
      · simp [hp] at e1 e2
        cases hy : numE t y with
        | none => rw [hy] at e1; cases e1
        | some q =>
          rw [hy] at e1 e2
          simp [bin] at e1 e2
          by_cases hq : q = 0
          · simp [hq] at e1 e2
            rw [← e1, ← e2]
          · simp [hq] at e1 e2
            cases hz : numE t z with
            | none => rw [hz] at e1; cases e1
            | some r => rw [hz] at e1 e2; simp at e1 e2; rw [← e1, ← e2]
    · by_cases hp : p = 0
      · simp [hp] at e1 e2
        cases hy : numE t y with
        | none => rw [hy] at e1; cases e1
        | some q =>
          rw [hy] at e1 e2
          simp [bin] at e1 e2
          by_cases hq : q = 0
          · simp [hq] at e1 e2
            cases hz : numE t z with
            | none => rw [hz] at e1; cases e1
            | some r => rw [hz] at e1 e2; simp at e1 e2; rw [← e1, ← e2]
          · simp [hq] at e1 e2
            rw [← e1, ← e2]
      · simp [hp] at e1 e2
        rw [← e1, ← e2]
end Go.Proofs.YtabkihellcflhaaGreatDoor.Exprs
