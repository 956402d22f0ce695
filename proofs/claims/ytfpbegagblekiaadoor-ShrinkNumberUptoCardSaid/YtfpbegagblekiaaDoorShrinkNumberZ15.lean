/- ShrinkNumber, part 15 of the proof: A source of choices that is a function value of the program's: what is asked of it. -/
import Derived.Test.YtfpbegagblekiaaDoorShrinkNumberZ12
import Derived.Test.YtfpbegagblekiaaDoorShrinkNumberZ3
import Derived.Test.YtfpbegagblekiaaDoorShrinkNumberZ13
import Derived.Test.YtfpbegagblekiaaDoorShrinkNumberZ14
/- A source of choices that is a function value of the program's: what is asked of it. -/
namespace Go.Proofs.YtfpbegagblekiaaDoor.Gens
open Go.RowKit Lists Ints Vals
set_option linter.unusedVariables false

/-- a value's cells -/
abbrev tval (t : Tr) (A : Option Addr) (c : Nat) : Value := .agg #[.bool t.list, .int .i64 t.num, .slice A t.items.length c]
/-- the row at A is not frozen -/
def NFr (A : Option Addr) (w : World) : Prop := ∀ g, blockOf A = some g → ∃ cs T, w.heap[g]? = some (.cells cs T (0, 0))
theorem NFr.none_ (w : World) : NFr none w := fun g h => by cases h
abbrev panicV (er : Int) : Value := .iface 27 (.int .i64 er)
abbrev panicE (er : Int) : Ending := .panicked [{ v := panicV er, recovered := false }]
/-- what a call of the source comes to -/
def SPost {σ : Type} (I : σ → (Nat → Prop) → World → Prop) (r : Except Int (Int × σ)) (X : Nat → Prop) (w : World) (e : Ending) (w' : World) : Prop :=
  match r with
  | .ok (x, s') => e = .returned (.int .i64 x) ∧ ∃ X', I s' X' w' ∧ Mv X w w' X'
  | .error er => e = panicE er ∧ ∃ X', Mv X w w' X'
/-- A source: the function k, that holds cap; in state s its blocks are X, from B on. -/
structure Src {σ : Type} (ch : σ → Int → Except Int (Int × σ)) (k : Nat) (cap : Array Value) (B : Nat) (I : σ → (Nat → Prop) → World → Prop) : Prop where
  keep : ∀ s X w w', I s X w → (∀ b, b < B ∨ X b → w'.heap[b]? = w.heap[b]?) → w.heap.size ≤ w'.heap.size → I s X w'
  lt : ∀ s X w, I s X w → B ≤ w.heap.size ∧ ∀ b, X b → B ≤ b ∧ b < w.heap.size
  bnd : Bounded ch
  ent : ∀ args w, (callFunc k args).run Tryd.prog w = .ok (.enter k args) w
  call : ∀ s X w m, 0 ≤ m → m ≤ 1000 → I s X w → ch s m ≠ .error 77 → Calls Tryd.prog k (#[.int .i64 m] ++ cap) w (SPost I (ch s m) X w)
abbrev fv (k : Nat) (cap : Array Value) : Value := .func (.func k) #[] cap
/-- what value comes to -/
def VPost {σ : Type} (I : σ → (Nat → Prop) → World → Prop) (n : Nat) (r : Except Int (List Int × Tr × σ)) (X : Nat → Prop) (w : World) (e : Ending) (w' : World) : Prop :=
  match r with
  | .ok (c, t, s') => ∃ (A : Option Addr) (cc : Nat) (X' : Nat → Prop), e = .returned (tval t A cc) ∧ I s' X' w' ∧ Mv X w w' X' ∧ TAt w' (fun b => w.heap.size ≤ b ∧ b < w'.heap.size ∧ ¬ X' b) n (tval t A cc) t ∧ NFr A w'
  | .error er => e = panicE er ∧ ∃ X', Mv X w w' X'
def ValueOK {σ : Type} (ch : σ → Int → Except Int (Int × σ)) (k : Nat) (cap : Array Value) (B : Nat) (I : σ → (Nat → Prop) → World → Prop) (n : Nat) : Prop :=
  ∀ (g : Gn) (v : Value) (s : σ) (X : Nat → Prop) (w : World), GAt w (GBel B) n v g → Right g → g.size ≤ 30 → I s X w → play ch g s ≠ .error 77 →
    Calls Tryd.prog 65 #[fv k cap, v] w (VPost I n (play ch g s) X w)
theorem Mv.refl (X : Nat → Prop) (w : World) : Mv X w w X := ⟨rfl, rfl, rfl, Nat.le_refl _, fun _ _ _ => rfl, fun _ h => .inl h⟩
theorem Mv.trans {X X' X'' : Nat → Prop} {w w' w'' : World} (h : Mv X w w' X') (h' : Mv X' w' w'' X'') : Mv X w w'' X'' :=
  ⟨h'.os.trans h.os, h'.tape.trans h.tape, h'.output.trans h.output, Nat.le_trans h.size h'.size,
   fun b hb hx => (h'.block b (Nat.lt_of_lt_of_le hb h.size) (fun e => (h.new b e).elim hx (fun e => by omega))).trans (h.block b hb hx),
   fun b e => (h'.new b e).elim (h.new b) (fun e => .inr (Nat.le_trans h.size e))⟩
theorem Mv.below {X X' : Nat → Prop} {w w' : World} {B : Nat} (h : Mv X w w' X') (hX : ∀ b, X b → B ≤ b) (hB : B ≤ w.heap.size) : Below B w w' :=
  ⟨h.os, h.tape, h.output, h.size, fun b hb => h.block b (by omega) (fun e => by have := hX b e; omega)⟩
/-- new memory, and writes to it -/
theorem Mv.of_below {X : Nat → Prop} {w w' : World} (h : Below w.heap.size w w') : Mv X w w' X :=
  ⟨h.os, h.tape, h.output, h.size, fun b hb _ => h.block b hb, fun _ h => .inl h⟩
end Go.Proofs.YtfpbegagblekiaaDoor.Gens
