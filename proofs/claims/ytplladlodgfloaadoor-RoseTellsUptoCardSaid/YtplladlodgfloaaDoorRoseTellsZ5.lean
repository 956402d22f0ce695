/- RoseTells, part 5 of the proof: A source of choices that is a function value of the program's: what is asked of it. · Small laws for walks that ask a source: boxes, what stays, what is made. · In the midst of a list of values that a source's choices make: the row so far, the box that holds it. · The program's value: what it makes of a source's choices. Conditions: a small generator. · The program's value of a Both: all the sources' choices, one part after the other. Conditions: a small generator. · The program's value of a Many. Conditions: a small generator. -/
import Derived.Test.YtplladlodgfloaaDoorRoseTellsZ3
import Derived.Test.YtplladlodgfloaaDoorRoseTellsZ2
import Derived.Test.YtplladlodgfloaaDoorRoseTellsZ4
import Derived.Test.YtplladlodgfloaaDoorRoseTellsZ1
import Derived.Lib.Builder
import Derived.Deep.RegionHeld2
import Derived.Deep.RegionLaw
import Derived.Deep.DrawnRows
/- A source of choices that is a function value of the program's: what is asked of it. -/
namespace Go.Proofs.YtplladlodgfloaaDoor.Gens
open Go.RowKit Lists Ints Vals
set_option linter.unusedVariables false

/-- a value's cells -/
abbrev tval (t : Tr) (A : Option Addr) (c : Nat) : Value := .agg #[.bool t.list, .int .i64 t.num, .slice A t.items.length c]
/-- the row at A is not frozen -/
def NFr (A : Option Addr) (w : World) : Prop := ∀ g, blockOf A = some g → ∃ cs T, w.heap[g]? = some (.cells cs T (0, 0))
theorem NFr.none_ (w : World) : NFr none w := fun g h => by cases h
abbrev panicV (er : Int) : Value := .iface 27 (.int .i64 er)
abbrev panicE (er : Int) : Ending := .panicked [{ v := panicV er, recovered := false }]
/-- what a call of the source comes to -/
def SPost {σ : Type} (I : σ → (Nat → Prop) → World → Prop) (r : Except Int (Int × σ)) (X : Nat → Prop) (w : World) (e : Ending) (w' : World) : Prop :=
  match r with
  | .ok (x, s') => e = .returned (.int .i64 x) ∧ ∃ X', I s' X' w' ∧ Mv X w w' X'
  | .error er => e = panicE er ∧ ∃ X', Mv X w w' X'
/-- A source: the function k, that holds cap; in state s its blocks are X, from B on. -/
structure Src {σ : Type} (ch : σ → Int → Except Int (Int × σ)) (k : Nat) (cap : Array Value) (B : Nat) (I : σ → (Nat → Prop) → World → Prop) : Prop where
  keep : ∀ s X w w', I s X w → (∀ b, b < B ∨ X b → w'.heap[b]? = w.heap[b]?) → w.heap.size ≤ w'.heap.size → I s X w'
  lt : ∀ s X w, I s X w → B ≤ w.heap.size ∧ ∀ b, X b → B ≤ b ∧ b < w.heap.size
  bnd : Bounded ch
  ent : ∀ args w, (callFunc k args).run Tryd.prog w = .ok (.enter k args) w
  call : ∀ s X w m, 0 ≤ m → m ≤ 1000 → I s X w → ch s m ≠ .error 77 → Calls Tryd.prog k (#[.int .i64 m] ++ cap) w (SPost I (ch s m) X w)
abbrev fv (k : Nat) (cap : Array Value) : Value := .func (.func k) #[] cap
/-- what value comes to -/
def VPost {σ : Type} (I : σ → (Nat → Prop) → World → Prop) (n : Nat) (r : Except Int (List Int × Tr × σ)) (X : Nat → Prop) (w : World) (e : Ending) (w' : World) : Prop :=
  match r with
  | .ok (c, t, s') => ∃ (A : Option Addr) (cc : Nat) (X' : Nat → Prop), e = .returned (tval t A cc) ∧ I s' X' w' ∧ Mv X w w' X' ∧ TAt w' (fun b => w.heap.size ≤ b ∧ b < w'.heap.size ∧ ¬ X' b) n (tval t A cc) t ∧ NFr A w'
  | .error er => e = panicE er ∧ ∃ X', Mv X w w' X'
def ValueOK {σ : Type} (ch : σ → Int → Except Int (Int × σ)) (k : Nat) (cap : Array Value) (B : Nat) (I : σ → (Nat → Prop) → World → Prop) (n : Nat) : Prop :=
  ∀ (g : Gn) (v : Value) (s : σ) (X : Nat → Prop) (w : World), GAt w (GBel B) n v g → Right g → g.size ≤ 30 → I s X w → play ch g s ≠ .error 77 →
    Calls Tryd.prog 41 #[fv k cap, v] w (VPost I n (play ch g s) X w)
theorem Mv.refl (X : Nat → Prop) (w : World) : Mv X w w X := ⟨rfl, rfl, rfl, Nat.le_refl _, fun _ _ _ => rfl, fun _ h => .inl h⟩
theorem Mv.trans {X X' X'' : Nat → Prop} {w w' w'' : World} (h : Mv X w w' X') (h' : Mv X' w' w'' X'') : Mv X w w'' X'' :=
  ⟨h'.os.trans h.os, h'.tape.trans h.tape, h'.output.trans h.output, Nat.le_trans h.size h'.size,
   fun b hb hx => (h'.block b (Nat.lt_of_lt_of_le hb h.size) (fun e => (h.new b e).elim hx (fun e => by omega))).trans (h.block b hb hx),
   fun b e => (h'.new b e).elim (h.new b) (fun e => .inr (Nat.le_trans h.size e))⟩
theorem Mv.below {X X' : Nat → Prop} {w w' : World} {B : Nat} (h : Mv X w w' X') (hX : ∀ b, X b → B ≤ b) (hB : B ≤ w.heap.size) : Below B w w' :=
  ⟨h.os, h.tape, h.output, h.size, fun b hb => h.block b (by omega) (fun e => by have := hX b e; omega)⟩
/-- new memory, and writes to it -/
theorem Mv.of_below {X : Nat → Prop} {w w' : World} (h : Below w.heap.size w w') : Mv X w w' X :=
  ⟨h.os, h.tape, h.output, h.size, fun b hb _ => h.block b hb, fun _ h => .inl h⟩
end Go.Proofs.YtplladlodgfloaaDoor.Gens

/- Small laws for walks that ask a source: boxes, what stays, what is made. -/
namespace Go.Proofs.YtplladlodgfloaaDoor.Gens
open Go.RowKit Go.ChangeShapes Lists Ints Vals
set_option linter.unusedVariables false

theorem wf_small {x : Int} (h : -4294967296 ≤ x) (h2 : x ≤ 4294967296) : Wf x := WalkArith.wf_i64 (by omega)
theorem wrap_small {x : Int} (h : -4294967296 ≤ x) (h2 : x ≤ 4294967296) : IntKind.i64.wrap x = x := by
  rw [IntWalk.i64_left, IntWalk.wrap64_in _ (by omega)]
theorem right_num {k a b : Int} {subs : List Gn} (h : Right (.node k a b subs)) : (k = 1 → -1073741824 ≤ a ∧ a ≤ 1073741824) ∧ (k = 2 → -1073741824 ≤ a ∧ a ≤ 1073741824 ∧ -1073741824 ≤ b ∧ b ≤ 1073741824) := by
  obtain ⟨h1, h2, h3, _⟩ := right_of h
  simp [kindBad, rangeBad, subsBad, farB, Gn.kind, Gn.a, Gn.b, Gn.subs] at h1 h2 h3
  refine ⟨fun e => ?_, fun e => ?_⟩
  · have q1 := of_decide_eq_false (h2.1.1 e).1
    have q2 := of_decide_eq_false (h2.1.1 e).2
    omega
  · have q1 := of_decide_eq_false (h2.1.2 e).1.1.1.1
    have q2 := of_decide_eq_false (h2.1.2 e).1.1.1.2
    have q3 := of_decide_eq_false (h2.1.2 e).1.1.2.1
    have q4 := of_decide_eq_false (h2.1.2 e).1.1.2.2
    omega
theorem Mv.cell {X X' : Nat → Prop} {w w' : World} (h : Mv X w w' X') {b o : Nat} {v : Value} (hc : w.cell? ⟨b, o, none⟩ = some v) (hx : ¬ X b) : w'.cell? ⟨b, o, none⟩ = some v :=
  (World.cell?_of_block (h.block b (World.block_lt_of_cell? w ⟨b, o, none⟩ hc) hx)).trans hc
theorem Mv.set {X X' : Nat → Prop} {w w' : World} (h : Mv X w w' X') {b : Nat} (hb : w.heap.size ≤ b) (o : Nat) (v : Value) : Mv X w (w'.setCell ⟨b, o, none⟩ v) X' :=
  ⟨h.os, h.tape, h.output, by simpa [World.setCell] using h.size, fun i hi hx => (Below.heap_setCell _ _ _ _ (by show i ≠ b; omega)).trans (h.block i hi hx), h.new⟩
theorem Mv.later {X X' : Nat → Prop} {w w' w'' : World} (h : Mv X w w' X') (hb : Below w'.heap.size w' w'') : Mv X w w'' X' := Mv.trans h (Mv.of_below hb)
theorem Mv.not {X X' : Nat → Prop} {w w' : World} (h : Mv X w w' X') {b : Nat} (hb : b < w.heap.size) (hx : ¬ X b) : ¬ X' b := fun e => (h.new b e).elim hx (fun e => by omega)
section
variable {σ : Type} {ch : σ → Int → Except Int (Int × σ)} {k : Nat} {cap : Array Value} {B : Nat} {I : σ → (Nat → Prop) → World → Prop}
theorem SPost.split {r : Except Int (Int × σ)} {X : Nat → Prop} {w w' : World} {e : Ending} (h : SPost I r X w e w') :
    (∃ er X', r = .error er ∧ e = panicE er ∧ Mv X w w' X') ∨ ∃ x s' X', r = .ok (x, s') ∧ e = .returned (.int .i64 x) ∧ I s' X' w' ∧ Mv X w w' X' := by
  match r, h with
  | .ok (x, s'), ⟨h1, X', h2, h3⟩ => exact .inr ⟨x, s', X', rfl, h1, h2, h3⟩
  | .error er, ⟨h1, X', h2⟩ => exact .inl ⟨er, X', rfl, h1, h2⟩
theorem VPost.split {n : Nat} {r : Except Int (List Int × Tr × σ)} {X : Nat → Prop} {w w' : World} {e : Ending} (h : VPost I n r X w e w') :
    (∃ er X', r = .error er ∧ e = panicE er ∧ Mv X w w' X') ∨ ∃ c t s' A cc X', r = .ok (c, t, s') ∧ e = .returned (tval t A cc) ∧ I s' X' w' ∧ Mv X w w' X' ∧ TAt w' (fun b => w.heap.size ≤ b ∧ b < w'.heap.size ∧ ¬ X' b) n (tval t A cc) t ∧ NFr A w' := by
  match r, h with
  | .ok (c, t, s'), ⟨A, cc, X', h1, h2, h3, h4, h5⟩ => exact .inr ⟨c, t, s', A, cc, X', rfl, h1, h2, h3, h4, h5⟩
  | .error er, ⟨h1, X', h2⟩ => exact .inl ⟨er, X', rfl, h1, h2⟩
theorem VPost.bad {n : Nat} {r : Except Int (List Int × Tr × σ)} {X X' : Nat → Prop} {w w' : World} {er : Int} (h : r = .error er) (hm : Mv X w w' X') : VPost I n r X w (panicE er) w' := by
  subst h; exact ⟨rfl, X', hm⟩
theorem VPost.good {n : Nat} {r : Except Int (List Int × Tr × σ)} {X X' : Nat → Prop} {w w' : World} {c : List Int} {t : Tr} {s' : σ} {A : Option Addr} {cc : Nat} (h : r = .ok (c, t, s')) (hi : I s' X' w') (hm : Mv X w w' X')
    (ht : TAt w' (fun b => w.heap.size ≤ b ∧ b < w'.heap.size ∧ ¬ X' b) n (tval t A cc) t) (hn : NFr A w') : VPost I n r X w (.returned (tval t A cc)) w' := by
  subst h; exact ⟨A, cc, X', rfl, hi, hm, ht, hn⟩
theorem Src.below (S : Src ch k cap B I) {s : σ} {X : Nat → Prop} {w W : World} (hI : I s X w) (h : Below w.heap.size w W) : I s X W := by
  obtain ⟨h1, h2⟩ := S.lt s X w hI
  exact S.keep s X w W hI (fun b hb => h.block b (hb.elim (fun h => by omega) (fun h => (h2 b h).2))) h.size
theorem Src.set (S : Src ch k cap B I) {s : σ} {X : Nat → Prop} {w : World} (hI : I s X w) {b : Nat} (hb : B ≤ b) (hx : ¬ X b) (o : Nat) (v : Value) : I s X (w.setCell ⟨b, o, none⟩ v) :=
  S.keep s X w _ hI (fun i hi => Below.heap_setCell _ _ _ _ (by show i ≠ b; intro e; subst e; exact hi.elim (fun h => by omega) hx)) (by simp [World.setCell])
theorem Src.not (S : Src ch k cap B I) {s : σ} {X : Nat → Prop} {w : World} (hI : I s X w) {b : Nat} (hb : w.heap.size ≤ b) : ¬ X b := fun h => by have := ((S.lt s X w hI).2 b h).2; omega
end
/-- a value's box -/
def V3 (b : Nat) (x0 x1 x2 : Value) (w : World) : Prop := w.heap[b]? = some (.cells #[x0, x1, x2] 32 (0, 0))
theorem V3.facts {b : Nat} {x0 x1 x2 : Value} {w : World} (h : V3 b x0 x1 x2 w) : w.cell? ⟨b, 0, none⟩ = some x0 ∧ w.cell? ⟨b, 1, none⟩ = some x1 ∧ w.cell? ⟨b, 2, none⟩ = some x2 ∧ w.frozen? ⟨b, 0, none⟩ = false ∧ w.frozen? ⟨b, 1, none⟩ = false ∧ w.frozen? ⟨b, 2, none⟩ = false :=
  ⟨by rw [Lib.cell_of_heap h]; rfl, by rw [Lib.cell_of_heap h]; rfl, by rw [Lib.cell_of_heap h]; rfl, Lib.frozen_of_heap h 0, Lib.frozen_of_heap h 1, Lib.frozen_of_heap h 2⟩
theorem V3.lt {b : Nat} {x0 x1 x2 : Value} {w : World} (h : V3 b x0 x1 x2 w) : b < w.heap.size := (Array.getElem?_eq_some_iff.1 h).1
theorem V3.mv {b : Nat} {x0 x1 x2 : Value} {X X' : Nat → Prop} {w w' : World} (h : V3 b x0 x1 x2 w) (hm : Mv X w w' X') (hx : ¬ X b) : V3 b x0 x1 x2 w' := (hm.block b h.lt hx).trans h
theorem V3.below {b : Nat} {x0 x1 x2 : Value} {w w' : World} (h : V3 b x0 x1 x2 w) (hb : Below w.heap.size w w') : V3 b x0 x1 x2 w' := (hb.block b h.lt).trans h
theorem V3.put {b : Nat} {x0 x1 x2 : Value} {w : World} (h : V3 b x0 x1 x2 w) (y0 y1 y2 : Value) : V3 b y0 y1 y2 (((w.setCell ⟨b, 0, none⟩ y0).setCell ⟨b, 1, none⟩ y1).setCell ⟨b, 2, none⟩ y2) := by
  unfold V3 at h ⊢
  simp [World.setCell, Array.getElem?_modify, h]
theorem V3.put2 {b : Nat} {x0 x1 x2 : Value} {w : World} (h : V3 b x0 x1 x2 w) (y2 : Value) : V3 b x0 x1 y2 (w.setCell ⟨b, 2, none⟩ y2) := by
  unfold V3 at h ⊢
  simp [World.setCell, Array.getElem?_modify, h]
theorem V3.other {b : Nat} {x0 x1 x2 : Value} {w : World} (h : V3 b x0 x1 x2 w) {c : Nat} (hn : b ≠ c) (o : Nat) (v : Value) : V3 b x0 x1 x2 (w.setCell ⟨c, o, none⟩ v) := (Below.heap_setCell w ⟨c, o, none⟩ v b hn).trans h
/-- a generator's box -/
def G4 (b : Nat) (x0 x1 x2 x3 : Value) (w : World) : Prop := w.heap[b]? = some (.cells #[x0, x1, x2, x3] 24 (0, 0))
theorem G4.facts {b : Nat} {x0 x1 x2 x3 : Value} {w : World} (h : G4 b x0 x1 x2 x3 w) : w.cell? ⟨b, 0, none⟩ = some x0 ∧ w.cell? ⟨b, 1, none⟩ = some x1 ∧ w.cell? ⟨b, 2, none⟩ = some x2 ∧ w.cell? ⟨b, 3, none⟩ = some x3 :=
  ⟨by rw [Lib.cell_of_heap h]; rfl, by rw [Lib.cell_of_heap h]; rfl, by rw [Lib.cell_of_heap h]; rfl, by rw [Lib.cell_of_heap h]; rfl⟩
theorem G4.lt {b : Nat} {x0 x1 x2 x3 : Value} {w : World} (h : G4 b x0 x1 x2 x3 w) : b < w.heap.size := (Array.getElem?_eq_some_iff.1 h).1
theorem G4.mv {b : Nat} {x0 x1 x2 x3 : Value} {X X' : Nat → Prop} {w w' : World} (h : G4 b x0 x1 x2 x3 w) (hm : Mv X w w' X') (hx : ¬ X b) : G4 b x0 x1 x2 x3 w' := (hm.block b h.lt hx).trans h
theorem G4.below {b : Nat} {x0 x1 x2 x3 : Value} {w w' : World} (h : G4 b x0 x1 x2 x3 w) (hb : Below w.heap.size w w') : G4 b x0 x1 x2 x3 w' := (hb.block b h.lt).trans h
theorem new_obj (w : World) (o : Obj) : (w.alloc o).heap[w.heap.size]? = some o := by
  show (w.heap.push o)[w.heap.size]? = _
  simp
theorem bel1 (w : World) (o : Obj) : Below w.heap.size w (w.alloc o) := (Below.refl _ _).alloc (Nat.le_refl _) _
/-- the two boxes at value's start -/
theorem two_boxes (w : World) (x0 x1 x2 x3 y0 y1 y2 : Value) : G4 w.heap.size x0 x1 x2 x3 ((w.alloc (.cells #[x0, x1, x2, x3] 24)).alloc (.cells #[y0, y1, y2] 32)) ∧
    V3 (w.heap.size + 1) y0 y1 y2 ((w.alloc (.cells #[x0, x1, x2, x3] 24)).alloc (.cells #[y0, y1, y2] 32)) ∧
    Below w.heap.size w ((w.alloc (.cells #[x0, x1, x2, x3] 24)).alloc (.cells #[y0, y1, y2] 32)) ∧
    ((w.alloc (.cells #[x0, x1, x2, x3] 24)).alloc (.cells #[y0, y1, y2] 32)).heap.size = w.heap.size + 2 := by
  have hz : (w.alloc (.cells #[x0, x1, x2, x3] 24)).heap.size = w.heap.size + 1 := by simp
  have g : G4 w.heap.size x0 x1 x2 x3 (w.alloc (.cells #[x0, x1, x2, x3] 24)) := new_obj _ _
  refine ⟨g.below (bel1 _ _), ?_, (bel1 w _).trans ((bel1 _ _).mono (by simp)), by simp⟩
  have := new_obj (w.alloc (.cells #[x0, x1, x2, x3] 24)) (.cells #[y0, y1, y2] 32)
  rw [hz] at this
  exact this
/-- what the row holds, as a value of one level more -/
theorem OwnX.at_ {w : World} {base c d : Nat} {A : Option Addr} {acc : List Tr} {X : Nat → Prop} {l : Bool} {n : Int} (h : OwnX w base A c acc d X) (hn : Wf n) :
    TAt w (fun b => base ≤ b ∧ b < w.heap.size ∧ ¬ X b) (d + 1) (.agg #[.bool l, .int .i64 n, .slice A acc.length c]) (.node l n acc) := by
  obtain ⟨hx, xs, h1, h2, h3⟩ := h
  refine ⟨hn, A, c, rfl, fun hp => ?_⟩
  rcases h2.2 with ⟨he, h0⟩ | ⟨g, cap, cur, he, hbg, hh, _, _, _, ht⟩
  · simp only [Tr.items] at hp; omega
  · have hA : A = some ⟨g, 0, none⟩ := by injection he
    refine ⟨g, 0, hA, ⟨hbg, (Array.getElem?_eq_some_iff.1 hh).1, hx g (by rw [hA]; rfl)⟩, fun j hj => ?_⟩
    have hj' : j < xs.length := by rw [h1]; exact hj
    have hcell : ∀ q, q < 3 → w.cell? ⟨g, 0 + j * 3 + q, none⟩ = (three (xs[j]'hj'))[q]? := by
      intro q hq
      rw [cell_of_row w g _ cur 32 (0, 0) hh]
      have e := flat_get xs j q hj' hq
      rw [← ht, List.getElem?_take] at e
      have hlt : j * 3 + q < acc.length * 3 := by
        have : j < acc.length := hj
        omega
      rw [if_pos hlt] at e
      rw [← e, Array.getElem?_toList]
      congr 1
      omega
    exact ⟨_, _, _, hcell 0 (by omega), hcell 1 (by omega), hcell 2 (by omega), (h3 j hj hj').keep fun b hm => ⟨⟨hm.1, hm.2.1, hm.2.2.2⟩, fun _ => rfl⟩⟩
theorem OwnX.nfr {w : World} {base c d : Nat} {A : Option Addr} {acc : List Tr} {X : Nat → Prop} (h : OwnX w base A c acc d X) : NFr A w := by
  intro g hg
  obtain ⟨_, xs, _, h2, _⟩ := h
  rcases h2.2 with ⟨he, _⟩ | ⟨g', cap, cur, he, _, hh, _⟩
  · injection he with he; subst he; cases hg
  · injection he with he; subst he
    have : g' = g := by simpa [blockOf] using hg
    subst this
    exact ⟨_, _, hh⟩
theorem NFr.set {A : Option Addr} {w : World} (h : NFr A w) {b o : Nat} {v : Value} : NFr A (w.setCell ⟨b, o, none⟩ v) := by
  intro g hg
  obtain ⟨cs, T, e⟩ := h g hg
  by_cases hb : g = b
  · subst hb
    exact ⟨_, T, by simp [World.setCell, Array.getElem?_modify, e]; rfl⟩
  · exact ⟨cs, T, (Below.heap_setCell w ⟨b, o, none⟩ v g hb).trans e⟩
end Go.Proofs.YtplladlodgfloaaDoor.Gens

/- In the midst of a list of values that a source's choices make: the row so far, the box that holds it. -/
namespace Go.Proofs.YtplladlodgfloaaDoor.Gens
open Go.RowKit Go.ChangeShapes Lists Ints Vals
set_option linter.unusedVariables false

theorem OwnX.keep {w w' : World} {base c d : Nat} {A : Option Addr} {acc : List Tr} {X : Nat → Prop} (h : OwnX w base A c acc d X) (hs : w.heap.size ≤ w'.heap.size) (hk : ∀ b, base ≤ b → b < w.heap.size → w'.heap[b]? = w.heap[b]?) : OwnX w' base A c acc d X := by
  have hg := h.t.ge
  obtain ⟨hn, xs, h1, h2, h3⟩ := h
  refine ⟨hn, xs, h1, ⟨h2.1, ?_⟩, fun j hj hj' => (h3 j hj hj').keep fun b hb => ⟨⟨hb.1, Nat.lt_of_lt_of_le hb.2.1 hs, hb.2.2.1, hb.2.2.2⟩, fun o => World.cell?_of_block (hk b hb.1 hb.2.1)⟩⟩
  rcases h2.2 with h0 | ⟨g, cap, cur, he, hbg, hh, r⟩
  · exact .inl h0
  · exact .inr ⟨g, cap, cur, he, hbg, (hk g hbg (Array.getElem?_eq_some_iff.1 hh).1).trans hh, r⟩
theorem step_append_x {ops : Array Oper} {o : Oper} {a : Act} {w : World} {K : Act → World → Prop} {Q : Exit → Act → World → Prop} {E : Prop} (hgd : o.guard = none) (s x : Operand)
    (ho : o.op = .call { callee := .builtin .append, args := #[s, x], argTypes := #[30, 30] })
    (base c d : Nat) (A : Option Addr) (acc : List Tr) (X : Nat → Prop) (hX : ∀ b, X b → b < w.heap.size) (hown : OwnX w base A c acc d X) (b : Nat) (x0 x1 x2 : Value) (c2 : Nat) (t : Tr)
    (k0 : w.cell? ⟨b, 0, none⟩ = some x0) (k1 : w.cell? ⟨b, 1, none⟩ = some x1) (k2 : w.cell? ⟨b, 2, none⟩ = some x2) (one : x0.oneCell' = true ∧ x1.oneCell' = true ∧ x2.oneCell' = true)
    (ht : TAt w (MineX w base A X) d (.agg #[x0, x1, x2]) t)
    (hs : a.eval s = .slice A acc.length c) (hx : a.eval x = .slice (some ⟨b, 0, none⟩) 1 c2)
    (h63 : acc.length + 1 ≤ 1099511627776) (hbase : base ≤ w.heap.size)
    (h : ∀ A' c' w' (zl : List Tr), Hid (zl = acc ++ [t]) → OwnX w' base A' c' zl d X → w.grownBy w' (blockOf A) → K (a.put o.dst (.slice A' zl.length c')) w') :
    if Region.wanted o (yielded ops a.tmps) = true then Oper.wp Tryd.prog o a w K Q else E := by
  have hw : Region.wanted o (yielded ops a.tmps) = true := by simp [Region.wanted, hgd]
  rw [if_pos hw]
  obtain ⟨A', c', w', hrun, h2, h3⟩ := run_append_x w base c d A acc X hX hown b x0 x1 x2 c2 t k0 k1 k2 one ht h63 hbase o.type
  unfold Oper.wp execOp
  simp only [ho, resolve, invoke, builtin, Sem.run_bind, Sem.run_pure, Result.andThen_ok, List.map_toArray, List.map_cons, List.map_nil, hs, hx, hrun]
  exact h A' c' w' _ rfl h2 h3

section
variable {σ : Type} {ch : σ → Int → Except Int (Int × σ)} {k : Nat} {cap : Array Value} {B : Nat} {I : σ → (Nat → Prop) → World → Prop}
/-- j of the generators l have made the values acc: they lie in the row at A, which the value in box vb holds; w: the world at the call, base: where the row may begin. -/
structure Mid (ch : σ → Int → Except Int (Int × σ)) (I : σ → (Nat → Prop) → World → Prop) (l : List Gn) (s : σ) (X : Nat → Prop) (w : World) (vb base n j : Nat) (acc : List Tr) (sj : σ) (Xj : Nat → Prop) (A : Option Addr) (c : Nat) (wr : World) : Prop where
  le : j ≤ l.length
  run : ∃ cs, playAll ch (l.take j) s = .ok (cs, acc, sj)
  len : acc.length = j
  inv : I sj Xj wr
  mv : Mv X w wr Xj
  row : OwnX wr base A c acc n Xj
  box : V3 vb (.bool true) (.int .i64 0) (.slice A acc.length c) wr
  lo : w.heap.size ≤ vb
  hi : vb < base
  base : base ≤ wr.heap.size
  out : ¬ Xj vb
theorem all_len : ∀ (l : List Gn) (s : σ) (c : List Int) (vs : List Tr) (s1 : σ), playAll ch l s = .ok (c, vs, s1) → vs.length = l.length
  | [], s, c, vs, s1, h => by
    simp only [playAll, Except.ok.injEq, Prod.mk.injEq] at h
    obtain ⟨_, rfl, _⟩ := h
    rfl
  | g :: l, s, c, vs, s1, h => by
    simp only [playAll] at h
    cases h1 : play ch g s with
    | error e => rw [h1] at h; cases h
    | ok p =>
      obtain ⟨c1, v, s3⟩ := p
      simp only [h1] at h
      cases h3 : playAll ch l s3 with
      | error e => simp only [h3] at h; cases h
      | ok q =>
        obtain ⟨c4, vs4, s4⟩ := q
        simp only [h3, Except.ok.injEq, Prod.mk.injEq] at h
        obtain ⟨_, rfl, _⟩ := h
        simp [all_len l s3 c4 vs4 s4 h3]
theorem Mid.start (S : Src ch k cap B I) {l : List Gn} {s : σ} {X : Nat → Prop} {w W : World} {vb base n : Nat} (hI : I s X w) (hb : Below w.heap.size w W) (hv : V3 vb (.bool true) (.int .i64 0) (.slice none 0 0) W) (hlo : w.heap.size ≤ vb) (hhi : vb < base) (hbase : base ≤ W.heap.size) :
    Mid ch I l s X w vb base n 0 [] s X none 0 W :=
  ⟨Nat.zero_le _, ⟨[], by simp [playAll]⟩, rfl, S.below hI hb, Mv.of_below hb, OwnX.none_, hv, hlo, hhi, hbase, S.not hI hlo⟩
/-- what a further choice leaves of it, ahead of the call of value: memory was made -/
theorem Mid.later (S : Src ch k cap B I) {l : List Gn} {s sj : σ} {X Xj : Nat → Prop} {w wr wr2 : World} {vb base n j c : Nat} {acc : List Tr} {A : Option Addr} (h : Mid ch I l s X w vb base n j acc sj Xj A c wr) (hb : Below wr.heap.size wr wr2) : Mid ch I l s X w vb base n j acc sj Xj A c wr2 :=
  ⟨h.le, h.run, h.len, S.below h.inv hb, Mv.later h.mv hb, h.row.mv (Mv.of_below hb), h.box.below hb, h.lo, h.hi, Nat.le_trans h.base hb.size, h.out⟩
/-- what the call gives: the row as it was, the value among what the row may hold -/
theorem Mid.called (S : Src ch k cap B I) {l : List Gn} {s sj s' : σ} {X Xj X' : Nat → Prop} {w wr w3 w4 : World} {vb base n j c : Nat} {acc : List Tr} {A : Option Addr} {t : Tr} {v : Value} (h : Mid ch I l s X w vb base n j acc sj Xj A c wr)
    (hi : I s' X' w3) (hm : Mv Xj wr w3 X') (ht : TAt w3 (fun b => wr.heap.size ≤ b ∧ b < w3.heap.size ∧ ¬ X' b) n v t) (hb : Below w3.heap.size w3 w4) :
    OwnX w4 base A c acc n X' ∧ TAt w4 (MineX w4 base A X') n v t ∧ (∀ b, X' b → b < w4.heap.size) ∧ base ≤ w4.heap.size ∧ V3 vb (.bool true) (.int .i64 0) (.slice A acc.length c) w4 := by
  refine ⟨(h.row.mv hm).mv (Mv.of_below hb), ?_, fun b hx => Nat.lt_of_lt_of_le ((S.lt s' X' w3 hi).2 b hx).2 hb.size, Nat.le_trans h.base (Nat.le_trans hm.size hb.size), (h.box.mv hm h.out).below hb⟩
  refine ht.keep fun b ⟨h1, h2, h3⟩ => ⟨⟨Nat.le_trans h.base h1, Nat.lt_of_lt_of_le h2 hb.size, fun e => ?_, h3⟩, fun o => hb.cell (p := ⟨b, o, none⟩) h2⟩
  have := (h.row.t.ge b e).2
  omega
/-- one more -/
theorem Mid.next (S : Src ch k cap B I) {l : List Gn} {s sj s' : σ} {X Xj X' : Nat → Prop} {w wr w3 w4 w5 : World} {vb base n j c c' : Nat} {acc : List Tr} {A A' : Option Addr} {t : Tr} {c2 : List Int} (h : Mid ch I l s X w vb base n j acc sj Xj A c wr) (hj : j < l.length)
    (hp : play ch (l[j]'hj) sj = .ok (c2, t, s')) (hi : I s' X' w3) (hm : Mv Xj wr w3 X') (hb : Below w3.heap.size w3 w4) (ho : OwnX w5 base A' c' (acc ++ [t]) n X') (hown : OwnX w4 base A c acc n X') (hg : w4.grownBy w5 (blockOf A)) (hB : B ≤ w.heap.size) :
    Mid ch I l s X w vb base n (j + 1) (acc ++ [t]) s' X' A' c' (w5.setCell ⟨vb, 2, none⟩ (.slice A' (acc ++ [t]).length c')) := by
  obtain ⟨cs, hr⟩ := h.run
  have hv3 : ¬ X' vb := Mv.not hm h.box.lt h.out
  have hge := hown.t.ge
  have hbox4 : V3 vb (.bool true) (.int .i64 0) (.slice A acc.length c) w4 := (h.box.mv hm h.out).below hb
  have hbox5 : V3 vb (.bool true) (.int .i64 0) (.slice A acc.length c) w5 := (hg.block vb hbox4.lt (fun e => by have := (hge vb e.symm).1; have := h.hi; omega)).trans hbox4
  have m5 : Mv X w w5 X' := by
    have m4 := Mv.later (Mv.trans h.mv hm) hb
    have h1 := h.lo
    have h2 := h.hi
    exact ⟨hg.os.trans m4.os, hg.tape.trans m4.tape, hg.output.trans m4.output, Nat.le_trans m4.size hg.size, fun b hlt hx => (hg.block b (Nat.lt_of_lt_of_le hlt m4.size) (fun e => by have := (hge b e.symm).1; omega)).trans (m4.block b hlt hx), m4.new⟩
  have i5 : I s' X' w5 := by
    obtain ⟨l1, l2⟩ := S.lt s' X' w3 hi
    refine S.keep s' X' w3 w5 hi (fun b hbx => ?_) (Nat.le_trans hb.size hg.size)
    have hlt : b < w3.heap.size := hbx.elim (fun h => by omega) (fun h => (l2 b h).2)
    refine (hg.block b (Nat.lt_of_lt_of_le hlt hb.size) (fun e => ?_)).trans (hb.block b hlt)
    rcases hbx with hlo | hx
    · have := (hge b e.symm).1
      have := h.lo
      have := h.hi
      omega
    · exact hown.1 b e.symm hx
  refine ⟨hj, ⟨cs ++ c2, all_step hj hr hp⟩, by simp [h.len], S.set i5 (Nat.le_trans hB h.lo) hv3 2 _, Mv.set m5 h.lo 2 _, OwnX.keep ho (by simp [World.setCell]) (fun b hb1 hb2 => Below.heap_setCell _ _ _ _ (by show b ≠ vb; have := h.hi; omega)), hbox5.put2 _, h.lo, h.hi, ?_, hv3⟩
  · have : (w5.setCell ⟨vb, 2, none⟩ (.slice A' (acc ++ [t]).length c')).heap.size = w5.heap.size := by simp [World.setCell]
    rw [this]; exact Nat.le_trans h.base (Nat.le_trans hm.size (Nat.le_trans hb.size hg.size))
theorem V3.grown {vb base c n : Nat} {x0 x1 x2 : Value} {w4 w5 : World} {A : Option Addr} {acc : List Tr} {X : Nat → Prop} (h : V3 vb x0 x1 x2 w4) (hown : OwnX w4 base A c acc n X) (hg : w4.grownBy w5 (blockOf A)) (hlt : vb < base) : V3 vb x0 x1 x2 w5 :=
  (hg.block vb h.lt (fun e => by have := (hown.t.ge vb e.symm).1; omega)).trans h
/-- a box beside it -/
theorem Mid.side {l : List Gn} {s sj : σ} {X Xj X' : Nat → Prop} {w wr w3 w4 w5 : World} {vb base n j c : Nat} {acc : List Tr} {A : Option Addr} {rb : Nat} {x0 x1 x2 y : Value} (h : Mid ch I l s X w vb base n j acc sj Xj A c wr) (hm : Mv Xj wr w3 X') (hb : Below w3.heap.size w3 w4) (hown : OwnX w4 base A c acc n X') (hg : w4.grownBy w5 (blockOf A))
    (hr : V3 rb x0 x1 x2 wr ∧ ¬ Xj rb) (hlt : rb < base) (hne : rb ≠ vb) (o : Nat) : V3 rb x0 x1 x2 (w5.setCell ⟨vb, o, none⟩ y) ∧ ¬ X' rb :=
  ⟨(V3.grown ((hr.1.mv hm hr.2).below hb) hown hg hlt).other hne _ _, Mv.not hm hr.1.lt hr.2⟩
theorem OwnX.set {w : World} {base c d : Nat} {A : Option Addr} {acc : List Tr} {X : Nat → Prop} (h : OwnX w base A c acc d X) {b : Nat} (hb : b < base) (o : Nat) (v : Value) : OwnX (w.setCell ⟨b, o, none⟩ v) base A c acc d X :=
  OwnX.keep h (by simp [World.setCell]) (fun q h1 h2 => Below.heap_setCell _ _ _ _ (by show q ≠ b; omega))
/-- all of them: the value is returned through box rb -/
theorem Mid.done (S : Src ch k cap B I) {r : Except Int (List Int × Tr × σ)} {l : List Gn} {s sj : σ} {X Xj : Nat → Prop} {w wr : World} {vb base n j c : Nat} {acc : List Tr} {A : Option Addr} {rb : Nat} {y0 y1 y2 : Value} (h : Mid ch I l s X w vb base n j acc sj Xj A c wr) (hj : j = l.length) (hB : B ≤ w.heap.size)
    (hp : ∃ cs, ∀ cs2, playAll ch l s = .ok (cs2, acc, sj) → r = .ok (cs, .node true 0 acc, sj)) (hlo : w.heap.size ≤ rb) (hhi : rb < base) (hx : ¬ Xj rb) : VPost I (n + 1) r X w (.returned (tval (.node true 0 acc) A c)) (((wr.setCell ⟨rb, 0, none⟩ y0).setCell ⟨rb, 1, none⟩ y1).setCell ⟨rb, 2, none⟩ y2) := by
  obtain ⟨cs, hrun⟩ := h.run
  rw [List.take_of_length_le (by omega)] at hrun
  obtain ⟨cs', hp⟩ := hp
  have hrb : B ≤ rb := Nat.le_trans hB hlo
  have ho := OwnX.set (OwnX.set (OwnX.set h.row hhi 0 y0) hhi 1 y1) hhi 2 y2
  refine VPost.good (hp _ hrun) (S.set (S.set (S.set h.inv hrb hx 0 y0) hrb hx 1 y1) hrb hx 2 y2) (Mv.set (Mv.set (Mv.set h.mv hlo 0 y0) hlo 1 y1) hlo 2 y2) ?_ (OwnX.nfr ho)
  exact (OwnX.at_ (l := true) (n := 0) ho (by decide)).keep fun b ⟨h1, h2, h3⟩ => ⟨⟨by have := h.lo; have := h.hi; omega, h2, h3⟩, fun _ => rfl⟩
/-- begun behind a first choice -/
theorem Mid.start2 {l : List Gn} {s1 : σ} {X X1 : Nat → Prop} {w w1 : World} {vb base n : Nat} (hI : I s1 X1 w1) (hm : Mv X w w1 X1) (hv : V3 vb (.bool true) (.int .i64 0) (.slice none 0 0) w1) (hlo : w.heap.size ≤ vb) (hhi : vb < base) (hbase : base ≤ w1.heap.size) (hx : ¬ X1 vb) :
    Mid ch I l s1 X w vb base n 0 [] s1 X1 none 0 w1 :=
  ⟨Nat.zero_le _, ⟨[], by simp [playAll]⟩, rfl, hI, hm, OwnX.none_, hv, hlo, hhi, hbase, hx⟩
theorem Mid.sideG {l : List Gn} {s sj : σ} {X Xj X' : Nat → Prop} {w wr w3 w4 w5 : World} {vb base n j c : Nat} {acc : List Tr} {A : Option Addr} {rb : Nat} {x0 x1 x2 x3 y : Value} (h : Mid ch I l s X w vb base n j acc sj Xj A c wr) (hm : Mv Xj wr w3 X') (hb : Below w3.heap.size w3 w4) (hown : OwnX w4 base A c acc n X') (hg : w4.grownBy w5 (blockOf A))
    (hr : G4 rb x0 x1 x2 x3 wr ∧ ¬ Xj rb) (hlt : rb < base) (hne : rb ≠ vb) (o : Nat) : G4 rb x0 x1 x2 x3 (w5.setCell ⟨vb, o, none⟩ y) ∧ ¬ X' rb :=
  ⟨(Below.heap_setCell w5 ⟨vb, o, none⟩ y rb hne).trans ((hg.block rb ((hr.1.mv hm hr.2).below hb).lt (fun e => by have := (hown.t.ge rb e.symm).1; omega)).trans ((hr.1.mv hm hr.2).below hb)), Mv.not hm hr.1.lt hr.2⟩
end
end Go.Proofs.YtplladlodgfloaaDoor.Gens

/- The program's value: what it makes of a source's choices. Conditions: a small generator. -/
namespace Go.Proofs.YtplladlodgfloaaDoor.Gens
open Go.RowKit Lists Ints Vals
set_option linter.unusedVariables false

section
variable {σ : Type} {ch : σ → Int → Except Int (Int × σ)} {k : Nat} {cap : Array Value} {B : Nat} {I : σ → (Nat → Prop) → World → Prop}

theorem bel_drew {w W : World} (h : Below w.heap.size w W) : Below w.heap.size w W.drew := ⟨h.os, h.tape, h.output, h.size, h.block⟩

set_option maxHeartbeats 1000000 in
set_option maxRecDepth 100000 in
theorem value_int (S : Src ch k cap B I) (n : Nat) (a b : Int) (subs : List Gn) (A : Option Addr) (c : Nat) (s : σ) (X : Nat → Prop) (w : World) (hr : Right (.node 2 a b subs)) (hI : I s X w) (hne : play ch (.node 2 a b subs) s ≠ .error 77) :
    Calls Tryd.prog 41 #[fv k cap, .agg #[.int .i64 2, .int .i64 a, .int .i64 b, .slice A subs.length c]] w (VPost I (n + 1) (play ch (.node 2 a b subs) s) X w) := by
  have hm := (right_max hr).1 rfl
  have hn := (right_num hr).2 rfl
  have hsub : IntKind.i64.wrap (b - a) = b - a := wrap_small (by omega) (by omega)
  have hent := S.ent
  have HB := Lib.hid (two_boxes w (.int .i64 2) (.int .i64 a) (.int .i64 b) (.slice A subs.length c) (.bool false) (.int .i64 0) (.slice none 0 0))
  have HBAD := Lib.hid (fun er W1 X' (hc : ch s (b - a) = .error er) (hm : Mv X w W1 X') => VPost.bad (I := I) (er := er) (n := n + 1) (r := play ch (.node 2 a b subs) s) (by simp [play, hc]) hm)
  have HNE := Lib.hid (show ch s (b - a) ≠ .error 77 from fun e => hne (by simp [play, e]))
  clear hne
  have HN := Lib.hid hn
  have HM := Lib.hid hm
  have HR := Lib.hid hr
  clear hm hn hr
  go_enter Tryd.func41, Tryd.ntmps41
  go_wp2_with fail
  generalize (w.alloc (.cells #[.int .i64 2, .int .i64 a, .int .i64 b, .slice A subs.length c] 24)).alloc (.cells #[.bool false, .int .i64 0, .slice none 0 0] 32) = W at HB ⊢
  have hX : ∀ q, w.heap.size ≤ q → ¬ X q := fun q hq => S.not hI hq
  have HC := Lib.hid (S.call s X W.drew (b - a) HM.out.1 (by have := HM.out; omega) (S.below hI (bel_drew HB.out.2.2.1)) HNE.out)
  obtain ⟨k0, k1, k2, k3⟩ := HB.out.1.facts
  go_region_held2 (fun w' => w'.cell? ⟨w.heap.size, 1, none⟩ = some (.int .i64 a) ∧ w'.cell? ⟨w.heap.size, 2, none⟩ = some (.int .i64 b)) (go_keep) (first
    | (with_reducible refine HC.out.mono ?_
       intro e w1 hs
       rcases hs.split with ⟨er, X', hc, rfl, hm1⟩ | ⟨x, s', X', hc, rfl, hi1, hm1⟩
       · exact ⟨rfl, HBAD.out er w1 X' hc (Mv.trans (Mv.of_below (bel_drew HB.out.2.2.1)) hm1)⟩
       have j1 := Mv.cell hm1 (v := .int .i64 a) k1 (hX _ (Nat.le_refl _))
       have j2 := Mv.cell hm1 (v := .int .i64 b) k2 (hX _ (Nat.le_refl _))
       have hb := S.bnd s _ x s' HM.out.1 hc
       have hadd : IntKind.i64.wrap (a + x) = a + x := wrap_small (by have := HN.out; omega) (by have := HN.out; omega)
       have V1 := Lib.hid (V3.mv HB.out.2.1 (Mv.trans (Mv.of_below (bel_drew (Below.refl _ _))) hm1) (hX _ (by omega)))
       obtain ⟨z0, z1, z2, y0, y1, y2⟩ := V1.out.facts
       clear hs hb))
  have V9 := V3.put V1.out (.bool false) (.int .i64 (a + x)) (.slice none 0 0)
  have M9 := Lib.hid (Mv.set (Mv.set (Mv.set (Mv.trans (Mv.of_below (bel_drew HB.out.2.2.1)) hm1) (b := w.heap.size + 1) (by omega) 0 (.bool false)) (b := w.heap.size + 1) (by omega) 1 (.int .i64 (a + x))) (b := w.heap.size + 1) (by omega) 2 (.slice none 0 0))
  have hx1 : ¬ X' (w.heap.size + 1) := Mv.not hm1 (by show w.heap.size + 1 < W.heap.size; rw [HB.out.2.2.2]; omega) (hX _ (by omega))
  have hB : B ≤ w.heap.size + 1 := by have := (S.lt s X w hI).1; omega
  have I9 := Lib.hid (S.set (S.set (S.set hi1 hB hx1 0 (.bool false)) hB hx1 1 (.int .i64 (a + x))) hB hx1 2 (.slice none 0 0))
  have hb := S.bnd s _ x s' HM.out.1 hc
  have hwf : Wf (a + x) := wf_small (by have := HN.out; omega) (by have := HN.out; omega)
  clear z0 z1 z2 y0 y1 y2 j1 j2 V1 HC
  generalize ((w1.setCell ⟨w.heap.size + 1, 0, none⟩ (.bool false)).setCell ⟨w.heap.size + 1, 1, none⟩ (.int .i64 (a + x))).setCell ⟨w.heap.size + 1, 2, none⟩ (.slice none 0 0) = W9 at V9 M9 I9 ⊢
  obtain ⟨z0, z1, z2, _⟩ := V9.facts
  go_wp2_with fail
  refine bodyPost_ret (v := tval (.node false (a + x) []) none 0) (by simp [results, Tryd.results41, go_sem, z0, z1, z2, Tr.list, Tr.num, Tr.items]) rfl ?_
  exact VPost.good (c := [x]) (s' := s') (by simp [play, hc]) I9.out M9.out ⟨hwf, none, 0, rfl, fun hp => by simp [Tr.items] at hp⟩ (NFr.none_ _)
set_option maxHeartbeats 1000000 in
set_option maxRecDepth 100000 in
theorem value_just (S : Src ch k cap B I) (n : Nat) (a b : Int) (subs : List Gn) (A : Option Addr) (c : Nat) (s : σ) (X : Nat → Prop) (w : World) (hr : Right (.node 1 a b subs)) (hI : I s X w) :
    Calls Tryd.prog 41 #[fv k cap, .agg #[.int .i64 1, .int .i64 a, .int .i64 b, .slice A subs.length c]] w (VPost I (n + 1) (play ch (.node 1 a b subs) s) X w) := by
  have hn := (right_num hr).1 rfl
  have hwf : Wf a := wf_small (by omega) (by omega)
  have HB := Lib.hid (two_boxes w (.int .i64 1) (.int .i64 a) (.int .i64 b) (.slice A subs.length c) (.bool false) (.int .i64 a) (.slice none 0 0))
  have HN := Lib.hid hn
  clear hn hr
  go_enter Tryd.func41, Tryd.ntmps41
  go_wp2_with fail
  generalize (w.alloc (.cells #[.int .i64 1, .int .i64 a, .int .i64 b, .slice A subs.length c] 24)).alloc (.cells #[.bool false, .int .i64 a, .slice none 0 0] 32) = W at HB ⊢
  obtain ⟨_, v3, hb, _⟩ := HB.out
  obtain ⟨z0, z1, z2, _⟩ := v3.facts
  refine bodyPost_ret (v := tval (.node false a []) none 0) (by simp [results, Tryd.results41, go_sem, z0, z1, z2, Tr.list, Tr.num, Tr.items]) rfl ?_
  exact VPost.good (c := []) (s' := s) (by simp [play]) (S.below hI hb) (Mv.of_below hb) ⟨hwf, none, 0, rfl, fun hp => by simp [Tr.items] at hp⟩ (NFr.none_ _)
end
end Go.Proofs.YtplladlodgfloaaDoor.Gens

/- The program's value of a Both: all the sources' choices, one part after the other. Conditions: a small generator. -/
namespace Go.Proofs.YtplladlodgfloaaDoor.Gens
open Go.RowKit Lists Ints Vals
set_option linter.unusedVariables false
attribute [local go_sem ↓] Go.wp_at_zero Go.wp_at_succ

section
variable {σ : Type} {ch : σ → Int → Except Int (Int × σ)} {k : Nat} {cap : Array Value} {B : Nat} {I : σ → (Nat → Prop) → World → Prop}
/-- the three boxes at its start -/
theorem three_boxes (w : World) (x0 x1 x2 x3 y0 y1 y2 z0 z1 z2 : Value) : G4 w.heap.size x0 x1 x2 x3 (((w.alloc (.cells #[x0, x1, x2, x3] 24)).alloc (.cells #[y0, y1, y2] 32)).alloc (.cells #[z0, z1, z2] 32)) ∧
    V3 (w.heap.size + 1) y0 y1 y2 (((w.alloc (.cells #[x0, x1, x2, x3] 24)).alloc (.cells #[y0, y1, y2] 32)).alloc (.cells #[z0, z1, z2] 32)) ∧
    V3 (w.heap.size + 1 + 1) z0 z1 z2 (((w.alloc (.cells #[x0, x1, x2, x3] 24)).alloc (.cells #[y0, y1, y2] 32)).alloc (.cells #[z0, z1, z2] 32)) ∧
    Below w.heap.size w (((w.alloc (.cells #[x0, x1, x2, x3] 24)).alloc (.cells #[y0, y1, y2] 32)).alloc (.cells #[z0, z1, z2] 32)) ∧
    (((w.alloc (.cells #[x0, x1, x2, x3] 24)).alloc (.cells #[y0, y1, y2] 32)).alloc (.cells #[z0, z1, z2] 32)).heap.size = w.heap.size + 3 := by
  obtain ⟨g, v, hb, hz⟩ := two_boxes w x0 x1 x2 x3 y0 y1 y2
  refine ⟨g.below (bel1 _ _), v.below (bel1 _ _), ?_, hb.trans ((bel1 _ _).mono hb.size), by simp⟩
  have := new_obj ((w.alloc (.cells #[x0, x1, x2, x3] 24)).alloc (.cells #[y0, y1, y2] 32)) (.cells #[z0, z1, z2] 32)
  rw [hz] at this
  exact this

set_option maxHeartbeats 4000000 in
set_option maxRecDepth 100000 in
theorem value_both (S : Src ch k cap B I) (n : Nat) (ih : ValueOK ch k cap B I n) (a b : Int) (subs : List Gn) (A : Option Addr) (c : Nat) (s : σ) (X : Nat → Prop) (w : World) (hr : Right (.node 3 a b subs)) (hsz : (Gn.node 3 a b subs).size ≤ 30) (hI : I s X w) (hne : play ch (.node 3 a b subs) s ≠ .error 77)
    (hit : 0 < subs.length → ∃ b off, A = some ⟨b, off, none⟩ ∧ GBel B b ∧ ∀ j (h : j < subs.length), ∃ x0 x1 x2 x3, w.cell? ⟨b, off + j * 4, none⟩ = some x0 ∧ w.cell? ⟨b, off + j * 4 + 1, none⟩ = some x1 ∧ w.cell? ⟨b, off + j * 4 + 2, none⟩ = some x2 ∧ w.cell? ⟨b, off + j * 4 + 3, none⟩ = some x3 ∧ GAt w (GBel B) n (.agg #[x0, x1, x2, x3]) (subs[j]'h)) :
    Calls Tryd.prog 41 #[fv k cap, .agg #[.int .i64 3, .int .i64 a, .int .i64 b, .slice A subs.length c]] w (VPost I (n + 1) (play ch (.node 3 a b subs) s) X w) := by
  have hrs : ∀ g ∈ subs, Right g := hr.subs
  have hzs : subs.length ≤ 30 ∧ ∀ g ∈ subs, g.size ≤ 30 := by
    rw [Gn.size] at hsz
    exact ⟨by have := glen_sizes subs; omega, fun g hg => by have := gsize_mem subs g hg; omega⟩
  have hX : ∀ q, w.heap.size ≤ q → ¬ X q := fun q hq => S.not hI hq
  obtain ⟨hBw, hXB⟩ := S.lt s X w hI
  have HB := Lib.hid (three_boxes w (.int .i64 3) (.int .i64 a) (.int .i64 b) (.slice A subs.length c) (.bool false) (.int .i64 0) (.slice none 0 0) (.bool true) (.int .i64 0) (.slice none 0 0))
  have IH := Lib.hid ih
  have HIT := Lib.hid hit
  have HRS := Lib.hid hrs
  have HZS := Lib.hid hzs
  have HXB := Lib.hid hXB
  have HPB := Lib.hid (fun er (h : playAll ch subs s = .error er) => show play ch (.node 3 a b subs) s = .error er by simp [play, h])
  have HPG := Lib.hid (fun cs vs s' (h : playAll ch subs s = .ok (cs, vs, s')) => show play ch (.node 3 a b subs) s = .ok (cs, .node true 0 vs, s') by simp [play, h])
  have HNE := Lib.hid (fun (e : playAll ch subs s = .error 77) => hne (HPB.out 77 e))
  have hln := hzs.1
  clear hne hrs hzs hr hsz ih hit hXB
  go_enter Tryd.func41, Tryd.ntmps41
  go_wp2_with fail
  generalize ((w.alloc (.cells #[.int .i64 3, .int .i64 a, .int .i64 b, .slice A subs.length c] 24)).alloc (.cells #[.bool false, .int .i64 0, .slice none 0 0] 32)).alloc (.cells #[.bool true, .int .i64 0, .slice none 0 0] 32) = W at HB ⊢
  have M0 := Lib.hid (Mid.start (ch := ch) (l := subs) (n := n) S hI HB.out.2.2.2.1 HB.out.2.2.1 (base := w.heap.size + 3) (by omega) (by omega) (by rw [HB.out.2.2.2.2]; omega))
  go_loopw [30] (fun i wr => ∃ (j : Nat) (acc : List Tr) (sj : σ) (Xj : Nat → Prop) (Aj : Option Addr) (cj : Nat), i = .int .i64 j ∧ Hid (Mid ch I subs s X w (w.heap.size + 1 + 1) (w.heap.size + 3) n j acc sj Xj Aj cj wr) ∧ Hid (V3 (w.heap.size + 1) (.bool false) (.int .i64 0) (.slice none 0 0) wr ∧ ¬ Xj (w.heap.size + 1))) (fun i _ => subs.length - (intOf i).toNat)
  case atStart => exact ⟨0, [], s, X, none, 0, rfl, M0.out, HB.out.2.1, hX _ (by omega)⟩
  case round =>
    obtain ⟨j, acc, sj, Xj, Aj, cj, rfl, HM, HR⟩ := hrel
    by_cases hlt : j < subs.length
    · have HBB := Lib.hid (Mv.below HM.out.mv (fun b hb => (HXB.out b hb).1) hBw)
      obtain ⟨ib, off, D, d, rfl, c0, c1, c2, c3, hti⟩ := sub_as HIT.out HBB.out j hlt
      have hsi : (subs[j]'hlt).size ≤ 30 := HZS.out.2 _ (List.getElem_mem hlt)
      have hri : Right (subs[j]'hlt) := HRS.out _ (List.getElem_mem hlt)
      have HT := Lib.hid (show GAt wr (GBel B) n (gv (subs[j]'hlt) D d) (subs[j]'hlt) ∧ (subs[j]'hlt).size ≤ 30 ∧ Right (subs[j]'hlt) from ⟨hti, hsi, hri⟩)
      have HBAD := Lib.hid (fun er w3 X' (hc : play ch (subs[j]'hlt) sj = .error er) (hm : Mv Xj wr w3 X') => VPost.bad (I := I) (er := er) (n := n + 1) (r := play ch (.node 3 a b subs) s) (HPB.out er (by obtain ⟨cs, hrun⟩ := HM.out.run; exact all_stop hlt hrun hc)) (Mv.trans HM.out.mv hm))
      have HNX := Lib.hid (fun (c2 : List Int) (t : Tr) (s' : σ) (X' : Nat → Prop) (w3 w4 w5 : World) (A' : Option Addr) (c' : Nat) (hp : play ch (subs[j]'hlt) sj = .ok (c2, t, s')) (hi : I s' X' w3) (hm : Mv Xj wr w3 X') hb ho hown hg => Mid.next (c2 := c2) (t := t) (s' := s') (X' := X') (w3 := w3) (w4 := w4) (w5 := w5) (A' := A') (c' := c') S HM.out hlt hp hi hm hb ho hown hg hBw)
      have HN7 := Lib.hid (show play ch (subs[j]'hlt) sj ≠ .error 77 from fun e => HNE.out (by obtain ⟨cs, hrun⟩ := HM.out.run; exact all_stop hlt hrun e))
      clear hti hsi hri
      generalize subs[j]'hlt = y at HT HBAD HNX HN7 c0 c1 c2 c3
      have HW1 := Lib.hid (show G4 wr.heap.size (.int .i64 y.kind) (.int .i64 y.a) (.int .i64 y.b) (.slice D y.subs.length d) (wr.alloc (.cells #[.int .i64 y.kind, .int .i64 y.a, .int .i64 y.b, .slice D y.subs.length d] 24)) ∧ Below wr.heap.size wr (wr.alloc (.cells #[.int .i64 y.kind, .int .i64 y.a, .int .i64 y.b, .slice D y.subs.length d] 24)) from ⟨new_obj _ _, bel1 _ _⟩)
      go_wp2_with fail
      generalize wr.alloc (.cells #[.int .i64 y.kind, .int .i64 y.a, .int .i64 y.b, .slice D y.subs.length d] 24) = W1 at HW1 ⊢
      have HBD := Lib.hid (show Below wr.heap.size wr W1.drew from bel_drew HW1.out.2)
      have HM1 := Lib.hid (Mid.later S HM.out HBD.out)
      have HV := Lib.hid (IH.out y _ sj Xj W1.drew (GAt.below HT.out.1 (HBD.out.mono (Nat.le_trans hBw HM.out.mv.size))) HT.out.2.2 HT.out.2.1 HM1.out.inv HN7.out)
      obtain ⟨g0, g1, g2, g3⟩ := HW1.out.1.facts
      have HAL := Lib.hid (show acc.length + 1 ≤ 1099511627776 by have := HM.out.len; omega)
      obtain ⟨k0, k1, k2, k3, k4, k5⟩ := (show V3 (w.heap.size + 1 + 1) (.bool true) (.int .i64 0) (.slice Aj acc.length cj) W1 from HM1.out.box).facts
      go_region_law (first
        | (go_simp
           with_reducible refine HV.out.mono ?_
           intro e w3 hs
           rcases hs.split with ⟨er, X', hc, rfl, hm3⟩ | ⟨c2, t, s', A3, cc3, X', hc, rfl, hi3, hm3, ht3, hn3⟩
           · exact ⟨rfl, HBAD.out er w3 X' hc (Mv.trans (Mv.of_below HBD.out) hm3)⟩
           have HC := Lib.hid (fun w4 (hb : Below w3.heap.size w3 w4) => Mid.called (w4 := w4) S HM1.out hi3 hm3 ht3 hb)
           have HN := Lib.hid (And.intro hc (And.intro hi3 hm3))
           obtain ⟨z0, z1, z2, y0, y1, y2⟩ := (HC.out w3 (Below.refl _ _)).2.2.2.2.facts
           have hne : w3.heap.size ≠ w.heap.size + 1 + 1 := World.new_ne w3 _ z2
           have hne2 : w.heap.size + 1 + 1 ≠ w3.heap.size := hne.symm
           obtain ⟨_, _, za, _, _, yb⟩ := (HC.out (w3.alloc (.cells #[.bool t.list, .int .i64 t.num, .slice A3 t.items.length cc3] 32)) (bel1 _ _)).2.2.2.2.facts
           clear hs hc hi3 hm3 ht3 hn3)
        | (refine step_append_x (by rfl) _ _ (by rfl) (w.heap.size + 3) cj n Aj acc X' (HC.out _ (bel1 w3 _)).2.2.1 (HC.out _ (bel1 w3 _)).1 w3.heap.size (.bool t.list) (.int .i64 t.num) (.slice A3 t.items.length cc3) _ t (V3.facts (new_obj w3 _)).1 (V3.facts (new_obj w3 _)).2.1 (V3.facts (new_obj w3 _)).2.2.1 ⟨rfl, rfl, rfl⟩ (HC.out _ (bel1 w3 _)).2.1 (by rfl) (by rfl) HAL.out (HC.out _ (bel1 w3 _)).2.2.2.1 ?_
           intro A' c' w5 zl hz ho hg
           obtain ⟨_, _, z2', y0', y1', y2'⟩ := (V3.grown (HC.out _ (bel1 w3 _)).2.2.2.2 (HC.out _ (bel1 w3 _)).1 hg (by omega)).facts))
      all_goals (
        have NX := HNX.out c2 t s' X' w3 _ w5 A' c' HN.out.1 HN.out.2.1 (Mv.trans (Mv.of_below HBD.out) HN.out.2.2) (bel1 w3 _) (by rw [← hz.out]; exact ho) (HC.out _ (bel1 w3 _)).1 hg
        rw [← hz.out] at NX
        have NX := Lib.hid NX
        have NR := Lib.hid (Mid.side (y := .slice A' zl.length c') HM.out (Mv.trans (Mv.of_below HBD.out) HN.out.2.2) (bel1 w3 _) (HC.out _ (bel1 w3 _)).1 hg HR.out (by omega) (by omega) 2)
        go_wp2_with fail
        go_roundw
        case rel => exact ⟨j + 1, zl, s', X', A', c', by go_num, NX.out, NR.out⟩
        case measure => simp [intOf]; omega)
    · have hj : j = subs.length := by have := HM.out.le; omega
      obtain ⟨k0, k1, k2, k3, k4, k5⟩ := HM.out.box.facts
      obtain ⟨z0, z1, z2, y0, y1, y2⟩ := HR.out.1.facts
      have HD := Lib.hid (Mid.done S (r := play ch (.node 3 a b subs) s) (rb := w.heap.size + 1) (y0 := .bool true) (y1 := .int .i64 0) (y2 := .slice Aj acc.length cj) HM.out hj hBw (by
        obtain ⟨cs, hrun⟩ := HM.out.run
        rw [List.take_of_length_le (by omega)] at hrun
        exact ⟨cs, fun cs2 _ => HPG.out cs acc sj hrun⟩) (by omega) (by omega) HR.out.2)
      have HVV := Lib.hid (((HR.out.1.put (.bool true) (.int .i64 0) (.slice Aj acc.length cj))).facts)
      go_wp2_with fail
      generalize ((wr.setCell ⟨w.heap.size + 1, 0, none⟩ (.bool true)).setCell ⟨w.heap.size + 1, 1, none⟩ (.int .i64 0)).setCell ⟨w.heap.size + 1, 2, none⟩ (.slice Aj acc.length cj) = W9 at HD HVV ⊢
      obtain ⟨f0, f1, f2, _⟩ := HVV.out
      refine bodyPost_ret (v := tval (.node true 0 acc) Aj cj) (by simp [results, Tryd.results41, go_sem, f0, f1, f2, Tr.list, Tr.num, Tr.items]) rfl ?_
      exact HD.out
end
end Go.Proofs.YtplladlodgfloaaDoor.Gens

/- The program's value of a Many. Conditions: a small generator. -/
namespace Go.Proofs.YtplladlodgfloaaDoor.Gens
open Go.RowKit Lists Ints Vals
set_option linter.unusedVariables false
attribute [local go_sem ↓] Go.wp_at_zero Go.wp_at_succ

section
variable {σ : Type} {ch : σ → Int → Except Int (Int × σ)} {k : Nat} {cap : Array Value} {B : Nat} {I : σ → (Nat → Prop) → World → Prop}
set_option maxHeartbeats 4000000 in
set_option maxRecDepth 100000 in
theorem value_many (S : Src ch k cap B I) (n : Nat) (ih : ValueOK ch k cap B I n) (a b : Int) (y : Gn) (A : Option Addr) (c : Nat) (s : σ) (X : Nat → Prop) (w : World) (hr : Right (.node 4 a b [y])) (hsz : (Gn.node 4 a b [y]).size ≤ 30) (hI : I s X w) (hne : play ch (.node 4 a b [y]) s ≠ .error 77)
    (hit : 0 < [y].length → ∃ b off, A = some ⟨b, off, none⟩ ∧ GBel B b ∧ ∀ j (h : j < [y].length), ∃ x0 x1 x2 x3, w.cell? ⟨b, off + j * 4, none⟩ = some x0 ∧ w.cell? ⟨b, off + j * 4 + 1, none⟩ = some x1 ∧ w.cell? ⟨b, off + j * 4 + 2, none⟩ = some x2 ∧ w.cell? ⟨b, off + j * 4 + 3, none⟩ = some x3 ∧ GAt w (GBel B) n (.agg #[x0, x1, x2, x3]) ([y][j]'h)) :
    Calls Tryd.prog 41 #[fv k cap, .agg #[.int .i64 4, .int .i64 a, .int .i64 b, .slice A 1 c]] w (VPost I (n + 1) (play ch (.node 4 a b [y]) s) X w) := by
  have hry : ∀ g ∈ [y], Right g := hr.subs
  have hry := hry y (by simp)
  have hzy : y.size ≤ 30 := by rw [Gn.size, gsizes] at hsz; omega
  have hX : ∀ q, w.heap.size ≤ q → ¬ X q := fun q hq => S.not hI hq
  obtain ⟨hBw, hXB⟩ := S.lt s X w hI
  obtain ⟨ha0, ha5, _⟩ := (right_max hr).2.2.1 rfl
  have HB := Lib.hid (three_boxes w (.int .i64 4) (.int .i64 a) (.int .i64 b) (.slice A 1 c) (.bool false) (.int .i64 0) (.slice none 0 0) (.bool true) (.int .i64 0) (.slice none 0 0))
  have hent := S.ent
  have IH := Lib.hid ih
  have HIT := Lib.hid hit
  have HRS := Lib.hid (And.intro hzy hry)
  have HXB := Lib.hid hXB
  have HA := Lib.hid (And.intro ha0 ha5)
  have HPC := Lib.hid (fun er (h : ch s a = .error er) => show play ch (.node 4 a b [y]) s = .error er by simp [play, h])
  have HPB := Lib.hid (fun x s1 er (h : ch s a = .ok (x, s1)) (h2 : playAll ch (List.replicate x.toNat y) s1 = .error er) => show play ch (.node 4 a b [y]) s = .error er by simp [play, h, rep_all', h2])
  have HPG := Lib.hid (fun x s1 cs vs s' (h : ch s a = .ok (x, s1)) (h2 : playAll ch (List.replicate x.toNat y) s1 = .ok (cs, vs, s')) => show play ch (.node 4 a b [y]) s = .ok (x :: cs, .node true 0 vs, s') by simp [play, h, rep_all', h2])
  have HNE := Lib.hid (show ch s a ≠ .error 77 from fun e => hne (HPC.out 77 e))
  have HNB := Lib.hid (fun x s1 (h : ch s a = .ok (x, s1)) (e : playAll ch (List.replicate x.toNat y) s1 = .error 77) => hne (HPB.out x s1 77 h e))
  clear hne hry hzy hr hsz ih hit hXB ha0 ha5
  go_enter Tryd.func41, Tryd.ntmps41
  go_wp2_with fail
  generalize ((w.alloc (.cells #[.int .i64 4, .int .i64 a, .int .i64 b, .slice A 1 c] 24)).alloc (.cells #[.bool false, .int .i64 0, .slice none 0 0] 32)).alloc (.cells #[.bool true, .int .i64 0, .slice none 0 0] 32) = W at HB ⊢
  have HC := Lib.hid (S.call s X W a HA.out.1 (by have := HA.out; omega) (S.below hI HB.out.2.2.2.1) HNE.out)
  have hln1 : (List.length [y]) = 1 := rfl
  refine HC.out.mono ?_
  intro e w1 hs
  rcases hs.split with ⟨er, X', hc, rfl, hm1⟩ | ⟨x, s1, X1, hc, rfl, hi1, hm1⟩
  · exact ⟨rfl, VPost.bad (HPC.out er hc) (Mv.trans (Mv.of_below HB.out.2.2.2.1) hm1)⟩
  have hb := S.bnd s _ x s1 HA.out.1 hc
  obtain ⟨m, rfl⟩ := Int.eq_ofNat_of_zero_le hb.1
  have hm5 : m ≤ 5 := by have := HA.out; omega
  have hmw : Mv X w w1 X1 := Mv.trans (Mv.of_below HB.out.2.2.2.1) hm1
  have hX1 : ∀ q, w.heap.size ≤ q → q < w.heap.size + 3 → ¬ X1 q := fun q h1 h2 => Mv.not hm1 (by rw [HB.out.2.2.2.2]; omega) (hX q h1)
  have M0 := Lib.hid (Mid.start2 (ch := ch) (l := List.replicate m y) (n := n) (base := w.heap.size + 3) hi1 hmw (V3.mv HB.out.2.2.1 hm1 (hX _ (by omega))) (by omega) (by omega) (by have := hm1.size; rw [HB.out.2.2.2.2] at this; omega) (hX1 _ (by omega) (by omega)))
  have HG1 := Lib.hid (And.intro (G4.mv HB.out.1 hm1 (hX _ (Nat.le_refl _))) (hX1 w.heap.size (Nat.le_refl _) (by omega)))
  have HR1 := Lib.hid (And.intro (V3.mv HB.out.2.1 hm1 (hX _ (by omega))) (hX1 (w.heap.size + 1) (by omega) (by omega)))
  have HPB := Lib.hid (fun er => HPB.out (m : Int) s1 er hc)
  have HPG := Lib.hid (fun cs vs s' => HPG.out (m : Int) s1 cs vs s' hc)
  have HNB := Lib.hid (HNB.out (m : Int) s1 hc)
  simp only [Int.toNat_natCast] at HPB HPG HNB
  clear hs hc hi1 hm1 hb hmw hX1 HC HPC HB
  go_wp2_with fail
  go_loopw [51] (fun i wr => ∃ (j : Nat) (acc : List Tr) (sj : σ) (Xj : Nat → Prop) (Aj : Option Addr) (cj : Nat), i = .int .i64 j ∧ Hid (Mid ch I (List.replicate m y) s1 X w (w.heap.size + 1 + 1) (w.heap.size + 3) n j acc sj Xj Aj cj wr) ∧ Hid (V3 (w.heap.size + 1) (.bool false) (.int .i64 0) (.slice none 0 0) wr ∧ ¬ Xj (w.heap.size + 1)) ∧ Hid (G4 w.heap.size (.int .i64 4) (.int .i64 a) (.int .i64 b) (.slice A 1 c) wr ∧ ¬ Xj w.heap.size)) (fun i _ => m - (intOf i).toNat)
  case atStart => exact ⟨0, [], s1, X1, none, 0, rfl, M0.out, HR1.out, HG1.out⟩
  case round =>
    obtain ⟨j, acc, sj, Xj, Aj, cj, rfl, HM, HR, HG⟩ := hrel
    clear M0 HR1 HG1
    by_cases hlt : j < m
    · have HBB := Lib.hid (Mv.below HM.out.mv (fun b hb => (HXB.out b hb).1) hBw)
      have hlt' : j < (List.replicate m y).length := by rw [List.length_replicate]; exact hlt
      obtain ⟨ib, off, D, d, rfl, c0, c1, c2, c3, hti⟩ := sub_as HIT.out HBB.out 0 (by simp)
      simp only [Nat.zero_mul, Nat.add_zero, List.getElem_cons_zero] at c0 c1 c2 c3 hti
      have HBAD := Lib.hid (fun er w3 X' (hc : play ch y sj = .error er) (hm : Mv Xj wr w3 X') => VPost.bad (I := I) (er := er) (n := n + 1) (r := play ch (.node 4 a b [y]) s) (HPB.out er (by obtain ⟨cs, hrun⟩ := HM.out.run; exact all_stop hlt' hrun (by rw [List.getElem_replicate]; exact hc))) (Mv.trans HM.out.mv hm))
      have HNX := Lib.hid (fun (c2 : List Int) (t : Tr) (s' : σ) (X' : Nat → Prop) (w3 w4 w5 : World) (A' : Option Addr) (c' : Nat) (hp : play ch y sj = .ok (c2, t, s')) (hi : I s' X' w3) (hm : Mv Xj wr w3 X') hb ho hown hg => Mid.next (c2 := c2) (t := t) (s' := s') (X' := X') (w3 := w3) (w4 := w4) (w5 := w5) (A' := A') (c' := c') S HM.out hlt' (by rw [List.getElem_replicate]; exact hp) hi hm hb ho hown hg hBw)
      have HBD := Lib.hid (show Below wr.heap.size wr wr.drew from bel_drew (Below.refl _ _))
      have HM1 := Lib.hid (Mid.later S HM.out HBD.out)
      have HV := Lib.hid (IH.out y _ sj Xj wr.drew (GAt.below hti (HBD.out.mono (Nat.le_trans hBw HM.out.mv.size))) HRS.out.2 HRS.out.1 HM1.out.inv (fun e => HNB.out (by obtain ⟨cs, hrun⟩ := HM.out.run; exact all_stop hlt' hrun (by rw [List.getElem_replicate]; exact e))))
      obtain ⟨g0, g1, g2, g3⟩ := HG.out.1.facts
      have HAL := Lib.hid (show acc.length + 1 ≤ 1099511627776 by have := HM.out.len; omega)
      obtain ⟨k0, k1, k2, k3, k4, k5⟩ := HM.out.box.facts
      clear hti
      go_wp2_with fail
      go_region_law (first
        | (go_simp
           with_reducible refine HV.out.mono ?_
           intro e w3 hs
           rcases hs.split with ⟨er, X', hc, rfl, hm3⟩ | ⟨c2, t, s', A3, cc3, X', hc, rfl, hi3, hm3, ht3, hn3⟩
           · exact ⟨rfl, HBAD.out er w3 X' hc (Mv.trans (Mv.of_below HBD.out) hm3)⟩
           have HC := Lib.hid (fun w4 (hb : Below w3.heap.size w3 w4) => Mid.called (w4 := w4) S HM1.out hi3 hm3 ht3 hb)
           have HN := Lib.hid (And.intro hc (And.intro hi3 hm3))
           obtain ⟨z0, z1, z2, y0, y1, y2⟩ := (HC.out w3 (Below.refl _ _)).2.2.2.2.facts
           have hne : w3.heap.size ≠ w.heap.size + 1 + 1 := World.new_ne w3 _ z2
           have hne2 : w.heap.size + 1 + 1 ≠ w3.heap.size := hne.symm
           obtain ⟨_, _, za, _, _, yb⟩ := (HC.out (w3.alloc (.cells #[.bool t.list, .int .i64 t.num, .slice A3 t.items.length cc3] 32)) (bel1 _ _)).2.2.2.2.facts
           clear hs hc hi3 hm3 ht3 hn3)
        | (refine step_append_x (by rfl) _ _ (by rfl) (w.heap.size + 3) cj n Aj acc X' (HC.out _ (bel1 w3 _)).2.2.1 (HC.out _ (bel1 w3 _)).1 w3.heap.size (.bool t.list) (.int .i64 t.num) (.slice A3 t.items.length cc3) _ t (V3.facts (new_obj w3 _)).1 (V3.facts (new_obj w3 _)).2.1 (V3.facts (new_obj w3 _)).2.2.1 ⟨rfl, rfl, rfl⟩ (HC.out _ (bel1 w3 _)).2.1 (by rfl) (by rfl) HAL.out (HC.out _ (bel1 w3 _)).2.2.2.1 ?_
           intro A' c' w5 zl hz ho hg
           obtain ⟨_, _, z2', y0', y1', y2'⟩ := (V3.grown (HC.out _ (bel1 w3 _)).2.2.2.2 (HC.out _ (bel1 w3 _)).1 hg (by omega)).facts))
      all_goals (
        have NX := HNX.out c2 t s' X' w3 _ w5 A' c' HN.out.1 HN.out.2.1 (Mv.trans (Mv.of_below HBD.out) HN.out.2.2) (bel1 w3 _) (by rw [← hz.out]; exact ho) (HC.out _ (bel1 w3 _)).1 hg
        rw [← hz.out] at NX
        have NX := Lib.hid NX
        have NR := Lib.hid (Mid.side (y := .slice A' zl.length c') HM.out (Mv.trans (Mv.of_below HBD.out) HN.out.2.2) (bel1 w3 _) (HC.out _ (bel1 w3 _)).1 hg HR.out (by omega) (by omega) 2)
        have NG := Lib.hid (Mid.sideG (y := .slice A' zl.length c') HM.out (Mv.trans (Mv.of_below HBD.out) HN.out.2.2) (bel1 w3 _) (HC.out _ (bel1 w3 _)).1 hg HG.out (by omega) (by omega) 2)
        go_wp2_with fail
        go_roundw
        case rel => exact ⟨j + 1, zl, s', X', A', c', by go_num, NX.out, NR.out, NG.out⟩
        case measure => simp [intOf]; omega)
    · have hj : j = (List.replicate m y).length := by have := HM.out.le; rw [List.length_replicate] at this ⊢; omega
      have hjm : j = m := by rw [hj, List.length_replicate]
      obtain ⟨k0, k1, k2, k3, k4, k5⟩ := HM.out.box.facts
      obtain ⟨z0, z1, z2, y0, y1, y2⟩ := HR.out.1.facts
      have HD := Lib.hid (Mid.done S (r := play ch (.node 4 a b [y]) s) (rb := w.heap.size + 1) (y0 := .bool true) (y1 := .int .i64 0) (y2 := .slice Aj acc.length cj) HM.out hj hBw (by
        obtain ⟨cs, hrun⟩ := HM.out.run
        rw [List.take_of_length_le (by rw [← hj]; exact Nat.le_refl _)] at hrun
        exact ⟨_, fun cs2 _ => HPG.out cs acc sj hrun⟩) (by omega) (by omega) HR.out.2)
      have HVV := Lib.hid (((HR.out.1.put (.bool true) (.int .i64 0) (.slice Aj acc.length cj))).facts)
      clear hj
      go_wp2_with fail
      generalize ((wr.setCell ⟨w.heap.size + 1, 0, none⟩ (.bool true)).setCell ⟨w.heap.size + 1, 1, none⟩ (.int .i64 0)).setCell ⟨w.heap.size + 1, 2, none⟩ (.slice Aj acc.length cj) = W9 at HD HVV ⊢
      obtain ⟨f0, f1, f2, _⟩ := HVV.out
      refine bodyPost_ret (v := tval (.node true 0 acc) Aj cj) (by simp [results, Tryd.results41, go_sem, f0, f1, f2, Tr.list, Tr.num, Tr.items]) rfl ?_
      exact HD.out
end
end Go.Proofs.YtplladlodgfloaaDoor.Gens
