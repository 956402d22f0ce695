/- RankTells, part 8 of the proof: A source of choices that is a function value of the program's: what is asked of it. · Small laws for walks that ask a source: boxes, what stays, what is made. · Plain laws: what the program's fits counts, against the document's own Large. No program. · The program's fits: a contract. Conditions: the size. -/
import Derived.Test.YtffkppjmdelajaaDoorRankTellsZ7
import Derived.Test.YtffkppjmdelajaaDoorRankTellsZ5
import Derived.Test.YtffkppjmdelajaaDoorRankTellsZ3
import Derived.Test.YtffkppjmdelajaaDoorRankTellsZ1
import Derived.Lib.Builder
import Derived.Deep.RegionHeld2
import Derived.Maps.AppendAt
/- A source of choices that is a function value of the program's: what is asked of it. -/
namespace Go.Proofs.YtffkppjmdelajaaDoor.Gens
open Go.RowKit Lists Ints Vals
set_option linter.unusedVariables false

/-- a value's cells -/
abbrev tval (t : Tr) (A : Option Addr) (c : Nat) : Value := .agg #[.bool t.list, .int .i64 t.num, .slice A t.items.length c]
/-- the row at A is not frozen -/
def NFr (A : Option Addr) (w : World) : Prop := ∀ g, blockOf A = some g → ∃ cs T, w.heap[g]? = some (.cells cs T (0, 0))
theorem NFr.none_ (w : World) : NFr none w := fun g h => by cases h
abbrev panicV (er : Int) : Value := .iface 30 (.int .i64 er)
abbrev panicE (er : Int) : Ending := .panicked [{ v := panicV er, recovered := false }]
/-- what a call of the source comes to -/
def SPost {σ : Type} (I : σ → (Nat → Prop) → World → Prop) (r : Except Int (Int × σ)) (X : Nat → Prop) (w : World) (e : Ending) (w' : World) : Prop :=
  match r with
  | .ok (x, s') => e = .returned (.int .i64 x) ∧ ∃ X', I s' X' w' ∧ Mv X w w' X'
  | .error er => e = panicE er ∧ ∃ X', Mv X w w' X'
/-- A source: the function k, that holds cap; in state s its blocks are X, from B on. -/
structure Src {σ : Type} (ch : σ → Int → Except Int (Int × σ)) (k : Nat) (cap : Array Value) (B : Nat) (I : σ → (Nat → Prop) → World → Prop) : Prop where
  keep : ∀ s X w w', I s X w → (∀ b, b < B ∨ X b → w'.heap[b]? = w.heap[b]?) → w.heap.size ≤ w'.heap.size → I s X w'
  lt : ∀ s X w, I s X w → B ≤ w.heap.size ∧ ∀ b, X b → B ≤ b ∧ b < w.heap.size
  bnd : Bounded ch
  ent : ∀ args w, (callFunc k args).run Tryd.prog w = .ok (.enter k args) w
  call : ∀ s X w m, 0 ≤ m → m ≤ 1000 → I s X w → ch s m ≠ .error 77 → Calls Tryd.prog k (#[.int .i64 m] ++ cap) w (SPost I (ch s m) X w)
abbrev fv (k : Nat) (cap : Array Value) : Value := .func (.func k) #[] cap
/-- what value comes to -/
def VPost {σ : Type} (I : σ → (Nat → Prop) → World → Prop) (n : Nat) (r : Except Int (List Int × Tr × σ)) (X : Nat → Prop) (w : World) (e : Ending) (w' : World) : Prop :=
  match r with
  | .ok (c, t, s') => ∃ (A : Option Addr) (cc : Nat) (X' : Nat → Prop), e = .returned (tval t A cc) ∧ I s' X' w' ∧ Mv X w w' X' ∧ TAt w' (fun b => w.heap.size ≤ b ∧ b < w'.heap.size ∧ ¬ X' b) n (tval t A cc) t ∧ NFr A w'
  | .error er => e = panicE er ∧ ∃ X', Mv X w w' X'
def ValueOK {σ : Type} (ch : σ → Int → Except Int (Int × σ)) (k : Nat) (cap : Array Value) (B : Nat) (I : σ → (Nat → Prop) → World → Prop) (n : Nat) : Prop :=
  ∀ (g : Gn) (v : Value) (s : σ) (X : Nat → Prop) (w : World), GAt w (GBel B) n v g → Right g → g.size ≤ 30 → I s X w → play ch g s ≠ .error 77 →
    Calls Tryd.prog 76 #[fv k cap, v] w (VPost I n (play ch g s) X w)
theorem Mv.refl (X : Nat → Prop) (w : World) : Mv X w w X := ⟨rfl, rfl, rfl, Nat.le_refl _, fun _ _ _ => rfl, fun _ h => .inl h⟩
theorem Mv.trans {X X' X'' : Nat → Prop} {w w' w'' : World} (h : Mv X w w' X') (h' : Mv X' w' w'' X'') : Mv X w w'' X'' :=
  ⟨h'.os.trans h.os, h'.tape.trans h.tape, h'.output.trans h.output, Nat.le_trans h.size h'.size,
   fun b hb hx => (h'.block b (Nat.lt_of_lt_of_le hb h.size) (fun e => (h.new b e).elim hx (fun e => by omega))).trans (h.block b hb hx),
   fun b e => (h'.new b e).elim (h.new b) (fun e => .inr (Nat.le_trans h.size e))⟩
theorem Mv.below {X X' : Nat → Prop} {w w' : World} {B : Nat} (h : Mv X w w' X') (hX : ∀ b, X b → B ≤ b) (hB : B ≤ w.heap.size) : Below B w w' :=
  ⟨h.os, h.tape, h.output, h.size, fun b hb => h.block b (by omega) (fun e => by have := hX b e; omega)⟩
/-- new memory, and writes to it -/
theorem Mv.of_below {X : Nat → Prop} {w w' : World} (h : Below w.heap.size w w') : Mv X w w' X :=
  ⟨h.os, h.tape, h.output, h.size, fun b hb _ => h.block b hb, fun _ h => .inl h⟩
end Go.Proofs.YtffkppjmdelajaaDoor.Gens

/- Small laws for walks that ask a source: boxes, what stays, what is made. -/
namespace Go.Proofs.YtffkppjmdelajaaDoor.Gens
open Go.RowKit Go.ChangeShapes Lists Ints Vals
set_option linter.unusedVariables false

theorem wf_small {x : Int} (h : -4294967296 ≤ x) (h2 : x ≤ 4294967296) : Wf x := WalkArith.wf_i64 (by omega)
theorem wrap_small {x : Int} (h : -4294967296 ≤ x) (h2 : x ≤ 4294967296) : IntKind.i64.wrap x = x := by
  rw [IntWalk.i64_left, IntWalk.wrap64_in _ (by omega)]
theorem right_num {k a b : Int} {subs : List Gn} (h : Right (.node k a b subs)) : (k = 1 → -1073741824 ≤ a ∧ a ≤ 1073741824) ∧ (k = 2 → -1073741824 ≤ a ∧ a ≤ 1073741824 ∧ -1073741824 ≤ b ∧ b ≤ 1073741824) := by
  obtain ⟨h1, h2, h3, _⟩ := right_of h
  simp [kindBad, rangeBad, subsBad, farB, Gn.kind, Gn.a, Gn.b, Gn.subs] at h1 h2 h3
  refine ⟨fun e => ?_, fun e => ?_⟩
  · have q1 := of_decide_eq_false (h2.1.1 e).1
    have q2 := of_decide_eq_false (h2.1.1 e).2
    omega
  · have q1 := of_decide_eq_false (h2.1.2 e).1.1.1.1
    have q2 := of_decide_eq_false (h2.1.2 e).1.1.1.2
    have q3 := of_decide_eq_false (h2.1.2 e).1.1.2.1
    have q4 := of_decide_eq_false (h2.1.2 e).1.1.2.2
    omega
theorem Mv.cell {X X' : Nat → Prop} {w w' : World} (h : Mv X w w' X') {b o : Nat} {v : Value} (hc : w.cell? ⟨b, o, none⟩ = some v) (hx : ¬ X b) : w'.cell? ⟨b, o, none⟩ = some v :=
  (World.cell?_of_block (h.block b (World.block_lt_of_cell? w ⟨b, o, none⟩ hc) hx)).trans hc
theorem Mv.set {X X' : Nat → Prop} {w w' : World} (h : Mv X w w' X') {b : Nat} (hb : w.heap.size ≤ b) (o : Nat) (v : Value) : Mv X w (w'.setCell ⟨b, o, none⟩ v) X' :=
  ⟨h.os, h.tape, h.output, by simpa [World.setCell] using h.size, fun i hi hx => (Below.heap_setCell _ _ _ _ (by show i ≠ b; omega)).trans (h.block i hi hx), h.new⟩
theorem Mv.later {X X' : Nat → Prop} {w w' w'' : World} (h : Mv X w w' X') (hb : Below w'.heap.size w' w'') : Mv X w w'' X' := Mv.trans h (Mv.of_below hb)
theorem Mv.not {X X' : Nat → Prop} {w w' : World} (h : Mv X w w' X') {b : Nat} (hb : b < w.heap.size) (hx : ¬ X b) : ¬ X' b := fun e => (h.new b e).elim hx (fun e => by omega)
section
variable {σ : Type} {ch : σ → Int → Except Int (Int × σ)} {k : Nat} {cap : Array Value} {B : Nat} {I : σ → (Nat → Prop) → World → Prop}
theorem SPost.split {r : Except Int (Int × σ)} {X : Nat → Prop} {w w' : World} {e : Ending} (h : SPost I r X w e w') :
    (∃ er X', r = .error er ∧ e = panicE er ∧ Mv X w w' X') ∨ ∃ x s' X', r = .ok (x, s') ∧ e = .returned (.int .i64 x) ∧ I s' X' w' ∧ Mv X w w' X' := by
  match r, h with
  | .ok (x, s'), ⟨h1, X', h2, h3⟩ => exact .inr ⟨x, s', X', rfl, h1, h2, h3⟩
  | .error er, ⟨h1, X', h2⟩ => exact .inl ⟨er, X', rfl, h1, h2⟩
theorem VPost.split {n : Nat} {r : Except Int (List Int × Tr × σ)} {X : Nat → Prop} {w w' : World} {e : Ending} (h : VPost I n r X w e w') :
    (∃ er X', r = .error er ∧ e = panicE er ∧ Mv X w w' X') ∨ ∃ c t s' A cc X', r = .ok (c, t, s') ∧ e = .returned (tval t A cc) ∧ I s' X' w' ∧ Mv X w w' X' ∧ TAt w' (fun b => w.heap.size ≤ b ∧ b < w'.heap.size ∧ ¬ X' b) n (tval t A cc) t ∧ NFr A w' := by
  match r, h with
  | .ok (c, t, s'), ⟨A, cc, X', h1, h2, h3, h4, h5⟩ => exact .inr ⟨c, t, s', A, cc, X', rfl, h1, h2, h3, h4, h5⟩
  | .error er, ⟨h1, X', h2⟩ => exact .inl ⟨er, X', rfl, h1, h2⟩
theorem VPost.bad {n : Nat} {r : Except Int (List Int × Tr × σ)} {X X' : Nat → Prop} {w w' : World} {er : Int} (h : r = .error er) (hm : Mv X w w' X') : VPost I n r X w (panicE er) w' := by
  subst h; exact ⟨rfl, X', hm⟩
theorem VPost.good {n : Nat} {r : Except Int (List Int × Tr × σ)} {X X' : Nat → Prop} {w w' : World} {c : List Int} {t : Tr} {s' : σ} {A : Option Addr} {cc : Nat} (h : r = .ok (c, t, s')) (hi : I s' X' w') (hm : Mv X w w' X')
    (ht : TAt w' (fun b => w.heap.size ≤ b ∧ b < w'.heap.size ∧ ¬ X' b) n (tval t A cc) t) (hn : NFr A w') : VPost I n r X w (.returned (tval t A cc)) w' := by
  subst h; exact ⟨A, cc, X', rfl, hi, hm, ht, hn⟩
theorem Src.below (S : Src ch k cap B I) {s : σ} {X : Nat → Prop} {w W : World} (hI : I s X w) (h : Below w.heap.size w W) : I s X W := by
  obtain ⟨h1, h2⟩ := S.lt s X w hI
  exact S.keep s X w W hI (fun b hb => h.block b (hb.elim (fun h => by omega) (fun h => (h2 b h).2))) h.size
theorem Src.set (S : Src ch k cap B I) {s : σ} {X : Nat → Prop} {w : World} (hI : I s X w) {b : Nat} (hb : B ≤ b) (hx : ¬ X b) (o : Nat) (v : Value) : I s X (w.setCell ⟨b, o, none⟩ v) :=
  S.keep s X w _ hI (fun i hi => Below.heap_setCell _ _ _ _ (by show i ≠ b; intro e; subst e; exact hi.elim (fun h => by omega) hx)) (by simp [World.setCell])
theorem Src.not (S : Src ch k cap B I) {s : σ} {X : Nat → Prop} {w : World} (hI : I s X w) {b : Nat} (hb : w.heap.size ≤ b) : ¬ X b := fun h => by have := ((S.lt s X w hI).2 b h).2; omega
end
/-- a value's box -/
def V3 (b : Nat) (x0 x1 x2 : Value) (w : World) : Prop := w.heap[b]? = some (.cells #[x0, x1, x2] 38 (0, 0))
theorem V3.facts {b : Nat} {x0 x1 x2 : Value} {w : World} (h : V3 b x0 x1 x2 w) : w.cell? ⟨b, 0, none⟩ = some x0 ∧ w.cell? ⟨b, 1, none⟩ = some x1 ∧ w.cell? ⟨b, 2, none⟩ = some x2 ∧ w.frozen? ⟨b, 0, none⟩ = false ∧ w.frozen? ⟨b, 1, none⟩ = false ∧ w.frozen? ⟨b, 2, none⟩ = false :=
  ⟨by rw [Lib.cell_of_heap h]; rfl, by rw [Lib.cell_of_heap h]; rfl, by rw [Lib.cell_of_heap h]; rfl, Lib.frozen_of_heap h 0, Lib.frozen_of_heap h 1, Lib.frozen_of_heap h 2⟩
theorem V3.lt {b : Nat} {x0 x1 x2 : Value} {w : World} (h : V3 b x0 x1 x2 w) : b < w.heap.size := (Array.getElem?_eq_some_iff.1 h).1
theorem V3.mv {b : Nat} {x0 x1 x2 : Value} {X X' : Nat → Prop} {w w' : World} (h : V3 b x0 x1 x2 w) (hm : Mv X w w' X') (hx : ¬ X b) : V3 b x0 x1 x2 w' := (hm.block b h.lt hx).trans h
theorem V3.below {b : Nat} {x0 x1 x2 : Value} {w w' : World} (h : V3 b x0 x1 x2 w) (hb : Below w.heap.size w w') : V3 b x0 x1 x2 w' := (hb.block b h.lt).trans h
theorem V3.put {b : Nat} {x0 x1 x2 : Value} {w : World} (h : V3 b x0 x1 x2 w) (y0 y1 y2 : Value) : V3 b y0 y1 y2 (((w.setCell ⟨b, 0, none⟩ y0).setCell ⟨b, 1, none⟩ y1).setCell ⟨b, 2, none⟩ y2) := by
  unfold V3 at h ⊢
  simp [World.setCell, Array.getElem?_modify, h]
theorem V3.put2 {b : Nat} {x0 x1 x2 : Value} {w : World} (h : V3 b x0 x1 x2 w) (y2 : Value) : V3 b x0 x1 y2 (w.setCell ⟨b, 2, none⟩ y2) := by
  unfold V3 at h ⊢
  simp [World.setCell, Array.getElem?_modify, h]
theorem V3.other {b : Nat} {x0 x1 x2 : Value} {w : World} (h : V3 b x0 x1 x2 w) {c : Nat} (hn : b ≠ c) (o : Nat) (v : Value) : V3 b x0 x1 x2 (w.setCell ⟨c, o, none⟩ v) := (Below.heap_setCell w ⟨c, o, none⟩ v b hn).trans h
/-- a generator's box -/
def G4 (b : Nat) (x0 x1 x2 x3 : Value) (w : World) : Prop := w.heap[b]? = some (.cells #[x0, x1, x2, x3] 24 (0, 0))
theorem G4.facts {b : Nat} {x0 x1 x2 x3 : Value} {w : World} (h : G4 b x0 x1 x2 x3 w) : w.cell? ⟨b, 0, none⟩ = some x0 ∧ w.cell? ⟨b, 1, none⟩ = some x1 ∧ w.cell? ⟨b, 2, none⟩ = some x2 ∧ w.cell? ⟨b, 3, none⟩ = some x3 :=
  ⟨by rw [Lib.cell_of_heap h]; rfl, by rw [Lib.cell_of_heap h]; rfl, by rw [Lib.cell_of_heap h]; rfl, by rw [Lib.cell_of_heap h]; rfl⟩
theorem G4.lt {b : Nat} {x0 x1 x2 x3 : Value} {w : World} (h : G4 b x0 x1 x2 x3 w) : b < w.heap.size := (Array.getElem?_eq_some_iff.1 h).1
theorem G4.mv {b : Nat} {x0 x1 x2 x3 : Value} {X X' : Nat → Prop} {w w' : World} (h : G4 b x0 x1 x2 x3 w) (hm : Mv X w w' X') (hx : ¬ X b) : G4 b x0 x1 x2 x3 w' := (hm.block b h.lt hx).trans h
theorem G4.below {b : Nat} {x0 x1 x2 x3 : Value} {w w' : World} (h : G4 b x0 x1 x2 x3 w) (hb : Below w.heap.size w w') : G4 b x0 x1 x2 x3 w' := (hb.block b h.lt).trans h
theorem new_obj (w : World) (o : Obj) : (w.alloc o).heap[w.heap.size]? = some o := by
  show (w.heap.push o)[w.heap.size]? = _
  simp
theorem bel1 (w : World) (o : Obj) : Below w.heap.size w (w.alloc o) := (Below.refl _ _).alloc (Nat.le_refl _) _
/-- the two boxes at value's start -/
theorem two_boxes (w : World) (x0 x1 x2 x3 y0 y1 y2 : Value) : G4 w.heap.size x0 x1 x2 x3 ((w.alloc (.cells #[x0, x1, x2, x3] 24)).alloc (.cells #[y0, y1, y2] 38)) ∧
    V3 (w.heap.size + 1) y0 y1 y2 ((w.alloc (.cells #[x0, x1, x2, x3] 24)).alloc (.cells #[y0, y1, y2] 38)) ∧
    Below w.heap.size w ((w.alloc (.cells #[x0, x1, x2, x3] 24)).alloc (.cells #[y0, y1, y2] 38)) ∧
    ((w.alloc (.cells #[x0, x1, x2, x3] 24)).alloc (.cells #[y0, y1, y2] 38)).heap.size = w.heap.size + 2 := by
  have hz : (w.alloc (.cells #[x0, x1, x2, x3] 24)).heap.size = w.heap.size + 1 := by simp
  have g : G4 w.heap.size x0 x1 x2 x3 (w.alloc (.cells #[x0, x1, x2, x3] 24)) := new_obj _ _
  refine ⟨g.below (bel1 _ _), ?_, (bel1 w _).trans ((bel1 _ _).mono (by simp)), by simp⟩
  have := new_obj (w.alloc (.cells #[x0, x1, x2, x3] 24)) (.cells #[y0, y1, y2] 38)
  rw [hz] at this
  exact this
/-- what the row holds, as a value of one level more -/
theorem OwnX.at_ {w : World} {base c d : Nat} {A : Option Addr} {acc : List Tr} {X : Nat → Prop} {l : Bool} {n : Int} (h : OwnX w base A c acc d X) (hn : Wf n) :
    TAt w (fun b => base ≤ b ∧ b < w.heap.size ∧ ¬ X b) (d + 1) (.agg #[.bool l, .int .i64 n, .slice A acc.length c]) (.node l n acc) := by
  obtain ⟨hx, xs, h1, h2, h3⟩ := h
  refine ⟨hn, A, c, rfl, fun hp => ?_⟩
  rcases h2.2 with ⟨he, h0⟩ | ⟨g, cap, cur, he, hbg, hh, _, _, _, ht⟩
  · simp only [Tr.items] at hp; omega
  · have hA : A = some ⟨g, 0, none⟩ := by injection he
    refine ⟨g, 0, hA, ⟨hbg, (Array.getElem?_eq_some_iff.1 hh).1, hx g (by rw [hA]; rfl)⟩, fun j hj => ?_⟩
    have hj' : j < xs.length := by rw [h1]; exact hj
    have hcell : ∀ q, q < 3 → w.cell? ⟨g, 0 + j * 3 + q, none⟩ = (three (xs[j]'hj'))[q]? := by
      intro q hq
      rw [cell_of_row w g _ cur 38 (0, 0) hh]
      have e := flat_get xs j q hj' hq
      rw [← ht, List.getElem?_take] at e
      have hlt : j * 3 + q < acc.length * 3 := by
        have : j < acc.length := hj
        omega
      rw [if_pos hlt] at e
      rw [← e, Array.getElem?_toList]
      congr 1
      omega
    exact ⟨_, _, _, hcell 0 (by omega), hcell 1 (by omega), hcell 2 (by omega), (h3 j hj hj').keep fun b hm => ⟨⟨hm.1, hm.2.1, hm.2.2.2⟩, fun _ => rfl⟩⟩
theorem OwnX.nfr {w : World} {base c d : Nat} {A : Option Addr} {acc : List Tr} {X : Nat → Prop} (h : OwnX w base A c acc d X) : NFr A w := by
  intro g hg
  obtain ⟨_, xs, _, h2, _⟩ := h
  rcases h2.2 with ⟨he, _⟩ | ⟨g', cap, cur, he, _, hh, _⟩
  · injection he with he; subst he; cases hg
  · injection he with he; subst he
    have : g' = g := by simpa [blockOf] using hg
    subst this
    exact ⟨_, _, hh⟩
theorem NFr.set {A : Option Addr} {w : World} (h : NFr A w) {b o : Nat} {v : Value} : NFr A (w.setCell ⟨b, o, none⟩ v) := by
  intro g hg
  obtain ⟨cs, T, e⟩ := h g hg
  by_cases hb : g = b
  · subst hb
    exact ⟨_, T, by simp [World.setCell, Array.getElem?_modify, e]; rfl⟩
  · exact ⟨cs, T, (Below.heap_setCell w ⟨b, o, none⟩ v g hb).trans e⟩
end Go.Proofs.YtffkppjmdelajaaDoor.Gens

/- Plain laws: what the program's fits counts, against the document's own Large. No program. -/
namespace Go.Proofs.YtffkppjmdelajaaDoor.Gens
set_option linter.unusedVariables false

mutual
def fitsG : Gn → Nat → Nat → Bool × Nat
  | .node _ _ _ subs, deep, p => if 30 < p + 1 ∨ 6 ≤ deep then (false, p + 1) else fitsGs subs (deep + 1) (p + 1)
def fitsGs : List Gn → Nat → Nat → Bool × Nat
  | [], _, p => (true, p)
  | g :: r, deep, p => if (fitsG g deep p).1 = true then fitsGs r deep (fitsG g deep p).2 else (false, (fitsG g deep p).2)
end
theorem fitsG_eq (g : Gn) (deep p : Nat) : fitsG g deep p = if 30 < p + 1 ∨ 6 ≤ deep then (false, p + 1) else fitsGs g.subs (deep + 1) (p + 1) := by
  cases g with | node k a b s => simp only [fitsG, Gn.subs]
theorem fitsGs_drop (l : List Gn) (k deep p : Nat) (h : k < l.length) : fitsGs (l.drop k) deep p = if (fitsG (l[k]'h) deep p).1 = true then fitsGs (l.drop (k + 1)) deep (fitsG (l[k]'h) deep p).2 else (false, (fitsG (l[k]'h) deep p).2) := by
  rw [List.drop_eq_getElem_cons h, fitsGs]
mutual
def okD : Gn → Nat → Bool
  | .node _ _ _ subs, deep => decide (deep < 6) && okDs subs (deep + 1)
def okDs : List Gn → Nat → Bool
  | [], _ => true
  | g :: r, deep => okD g deep && okDs r deep
end
mutual
theorem fits_ok : ∀ (g : Gn) (deep p : Nat), (okD g deep = true → p + g.size ≤ 30 → fitsG g deep p = (true, p + g.size)) ∧ (¬ (okD g deep = true ∧ p + g.size ≤ 30) → (fitsG g deep p).1 = false)
  | .node k a b subs, deep, p => by
    have ih := fitss_ok subs (deep + 1) (p + 1)
    refine ⟨fun h1 h2 => ?_, fun h => ?_⟩
    · simp only [okD, Bool.and_eq_true, decide_eq_true_eq] at h1
      rw [Gn.size] at h2 ⊢
      rw [fitsG, if_neg (by omega), ih.1 h1.2 (by omega)]
      simp only [Prod.mk.injEq, true_and]; omega
    · rw [fitsG]
      split
      · rfl
      · rename_i hc
        refine ih.2 (fun h3 => h ⟨?_, ?_⟩) (by omega)
        · simp only [okD, Bool.and_eq_true, decide_eq_true_eq]; exact ⟨by omega, h3.1⟩
        · rw [Gn.size]; omega
theorem fitss_ok : ∀ (l : List Gn) (deep p : Nat), (okDs l deep = true → p + gsizes l ≤ 30 → fitsGs l deep p = (true, p + gsizes l)) ∧ (¬ (okDs l deep = true ∧ p + gsizes l ≤ 30) → p ≤ 30 → (fitsGs l deep p).1 = false)
  | [], deep, p => by
    refine ⟨fun h1 h2 => by simp [fitsGs, gsizes], fun h hp => absurd ⟨by simp [okDs], by simpa [gsizes] using hp⟩ h⟩
  | g :: r, deep, p => by
    have i1 := fits_ok g deep p
    have i2 := fitss_ok r deep (p + g.size)
    refine ⟨fun h1 h2 => ?_, fun h hp => ?_⟩
    · simp only [okDs, Bool.and_eq_true] at h1
      rw [gsizes] at h2
      rw [fitsGs, i1.1 h1.1 (by omega), if_pos rfl, i2.1 h1.2 (by omega), gsizes, Nat.add_assoc]
    · rw [fitsGs]
      by_cases hg : okD g deep = true ∧ p + g.size ≤ 30
      · rw [i1.1 hg.1 hg.2, if_pos rfl]
        refine i2.2 (fun h3 => h ⟨?_, ?_⟩) hg.2
        · simp only [okDs, Bool.and_eq_true]; exact ⟨hg.1, h3.1⟩
        · rw [gsizes]; omega
      · have := i1.2 hg
        rw [if_neg (by rw [this]; simp)]
end
mutual
theorem large_ok : ∀ (g : Gn) (deep : Nat), ((largeG g deep).2 = false ↔ okD g deep = true ∧ g.size ≤ 30)
  | .node k a b subs, deep => by
    have ih := larges_ok subs (deep + 1) 1 (by omega)
    rw [largeG]
    split
    · rename_i h
      simp only [okD, Bool.and_eq_true, decide_eq_true_eq, Gn.size]
      constructor
      · intro h; cases h
      · intro h; omega
    · rename_i h
      rw [ih]
      simp only [okD, Bool.and_eq_true, decide_eq_true_eq, Gn.size]
      constructor
      · intro h3; exact ⟨⟨by omega, h3.1⟩, h3.2⟩
      · intro h3; exact ⟨h3.1.2, h3.2⟩
theorem larges_ok : ∀ (l : List Gn) (deep n : Nat), n ≤ 30 → ((largeGs l deep n).2 = false ↔ okDs l deep = true ∧ n + gsizes l ≤ 30)
  | [], deep, n, hn => by simp [largeGs, okDs, gsizes, hn]
  | g :: r, deep, n, hn => by
    have i1 := large_ok g deep
    rw [largeGs]
    split
    · rename_i hc
      constructor
      · intro h; cases h
      · intro h
        simp only [okDs, Bool.and_eq_true, gsizes] at h
        have h1 : (largeG g deep).2 = false := i1.2 ⟨h.1.1, by omega⟩
        have h2 := large_size g deep h1
        rcases hc with hc | hc
        · rw [h1] at hc; cases hc
        · omega
    · rename_i hc
      have h1 : (largeG g deep).2 = false := by
        cases hb : (largeG g deep).2 with
        | false => rfl
        | true => exact absurd (.inl hb) hc
      have h2 := large_size g deep h1
      have h3 := i1.1 h1
      rw [larges_ok r deep _ (by omega)]
      simp only [okDs, Bool.and_eq_true, gsizes]
      constructor
      · intro h; exact ⟨⟨h3.1, h.1⟩, by omega⟩
      · intro h; exact ⟨h.1.2, by omega⟩
end
/-- the program's measure is the document's -/
theorem fits_large (g : Gn) : (fitsG g 0 0).1 = !(largeG g 0).2 := by
  cases h : (largeG g 0).2 with
  | false =>
    obtain ⟨h1, h2⟩ := (large_ok g 0).1 h
    rw [(fits_ok g 0 0).1 h1 (by omega)]; rfl
  | true =>
    rw [(fits_ok g 0 0).2 (fun h3 => ?_)]; · rfl
    have := (large_ok g 0).2 ⟨h3.1, by omega⟩
    rw [h] at this; cases this
theorem fits_few (g : Gn) (deep p : Nat) (h : (fitsG g deep p).1 = true) : (fitsG g deep p).2 ≤ 30 := by
  by_cases hg : okD g deep = true ∧ p + g.size ≤ 30
  · rw [(fits_ok g deep p).1 hg.1 hg.2]; exact hg.2
  · rw [(fits_ok g deep p).2 hg] at h; cases h
end Go.Proofs.YtffkppjmdelajaaDoor.Gens

/- The program's fits: a contract. Conditions: the size. -/
namespace Go.Proofs.YtffkppjmdelajaaDoor.Gens
open Go.RowKit Lists Ints
set_option linter.unusedVariables false

/-- a box of a number -/
def PB (b : Nat) (k : Int) (w : World) : Prop := w.heap[b]? = some (.cells #[.int .i64 k] 3 (0, 0))
theorem PB.cell {b : Nat} {k : Int} {w : World} (h : PB b k w) : w.cell? ⟨b, 0, none⟩ = some (.int .i64 k) := by rw [Lib.cell_of_heap h]; rfl
theorem PB.free {b : Nat} {k : Int} {w : World} (h : PB b k w) : w.frozen? ⟨b, 0, none⟩ = false := Lib.frozen_of_heap h 0
theorem PB.lt {b : Nat} {k : Int} {w : World} (h : PB b k w) : b < w.heap.size := (Array.getElem?_eq_some_iff.1 h).1
theorem PB.below {b : Nat} {k : Int} {w w' : World} (h : PB b k w) (hb : Below w.heap.size w w') : PB b k w' := (hb.block b h.lt).trans h
theorem PB.put {b : Nat} {k : Int} {w : World} (h : PB b k w) (j : Int) : PB b j (w.setCell ⟨b, 0, none⟩ (.int .i64 j)) := by
  unfold PB at h ⊢
  simp [World.setCell, Array.getElem?_modify, h]
/-- All but block rb is as it was. -/
abbrev Gr (rb : Nat) (w w' : World) : Prop := w.grownBy w' (some rb)
theorem gr_refl (rb : Nat) (w : World) : Gr rb w w := ⟨rfl, rfl, rfl, Nat.le_refl _, fun _ _ _ => rfl⟩
theorem gr_below {rb : Nat} {w w' : World} (h : Below w.heap.size w w') : Gr rb w w' := ⟨h.os, h.tape, h.output, h.size, fun i hi _ => h.block i hi⟩
theorem gr_set {rb : Nat} {w w' : World} (h : Gr rb w w') (o : Nat) (v : Value) : Gr rb w (w'.setCell ⟨rb, o, none⟩ v) :=
  h.trans ⟨rfl, rfl, rfl, by simp [World.setCell], fun i hi hne => Below.heap_setCell _ _ _ _ (fun e => hne (by rw [e]))⟩
theorem gr_alloc {rb : Nat} {w w' : World} (h : Gr rb w w') (o : Obj) : Gr rb w (w'.alloc o) := h.trans (World.grownBy_alloc _ _ _)
theorem gr_to {rb B : Nat} {w w' : World} (h : Gr rb w w') (hB : B ≤ rb) (hr : rb < w.heap.size) : Below B w w' :=
  ⟨h.os, h.tape, h.output, h.size, fun k hk => h.block k (by omega) (by simp; omega)⟩

set_option maxHeartbeats 4000000 in
set_option maxRecDepth 100000 in
theorem fits_any : ∀ (n : Nat) (t : Gn) (v : Value) (B pb dn kn : Nat) (deep k : Int) (w : World), GAt w (GBel B) n v t → B ≤ pb → PB pb k w → t.size ≤ 4294967296 → deep = dn → dn ≤ 6 → k = kn → kn ≤ 30 →
    Calls Tryd.prog 45 #[v, .int .i64 deep, .pointer (some ⟨pb, 0, none⟩)] w fun e w' => e = .returned (.bool (fitsG t dn kn).1) ∧ PB pb ((fitsG t dn kn).2 : Nat) w' ∧ Gr pb w w' := by
  intro n
  induction n with
  | zero => intro t v B pb dn kn deep k w h; exact h.elim
  | succ n ih =>
    intro t v B pb dn kn deep k w h hB hp hsz hd hdn hk hkn
    obtain ⟨m, A, c, e, hw, rfl, hit⟩ := h.open_
    obtain rfl : n = m := by omega
    have IH := Lib.hid ih
    have HIT := Lib.hid hit
    have HB := Lib.hid hB
    have HS := Lib.hid hsz
    have hln : t.subs.length ≤ 4294967296 := by have := glen_sizes t.subs; have := gsize_subs t; omega
    have EQ := Lib.hid (fitsG_eq t dn kn)
    have SB := Lib.hid (gsize_subs t)
    have b0 : Below w.heap.size w (w.alloc (gc t A c)) := (Below.refl _ _).alloc (Nat.le_refl _) _
    have P0 := Lib.hid (hp.below b0)
    have B0 := Lib.hid b0
    have PL := Lib.hid hp.lt
    have hne : pb ≠ w.heap.size := by have := hp.lt; omega
    have hne2 : w.heap.size ≠ pb := hne.symm
    have dlo : 0 ≤ deep := by omega
    have dhi : deep ≤ 6 := by omega
    have klo : 0 ≤ k := by omega
    have khi : k ≤ 30 := by omega
    have HD := Lib.hid (And.intro hd hk)
    obtain ⟨p0, q0⟩ := And.intro P0.out.cell P0.out.free
    have P1 := Lib.hid (show PB pb (k + 1) ((w.alloc (gc t A c)).setCell ⟨pb, 0, none⟩ (.int .i64 (k + 1))) from P0.out.put _)
    have G1 := Lib.hid (show Gr pb w ((w.alloc (gc t A c)).setCell ⟨pb, 0, none⟩ (.int .i64 (k + 1))) from gr_set (gr_below b0) 0 _)
    clear ih hit h hB hsz e hw hp b0 hd hk
    by_cases h1 : 30 < kn + 1
    · have EQ := Lib.hid (show fitsG t dn kn = (false, kn + 1) by rw [EQ.out, if_pos (.inl h1)])
      have g1 : decide ((30 : Int) < k + 1) = true := by have := HD.out; rw [decide_eq_true_eq]; omega
      go_enter Tryd.func45, Tryd.ntmps45
      go_wp2_with fail
      go_ret
      exact ⟨by rw [EQ.out]; rfl, by rw [EQ.out]; have := HD.out; rw [show ((kn + 1 : Nat) : Int) = k + 1 by omega]; exact P1.out, G1.out⟩
    · have g1 : decide ((30 : Int) < k + 1) = false := by have := HD.out; rw [decide_eq_false_iff_not]; omega
      by_cases h6 : 6 ≤ dn
      · have EQ := Lib.hid (show fitsG t dn kn = (false, kn + 1) by rw [EQ.out, if_pos (.inr h6)])
        have g2 : decide ((6 : Int) ≤ deep) = true := by have := HD.out; rw [decide_eq_true_eq]; omega
        go_enter Tryd.func45, Tryd.ntmps45
        go_wp2_with fail
        go_ret
        exact ⟨by rw [EQ.out]; rfl, by rw [EQ.out]; have := HD.out; rw [show ((kn + 1 : Nat) : Int) = k + 1 by omega]; exact P1.out, G1.out⟩
      · have EQ := Lib.hid (show fitsG t dn kn = fitsGs t.subs (dn + 1) (kn + 1) by rw [EQ.out, if_neg (by omega)])
        have g2 : decide ((6 : Int) ≤ deep) = false := by have := HD.out; rw [decide_eq_false_iff_not]; omega
        go_enter Tryd.func45, Tryd.ntmps45
        go_wp2_with fail
        have K1 := Lib.hid (show PB pb ((kn + 1 : Nat) : Int) ((w.alloc (gc t A c)).setCell ⟨pb, 0, none⟩ (.int .i64 (k + 1))) by have := HD.out; rw [show ((kn + 1 : Nat) : Int) = k + 1 by omega]; exact P1.out)
        clear P0 P1 B0 p0 q0 g1 g2
        generalize (w.alloc (gc t A c)).setCell ⟨pb, 0, none⟩ (.int .i64 (k + 1)) = W1 at *
        go_loopw [25] (fun i wr => ∃ (j o : Nat), j ≤ t.subs.length ∧ i = .int .i64 j ∧ o ≤ 30 ∧ Hid (PB pb o wr) ∧ Hid (Gr pb w wr) ∧ Hid (fitsG t dn kn = fitsGs (t.subs.drop j) (dn + 1) o)) (fun i _ => t.subs.length - (intOf i).toNat)
        case atStart => exact ⟨0, kn + 1, Nat.zero_le _, rfl, by omega, K1.out, G1.out, EQ.out⟩
        case round =>
          obtain ⟨j, o, hj, rfl, ho, hp, hg, hz⟩ := hrel
          clear K1 G1 EQ
          by_cases hlt : j < t.subs.length
          · have BW := Lib.hid (gr_to hg.out HB.out PL.out)
            obtain ⟨ib, off, D, d, rfl, c0, c1, c2, c3, hti⟩ := sub_as HIT.out BW.out j hlt
            have hsi : (t.subs[j]'hlt).size ≤ 4294967296 := by have := gsize_mem t.subs _ (List.getElem_mem hlt); have h3 := HS.out; have := SB.out; omega
            have DR := Lib.hid (fitsGs_drop t.subs j (dn + 1) o hlt)
            have FW := Lib.hid (fits_few (t.subs[j]'hlt) (dn + 1) o)
            have ba : Below wr.heap.size wr (wr.alloc (gc (t.subs[j]'hlt) D d)) := (Below.refl _ _).alloc (Nat.le_refl _) _
            have bsz : B ≤ wr.heap.size := by have := hg.out.size; have := PL.out; have := HB.out; omega
            have C1 := IH.out (t.subs[j]'hlt) _ B pb (dn + 1) o (deep + 1) o (wr.alloc (gc (t.subs[j]'hlt) D d)) (hti.below (ba.mono bsz)) HB.out (hp.out.below ba) hsi (by have := HD.out; omega) (by omega) rfl ho
            have BA := Lib.hid ba
            clear hti hsi ba
            generalize hgl : fitsG (t.subs[j]'hlt) (dn + 1) o = q at C1 DR FW
            clear hgl
            obtain ⟨is, o2⟩ := q
            simp only [] at C1
            have DR := Lib.hid (show fitsGs (t.subs.drop j) (dn + 1) o = if is = true then fitsGs (t.subs.drop (j + 1)) (dn + 1) o2 else (false, o2) from DR.out)
            have FW := Lib.hid (show is = true → o2 ≤ 30 from FW.out)
            generalize t.subs[j]'hlt = y at C1 c0 c1 c2 c3 BA
            have HC1 := Lib.hid C1
            clear C1
            cases is with
            | false =>
              have EV := Lib.hid (show fitsG t dn kn = (false, o2) by rw [hz.out, DR.out, if_neg (by simp)])
              go_wp2_with fail
              refine HC1.out.mono ?_
              rintro e w2 ⟨rfl, hp2, hg2⟩
              have P2 := Lib.hid hp2
              have G2 := Lib.hid ((hg.out.trans (gr_below BA.out)).trans hg2)
              clear hp2 hg2
              go_wp2_with fail
              go_ret
              exact ⟨by rw [EV.out]; rfl, by rw [EV.out]; exact P2.out, G2.out⟩
            | true =>
              have EV := Lib.hid (show fitsG t dn kn = fitsGs (t.subs.drop (j + 1)) (dn + 1) o2 by rw [hz.out, DR.out, if_pos rfl])
              go_wp2_with fail
              refine HC1.out.mono ?_
              rintro e w2 ⟨rfl, hp2, hg2⟩
              have P2 := Lib.hid hp2
              have G2 := Lib.hid ((hg.out.trans (gr_below BA.out)).trans hg2)
              clear hp2 hg2
              go_wp2_with fail
              go_roundw
              case rel => exact ⟨j + 1, o2, hlt, by go_num, (by have := FW.out; simpa using this), P2.out, G2.out, EV.out⟩
              case measure => simp [intOf]; omega
          · have EV := Lib.hid (show fitsG t dn kn = (true, o) by rw [hz.out, List.drop_eq_nil_of_le (by omega), fitsGs])
            go_wp2_with fail
            go_ret
            exact ⟨by rw [EV.out]; rfl, by rw [EV.out]; exact hp.out, hg.out⟩
end Go.Proofs.YtffkppjmdelajaaDoor.Gens
