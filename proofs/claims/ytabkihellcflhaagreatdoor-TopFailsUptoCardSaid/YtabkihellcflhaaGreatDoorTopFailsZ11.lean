/- TopFails, part 11 of the proof: Small laws for walks that ask a source: boxes, what stays, what is made. -/
import Derived.Test.YtabkihellcflhaaGreatDoorTopFailsZ10
import Derived.Lib.Builder
import Derived.Deep.RegionHeld2
/- Small laws for walks that ask a source: boxes, what stays, what is made. -/
namespace Go.Proofs.YtabkihellcflhaaGreatDoor.Gens
open Go.RowKit Go.ChangeShapes Lists Ints Vals
set_option linter.unusedVariables false

theorem wf_small {x : Int} (h : -4294967296 ≤ x) (h2 : x ≤ 4294967296) : Wf x := WalkArith.wf_i64 (by omega)
theorem wrap_small {x : Int} (h : -4294967296 ≤ x) (h2 : x ≤ 4294967296) : IntKind.i64.wrap x = x := by
  rw [IntWalk.i64_left, IntWalk.wrap64_in _ (by omega)]
theorem right_num {k a b : Int} {subs : List Gn} (h : Right (.node k a b subs)) : (k = 1 → -1073741824 ≤ a ∧ a ≤ 1073741824) ∧ (k = 2 → -1073741824 ≤ a ∧ a ≤ 1073741824 ∧ -1073741824 ≤ b ∧ b ≤ 1073741824) := by
  obtain ⟨h1, h2, h3, _⟩ := right_of h
  simp [kindBad, rangeBad, subsBad, farB, Gn.kind, Gn.a, Gn.b, Gn.subs] at h1 h2 h3
  refine ⟨fun e => ?_, fun e => ?_⟩
  · have q1 := of_decide_eq_false (h2.1.1 e).1
    have q2 := of_decide_eq_false (h2.1.1 e).2
    omega
  · have q1 := of_decide_eq_false (h2.1.2 e).1.1.1.1
    have q2 := of_decide_eq_false (h2.1.2 e).1.1.1.2
    have q3 := of_decide_eq_false (h2.1.2 e).1.1.2.1
    have q4 := of_decide_eq_false (h2.1.2 e).1.1.2.2
    omega
theorem Mv.cell {X X' : Nat → Prop} {w w' : World} (h : Mv X w w' X') {b o : Nat} {v : Value} (hc : w.cell? ⟨b, o, none⟩ = some v) (hx : ¬ X b) : w'.cell? ⟨b, o, none⟩ = some v :=
  (World.cell?_of_block (h.block b (World.block_lt_of_cell? w ⟨b, o, none⟩ hc) hx)).trans hc
theorem Mv.set {X X' : Nat → Prop} {w w' : World} (h : Mv X w w' X') {b : Nat} (hb : w.heap.size ≤ b) (o : Nat) (v : Value) : Mv X w (w'.setCell ⟨b, o, none⟩ v) X' :=
  ⟨h.os, h.tape, h.output, by simpa [World.setCell] using h.size, fun i hi hx => (Below.heap_setCell _ _ _ _ (by show i ≠ b; omega)).trans (h.block i hi hx), h.new⟩
theorem Mv.later {X X' : Nat → Prop} {w w' w'' : World} (h : Mv X w w' X') (hb : Below w'.heap.size w' w'') : Mv X w w'' X' := Mv.trans h (Mv.of_below hb)
theorem Mv.not {X X' : Nat → Prop} {w w' : World} (h : Mv X w w' X') {b : Nat} (hb : b < w.heap.size) (hx : ¬ X b) : ¬ X' b := fun e => (h.new b e).elim hx (fun e => by omega)
section
variable {σ : Type} {ch : σ → Int → Except Int (Int × σ)} {k : Nat} {cap : Array Value} {B : Nat} {I : σ → (Nat → Prop) → World → Prop}
theorem SPost.split {r : Except Int (Int × σ)} {X : Nat → Prop} {w w' : World} {e : Ending} (h : SPost I r X w e w') :
    (∃ er X', r = .error er ∧ e = panicE er ∧ Mv X w w' X') ∨ ∃ x s' X', r = .ok (x, s') ∧ e = .returned (.int .i64 x) ∧ I s' X' w' ∧ Mv X w w' X' := by
  match r, h with
  | .ok (x, s'), ⟨h1, X', h2, h3⟩ => exact .inr ⟨x, s', X', rfl, h1, h2, h3⟩
  | .error er, ⟨h1, X', h2⟩ => exact .inl ⟨er, X', rfl, h1, h2⟩
theorem VPost.split {n : Nat} {r : Except Int (List Int × Tr × σ)} {X : Nat → Prop} {w w' : World} {e : Ending} (h : VPost I n r X w e w') :
    (∃ er X', r = .error er ∧ e = panicE er ∧ Mv X w w' X') ∨ ∃ c t s' A cc X', r = .ok (c, t, s') ∧ e = .returned (tval t A cc) ∧ I s' X' w' ∧ Mv X w w' X' ∧ TAt w' (fun b => w.heap.size ≤ b ∧ b < w'.heap.size ∧ ¬ X' b) n (tval t A cc) t ∧ NFr A w' := by
  match r, h with
  | .ok (c, t, s'), ⟨A, cc, X', h1, h2, h3, h4, h5⟩ => exact .inr ⟨c, t, s', A, cc, X', rfl, h1, h2, h3, h4, h5⟩
  | .error er, ⟨h1, X', h2⟩ => exact .inl ⟨er, X', rfl, h1, h2⟩
theorem VPost.bad {n : Nat} {r : Except Int (List Int × Tr × σ)} {X X' : Nat → Prop} {w w' : World} {er : Int} (h : r = .error er) (hm : Mv X w w' X') : VPost I n r X w (panicE er) w' := by
  subst h; exact ⟨rfl, X', hm⟩
theorem VPost.good {n : Nat} {r : Except Int (List Int × Tr × σ)} {X X' : Nat → Prop} {w w' : World} {c : List Int} {t : Tr} {s' : σ} {A : Option Addr} {cc : Nat} (h : r = .ok (c, t, s')) (hi : I s' X' w') (hm : Mv X w w' X')
    (ht : TAt w' (fun b => w.heap.size ≤ b ∧ b < w'.heap.size ∧ ¬ X' b) n (tval t A cc) t) (hn : NFr A w') : VPost I n r X w (.returned (tval t A cc)) w' := by
  subst h; exact ⟨A, cc, X', rfl, hi, hm, ht, hn⟩
theorem Src.below (S : Src ch k cap B I) {s : σ} {X : Nat → Prop} {w W : World} (hI : I s X w) (h : Below w.heap.size w W) : I s X W := by
  obtain ⟨h1, h2⟩ := S.lt s X w hI
  exact S.keep s X w W hI (fun b hb => h.block b (hb.elim (fun h => by omega) (fun h => (h2 b h).2))) h.size
theorem Src.set (S : Src ch k cap B I) {s : σ} {X : Nat → Prop} {w : World} (hI : I s X w) {b : Nat} (hb : B ≤ b) (hx : ¬ X b) (o : Nat) (v : Value) : I s X (w.setCell ⟨b, o, none⟩ v) :=
  S.keep s X w _ hI (fun i hi => Below.heap_setCell _ _ _ _ (by show i ≠ b; intro e; subst e; exact hi.elim (fun h => by omega) hx)) (by simp [World.setCell])
theorem Src.not (S : Src ch k cap B I) {s : σ} {X : Nat → Prop} {w : World} (hI : I s X w) {b : Nat} (hb : w.heap.size ≤ b) : ¬ X b := fun h => by have := ((S.lt s X w hI).2 b h).2; omega
end
/-- a value's box -/
def V3 (b : Nat) (x0 x1 x2 : Value) (w : World) : Prop := w.heap[b]? = some (.cells #[x0, x1, x2] 47 (0, 0))
theorem V3.facts {b : Nat} {x0 x1 x2 : Value} {w : World} (h : V3 b x0 x1 x2 w) : w.cell? ⟨b, 0, none⟩ = some x0 ∧ w.cell? ⟨b, 1, none⟩ = some x1 ∧ w.cell? ⟨b, 2, none⟩ = some x2 ∧ w.frozen? ⟨b, 0, none⟩ = false ∧ w.frozen? ⟨b, 1, none⟩ = false ∧ w.frozen? ⟨b, 2, none⟩ = false :=
  ⟨by rw [Lib.cell_of_heap h]; rfl, by rw [Lib.cell_of_heap h]; rfl, by rw [Lib.cell_of_heap h]; rfl, Lib.frozen_of_heap h 0, Lib.frozen_of_heap h 1, Lib.frozen_of_heap h 2⟩
theorem V3.lt {b : Nat} {x0 x1 x2 : Value} {w : World} (h : V3 b x0 x1 x2 w) : b < w.heap.size := (Array.getElem?_eq_some_iff.1 h).1
theorem V3.mv {b : Nat} {x0 x1 x2 : Value} {X X' : Nat → Prop} {w w' : World} (h : V3 b x0 x1 x2 w) (hm : Mv X w w' X') (hx : ¬ X b) : V3 b x0 x1 x2 w' := (hm.block b h.lt hx).trans h
theorem V3.below {b : Nat} {x0 x1 x2 : Value} {w w' : World} (h : V3 b x0 x1 x2 w) (hb : Below w.heap.size w w') : V3 b x0 x1 x2 w' := (hb.block b h.lt).trans h
theorem V3.put {b : Nat} {x0 x1 x2 : Value} {w : World} (h : V3 b x0 x1 x2 w) (y0 y1 y2 : Value) : V3 b y0 y1 y2 (((w.setCell ⟨b, 0, none⟩ y0).setCell ⟨b, 1, none⟩ y1).setCell ⟨b, 2, none⟩ y2) := by
  unfold V3 at h ⊢
  simp [World.setCell, Array.getElem?_modify, h]
theorem V3.put2 {b : Nat} {x0 x1 x2 : Value} {w : World} (h : V3 b x0 x1 x2 w) (y2 : Value) : V3 b x0 x1 y2 (w.setCell ⟨b, 2, none⟩ y2) := by
  unfold V3 at h ⊢
  simp [World.setCell, Array.getElem?_modify, h]
theorem V3.other {b : Nat} {x0 x1 x2 : Value} {w : World} (h : V3 b x0 x1 x2 w) {c : Nat} (hn : b ≠ c) (o : Nat) (v : Value) : V3 b x0 x1 x2 (w.setCell ⟨c, o, none⟩ v) := (Below.heap_setCell w ⟨c, o, none⟩ v b hn).trans h
/-- a generator's box -/
def G4 (b : Nat) (x0 x1 x2 x3 : Value) (w : World) : Prop := w.heap[b]? = some (.cells #[x0, x1, x2, x3] 24 (0, 0))
theorem G4.facts {b : Nat} {x0 x1 x2 x3 : Value} {w : World} (h : G4 b x0 x1 x2 x3 w) : w.cell? ⟨b, 0, none⟩ = some x0 ∧ w.cell? ⟨b, 1, none⟩ = some x1 ∧ w.cell? ⟨b, 2, none⟩ = some x2 ∧ w.cell? ⟨b, 3, none⟩ = some x3 :=
  ⟨by rw [Lib.cell_of_heap h]; rfl, by rw [Lib.cell_of_heap h]; rfl, by rw [Lib.cell_of_heap h]; rfl, by rw [Lib.cell_of_heap h]; rfl⟩
theorem G4.lt {b : Nat} {x0 x1 x2 x3 : Value} {w : World} (h : G4 b x0 x1 x2 x3 w) : b < w.heap.size := (Array.getElem?_eq_some_iff.1 h).1
theorem G4.mv {b : Nat} {x0 x1 x2 x3 : Value} {X X' : Nat → Prop} {w w' : World} (h : G4 b x0 x1 x2 x3 w) (hm : Mv X w w' X') (hx : ¬ X b) : G4 b x0 x1 x2 x3 w' := (hm.block b h.lt hx).trans h
theorem G4.below {b : Nat} {x0 x1 x2 x3 : Value} {w w' : World} (h : G4 b x0 x1 x2 x3 w) (hb : Below w.heap.size w w') : G4 b x0 x1 x2 x3 w' := (hb.block b h.lt).trans h
theorem new_obj (w : World) (o : Obj) : (w.alloc o).heap[w.heap.size]? = some o := by
  show (w.heap.push o)[w.heap.size]? = _
  simp
theorem bel1 (w : World) (o : Obj) : Below w.heap.size w (w.alloc o) := (Below.refl _ _).alloc (Nat.le_refl _) _
/-- the two boxes at value's start -/
theorem two_boxes (w : World) (x0 x1 x2 x3 y0 y1 y2 : Value) : G4 w.heap.size x0 x1 x2 x3 ((w.alloc (.cells #[x0, x1, x2, x3] 24)).alloc (.cells #[y0, y1, y2] 47)) ∧
    V3 (w.heap.size + 1) y0 y1 y2 ((w.alloc (.cells #[x0, x1, x2, x3] 24)).alloc (.cells #[y0, y1, y2] 47)) ∧
    Below w.heap.size w ((w.alloc (.cells #[x0, x1, x2, x3] 24)).alloc (.cells #[y0, y1, y2] 47)) ∧
    ((w.alloc (.cells #[x0, x1, x2, x3] 24)).alloc (.cells #[y0, y1, y2] 47)).heap.size = w.heap.size + 2 := by
  have hz : (w.alloc (.cells #[x0, x1, x2, x3] 24)).heap.size = w.heap.size + 1 := by simp
  have g : G4 w.heap.size x0 x1 x2 x3 (w.alloc (.cells #[x0, x1, x2, x3] 24)) := new_obj _ _
  refine ⟨g.below (bel1 _ _), ?_, (bel1 w _).trans ((bel1 _ _).mono (by simp)), by simp⟩
  have := new_obj (w.alloc (.cells #[x0, x1, x2, x3] 24)) (.cells #[y0, y1, y2] 47)
  rw [hz] at this
  exact this
/-- what the row holds, as a value of one level more -/
theorem OwnX.at_ {w : World} {base c d : Nat} {A : Option Addr} {acc : List Tr} {X : Nat → Prop} {l : Bool} {n : Int} (h : OwnX w base A c acc d X) (hn : Wf n) :
    TAt w (fun b => base ≤ b ∧ b < w.heap.size ∧ ¬ X b) (d + 1) (.agg #[.bool l, .int .i64 n, .slice A acc.length c]) (.node l n acc) := by
  obtain ⟨hx, xs, h1, h2, h3⟩ := h
  refine ⟨hn, A, c, rfl, fun hp => ?_⟩
  rcases h2.2 with ⟨he, h0⟩ | ⟨g, cap, cur, he, hbg, hh, _, _, _, ht⟩
  · simp only [Tr.items] at hp; omega
  · have hA : A = some ⟨g, 0, none⟩ := by injection he
    refine ⟨g, 0, hA, ⟨hbg, (Array.getElem?_eq_some_iff.1 hh).1, hx g (by rw [hA]; rfl)⟩, fun j hj => ?_⟩
    have hj' : j < xs.length := by rw [h1]; exact hj
    have hcell : ∀ q, q < 3 → w.cell? ⟨g, 0 + j * 3 + q, none⟩ = (three (xs[j]'hj'))[q]? := by
      intro q hq
      rw [cell_of_row w g _ cur 47 (0, 0) hh]
      have e := flat_get xs j q hj' hq
      rw [← ht, List.getElem?_take] at e
      have hlt : j * 3 + q < acc.length * 3 := by
        have : j < acc.length := hj
        omega
      rw [if_pos hlt] at e
      rw [← e, Array.getElem?_toList]
      congr 1
      omega
    exact ⟨_, _, _, hcell 0 (by omega), hcell 1 (by omega), hcell 2 (by omega), (h3 j hj hj').keep fun b hm => ⟨⟨hm.1, hm.2.1, hm.2.2.2⟩, fun _ => rfl⟩⟩
theorem OwnX.nfr {w : World} {base c d : Nat} {A : Option Addr} {acc : List Tr} {X : Nat → Prop} (h : OwnX w base A c acc d X) : NFr A w := by
  intro g hg
  obtain ⟨_, xs, _, h2, _⟩ := h
  rcases h2.2 with ⟨he, _⟩ | ⟨g', cap, cur, he, _, hh, _⟩
  · injection he with he; subst he; cases hg
  · injection he with he; subst he
    have : g' = g := by simpa [blockOf] using hg
    subst this
    exact ⟨_, _, hh⟩
theorem NFr.set {A : Option Addr} {w : World} (h : NFr A w) {b o : Nat} {v : Value} : NFr A (w.setCell ⟨b, o, none⟩ v) := by
  intro g hg
  obtain ⟨cs, T, e⟩ := h g hg
  by_cases hb : g = b
  · subst hb
    exact ⟨_, T, by simp [World.setCell, Array.getElem?_modify, e]; rfl⟩
  · exact ⟨cs, T, (Below.heap_setCell w ⟨b, o, none⟩ v g hb).trans e⟩
end Go.Proofs.YtabkihellcflhaaGreatDoor.Gens
