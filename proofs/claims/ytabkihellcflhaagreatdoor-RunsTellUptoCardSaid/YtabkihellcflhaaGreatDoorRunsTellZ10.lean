/- RunsTell, part 10 of the proof: Small laws for walks that ask a source: boxes, what stays, what is made. · In the midst of a list of values that a source's choices make: the row so far, the box that holds it. -/
import Derived.Test.YtabkihellcflhaaGreatDoorRunsTellZ9
import Derived.Lib.Builder
import Derived.Deep.RegionHeld2
import Derived.Deep.RegionLaw
/- Small laws for walks that ask a source: boxes, what stays, what is made. -/
namespace Go.Proofs.YtabkihellcflhaaGreatDoor.Gens
open Go.RowKit Go.ChangeShapes Lists Ints Vals
set_option linter.unusedVariables false

theorem wf_small {x : Int} (h : -4294967296 ≤ x) (h2 : x ≤ 4294967296) : Wf x := WalkArith.wf_i64 (by omega)
theorem wrap_small {x : Int} (h : -4294967296 ≤ x) (h2 : x ≤ 4294967296) : IntKind.i64.wrap x = x := by
  rw [IntWalk.i64_left, IntWalk.wrap64_in _ (by omega)]
theorem right_num {k a b : Int} {subs : List Gn} (h : Right (.node k a b subs)) : (k = 1 → -1073741824 ≤ a ∧ a ≤ 1073741824) ∧ (k = 2 → -1073741824 ≤ a ∧ a ≤ 1073741824 ∧ -1073741824 ≤ b ∧ b ≤ 1073741824) := by
  obtain ⟨h1, h2, h3, _⟩ := right_of h
  simp [kindBad, rangeBad, subsBad, farB, Gn.kind, Gn.a, Gn.b, Gn.subs] at h1 h2 h3
  refine ⟨fun e => ?_, fun e => ?_⟩
  · have q1 := of_decide_eq_false (h2.1.1 e).1
    have q2 := of_decide_eq_false (h2.1.1 e).2
    omega
  · have q1 := of_decide_eq_false (h2.1.2 e).1.1.1.1
    have q2 := of_decide_eq_false (h2.1.2 e).1.1.1.2
    have q3 := of_decide_eq_false (h2.1.2 e).1.1.2.1
    have q4 := of_decide_eq_false (h2.1.2 e).1.1.2.2
    omega
theorem Mv.cell {X X' : Nat → Prop} {w w' : World} (h : Mv X w w' X') {b o : Nat} {v : Value} (hc : w.cell? ⟨b, o, none⟩ = some v) (hx : ¬ X b) : w'.cell? ⟨b, o, none⟩ = some v :=
  (World.cell?_of_block (h.block b (World.block_lt_of_cell? w ⟨b, o, none⟩ hc) hx)).trans hc
theorem Mv.set {X X' : Nat → Prop} {w w' : World} (h : Mv X w w' X') {b : Nat} (hb : w.heap.size ≤ b) (o : Nat) (v : Value) : Mv X w (w'.setCell ⟨b, o, none⟩ v) X' :=
  ⟨h.os, h.tape, h.output, by simpa [World.setCell] using h.size, fun i hi hx => (Below.heap_setCell _ _ _ _ (by show i ≠ b; omega)).trans (h.block i hi hx), h.new⟩
theorem Mv.later {X X' : Nat → Prop} {w w' w'' : World} (h : Mv X w w' X') (hb : Below w'.heap.size w' w'') : Mv X w w'' X' := Mv.trans h (Mv.of_below hb)
theorem Mv.not {X X' : Nat → Prop} {w w' : World} (h : Mv X w w' X') {b : Nat} (hb : b < w.heap.size) (hx : ¬ X b) : ¬ X' b := fun e => (h.new b e).elim hx (fun e => by omega)
section
variable {σ : Type} {ch : σ → Int → Except Int (Int × σ)} {k : Nat} {cap : Array Value} {B : Nat} {I : σ → (Nat → Prop) → World → Prop}
theorem SPost.split {r : Except Int (Int × σ)} {X : Nat → Prop} {w w' : World} {e : Ending} (h : SPost I r X w e w') :
    (∃ er X', r = .error er ∧ e = panicE er ∧ Mv X w w' X') ∨ ∃ x s' X', r = .ok (x, s') ∧ e = .returned (.int .i64 x) ∧ I s' X' w' ∧ Mv X w w' X' := by
  match r, h with
  | .ok (x, s'), ⟨h1, X', h2, h3⟩ => exact .inr ⟨x, s', X', rfl, h1, h2, h3⟩
  | .error er, ⟨h1, X', h2⟩ => exact .inl ⟨er, X', rfl, h1, h2⟩
theorem VPost.split {n : Nat} {r : Except Int (List Int × Tr × σ)} {X : Nat → Prop} {w w' : World} {e : Ending} (h : VPost I n r X w e w') :
    (∃ er X', r = .error er ∧ e = panicE er ∧ Mv X w w' X') ∨ ∃ c t s' A cc X', r = .ok (c, t, s') ∧ e = .returned (tval t A cc) ∧ I s' X' w' ∧ Mv X w w' X' ∧ TAt w' (fun b => w.heap.size ≤ b ∧ b < w'.heap.size ∧ ¬ X' b) n (tval t A cc) t ∧ NFr A w' := by
  match r, h with
  | .ok (c, t, s'), ⟨A, cc, X', h1, h2, h3, h4, h5⟩ => exact .inr ⟨c, t, s', A, cc, X', rfl, h1, h2, h3, h4, h5⟩
  | .error er, ⟨h1, X', h2⟩ => exact .inl ⟨er, X', rfl, h1, h2⟩
theorem VPost.bad {n : Nat} {r : Except Int (List Int × Tr × σ)} {X X' : Nat → Prop} {w w' : World} {er : Int} (h : r = .error er) (hm : Mv X w w' X') : VPost I n r X w (panicE er) w' := by
  subst h; exact ⟨rfl, X', hm⟩
theorem VPost.good {n : Nat} {r : Except Int (List Int × Tr × σ)} {X X' : Nat → Prop} {w w' : World} {c : List Int} {t : Tr} {s' : σ} {A : Option Addr} {cc : Nat} (h : r = .ok (c, t, s')) (hi : I s' X' w') (hm : Mv X w w' X')
    (ht : TAt w' (fun b => w.heap.size ≤ b ∧ b < w'.heap.size ∧ ¬ X' b) n (tval t A cc) t) (hn : NFr A w') : VPost I n r X w (.returned (tval t A cc)) w' := by
  subst h; exact ⟨A, cc, X', rfl, hi, hm, ht, hn⟩
theorem Src.below (S : Src ch k cap B I) {s : σ} {X : Nat → Prop} {w W : World} (hI : I s X w) (h : Below w.heap.size w W) : I s X W := by
  obtain ⟨h1, h2⟩ := S.lt s X w hI
  exact S.keep s X w W hI (fun b hb => h.block b (hb.elim (fun h => by omega) (fun h => (h2 b h).2))) h.size
theorem Src.set (S : Src ch k cap B I) {s : σ} {X : Nat → Prop} {w : World} (hI : I s X w) {b : Nat} (hb : B ≤ b) (hx : ¬ X b) (o : Nat) (v : Value) : I s X (w.setCell ⟨b, o, none⟩ v) :=
  S.keep s X w _ hI (fun i hi => Below.heap_setCell _ _ _ _ (by show i ≠ b; intro e; subst e; exact hi.elim (fun h => by omega) hx)) (by simp [World.setCell])
theorem Src.not (S : Src ch k cap B I) {s : σ} {X : Nat → Prop} {w : World} (hI : I s X w) {b : Nat} (hb : w.heap.size ≤ b) : ¬ X b := fun h => by have := ((S.lt s X w hI).2 b h).2; omega
end
/-- a value's box -/
def V3 (b : Nat) (x0 x1 x2 : Value) (w : World) : Prop := w.heap[b]? = some (.cells #[x0, x1, x2] 47 (0, 0))
theorem V3.facts {b : Nat} {x0 x1 x2 : Value} {w : World} (h : V3 b x0 x1 x2 w) : w.cell? ⟨b, 0, none⟩ = some x0 ∧ w.cell? ⟨b, 1, none⟩ = some x1 ∧ w.cell? ⟨b, 2, none⟩ = some x2 ∧ w.frozen? ⟨b, 0, none⟩ = false ∧ w.frozen? ⟨b, 1, none⟩ = false ∧ w.frozen? ⟨b, 2, none⟩ = false :=
  ⟨by rw [Lib.cell_of_heap h]; rfl, by rw [Lib.cell_of_heap h]; rfl, by rw [Lib.cell_of_heap h]; rfl, Lib.frozen_of_heap h 0, Lib.frozen_of_heap h 1, Lib.frozen_of_heap h 2⟩
theorem V3.lt {b : Nat} {x0 x1 x2 : Value} {w : World} (h : V3 b x0 x1 x2 w) : b < w.heap.size := (Array.getElem?_eq_some_iff.1 h).1
theorem V3.mv {b : Nat} {x0 x1 x2 : Value} {X X' : Nat → Prop} {w w' : World} (h : V3 b x0 x1 x2 w) (hm : Mv X w w' X') (hx : ¬ X b) : V3 b x0 x1 x2 w' := (hm.block b h.lt hx).trans h
theorem V3.below {b : Nat} {x0 x1 x2 : Value} {w w' : World} (h : V3 b x0 x1 x2 w) (hb : Below w.heap.size w w') : V3 b x0 x1 x2 w' := (hb.block b h.lt).trans h
theorem V3.put {b : Nat} {x0 x1 x2 : Value} {w : World} (h : V3 b x0 x1 x2 w) (y0 y1 y2 : Value) : V3 b y0 y1 y2 (((w.setCell ⟨b, 0, none⟩ y0).setCell ⟨b, 1, none⟩ y1).setCell ⟨b, 2, none⟩ y2) := by
  unfold V3 at h ⊢
  simp [World.setCell, Array.getElem?_modify, h]
theorem V3.put2 {b : Nat} {x0 x1 x2 : Value} {w : World} (h : V3 b x0 x1 x2 w) (y2 : Value) : V3 b x0 x1 y2 (w.setCell ⟨b, 2, none⟩ y2) := by
  unfold V3 at h ⊢
  simp [World.setCell, Array.getElem?_modify, h]
theorem V3.other {b : Nat} {x0 x1 x2 : Value} {w : World} (h : V3 b x0 x1 x2 w) {c : Nat} (hn : b ≠ c) (o : Nat) (v : Value) : V3 b x0 x1 x2 (w.setCell ⟨c, o, none⟩ v) := (Below.heap_setCell w ⟨c, o, none⟩ v b hn).trans h
/-- a generator's box -/
def G4 (b : Nat) (x0 x1 x2 x3 : Value) (w : World) : Prop := w.heap[b]? = some (.cells #[x0, x1, x2, x3] 24 (0, 0))
theorem G4.facts {b : Nat} {x0 x1 x2 x3 : Value} {w : World} (h : G4 b x0 x1 x2 x3 w) : w.cell? ⟨b, 0, none⟩ = some x0 ∧ w.cell? ⟨b, 1, none⟩ = some x1 ∧ w.cell? ⟨b, 2, none⟩ = some x2 ∧ w.cell? ⟨b, 3, none⟩ = some x3 :=
  ⟨by rw [Lib.cell_of_heap h]; rfl, by rw [Lib.cell_of_heap h]; rfl, by rw [Lib.cell_of_heap h]; rfl, by rw [Lib.cell_of_heap h]; rfl⟩
theorem G4.lt {b : Nat} {x0 x1 x2 x3 : Value} {w : World} (h : G4 b x0 x1 x2 x3 w) : b < w.heap.size := (Array.getElem?_eq_some_iff.1 h).1
theorem G4.mv {b : Nat} {x0 x1 x2 x3 : Value} {X X' : Nat → Prop} {w w' : World} (h : G4 b x0 x1 x2 x3 w) (hm : Mv X w w' X') (hx : ¬ X b) : G4 b x0 x1 x2 x3 w' := (hm.block b h.lt hx).trans h
theorem G4.below {b : Nat} {x0 x1 x2 x3 : Value} {w w' : World} (h : G4 b x0 x1 x2 x3 w) (hb : Below w.heap.size w w') : G4 b x0 x1 x2 x3 w' := (hb.block b h.lt).trans h
theorem new_obj (w : World) (o : Obj) : (w.alloc o).heap[w.heap.size]? = some o := by
  show (w.heap.push o)[w.heap.size]? = _
  simp
theorem bel1 (w : World) (o : Obj) : Below w.heap.size w (w.alloc o) := (Below.refl _ _).alloc (Nat.le_refl _) _
/-- the two boxes at value's start -/
theorem two_boxes (w : World) (x0 x1 x2 x3 y0 y1 y2 : Value) : G4 w.heap.size x0 x1 x2 x3 ((w.alloc (.cells #[x0, x1, x2, x3] 24)).alloc (.cells #[y0, y1, y2] 47)) ∧
    V3 (w.heap.size + 1) y0 y1 y2 ((w.alloc (.cells #[x0, x1, x2, x3] 24)).alloc (.cells #[y0, y1, y2] 47)) ∧
    Below w.heap.size w ((w.alloc (.cells #[x0, x1, x2, x3] 24)).alloc (.cells #[y0, y1, y2] 47)) ∧
    ((w.alloc (.cells #[x0, x1, x2, x3] 24)).alloc (.cells #[y0, y1, y2] 47)).heap.size = w.heap.size + 2 := by
  have hz : (w.alloc (.cells #[x0, x1, x2, x3] 24)).heap.size = w.heap.size + 1 := by simp
  have g : G4 w.heap.size x0 x1 x2 x3 (w.alloc (.cells #[x0, x1, x2, x3] 24)) := new_obj _ _
  refine ⟨g.below (bel1 _ _), ?_, (bel1 w _).trans ((bel1 _ _).mono (by simp)), by simp⟩
  have := new_obj (w.alloc (.cells #[x0, x1, x2, x3] 24)) (.cells #[y0, y1, y2] 47)
  rw [hz] at this
  exact this
/-- what the row holds, as a value of one level more -/
theorem OwnX.at_ {w : World} {base c d : Nat} {A : Option Addr} {acc : List Tr} {X : Nat → Prop} {l : Bool} {n : Int} (h : OwnX w base A c acc d X) (hn : Wf n) :
    TAt w (fun b => base ≤ b ∧ b < w.heap.size ∧ ¬ X b) (d + 1) (.agg #[.bool l, .int .i64 n, .slice A acc.length c]) (.node l n acc) := by
  obtain ⟨hx, xs, h1, h2, h3⟩ := h
  refine ⟨hn, A, c, rfl, fun hp => ?_⟩
  rcases h2.2 with ⟨he, h0⟩ | ⟨g, cap, cur, he, hbg, hh, _, _, _, ht⟩
  · simp only [Tr.items] at hp; omega
  · have hA : A = some ⟨g, 0, none⟩ := by injection he
    refine ⟨g, 0, hA, ⟨hbg, (Array.getElem?_eq_some_iff.1 hh).1, hx g (by rw [hA]; rfl)⟩, fun j hj => ?_⟩
    have hj' : j < xs.length := by rw [h1]; exact hj
    have hcell : ∀ q, q < 3 → w.cell? ⟨g, 0 + j * 3 + q, none⟩ = (three (xs[j]'hj'))[q]? := by
      intro q hq
      rw [cell_of_row w g _ cur 47 (0, 0) hh]
      have e := flat_get xs j q hj' hq
      rw [← ht, List.getElem?_take] at e
      have hlt : j * 3 + q < acc.length * 3 := by
        have : j < acc.length := hj
        omega
      rw [if_pos hlt] at e
      rw [← e, Array.getElem?_toList]
      congr 1
      omega
    exact ⟨_, _, _, hcell 0 (by omega), hcell 1 (by omega), hcell 2 (by omega), (h3 j hj hj').keep fun b hm => ⟨⟨hm.1, hm.2.1, hm.2.2.2⟩, fun _ => rfl⟩⟩
theorem OwnX.nfr {w : World} {base c d : Nat} {A : Option Addr} {acc : List Tr} {X : Nat → Prop} (h : OwnX w base A c acc d X) : NFr A w := by
  intro g hg
  obtain ⟨_, xs, _, h2, _⟩ := h
  rcases h2.2 with ⟨he, _⟩ | ⟨g', cap, cur, he, _, hh, _⟩
  · injection he with he; subst he; cases hg
  · injection he with he; subst he
    have : g' = g := by simpa [blockOf] using hg
    subst this
    exact ⟨_, _, hh⟩
theorem NFr.set {A : Option Addr} {w : World} (h : NFr A w) {b o : Nat} {v : Value} : NFr A (w.setCell ⟨b, o, none⟩ v) := by
  intro g hg
  obtain ⟨cs, T, e⟩ := h g hg
  by_cases hb : g = b
  · subst hb
    exact ⟨_, T, by simp [World.setCell, Array.getElem?_modify, e]; rfl⟩
  · exact ⟨cs, T, (Below.heap_setCell w ⟨b, o, none⟩ v g hb).trans e⟩
end Go.Proofs.YtabkihellcflhaaGreatDoor.Gens

/- In the midst of a list of values that a source's choices make: the row so far, the box that holds it. -/
namespace Go.Proofs.YtabkihellcflhaaGreatDoor.Gens
open Go.RowKit Go.ChangeShapes Lists Ints Vals
set_option linter.unusedVariables false

theorem OwnX.keep {w w' : World} {base c d : Nat} {A : Option Addr} {acc : List Tr} {X : Nat → Prop} (h : OwnX w base A c acc d X) (hs : w.heap.size ≤ w'.heap.size) (hk : ∀ b, base ≤ b → b < w.heap.size → w'.heap[b]? = w.heap[b]?) : OwnX w' base A c acc d X := by
  have hg := h.t.ge
  obtain ⟨hn, xs, h1, h2, h3⟩ := h
  refine ⟨hn, xs, h1, ⟨h2.1, ?_⟩, fun j hj hj' => (h3 j hj hj').keep fun b hb => ⟨⟨hb.1, Nat.lt_of_lt_of_le hb.2.1 hs, hb.2.2.1, hb.2.2.2⟩, fun o => World.cell?_of_block (hk b hb.1 hb.2.1)⟩⟩
  rcases h2.2 with h0 | ⟨g, cap, cur, he, hbg, hh, r⟩
  · exact .inl h0
  · exact .inr ⟨g, cap, cur, he, hbg, (hk g hbg (Array.getElem?_eq_some_iff.1 hh).1).trans hh, r⟩
theorem step_append_x {ops : Array Oper} {o : Oper} {a : Act} {w : World} {K : Act → World → Prop} {Q : Exit → Act → World → Prop} {E : Prop} (hgd : o.guard = none) (s x : Operand)
    (ho : o.op = .call { callee := .builtin .append, args := #[s, x], argTypes := #[45, 45] })
    (base c d : Nat) (A : Option Addr) (acc : List Tr) (X : Nat → Prop) (hX : ∀ b, X b → b < w.heap.size) (hown : OwnX w base A c acc d X) (b : Nat) (x0 x1 x2 : Value) (c2 : Nat) (t : Tr)
    (k0 : w.cell? ⟨b, 0, none⟩ = some x0) (k1 : w.cell? ⟨b, 1, none⟩ = some x1) (k2 : w.cell? ⟨b, 2, none⟩ = some x2) (one : x0.oneCell' = true ∧ x1.oneCell' = true ∧ x2.oneCell' = true)
    (ht : TAt w (MineX w base A X) d (.agg #[x0, x1, x2]) t)
    (hs : a.eval s = .slice A acc.length c) (hx : a.eval x = .slice (some ⟨b, 0, none⟩) 1 c2)
    (h63 : acc.length + 1 ≤ 1099511627776) (hbase : base ≤ w.heap.size)
    (h : ∀ A' c' w' (zl : List Tr), Hid (zl = acc ++ [t]) → OwnX w' base A' c' zl d X → w.grownBy w' (blockOf A) → K (a.put o.dst (.slice A' zl.length c')) w') :
    if Region.wanted o (yielded ops a.tmps) = true then Oper.wp Tryz.prog o a w K Q else E := by
  have hw : Region.wanted o (yielded ops a.tmps) = true := by simp [Region.wanted, hgd]
  rw [if_pos hw]
  obtain ⟨A', c', w', hrun, h2, h3⟩ := run_append_x w base c d A acc X hX hown b x0 x1 x2 c2 t k0 k1 k2 one ht h63 hbase o.type
  unfold Oper.wp execOp
  simp only [ho, resolve, invoke, builtin, Sem.run_bind, Sem.run_pure, Result.andThen_ok, List.map_toArray, List.map_cons, List.map_nil, hs, hx, hrun]
  exact h A' c' w' _ rfl h2 h3

section
variable {σ : Type} {ch : σ → Int → Except Int (Int × σ)} {k : Nat} {cap : Array Value} {B : Nat} {I : σ → (Nat → Prop) → World → Prop}
/-- j of the generators l have made the values acc: they lie in the row at A, which the value in box vb holds; w: the world at the call, base: where the row may begin. -/
structure Mid (ch : σ → Int → Except Int (Int × σ)) (I : σ → (Nat → Prop) → World → Prop) (l : List Gn) (s : σ) (X : Nat → Prop) (w : World) (vb base n j : Nat) (acc : List Tr) (sj : σ) (Xj : Nat → Prop) (A : Option Addr) (c : Nat) (wr : World) : Prop where
  le : j ≤ l.length
  run : ∃ cs, playAll ch (l.take j) s = .ok (cs, acc, sj)
  len : acc.length = j
  inv : I sj Xj wr
  mv : Mv X w wr Xj
  row : OwnX wr base A c acc n Xj
  box : V3 vb (.bool true) (.int .i64 0) (.slice A acc.length c) wr
  lo : w.heap.size ≤ vb
  hi : vb < base
  base : base ≤ wr.heap.size
  out : ¬ Xj vb
theorem all_len : ∀ (l : List Gn) (s : σ) (c : List Int) (vs : List Tr) (s1 : σ), playAll ch l s = .ok (c, vs, s1) → vs.length = l.length
  | [], s, c, vs, s1, h => by
    simp only [playAll, Except.ok.injEq, Prod.mk.injEq] at h
    obtain ⟨_, rfl, _⟩ := h
    rfl
  | g :: l, s, c, vs, s1, h => by
    simp only [playAll] at h
    cases h1 : play ch g s with
    | error e => rw [h1] at h; cases h
    | ok p =>
      obtain ⟨c1, v, s3⟩ := p
      simp only [h1] at h
      cases h3 : playAll ch l s3 with
      | error e => simp only [h3] at h; cases h
      | ok q =>
        obtain ⟨c4, vs4, s4⟩ := q
        simp only [h3, Except.ok.injEq, Prod.mk.injEq] at h
        obtain ⟨_, rfl, _⟩ := h
        simp [all_len l s3 c4 vs4 s4 h3]
theorem Mid.start (S : Src ch k cap B I) {l : List Gn} {s : σ} {X : Nat → Prop} {w W : World} {vb base n : Nat} (hI : I s X w) (hb : Below w.heap.size w W) (hv : V3 vb (.bool true) (.int .i64 0) (.slice none 0 0) W) (hlo : w.heap.size ≤ vb) (hhi : vb < base) (hbase : base ≤ W.heap.size) :
    Mid ch I l s X w vb base n 0 [] s X none 0 W :=
  ⟨Nat.zero_le _, ⟨[], by simp [playAll]⟩, rfl, S.below hI hb, Mv.of_below hb, OwnX.none_, hv, hlo, hhi, hbase, S.not hI hlo⟩
/-- what a further choice leaves of it, ahead of the call of value: memory was made -/
theorem Mid.later (S : Src ch k cap B I) {l : List Gn} {s sj : σ} {X Xj : Nat → Prop} {w wr wr2 : World} {vb base n j c : Nat} {acc : List Tr} {A : Option Addr} (h : Mid ch I l s X w vb base n j acc sj Xj A c wr) (hb : Below wr.heap.size wr wr2) : Mid ch I l s X w vb base n j acc sj Xj A c wr2 :=
  ⟨h.le, h.run, h.len, S.below h.inv hb, Mv.later h.mv hb, h.row.mv (Mv.of_below hb), h.box.below hb, h.lo, h.hi, Nat.le_trans h.base hb.size, h.out⟩
/-- what the call gives: the row as it was, the value among what the row may hold -/
theorem Mid.called (S : Src ch k cap B I) {l : List Gn} {s sj s' : σ} {X Xj X' : Nat → Prop} {w wr w3 w4 : World} {vb base n j c : Nat} {acc : List Tr} {A : Option Addr} {t : Tr} {v : Value} (h : Mid ch I l s X w vb base n j acc sj Xj A c wr)
    (hi : I s' X' w3) (hm : Mv Xj wr w3 X') (ht : TAt w3 (fun b => wr.heap.size ≤ b ∧ b < w3.heap.size ∧ ¬ X' b) n v t) (hb : Below w3.heap.size w3 w4) :
    OwnX w4 base A c acc n X' ∧ TAt w4 (MineX w4 base A X') n v t ∧ (∀ b, X' b → b < w4.heap.size) ∧ base ≤ w4.heap.size ∧ V3 vb (.bool true) (.int .i64 0) (.slice A acc.length c) w4 := by
  refine ⟨(h.row.mv hm).mv (Mv.of_below hb), ?_, fun b hx => Nat.lt_of_lt_of_le ((S.lt s' X' w3 hi).2 b hx).2 hb.size, Nat.le_trans h.base (Nat.le_trans hm.size hb.size), (h.box.mv hm h.out).below hb⟩
  refine ht.keep fun b ⟨h1, h2, h3⟩ => ⟨⟨Nat.le_trans h.base h1, Nat.lt_of_lt_of_le h2 hb.size, fun e => ?_, h3⟩, fun o => hb.cell (p := ⟨b, o, none⟩) h2⟩
  have := (h.row.t.ge b e).2
  omega
/-- one more -/
theorem Mid.next (S : Src ch k cap B I) {l : List Gn} {s sj s' : σ} {X Xj X' : Nat → Prop} {w wr w3 w4 w5 : World} {vb base n j c c' : Nat} {acc : List Tr} {A A' : Option Addr} {t : Tr} {c2 : List Int} (h : Mid ch I l s X w vb base n j acc sj Xj A c wr) (hj : j < l.length)
    (hp : play ch (l[j]'hj) sj = .ok (c2, t, s')) (hi : I s' X' w3) (hm : Mv Xj wr w3 X') (hb : Below w3.heap.size w3 w4) (ho : OwnX w5 base A' c' (acc ++ [t]) n X') (hown : OwnX w4 base A c acc n X') (hg : w4.grownBy w5 (blockOf A)) (hB : B ≤ w.heap.size) :
    Mid ch I l s X w vb base n (j + 1) (acc ++ [t]) s' X' A' c' (w5.setCell ⟨vb, 2, none⟩ (.slice A' (acc ++ [t]).length c')) := by
  obtain ⟨cs, hr⟩ := h.run
  have hv3 : ¬ X' vb := Mv.not hm h.box.lt h.out
  have hge := hown.t.ge
  have hbox4 : V3 vb (.bool true) (.int .i64 0) (.slice A acc.length c) w4 := (h.box.mv hm h.out).below hb
  have hbox5 : V3 vb (.bool true) (.int .i64 0) (.slice A acc.length c) w5 := (hg.block vb hbox4.lt (fun e => by have := (hge vb e.symm).1; have := h.hi; omega)).trans hbox4
  have m5 : Mv X w w5 X' := by
    have m4 := Mv.later (Mv.trans h.mv hm) hb
    have h1 := h.lo
    have h2 := h.hi
    exact ⟨hg.os.trans m4.os, hg.tape.trans m4.tape, hg.output.trans m4.output, Nat.le_trans m4.size hg.size, fun b hlt hx => (hg.block b (Nat.lt_of_lt_of_le hlt m4.size) (fun e => by have := (hge b e.symm).1; omega)).trans (m4.block b hlt hx), m4.new⟩
  have i5 : I s' X' w5 := by
    obtain ⟨l1, l2⟩ := S.lt s' X' w3 hi
    refine S.keep s' X' w3 w5 hi (fun b hbx => ?_) (Nat.le_trans hb.size hg.size)
    have hlt : b < w3.heap.size := hbx.elim (fun h => by omega) (fun h => (l2 b h).2)
    refine (hg.block b (Nat.lt_of_lt_of_le hlt hb.size) (fun e => ?_)).trans (hb.block b hlt)
    rcases hbx with hlo | hx
    · have := (hge b e.symm).1
      have := h.lo
      have := h.hi
      omega
    · exact hown.1 b e.symm hx
  refine ⟨hj, ⟨cs ++ c2, all_step hj hr hp⟩, by simp [h.len], S.set i5 (Nat.le_trans hB h.lo) hv3 2 _, Mv.set m5 h.lo 2 _, OwnX.keep ho (by simp [World.setCell]) (fun b hb1 hb2 => Below.heap_setCell _ _ _ _ (by show b ≠ vb; have := h.hi; omega)), hbox5.put2 _, h.lo, h.hi, ?_, hv3⟩
  · have : (w5.setCell ⟨vb, 2, none⟩ (.slice A' (acc ++ [t]).length c')).heap.size = w5.heap.size := by simp [World.setCell]
    rw [this]; exact Nat.le_trans h.base (Nat.le_trans hm.size (Nat.le_trans hb.size hg.size))
theorem V3.grown {vb base c n : Nat} {x0 x1 x2 : Value} {w4 w5 : World} {A : Option Addr} {acc : List Tr} {X : Nat → Prop} (h : V3 vb x0 x1 x2 w4) (hown : OwnX w4 base A c acc n X) (hg : w4.grownBy w5 (blockOf A)) (hlt : vb < base) : V3 vb x0 x1 x2 w5 :=
  (hg.block vb h.lt (fun e => by have := (hown.t.ge vb e.symm).1; omega)).trans h
/-- a box beside it -/
theorem Mid.side {l : List Gn} {s sj : σ} {X Xj X' : Nat → Prop} {w wr w3 w4 w5 : World} {vb base n j c : Nat} {acc : List Tr} {A : Option Addr} {rb : Nat} {x0 x1 x2 y : Value} (h : Mid ch I l s X w vb base n j acc sj Xj A c wr) (hm : Mv Xj wr w3 X') (hb : Below w3.heap.size w3 w4) (hown : OwnX w4 base A c acc n X') (hg : w4.grownBy w5 (blockOf A))
    (hr : V3 rb x0 x1 x2 wr ∧ ¬ Xj rb) (hlt : rb < base) (hne : rb ≠ vb) (o : Nat) : V3 rb x0 x1 x2 (w5.setCell ⟨vb, o, none⟩ y) ∧ ¬ X' rb :=
  ⟨(V3.grown ((hr.1.mv hm hr.2).below hb) hown hg hlt).other hne _ _, Mv.not hm hr.1.lt hr.2⟩
theorem OwnX.set {w : World} {base c d : Nat} {A : Option Addr} {acc : List Tr} {X : Nat → Prop} (h : OwnX w base A c acc d X) {b : Nat} (hb : b < base) (o : Nat) (v : Value) : OwnX (w.setCell ⟨b, o, none⟩ v) base A c acc d X :=
  OwnX.keep h (by simp [World.setCell]) (fun q h1 h2 => Below.heap_setCell _ _ _ _ (by show q ≠ b; omega))
/-- all of them: the value is returned through box rb -/
theorem Mid.done (S : Src ch k cap B I) {r : Except Int (List Int × Tr × σ)} {l : List Gn} {s sj : σ} {X Xj : Nat → Prop} {w wr : World} {vb base n j c : Nat} {acc : List Tr} {A : Option Addr} {rb : Nat} {y0 y1 y2 : Value} (h : Mid ch I l s X w vb base n j acc sj Xj A c wr) (hj : j = l.length) (hB : B ≤ w.heap.size)
    (hp : ∃ cs, ∀ cs2, playAll ch l s = .ok (cs2, acc, sj) → r = .ok (cs, .node true 0 acc, sj)) (hlo : w.heap.size ≤ rb) (hhi : rb < base) (hx : ¬ Xj rb) : VPost I (n + 1) r X w (.returned (tval (.node true 0 acc) A c)) (((wr.setCell ⟨rb, 0, none⟩ y0).setCell ⟨rb, 1, none⟩ y1).setCell ⟨rb, 2, none⟩ y2) := by
  obtain ⟨cs, hrun⟩ := h.run
  rw [List.take_of_length_le (by omega)] at hrun
  obtain ⟨cs', hp⟩ := hp
  have hrb : B ≤ rb := Nat.le_trans hB hlo
  have ho := OwnX.set (OwnX.set (OwnX.set h.row hhi 0 y0) hhi 1 y1) hhi 2 y2
  refine VPost.good (hp _ hrun) (S.set (S.set (S.set h.inv hrb hx 0 y0) hrb hx 1 y1) hrb hx 2 y2) (Mv.set (Mv.set (Mv.set h.mv hlo 0 y0) hlo 1 y1) hlo 2 y2) ?_ (OwnX.nfr ho)
  exact (OwnX.at_ (l := true) (n := 0) ho (by decide)).keep fun b ⟨h1, h2, h3⟩ => ⟨⟨by have := h.lo; have := h.hi; omega, h2, h3⟩, fun _ => rfl⟩
/-- begun behind a first choice -/
theorem Mid.start2 {l : List Gn} {s1 : σ} {X X1 : Nat → Prop} {w w1 : World} {vb base n : Nat} (hI : I s1 X1 w1) (hm : Mv X w w1 X1) (hv : V3 vb (.bool true) (.int .i64 0) (.slice none 0 0) w1) (hlo : w.heap.size ≤ vb) (hhi : vb < base) (hbase : base ≤ w1.heap.size) (hx : ¬ X1 vb) :
    Mid ch I l s1 X w vb base n 0 [] s1 X1 none 0 w1 :=
  ⟨Nat.zero_le _, ⟨[], by simp [playAll]⟩, rfl, hI, hm, OwnX.none_, hv, hlo, hhi, hbase, hx⟩
theorem Mid.sideG {l : List Gn} {s sj : σ} {X Xj X' : Nat → Prop} {w wr w3 w4 w5 : World} {vb base n j c : Nat} {acc : List Tr} {A : Option Addr} {rb : Nat} {x0 x1 x2 x3 y : Value} (h : Mid ch I l s X w vb base n j acc sj Xj A c wr) (hm : Mv Xj wr w3 X') (hb : Below w3.heap.size w3 w4) (hown : OwnX w4 base A c acc n X') (hg : w4.grownBy w5 (blockOf A))
    (hr : G4 rb x0 x1 x2 x3 wr ∧ ¬ Xj rb) (hlt : rb < base) (hne : rb ≠ vb) (o : Nat) : G4 rb x0 x1 x2 x3 (w5.setCell ⟨vb, o, none⟩ y) ∧ ¬ X' rb :=
  ⟨(Below.heap_setCell w5 ⟨vb, o, none⟩ y rb hne).trans ((hg.block rb ((hr.1.mv hm hr.2).below hb).lt (fun e => by have := (hown.t.ge rb e.symm).1; omega)).trans ((hr.1.mv hm hr.2).below hb)), Mv.not hm hr.1.lt hr.2⟩
end
end Go.Proofs.YtabkihellcflhaaGreatDoor.Gens
