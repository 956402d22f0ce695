/- RunsTell, part 13 of the proof: The program's Mend: its closure as a source of choices. Conditions: the size of the list. · The program's record: a source that notes what another one tells. Conditions: none but the source's. · The program's Mend. Conditions: the sizes. -/
import Derived.Test.YtabkihellcflhaaGreatDoorRunsTellZ10
import Derived.Lib.MinMax
import Derived.Test.YtabkihellcflhaaGreatDoorRunsTellZ12
import Derived.Test.YtabkihellcflhaaGreatDoorRunsTellZ4
/- The program's Mend: its closure as a source of choices. Conditions: the size of the list. -/
namespace Go.Proofs.YtabkihellcflhaaGreatDoor.Gens
open Go.RowKit Lists Ints Vals
set_option linter.unusedVariables false

/-- the box of a slice of numbers -/
def LB (p : Nat) (A : Option Addr) (n c : Nat) (w : World) : Prop := w.heap[p]? = some (.cells #[.slice A n c] 32 (0, 0))
theorem LB.cell {p n c : Nat} {A : Option Addr} {w : World} (h : LB p A n c w) : w.cell? ⟨p, 0, none⟩ = some (.slice A n c) := by rw [Lib.cell_of_heap h]; rfl
theorem LB.free {p n c : Nat} {A : Option Addr} {w : World} (h : LB p A n c w) : w.frozen? ⟨p, 0, none⟩ = false := Lib.frozen_of_heap h 0
theorem LB.lt {p n c : Nat} {A : Option Addr} {w : World} (h : LB p A n c w) : p < w.heap.size := (Array.getElem?_eq_some_iff.1 h).1
theorem LB.put {p n c : Nat} {A : Option Addr} {w : World} (h : LB p A n c w) (A' : Option Addr) (n' c' : Nat) : LB p A' n' c' (w.setCell ⟨p, 0, none⟩ (.slice A' n' c')) := by
  unfold LB at h ⊢
  simp [World.setCell, Array.getElem?_modify, h]
/-- the state of a source that reads a list out of box p -/
def IL (B p : Nat) (s : List Int) (X : Nat → Prop) (w : World) : Prop := (∀ b, X b ↔ b = p) ∧ B ≤ p ∧ s.length ≤ 4294967296 ∧ B ≤ w.heap.size ∧ ∃ A c, LB p A s.length c w ∧ At w B A s ∧ s.length ≤ c
theorem IL.keep {B p : Nat} {s : List Int} {X : Nat → Prop} {w w' : World} (h : IL B p s X w) (hk : ∀ b, b < B ∨ X b → w'.heap[b]? = w.heap[b]?) (hs : w.heap.size ≤ w'.heap.size) : IL B p s X w' := by
  obtain ⟨h1, h2, h3, h4, A, c, h5, h6, h7⟩ := h
  exact ⟨h1, h2, h3, Nat.le_trans h4 hs, A, c, (hk p (.inr ((h1 p).2 rfl))).trans h5, h6.keep (fun b o hb => World.cell?_of_block (hk b (.inl hb))), h7⟩
theorem IL.lt {B p : Nat} {s : List Int} {X : Nat → Prop} {w : World} (h : IL B p s X w) : B ≤ w.heap.size ∧ ∀ b, X b → B ≤ b ∧ b < w.heap.size := by
  obtain ⟨h1, h2, h3, h4, A, c, h5, h6, h7⟩ := h
  exact ⟨h4, fun b hb => by rw [h1] at hb; subst hb; exact ⟨h2, h5.lt⟩⟩
theorem At.tail {w : World} {B b off : Nat} {x : Int} {r : List Int} (h : At w B (some ⟨b, off, none⟩) (x :: r)) : At w B (some ⟨b, off + 1, none⟩) r := fun hp => by
  obtain ⟨b', o', e, hb, hc⟩ := h (by simp)
  simp only [Option.some.injEq, Addr.mk.injEq, and_true] at e
  obtain ⟨rfl, rfl⟩ := e
  refine ⟨b, off + 1, rfl, hb, fun j hj => ?_⟩
  have := hc (j + 1) (by simpa using hj)
  rw [show off + 1 + j = off + (j + 1) by omega, this]
  rfl

/-- one number further -/
theorem IL.step {B p c c' : Nat} {A A' : Option Addr} {r : List Int} {X : Nat → Prop} {w : World} (hX : ∀ b, X b ↔ b = p) (hBp : B ≤ p) (hsl : r.length + 1 ≤ 4294967296) (hBw : B ≤ w.heap.size) (hbox : LB p A (r.length + 1) c w) (hat : At w B A' r) (hcap : r.length ≤ c') :
    IL B p r X (w.setCell ⟨p, 0, none⟩ (.slice A' r.length c')) ∧ Mv X w (w.setCell ⟨p, 0, none⟩ (.slice A' r.length c')) X := by
  refine ⟨⟨hX, hBp, by omega, by simpa [World.setCell] using hBw, A', c', hbox.put A' r.length c', hat.keep fun b o hb => World.cell?_of_block (Below.heap_setCell _ _ _ _ (by show b ≠ p; omega)), hcap⟩, ?_⟩
  exact ⟨rfl, rfl, rfl, by simp [World.setCell], fun b hb hx => Below.heap_setCell _ _ _ _ (fun e => hx ((hX b).2 e)), fun b hb => .inl hb⟩

set_option maxHeartbeats 1000000 in
set_option maxRecDepth 100000 in
theorem src_mend (B p : Nat) : Src mendC 98 #[.pointer (some ⟨p, 0, none⟩)] B (IL B p) := by
  refine ⟨fun s X w w' h hk hs => h.keep hk hs, fun s X w h => h.lt, mend_bounded, fun args w => ?_, fun s X w m h0 h1 hI _ => ?_⟩
  · rfl
  · have HI := Lib.hid hI
    obtain ⟨hX, hBp, hsl, hBw, A, c, hbox, hat, hcap⟩ := hI
    have f0 := hbox.cell
    have f1 := hbox.free
    have HX := Lib.hid hX
    have HAT := Lib.hid hat
    have HBX := Lib.hid hbox
    have hp := hbox.lt
    clear hat hbox hX
    show Calls Tryz.prog 98 #[.int .i64 m, .pointer (some ⟨p, 0, none⟩)] w _
    cases s with
    | nil =>
      simp only [List.length_nil] at f0 hcap hsl
      go_enter Tryz.func98, Tryz.ntmps98
      go_wp2_with fail
      go_ret
      exact ⟨ret_int (by show (0 : Int) = max 0 (min 0 m); omega), X, HI.out, Mv.refl X w⟩
    | cons x r =>
      obtain ⟨b, off, rfl, hb, hc⟩ := HAT.out (by simp)
      have c0 : w.cell? ⟨b, off, none⟩ = some (.int .i64 x) := hc 0 (by simp)
      clear hc
      have g0 : (((r.length : Int) + 1) == 0) = false := by rw [beq_eq_false_iff_ne]; omega
      simp only [List.length_cons] at f0 hcap hsl
      have HR := Lib.hid (show min (max x 0) m = mendX (x :: r) m by show min (max x 0) m = max 0 (min x m); omega)
      by_cases hc1 : c = 1
      · obtain rfl : r = [] := List.eq_nil_of_length_eq_zero (by omega)
        have ST := Lib.hid (IL.step (A' := some ⟨b, off, none⟩) (c' := 0) HX.out hBp hsl hBw HBX.out (r := []) At.nil (by simp))
        subst hc1
        simp only [List.length_nil] at f0
        go_enter Tryz.func98, Tryz.ntmps98
        go_wp2_with fail
        go_ret
        exact ⟨ret_int HR.out, X, ST.out.1, ST.out.2⟩
      · have ST := Lib.hid (IL.step (A' := some ⟨b, off + 1, none⟩) (c' := c - 1) HX.out hBp hsl hBw HBX.out (r := r) (At.tail HAT.out) (by omega))
        go_enter Tryz.func98, Tryz.ntmps98
        go_wp2_with fail
        go_ret
        exact ⟨ret_int HR.out, X, ST.out.1, ST.out.2⟩
end Go.Proofs.YtabkihellcflhaaGreatDoor.Gens

/- The program's record: a source that notes what another one tells. Conditions: none but the source's. -/
namespace Go.Proofs.YtabkihellcflhaaGreatDoor.Gens
open Go.RowKit Lists Ints Vals
set_option linter.unusedVariables false

section
variable {σ : Type} {ch : σ → Int → Except Int (Int × σ)} {k : Nat} {cap : Array Value} {B : Nat} {I : σ → (Nat → Prop) → World → Prop}
/-- the box of a source -/
def FB (p k : Nat) (cap : Array Value) (w : World) : Prop := w.heap[p]? = some (.cells #[fv k cap] 112 (0, 0))
theorem FB.cell {p k : Nat} {cap : Array Value} {w : World} (h : FB p k cap w) : w.cell? ⟨p, 0, none⟩ = some (fv k cap) := by rw [Lib.cell_of_heap h]; rfl
theorem FB.lt {p k : Nat} {cap : Array Value} {w : World} (h : FB p k cap w) : p < w.heap.size := (Array.getElem?_eq_some_iff.1 h).1
/-- the state of a source that notes: the inner one's, the box that holds it, the box of what is noted, its row -/
def IR (B k : Nat) (cap : Array Value) (I : σ → (Nat → Prop) → World → Prop) (nb tb : Nat) (s : σ × List Int) (X : Nat → Prop) (w : World) : Prop :=
  ∃ (X0 : Nat → Prop) (A : Option Addr) (c : Nat), I s.1 X0 w ∧ FB nb k cap w ∧ LB tb A s.2.length c w ∧ Own w (tb + 1) A c s.2 ∧ s.2.length ≤ 4294967296 ∧ nb < tb ∧ B ≤ nb ∧ ¬ X0 nb ∧ ¬ X0 tb ∧ (∀ g, rowOf A = some g → ¬ X0 g) ∧ ∀ b, X b ↔ (X0 b ∨ b = nb ∨ b = tb ∨ rowOf A = some b)
theorem own_row_lt {w : World} {base c : Nat} {A : Option Addr} {z : List Int} (h : Own w base A c z) {g : Nat} (hg : rowOf A = some g) : g < w.heap.size := by
  rcases h.2 with ⟨he, _⟩ | ⟨g', cap, cur, he, _, hh, _⟩
  · injection he with he; subst he; cases hg
  · injection he with he; subst he
    have : g' = g := by simpa [rowOf] using hg
    subst this
    exact (Array.getElem?_eq_some_iff.1 hh).1
theorem own_kept {w w' : World} {base c : Nat} {A : Option Addr} {z : List Int} (h : Own w base A c z) (hk : ∀ g, rowOf A = some g → w'.heap[g]? = w.heap[g]?) : Own w' base A c z := by
  refine ⟨h.1, ?_⟩
  rcases h.2 with h0 | ⟨g, cap, cur, he, hb, hh, h1⟩
  · exact .inl h0
  · refine .inr ⟨g, cap, cur, he, hb, ?_, h1⟩
    injection he with he; subst he
    rw [hk g rfl]; exact hh
theorem IR.keep (S : Src ch k cap B I) {nb tb : Nat} {s : σ × List Int} {X : Nat → Prop} {w w' : World} (h : IR B k cap I nb tb s X w) (hk : ∀ b, b < B ∨ X b → w'.heap[b]? = w.heap[b]?) (hs : w.heap.size ≤ w'.heap.size) : IR B k cap I nb tb s X w' := by
  obtain ⟨X0, A, c, h1, h2, h3, h4, h5, h6, h7, h8, h9, h10, h11⟩ := h
  exact ⟨X0, A, c, S.keep s.1 X0 w w' h1 (fun b hb => hk b (hb.elim .inl (fun h => .inr ((h11 b).2 (.inl h))))) hs, (hk nb (.inr ((h11 nb).2 (.inr (.inl rfl))))).trans h2, (hk tb (.inr ((h11 tb).2 (.inr (.inr (.inl rfl)))))).trans h3,
    own_kept h4 (fun g hg => hk g (.inr ((h11 g).2 (.inr (.inr (.inr hg)))))), h5, h6, h7, h8, h9, h10, h11⟩
theorem IR.lt (S : Src ch k cap B I) {nb tb : Nat} {s : σ × List Int} {X : Nat → Prop} {w : World} (h : IR B k cap I nb tb s X w) : B ≤ w.heap.size ∧ ∀ b, X b → B ≤ b ∧ b < w.heap.size := by
  obtain ⟨X0, A, c, h1, h2, h3, h4, h5, h6, h7, h8, h9, h10, h11⟩ := h
  obtain ⟨q1, q2⟩ := S.lt s.1 X0 w h1
  refine ⟨q1, fun b hb => ?_⟩
  rcases (h11 b).1 hb with h | rfl | rfl | h
  · exact q2 b h
  · exact ⟨h7, h2.lt⟩
  · exact ⟨by omega, h3.lt⟩
  · exact ⟨by have := h4.ge b h; omega, own_row_lt h4 h⟩
/-- behind the inner call: memory as the notes want it -/
theorem IR.mid {nb tb c : Nat} {r : List Int} {X0 X' : Nat → Prop} {A : Option Addr} {w w1 : World} (h2 : FB nb k cap w) (h3 : LB tb A r.length c w) (h4 : Own w (tb + 1) A c r) (h8 : ¬ X0 nb) (h9 : ¬ X0 tb) (h10 : ∀ g, rowOf A = some g → ¬ X0 g) (hm : Mv X0 w w1 X') :
    FB nb k cap w1 ∧ LB tb A r.length c w1 ∧ Own w1 (tb + 1) A c r ∧ ¬ X' nb ∧ ¬ X' tb ∧ ∀ g, rowOf A = some g → ¬ X' g :=
  ⟨(hm.block nb h2.lt h8).trans h2, (hm.block tb h3.lt h9).trans h3, own_kept h4 (fun g hg => hm.block g (own_row_lt h4 hg) (h10 g hg)), Mv.not hm h2.lt h8, Mv.not hm h3.lt h9, fun g hg => Mv.not hm (own_row_lt h4 hg) (h10 g hg)⟩

theorem At.one_new (w : World) (x : Int) : At (w.alloc (.cells #[.int .i64 x] 3)) (w.heap.size + 1) (some ⟨w.heap.size, 0, none⟩) [x] := fun hp => by
  refine ⟨w.heap.size, 0, rfl, by omega, fun j hj => ?_⟩
  have hj : j = 0 := by simpa using hj
  subst hj
  rw [Lib.cell_of_heap (new_obj w _)]; rfl
theorem IR.bad {nb tb c : Nat} {r : List Int} {X X0 X' : Nat → Prop} {A : Option Addr} {w w1 : World} (hX : ∀ b, X b ↔ (X0 b ∨ b = nb ∨ b = tb ∨ rowOf A = some b)) (hm : Mv X0 w w1 X') : Mv X w w1 (fun _ => False) :=
  ⟨hm.os, hm.tape, hm.output, hm.size, fun b hb hx => hm.block b hb (fun h => hx ((hX b).2 (.inl h))), fun b h => h.elim⟩
/-- one number more is noted -/
theorem IR.next (S : Src ch k cap B I) {nb tb c c' : Nat} {s' : σ} {r zl : List Int} {X X0 X' : Nat → Prop} {A A' : Option Addr} {w w1 w5 : World} {O : Obj} (h2 : FB nb k cap w1) (h3 : LB tb A r.length c w1) (h4 : Own w1 (tb + 1) A c r) (h6 : nb < tb) (h7 : B ≤ nb) (h8 : ¬ X' nb) (h9 : ¬ X' tb) (h10 : ∀ g, rowOf A = some g → ¬ X' g)
    (hX : ∀ b, X b ↔ (X0 b ∨ b = nb ∨ b = tb ∨ rowOf A = some b)) (hi : I s' X' w1) (hm : Mv X0 w w1 X') (g5 : (w1.alloc O).grownBy w5 (rowOf A)) (own5 : Own w5 (tb + 1) A' c' zl) (r5 : rowOf A' = rowOf A ∨ rowOf A' = some (w1.alloc O).heap.size) (hl : zl.length ≤ 4294967296) :
    LB tb A r.length c w5 ∧ IR B k cap I nb tb (s', zl) (fun b => X' b ∨ b = nb ∨ b = tb ∨ rowOf A' = some b) (w5.setCell ⟨tb, 0, none⟩ (.slice A' zl.length c')) ∧
      Mv X w (w5.setCell ⟨tb, 0, none⟩ (.slice A' zl.length c')) (fun b => X' b ∨ b = nb ∨ b = tb ∨ rowOf A' = some b) := by
  have hsz : (w1.alloc O).heap.size = w1.heap.size + 1 := by simp
  have s5 := g5.size
  have hr : ∀ g, rowOf A = some g → tb + 1 ≤ g := h4.ge
  have blk : ∀ b, b < w1.heap.size → rowOf A ≠ some b → w5.heap[b]? = w1.heap[b]? := fun b hb hn => (g5.block b (by omega) (fun e => hn e.symm)).trans (Below.heap_alloc _ _ _ hb)
  have blk2 : ∀ b, b < w1.heap.size → rowOf A ≠ some b → b ≠ tb → (w5.setCell ⟨tb, 0, none⟩ (.slice A' zl.length c')).heap[b]? = w1.heap[b]? := fun b hb hn ht => (Below.heap_setCell _ _ _ _ ht).trans (blk b hb hn)
  have ht5 : LB tb A r.length c w5 := (blk tb h3.lt (fun e => by have := hr tb e; omega)).trans h3
  obtain ⟨q1, q2⟩ := S.lt s' X' w1 hi
  have hmx := hm.size
  have hnew : ∀ g, rowOf A' = some g → tb + 1 ≤ g := own5.ge
  refine ⟨ht5, ⟨X', A', c', S.keep s' X' w1 _ hi (fun b hb => ?_) (by simp [World.setCell]; omega), ?_, ht5.put A' zl.length c', own_kept own5 (fun g hg => Below.heap_setCell _ _ _ _ (by show g ≠ tb; have := hnew g hg; omega)), hl, h6, h7, h8, h9, fun g hg hx => ?_, fun b => Iff.rfl⟩, ⟨?_, ?_, ?_, by simp [World.setCell]; omega, fun b hb hx => ?_, fun b hb => ?_⟩⟩
  · rcases hb with hb | hb
    · exact blk2 b (by omega) (fun e => by have := hr b e; omega) (by omega)
    · exact blk2 b (q2 b hb).2 (fun e => h10 b e hb) (fun e => h9 (e ▸ hb))
  · exact (blk2 nb h2.lt (fun e => by have := hr nb e; omega) (by omega)).trans h2
  · rcases r5 with e | e
    · exact h10 g (by rw [← e]; exact hg) hx
    · rw [e] at hg
      have : (w1.alloc O).heap.size = g := by injection hg
      have := (q2 g hx).2
      omega
  · show w5.os = w.os; exact (g5.os.trans (show (w1.alloc O).os = w1.os from rfl)).trans hm.os
  · show w5.tape = w.tape; exact (g5.tape.trans (show (w1.alloc O).tape = w1.tape from rfl)).trans hm.tape
  · show w5.output = w.output; exact (g5.output.trans (show (w1.alloc O).output = w1.output from rfl)).trans hm.output
  · have hn : ¬ X0 b ∧ b ≠ nb ∧ b ≠ tb ∧ rowOf A ≠ some b := ⟨fun h => hx ((hX b).2 (.inl h)), fun h => hx ((hX b).2 (.inr (.inl h))), fun h => hx ((hX b).2 (.inr (.inr (.inl h)))), fun h => hx ((hX b).2 (.inr (.inr (.inr h))))⟩
    exact (blk2 b (by omega) hn.2.2.2 hn.2.2.1).trans (hm.block b hb hn.1)
  · rcases hb with h | rfl | rfl | h
    · exact (hm.new b h).imp (fun h => (hX b).2 (.inl h)) id
    · exact .inl ((hX b).2 (.inr (.inl rfl)))
    · exact .inl ((hX b).2 (.inr (.inr (.inl rfl))))
    · rcases r5 with e | e
      · exact .inl ((hX b).2 (.inr (.inr (.inr (by rw [← e]; exact h)))))
      · rw [e] at h
        have : (w1.alloc O).heap.size = b := by injection h
        exact .inr (by omega)

set_option maxHeartbeats 1000000 in
set_option maxRecDepth 100000 in
theorem src_rec (S : Src ch k cap B I) (nb tb : Nat) : Src (recC ch) 90 #[.pointer (some ⟨nb, 0, none⟩), .pointer (some ⟨tb, 0, none⟩)] B (IR B k cap I nb tb) := by
  refine ⟨fun s X w w' h hk hs => h.keep S hk hs, fun s X w h => h.lt S, rec_bounded S.bnd, fun args w => ?_, fun s X w m h0 h1 hI hne => ?_⟩
  · rfl
  · obtain ⟨s, r⟩ := s
    obtain ⟨X0, A, c, j1, j2, j3, j4, j5, j6, j7, j8, j9, j10, j11⟩ := hI
    simp only at j1 j3 j4 j5
    have hlr : r.length < 2000000 := by
      by_cases h : r.length < 2000000
      · exact h
      · exact absurd (by simp only [recC]; rw [if_neg h]) hne
    have HRC := Lib.hid (show recC ch (s, r) m = (match ch s m with | .error e => .error e | .ok (x, s') => .ok (x, (s', r ++ [x]))) by simp only [recC]; rw [if_pos hlr]; cases ch s m <;> rfl)
    have hent := S.ent
    have HC := Lib.hid (S.call s X0 w m h0 h1 j1 (fun e => hne (by rw [HRC.out, e])))
    have HJ := Lib.hid (And.intro j2 (And.intro j3 (And.intro j4 (And.intro j8 (And.intro j9 (And.intro j10 j11))))))
    have f0 := j2.cell
    clear j1 j2 j3 j4 j5 j8 j9 j10 j11 hne
    show Calls Tryz.prog 90 #[.int .i64 m, .pointer (some ⟨nb, 0, none⟩), .pointer (some ⟨tb, 0, none⟩)] w _
    go_enter Tryz.func90, Tryz.ntmps90
    go_wp2_with fail
    refine HC.out.mono ?_
    intro e w1 hs
    rcases hs.split with ⟨er, X', hc, rfl, hm1⟩ | ⟨x, s', X', hc, rfl, hi1, hm1⟩
    · refine ⟨rfl, ?_⟩
      show SPost _ (recC ch (s, r) m) _ _ _ _
      rw [HRC.out, hc]
      exact ⟨rfl, _, IR.bad (c := c) (r := r) HJ.out.2.2.2.2.2.2 hm1⟩
    have MD := IR.mid HJ.out.1 HJ.out.2.1 HJ.out.2.2.1 HJ.out.2.2.2.1 HJ.out.2.2.2.2.1 HJ.out.2.2.2.2.2.1 hm1
    have e0 := MD.2.1.cell
    have e1 := MD.2.1.free
    have HMD := Lib.hid MD
    have HN := Lib.hid (And.intro hc (And.intro hi1 hm1))
    clear hs hc hi1 hm1 MD HC f0
    go_wp2_with (first
      | (at_builtin
         refine wpList_append_ints rfl (.tmp 9) (.tmp 11) rfl (tb + 1) c A r (HMD.out.2.2.1.below (bel1 _ _)) (w1.heap.size + 1) (some ⟨w1.heap.size, 0, none⟩) 1 [x] (At.one_new w1 x) rfl rfl (by simp; omega) (by have := HMD.out.2.1.lt; simp; omega) ?_
         intro A' c' w5 zl hz own5 g5 r5
         have NX := IR.next (k := k) (cap := cap) S HMD.out.1 HMD.out.2.1 HMD.out.2.2.1 j6 j7 HMD.out.2.2.2.1 HMD.out.2.2.2.2.1 HMD.out.2.2.2.2.2 HJ.out.2.2.2.2.2.2 HN.out.2.1 HN.out.2.2 g5 own5 r5 (by rw [hz.out]; simp; omega)
         have t0 := NX.1.cell
         have t1 := NX.1.free
         have NX := Lib.hid NX.2
         clear own5 g5 r5))
    go_ret
    show SPost _ (recC ch (s, r) m) _ _ _ _
    rw [HRC.out, HN.out.1]
    show SPost _ (.ok (x, (s', r ++ [x]))) _ _ _ _
    rw [← hz.out]
    exact ⟨rfl, _, NX.out.1, NX.out.2⟩
theorem own_less {w : World} {base base' c : Nat} {A : Option Addr} {z : List Int} (h : Own w base A c z) (hb : base' ≤ base) : Own w base' A c z := by
  refine ⟨h.1, ?_⟩
  rcases h.2 with h0 | ⟨g, cap, cur, he, hb2, hh, h1⟩
  · exact .inl h0
  · exact .inr ⟨g, cap, cur, he, by omega, hh, h1⟩
/-- the boxes at record's start -/
theorem rec_boxes (S : Src ch k cap B I) {s : σ} {X : Nat → Prop} (w : World) (hI : I s X w) (O : Obj) :
    IR B k cap I (w.heap.size + 1) (w.heap.size + 1 + 1) (s, []) (fun b => X b ∨ b = w.heap.size + 1 ∨ b = w.heap.size + 1 + 1 ∨ rowOf none = some b) (((w.alloc O).alloc (.cells #[fv k cap] 112)).alloc (.cells #[.slice none 0 0] 32)) ∧
      Mv X w (((w.alloc O).alloc (.cells #[fv k cap] 112)).alloc (.cells #[.slice none 0 0] 32)) (fun b => X b ∨ b = w.heap.size + 1 ∨ b = w.heap.size + 1 + 1 ∨ rowOf none = some b) ∧
      Below w.heap.size w (((w.alloc O).alloc (.cells #[fv k cap] 112)).alloc (.cells #[.slice none 0 0] 32)) ∧
      (((w.alloc O).alloc (.cells #[fv k cap] 112)).alloc (.cells #[.slice none 0 0] 32)).heap.size = w.heap.size + 3 := by
  obtain ⟨q1, q2⟩ := S.lt s X w hI
  have hb : Below w.heap.size w (((w.alloc O).alloc (.cells #[fv k cap] 112)).alloc (.cells #[.slice none 0 0] 32)) := (((Below.refl _ _).alloc (Nat.le_refl _) _).alloc (by simp) _).alloc (by simp; omega) _
  have hm : Mv X w (((w.alloc O).alloc (.cells #[fv k cap] 112)).alloc (.cells #[.slice none 0 0] 32)) X := Mv.of_below hb
  have z1 : (w.alloc O).heap.size = w.heap.size + 1 := by simp
  have z2 : ((w.alloc O).alloc (.cells #[fv k cap] 112)).heap.size = w.heap.size + 1 + 1 := by simp
  refine ⟨⟨X, none, 0, S.below hI hb, ?_, ?_, Own.none, by simp, by omega, by omega, S.not hI (by omega), S.not hI (by omega), (fun g h => by cases h), fun b => Iff.rfl⟩, ⟨hm.os, hm.tape, hm.output, hm.size, hm.block, fun b h => ?_⟩, hb, by simp⟩
  · have h1 := new_obj (w.alloc O) (.cells #[fv k cap] 112)
    rw [z1] at h1
    exact (Below.heap_alloc _ _ _ (by rw [z2]; omega)).trans h1
  · have h1 := new_obj ((w.alloc O).alloc (.cells #[fv k cap] 112)) (.cells #[.slice none 0 0] 32)
    rw [z2] at h1
    exact h1
  · rcases h with h | h | h | h
    · exact .inl h
    · exact .inr (by omega)
    · exact .inr (by omega)
    · cases h

set_option maxHeartbeats 1000000 in
set_option maxRecDepth 100000 in
/-- the program's record: the choices -/
theorem record_ok (S : Src ch k cap B I) {n : Nat} {g : Gn} {A : Option Addr} {c : Nat} {s s' : σ} {X : Nat → Prop} {w : World} {cs : List Int} {t : Tr} (hg : GAt w (GBel B) n (gv g A c) g) (hr : Right g) (hsz : g.size ≤ 30) (hI : I s X w) (hp : play ch g s = .ok (cs, t, s')) (hln : cs.length ≤ 2000000) :
    Calls Tryz.prog 56 #[gv g A c, fv k cap] w fun e w' => ∃ (A' : Option Addr) (c' : Nat) (X' : Nat → Prop), e = .returned (.slice A' cs.length c') ∧ Own w' w.heap.size A' c' cs ∧ Mv X w w' X' := by
  have hBw := (S.lt s X w hI).1
  have RB := rec_boxes S w hI (.cells #[.int .i64 g.kind, .int .i64 g.a, .int .i64 g.b, .slice A g.subs.length c] 24)
  have RP := rec_play S.bnd hr hp [] (by simpa using hln)
  have HC := value_ok (src_rec S (w.heap.size + 1) (w.heap.size + 1 + 1)) n g (gv g A c) (s, []) _ _ (hg.below (RB.2.2.1.mono hBw)) hr hsz RB.1 (by rw [RP]; intro h; cases h)
  rw [RP] at HC
  have HM := Lib.hid RB.2.1
  have HC := Lib.hid HC
  clear hI hg hr hsz hp RP RB
  go_enter Tryz.func56, Tryz.ntmps56
  go_wp2_with fail
  refine HC.out.mono ?_
  rintro e w1 ⟨A1, c1, X1, rfl, hi, hm, _, _⟩
  obtain ⟨X0, A2, c2, _, _, hl, ho, _⟩ := hi
  simp only [List.nil_append] at hl ho
  have f0 := hl.cell
  have HO := Lib.hid (own_less ho (show w.heap.size ≤ w.heap.size + 1 + 1 + 1 by omega))
  have HMV := Lib.hid (Mv.trans HM.out hm)
  clear hl ho hm HC HM
  go_wp2_with fail
  go_ret
  exact ⟨A2, c2, X1, rfl, HO.out, HMV.out⟩
end
end Go.Proofs.YtabkihellcflhaaGreatDoor.Gens

/- The program's Mend. Conditions: the sizes. -/
namespace Go.Proofs.YtabkihellcflhaaGreatDoor.Gens
open Go.RowKit Lists Ints Vals
set_option linter.unusedVariables false

/-- what Mend tells -/
def mendL (t : Gn) (l : List Int) : List Int := if genV t = 0 then (match play mendC t l with | .ok (c, _, _) => c | .error _ => []) else []
theorem mendL_of {t : Gn} {l c r : List Int} {v : Tr} (h0 : genV t = 0) (h : play mendC t l = .ok (c, v, r)) : mendL t l = c := by
  unfold mendL; rw [if_pos h0, h]
theorem mend_run {t : Gn} (l : List Int) (h0 : genV t = 0) : ∃ v r, play mendC t l = .ok (mendL t l, v, r) ∧ (mendL t l).length ≤ 1399680 := by
  obtain ⟨hr, hl⟩ := gen_right h0
  obtain ⟨c, v, r, h⟩ := mend_ex hr l
  refine ⟨v, r, ?_, ?_⟩
  · rw [mendL_of h0 h, h]
  · rw [mendL_of h0 h]
    exact Nat.le_trans (play_long mend_bounded t hr l c v r h) (small_long hl)
theorem small30 {t : Gn} (h0 : genV t = 0) : t.size ≤ 30 := small_size (gen_right h0).2

set_option maxHeartbeats 2000000 in
set_option maxRecDepth 100000 in
theorem mend_prog {n : Nat} {t : Gn} {v : Value} {L : Option Addr} {l : List Int} {lc : Nat} (w : World) (h : GAt w (GBel w.heap.size) n v t) (hat : At w w.heap.size L l) (hcap : l.length ≤ lc) (hl : l.length ≤ 4294967296) (hsz : t.size ≤ 4294967296) :
    Calls Tryz.prog 72 #[v, .slice L l.length lc] w fun e w' => ∃ (A' : Option Addr) (c' : Nat), e = .returned (.tuple #[.slice A' (mendL t l).length c', errOf (genV t)]) ∧ Own w' w.heap.size A' c' (mendL t l) ∧ Below w.heap.size w w' := by
  obtain ⟨m, A, c, e, hw, rfl, _⟩ := h.open_
  have b1 : Below w.heap.size w ((w.alloc (gc t A c)).alloc (.cells #[.slice L l.length lc] 32)) := ((Below.refl _ _).alloc (Nat.le_refl _) _).alloc (by simp) _
  have s1 : (w.alloc (gc t A c)).heap.size = w.heap.size + 1 := by simp
  have g1 : G4 w.heap.size (.int .i64 t.kind) (.int .i64 t.a) (.int .i64 t.b) (.slice A t.subs.length c) ((w.alloc (gc t A c)).alloc (.cells #[.slice L l.length lc] 32)) := (Below.heap_alloc _ _ _ (by omega)).trans (new_obj w _)
  have l1 : LB (w.heap.size + 1) L l.length lc ((w.alloc (gc t A c)).alloc (.cells #[.slice L l.length lc] 32)) := by
    have := new_obj (w.alloc (gc t A c)) (.cells #[.slice L l.length lc] 32)
    rw [s1] at this; exact this
  have z1 : ((w.alloc (gc t A c)).alloc (.cells #[.slice L l.length lc] 32)).heap.size = w.heap.size + 2 := by simp
  have C1 := gcheck _ (h.below b1) (by simp; omega) hsz
  have HB := Lib.hid (And.intro b1 (And.intro g1 (And.intro l1 z1)))
  have HT := Lib.hid (And.intro h (And.intro hat (And.intro hcap hl)))
  clear h hat hcap hl hsz e hw b1 s1 g1 l1 z1
  by_cases hz : genV t = 0
  · obtain ⟨v', r, hp, hlen⟩ := mend_run l hz
    have HR := Lib.hid (And.intro (gen_right hz).1 (And.intro (small30 hz) (And.intro hp hlen)))
    rw [hz, errOf_ok] at C1 ⊢
    have C1 := Lib.hid C1
    clear hz hp hlen
    generalize mendL t l = cs at HR ⊢
    go_enter Tryz.func72, Tryz.ntmps72
    go_wp2_with fail
    generalize (w.alloc (gc t A c)).alloc (.cells #[.slice L l.length lc] 32) = W1 at *
    refine C1.out.mono ?_
    rintro e w2 ⟨rfl, hb2⟩
    have B2 := Lib.hid (HB.out.1.trans (hb2.mono HB.out.1.size))
    obtain ⟨k0, k1, k2, k3⟩ := (HB.out.2.1.below hb2).facts
    have IS := Lib.hid (show IL w.heap.size (w.heap.size + 1) l (fun b => b = w.heap.size + 1) w2 from ⟨fun b => Iff.rfl, by omega, HT.out.2.2.2, B2.out.size, L, lc, (hb2.block _ HB.out.2.2.1.lt).trans HB.out.2.2.1, HT.out.2.1.below B2.out, HT.out.2.2.1⟩)
    have RC := record_ok (src_mend w.heap.size (w.heap.size + 1)) (HT.out.1.below B2.out) HR.out.1 HR.out.2.1 IS.out HR.out.2.2.1 (by have := HR.out.2.2.2; omega)
    have RC := Lib.hid RC
    clear hb2 C1
    go_wp2_with fail
    refine RC.out.mono ?_
    rintro e w3 ⟨A', c', X', rfl, hown, hmv⟩
    have HO := Lib.hid (own_less hown B2.out.size)
    have B3 := Lib.hid (B2.out.trans (Mv.below hmv (fun b hb => by show w.heap.size ≤ b; have : b = w.heap.size + 1 := hb; omega) B2.out.size))
    clear hown hmv RC
    go_wp2_with fail
    go_ret2
    exact ⟨A', c', rfl, HO.out, B3.out⟩
  · have RE := Lib.hid (errOf_no hz)
    have HL := Lib.hid (show mendL t l = [] by unfold mendL; rw [if_neg hz])
    rw [errOf_no hz] at C1
    generalize genV t = q at C1 RE
    have C1 := Lib.hid C1
    clear hz
    go_enter Tryz.func72, Tryz.ntmps72
    go_wp2_with fail
    generalize (w.alloc (gc t A c)).alloc (.cells #[.slice L l.length lc] 32) = W1 at *
    refine C1.out.mono ?_
    rintro e w2 ⟨rfl, hb2⟩
    have B2 := Lib.hid (HB.out.1.trans (hb2.mono HB.out.1.size))
    clear hb2
    go_wp2_with fail
    go_ret2
    exact ⟨none, 0, by rw [HL.out, RE.out]; rfl, by rw [HL.out]; exact Own.none, B2.out⟩
end Go.Proofs.YtabkihellcflhaaGreatDoor.Gens
