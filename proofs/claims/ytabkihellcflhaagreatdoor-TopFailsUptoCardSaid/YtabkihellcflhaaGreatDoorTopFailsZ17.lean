/- TopFails, part 17 of the proof: The program's record: a source that notes what another one tells. Conditions: none but the source's. -/
import Derived.Test.YtabkihellcflhaaGreatDoorTopFailsZ15
import Derived.Test.YtabkihellcflhaaGreatDoorTopFailsZ16
/- The program's record: a source that notes what another one tells. Conditions: none but the source's. -/
namespace Go.Proofs.YtabkihellcflhaaGreatDoor.Gens
open Go.RowKit Lists Ints Vals
set_option linter.unusedVariables false

section
variable {σ : Type} {ch : σ → Int → Except Int (Int × σ)} {k : Nat} {cap : Array Value} {B : Nat} {I : σ → (Nat → Prop) → World → Prop}
/-- the box of a source -/
def FB (p k : Nat) (cap : Array Value) (w : World) : Prop := w.heap[p]? = some (.cells #[fv k cap] 112 (0, 0))
theorem FB.cell {p k : Nat} {cap : Array Value} {w : World} (h : FB p k cap w) : w.cell? ⟨p, 0, none⟩ = some (fv k cap) := by rw [Lib.cell_of_heap h]; rfl
theorem FB.lt {p k : Nat} {cap : Array Value} {w : World} (h : FB p k cap w) : p < w.heap.size := (Array.getElem?_eq_some_iff.1 h).1
/-- the state of a source that notes: the inner one's, the box that holds it, the box of what is noted, its row -/
def IR (B k : Nat) (cap : Array Value) (I : σ → (Nat → Prop) → World → Prop) (nb tb : Nat) (s : σ × List Int) (X : Nat → Prop) (w : World) : Prop :=
  ∃ (X0 : Nat → Prop) (A : Option Addr) (c : Nat), I s.1 X0 w ∧ FB nb k cap w ∧ LB tb A s.2.length c w ∧ Own w (tb + 1) A c s.2 ∧ s.2.length ≤ 4294967296 ∧ nb < tb ∧ B ≤ nb ∧ ¬ X0 nb ∧ ¬ X0 tb ∧ (∀ g, rowOf A = some g → ¬ X0 g) ∧ ∀ b, X b ↔ (X0 b ∨ b = nb ∨ b = tb ∨ rowOf A = some b)
theorem own_row_lt {w : World} {base c : Nat} {A : Option Addr} {z : List Int} (h : Own w base A c z) {g : Nat} (hg : rowOf A = some g) : g < w.heap.size := by
  rcases h.2 with ⟨he, _⟩ | ⟨g', cap, cur, he, _, hh, _⟩
  · injection he with he; subst he; cases hg
  · injection he with he; subst he
    have : g' = g := by simpa [rowOf] using hg
    subst this
    exact (Array.getElem?_eq_some_iff.1 hh).1
theorem own_kept {w w' : World} {base c : Nat} {A : Option Addr} {z : List Int} (h : Own w base A c z) (hk : ∀ g, rowOf A = some g → w'.heap[g]? = w.heap[g]?) : Own w' base A c z := by
  refine ⟨h.1, ?_⟩
  rcases h.2 with h0 | ⟨g, cap, cur, he, hb, hh, h1⟩
  · exact .inl h0
  · refine .inr ⟨g, cap, cur, he, hb, ?_, h1⟩
    injection he with he; subst he
    rw [hk g rfl]; exact hh
theorem IR.keep (S : Src ch k cap B I) {nb tb : Nat} {s : σ × List Int} {X : Nat → Prop} {w w' : World} (h : IR B k cap I nb tb s X w) (hk : ∀ b, b < B ∨ X b → w'.heap[b]? = w.heap[b]?) (hs : w.heap.size ≤ w'.heap.size) : IR B k cap I nb tb s X w' := by
  obtain ⟨X0, A, c, h1, h2, h3, h4, h5, h6, h7, h8, h9, h10, h11⟩ := h
  exact ⟨X0, A, c, S.keep s.1 X0 w w' h1 (fun b hb => hk b (hb.elim .inl (fun h => .inr ((h11 b).2 (.inl h))))) hs, (hk nb (.inr ((h11 nb).2 (.inr (.inl rfl))))).trans h2, (hk tb (.inr ((h11 tb).2 (.inr (.inr (.inl rfl)))))).trans h3,
    own_kept h4 (fun g hg => hk g (.inr ((h11 g).2 (.inr (.inr (.inr hg)))))), h5, h6, h7, h8, h9, h10, h11⟩
theorem IR.lt (S : Src ch k cap B I) {nb tb : Nat} {s : σ × List Int} {X : Nat → Prop} {w : World} (h : IR B k cap I nb tb s X w) : B ≤ w.heap.size ∧ ∀ b, X b → B ≤ b ∧ b < w.heap.size := by
  obtain ⟨X0, A, c, h1, h2, h3, h4, h5, h6, h7, h8, h9, h10, h11⟩ := h
  obtain ⟨q1, q2⟩ := S.lt s.1 X0 w h1
  refine ⟨q1, fun b hb => ?_⟩
  rcases (h11 b).1 hb with h | rfl | rfl | h
  · exact q2 b h
  · exact ⟨h7, h2.lt⟩
  · exact ⟨by omega, h3.lt⟩
  · exact ⟨by have := h4.ge b h; omega, own_row_lt h4 h⟩
/-- behind the inner call: memory as the notes want it -/
theorem IR.mid {nb tb c : Nat} {r : List Int} {X0 X' : Nat → Prop} {A : Option Addr} {w w1 : World} (h2 : FB nb k cap w) (h3 : LB tb A r.length c w) (h4 : Own w (tb + 1) A c r) (h8 : ¬ X0 nb) (h9 : ¬ X0 tb) (h10 : ∀ g, rowOf A = some g → ¬ X0 g) (hm : Mv X0 w w1 X') :
    FB nb k cap w1 ∧ LB tb A r.length c w1 ∧ Own w1 (tb + 1) A c r ∧ ¬ X' nb ∧ ¬ X' tb ∧ ∀ g, rowOf A = some g → ¬ X' g :=
  ⟨(hm.block nb h2.lt h8).trans h2, (hm.block tb h3.lt h9).trans h3, own_kept h4 (fun g hg => hm.block g (own_row_lt h4 hg) (h10 g hg)), Mv.not hm h2.lt h8, Mv.not hm h3.lt h9, fun g hg => Mv.not hm (own_row_lt h4 hg) (h10 g hg)⟩

theorem At.one_new (w : World) (x : Int) : At (w.alloc (.cells #[.int .i64 x] 3)) (w.heap.size + 1) (some ⟨w.heap.size, 0, none⟩) [x] := fun hp => by
  refine ⟨w.heap.size, 0, rfl, by omega, fun j hj => ?_⟩
  have hj : j = 0 := by simpa using hj
  subst hj
  rw [Lib.cell_of_heap (new_obj w _)]; rfl
theorem IR.bad {nb tb c : Nat} {r : List Int} {X X0 X' : Nat → Prop} {A : Option Addr} {w w1 : World} (hX : ∀ b, X b ↔ (X0 b ∨ b = nb ∨ b = tb ∨ rowOf A = some b)) (hm : Mv X0 w w1 X') : Mv X w w1 (fun _ => False) :=
  ⟨hm.os, hm.tape, hm.output, hm.size, fun b hb hx => hm.block b hb (fun h => hx ((hX b).2 (.inl h))), fun b h => h.elim⟩
/-- one number more is noted -/
theorem IR.next (S : Src ch k cap B I) {nb tb c c' : Nat} {s' : σ} {r zl : List Int} {X X0 X' : Nat → Prop} {A A' : Option Addr} {w w1 w5 : World} {O : Obj} (h2 : FB nb k cap w1) (h3 : LB tb A r.length c w1) (h4 : Own w1 (tb + 1) A c r) (h6 : nb < tb) (h7 : B ≤ nb) (h8 : ¬ X' nb) (h9 : ¬ X' tb) (h10 : ∀ g, rowOf A = some g → ¬ X' g)
    (hX : ∀ b, X b ↔ (X0 b ∨ b = nb ∨ b = tb ∨ rowOf A = some b)) (hi : I s' X' w1) (hm : Mv X0 w w1 X') (g5 : (w1.alloc O).grownBy w5 (rowOf A)) (own5 : Own w5 (tb + 1) A' c' zl) (r5 : rowOf A' = rowOf A ∨ rowOf A' = some (w1.alloc O).heap.size) (hl : zl.length ≤ 4294967296) :
    LB tb A r.length c w5 ∧ IR B k cap I nb tb (s', zl) (fun b => X' b ∨ b = nb ∨ b = tb ∨ rowOf A' = some b) (w5.setCell ⟨tb, 0, none⟩ (.slice A' zl.length c')) ∧
      Mv X w (w5.setCell ⟨tb, 0, none⟩ (.slice A' zl.length c')) (fun b => X' b ∨ b = nb ∨ b = tb ∨ rowOf A' = some b) := by
  have hsz : (w1.alloc O).heap.size = w1.heap.size + 1 := by simp
  have s5 := g5.size
  have hr : ∀ g, rowOf A = some g → tb + 1 ≤ g := h4.ge
  have blk : ∀ b, b < w1.heap.size → rowOf A ≠ some b → w5.heap[b]? = w1.heap[b]? := fun b hb hn => (g5.block b (by omega) (fun e => hn e.symm)).trans (Below.heap_alloc _ _ _ hb)
  have blk2 : ∀ b, b < w1.heap.size → rowOf A ≠ some b → b ≠ tb → (w5.setCell ⟨tb, 0, none⟩ (.slice A' zl.length c')).heap[b]? = w1.heap[b]? := fun b hb hn ht => (Below.heap_setCell _ _ _ _ ht).trans (blk b hb hn)
  have ht5 : LB tb A r.length c w5 := (blk tb h3.lt (fun e => by have := hr tb e; omega)).trans h3
  obtain ⟨q1, q2⟩ := S.lt s' X' w1 hi
  have hmx := hm.size
  have hnew : ∀ g, rowOf A' = some g → tb + 1 ≤ g := own5.ge
  refine ⟨ht5, ⟨X', A', c', S.keep s' X' w1 _ hi (fun b hb => ?_) (by simp [World.setCell]; omega), ?_, ht5.put A' zl.length c', own_kept own5 (fun g hg => Below.heap_setCell _ _ _ _ (by show g ≠ tb; have := hnew g hg; omega)), hl, h6, h7, h8, h9, fun g hg hx => ?_, fun b => Iff.rfl⟩, ⟨?_, ?_, ?_, by simp [World.setCell]; omega, fun b hb hx => ?_, fun b hb => ?_⟩⟩
  · rcases hb with hb | hb
    · exact blk2 b (by omega) (fun e => by have := hr b e; omega) (by omega)
    · exact blk2 b (q2 b hb).2 (fun e => h10 b e hb) (fun e => h9 (e ▸ hb))
  · exact (blk2 nb h2.lt (fun e => by have := hr nb e; omega) (by omega)).trans h2
  · rcases r5 with e | e
    · exact h10 g (by rw [← e]; exact hg) hx
    · rw [e] at hg
      have : (w1.alloc O).heap.size = g := by injection hg
      have := (q2 g hx).2
      omega
  · show w5.os = w.os; exact (g5.os.trans (show (w1.alloc O).os = w1.os from rfl)).trans hm.os
  · show w5.tape = w.tape; exact (g5.tape.trans (show (w1.alloc O).tape = w1.tape from rfl)).trans hm.tape
  · show w5.output = w.output; exact (g5.output.trans (show (w1.alloc O).output = w1.output from rfl)).trans hm.output
  · have hn : ¬ X0 b ∧ b ≠ nb ∧ b ≠ tb ∧ rowOf A ≠ some b := ⟨fun h => hx ((hX b).2 (.inl h)), fun h => hx ((hX b).2 (.inr (.inl h))), fun h => hx ((hX b).2 (.inr (.inr (.inl h)))), fun h => hx ((hX b).2 (.inr (.inr (.inr h))))⟩
    exact (blk2 b (by omega) hn.2.2.2 hn.2.2.1).trans (hm.block b hb hn.1)
  · rcases hb with h | rfl | rfl | h
    · exact (hm.new b h).imp (fun h => (hX b).2 (.inl h)) id
    · exact .inl ((hX b).2 (.inr (.inl rfl)))
    · exact .inl ((hX b).2 (.inr (.inr (.inl rfl))))
    · rcases r5 with e | e
      · exact .inl ((hX b).2 (.inr (.inr (.inr (by rw [← e]; exact h)))))
      · rw [e] at h
        have : (w1.alloc O).heap.size = b := by injection h
        exact .inr (by omega)

set_option maxHeartbeats 1000000 in
set_option maxRecDepth 100000 in
theorem src_rec (S : Src ch k cap B I) (nb tb : Nat) : Src (recC ch) 90 #[.pointer (some ⟨nb, 0, none⟩), .pointer (some ⟨tb, 0, none⟩)] B (IR B k cap I nb tb) := by
  refine ⟨fun s X w w' h hk hs => h.keep S hk hs, fun s X w h => h.lt S, rec_bounded S.bnd, fun args w => ?_, fun s X w m h0 h1 hI hne => ?_⟩
  · rfl
  · obtain ⟨s, r⟩ := s
    obtain ⟨X0, A, c, j1, j2, j3, j4, j5, j6, j7, j8, j9, j10, j11⟩ := hI
    simp only at j1 j3 j4 j5
    have hlr : r.length < 2000000 := by
      by_cases h : r.length < 2000000
      · exact h
      · exact absurd (by simp only [recC]; rw [if_neg h]) hne
    have HRC := Lib.hid (show recC ch (s, r) m = (match ch s m with | .error e => .error e | .ok (x, s') => .ok (x, (s', r ++ [x]))) by simp only [recC]; rw [if_pos hlr]; cases ch s m <;> rfl)
    have hent := S.ent
    have HC := Lib.hid (S.call s X0 w m h0 h1 j1 (fun e => hne (by rw [HRC.out, e])))
    have HJ := Lib.hid (And.intro j2 (And.intro j3 (And.intro j4 (And.intro j8 (And.intro j9 (And.intro j10 j11))))))
    have f0 := j2.cell
    clear j1 j2 j3 j4 j5 j8 j9 j10 j11 hne
    show Calls Tryz.prog 90 #[.int .i64 m, .pointer (some ⟨nb, 0, none⟩), .pointer (some ⟨tb, 0, none⟩)] w _
    go_enter Tryz.func90, Tryz.ntmps90
    go_wp2_with fail
    refine HC.out.mono ?_
    intro e w1 hs
    rcases hs.split with ⟨er, X', hc, rfl, hm1⟩ | ⟨x, s', X', hc, rfl, hi1, hm1⟩
    · refine ⟨rfl, ?_⟩
      show SPost _ (recC ch (s, r) m) _ _ _ _
      rw [HRC.out, hc]
      exact ⟨rfl, _, IR.bad (c := c) (r := r) HJ.out.2.2.2.2.2.2 hm1⟩
    have MD := IR.mid HJ.out.1 HJ.out.2.1 HJ.out.2.2.1 HJ.out.2.2.2.1 HJ.out.2.2.2.2.1 HJ.out.2.2.2.2.2.1 hm1
    have e0 := MD.2.1.cell
    have e1 := MD.2.1.free
    have HMD := Lib.hid MD
    have HN := Lib.hid (And.intro hc (And.intro hi1 hm1))
    clear hs hc hi1 hm1 MD HC f0
    go_wp2_with (first
      | (at_builtin
         refine wpList_append_ints rfl (.tmp 9) (.tmp 11) rfl (tb + 1) c A r (HMD.out.2.2.1.below (bel1 _ _)) (w1.heap.size + 1) (some ⟨w1.heap.size, 0, none⟩) 1 [x] (At.one_new w1 x) rfl rfl (by simp; omega) (by have := HMD.out.2.1.lt; simp; omega) ?_
         intro A' c' w5 zl hz own5 g5 r5
         have NX := IR.next (k := k) (cap := cap) S HMD.out.1 HMD.out.2.1 HMD.out.2.2.1 j6 j7 HMD.out.2.2.2.1 HMD.out.2.2.2.2.1 HMD.out.2.2.2.2.2 HJ.out.2.2.2.2.2.2 HN.out.2.1 HN.out.2.2 g5 own5 r5 (by rw [hz.out]; simp; omega)
         have t0 := NX.1.cell
         have t1 := NX.1.free
         have NX := Lib.hid NX.2
         clear own5 g5 r5))
    go_ret
    show SPost _ (recC ch (s, r) m) _ _ _ _
    rw [HRC.out, HN.out.1]
    show SPost _ (.ok (x, (s', r ++ [x]))) _ _ _ _
    rw [← hz.out]
    exact ⟨rfl, _, NX.out.1, NX.out.2⟩
theorem own_less {w : World} {base base' c : Nat} {A : Option Addr} {z : List Int} (h : Own w base A c z) (hb : base' ≤ base) : Own w base' A c z := by
  refine ⟨h.1, ?_⟩
  rcases h.2 with h0 | ⟨g, cap, cur, he, hb2, hh, h1⟩
  · exact .inl h0
  · exact .inr ⟨g, cap, cur, he, by omega, hh, h1⟩
/-- the boxes at record's start -/
theorem rec_boxes (S : Src ch k cap B I) {s : σ} {X : Nat → Prop} (w : World) (hI : I s X w) (O : Obj) :
    IR B k cap I (w.heap.size + 1) (w.heap.size + 1 + 1) (s, []) (fun b => X b ∨ b = w.heap.size + 1 ∨ b = w.heap.size + 1 + 1 ∨ rowOf none = some b) (((w.alloc O).alloc (.cells #[fv k cap] 112)).alloc (.cells #[.slice none 0 0] 32)) ∧
      Mv X w (((w.alloc O).alloc (.cells #[fv k cap] 112)).alloc (.cells #[.slice none 0 0] 32)) (fun b => X b ∨ b = w.heap.size + 1 ∨ b = w.heap.size + 1 + 1 ∨ rowOf none = some b) ∧
      Below w.heap.size w (((w.alloc O).alloc (.cells #[fv k cap] 112)).alloc (.cells #[.slice none 0 0] 32)) ∧
      (((w.alloc O).alloc (.cells #[fv k cap] 112)).alloc (.cells #[.slice none 0 0] 32)).heap.size = w.heap.size + 3 := by
  obtain ⟨q1, q2⟩ := S.lt s X w hI
  have hb : Below w.heap.size w (((w.alloc O).alloc (.cells #[fv k cap] 112)).alloc (.cells #[.slice none 0 0] 32)) := (((Below.refl _ _).alloc (Nat.le_refl _) _).alloc (by simp) _).alloc (by simp; omega) _
  have hm : Mv X w (((w.alloc O).alloc (.cells #[fv k cap] 112)).alloc (.cells #[.slice none 0 0] 32)) X := Mv.of_below hb
  have z1 : (w.alloc O).heap.size = w.heap.size + 1 := by simp
  have z2 : ((w.alloc O).alloc (.cells #[fv k cap] 112)).heap.size = w.heap.size + 1 + 1 := by simp
  refine ⟨⟨X, none, 0, S.below hI hb, ?_, ?_, Own.none, by simp, by omega, by omega, S.not hI (by omega), S.not hI (by omega), (fun g h => by cases h), fun b => Iff.rfl⟩, ⟨hm.os, hm.tape, hm.output, hm.size, hm.block, fun b h => ?_⟩, hb, by simp⟩
  · have h1 := new_obj (w.alloc O) (.cells #[fv k cap] 112)
    rw [z1] at h1
    exact (Below.heap_alloc _ _ _ (by rw [z2]; omega)).trans h1
  · have h1 := new_obj ((w.alloc O).alloc (.cells #[fv k cap] 112)) (.cells #[.slice none 0 0] 32)
    rw [z2] at h1
    exact h1
  · rcases h with h | h | h | h
    · exact .inl h
    · exact .inr (by omega)
    · exact .inr (by omega)
    · cases h

set_option maxHeartbeats 1000000 in
set_option maxRecDepth 100000 in
/-- the program's record: the choices -/
theorem record_ok (S : Src ch k cap B I) {n : Nat} {g : Gn} {A : Option Addr} {c : Nat} {s s' : σ} {X : Nat → Prop} {w : World} {cs : List Int} {t : Tr} (hg : GAt w (GBel B) n (gv g A c) g) (hr : Right g) (hsz : g.size ≤ 30) (hI : I s X w) (hp : play ch g s = .ok (cs, t, s')) (hln : cs.length ≤ 2000000) :
    Calls Tryz.prog 56 #[gv g A c, fv k cap] w fun e w' => ∃ (A' : Option Addr) (c' : Nat) (X' : Nat → Prop), e = .returned (.slice A' cs.length c') ∧ Own w' w.heap.size A' c' cs ∧ Mv X w w' X' := by
  have hBw := (S.lt s X w hI).1
  have RB := rec_boxes S w hI (.cells #[.int .i64 g.kind, .int .i64 g.a, .int .i64 g.b, .slice A g.subs.length c] 24)
  have RP := rec_play S.bnd hr hp [] (by simpa using hln)
  have HC := value_ok (src_rec S (w.heap.size + 1) (w.heap.size + 1 + 1)) n g (gv g A c) (s, []) _ _ (hg.below (RB.2.2.1.mono hBw)) hr hsz RB.1 (by rw [RP]; intro h; cases h)
  rw [RP] at HC
  have HM := Lib.hid RB.2.1
  have HC := Lib.hid HC
  clear hI hg hr hsz hp RP RB
  go_enter Tryz.func56, Tryz.ntmps56
  go_wp2_with fail
  refine HC.out.mono ?_
  rintro e w1 ⟨A1, c1, X1, rfl, hi, hm, _, _⟩
  obtain ⟨X0, A2, c2, _, _, hl, ho, _⟩ := hi
  simp only [List.nil_append] at hl ho
  have f0 := hl.cell
  have HO := Lib.hid (own_less ho (show w.heap.size ≤ w.heap.size + 1 + 1 + 1 by omega))
  have HMV := Lib.hid (Mv.trans HM.out hm)
  clear hl ho hm HC HM
  go_wp2_with fail
  go_ret
  exact ⟨A2, c2, X1, rfl, HO.out, HMV.out⟩
end
end Go.Proofs.YtabkihellcflhaaGreatDoor.Gens
