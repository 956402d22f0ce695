/- Contract of val.Parse. Conditions: the size; the library's variables. -/
import Derived.Test.YtgeljcfokeiaeaaDoorReadL
namespace Go.Proofs.YtgeljcfokeiaeaaDoor.Vals
open Go.RowKit Go.ChangeShapes Lists Ints Build Ref
open Go.Lib (itoa)
set_option linter.unusedVariables false

/-- what a reading of a text answers: 'no' is its second result where there is no value, 'yes' where there is one -/
def ParseEnds (yes no : Value) (s : ByteArray) (w : World) (e : Ending) (w' : World) : Prop :=
  (∃ (t : Tr) (A : Option Addr) (c : Nat), Good 6 t ∧ s.data.toList = textV t ∧ e = .returned (.tuple #[.agg #[.bool t.list, .int .i64 t.num, .slice A t.items.length c], yes]) ∧
    TAt w' (New w w') 6 (.agg #[.bool t.list, .int .i64 t.num, .slice A t.items.length c]) t ∧ Below w.heap.size w w') ∨
  ((∀ t, Good 6 t → s.data.toList ≠ textV t) ∧ e = .returned (.tuple #[zeroV, no]) ∧ Below w.heap.size w w')

theorem below_gr {rb : Nat} {w w0 w' : World} (h0 : Below w.heap.size w w0) (hg : Gr rb w0 w') (hr : w.heap.size ≤ rb) : Below w.heap.size w w' :=
  h0.trans ⟨hg.os, hg.tape, hg.output, hg.size, fun i hi => hg.block i (Nat.lt_of_lt_of_le hi h0.size) (by simp; omega)⟩
theorem fits_nil (t : Tr) : Fits t [] := fun _ => .inl rfl
theorem below_set {w w' : World} (h : Below w.heap.size w w') {b : Nat} (hb : w.heap.size ≤ b) (o : Nat) (v : Value) : Below w.heap.size w (w'.setCell ⟨b, o, none⟩ v) := h.setCell (p := ⟨b, o, none⟩) hb v

/-- Parse: beside what it answers, the row that it hands back is not frozen -/
def ParseNF (s : ByteArray) (w : World) (e : Ending) (w' : World) : Prop :=
  (∃ (t : Tr) (A : Option Addr) (c : Nat), Good 6 t ∧ s.data.toList = textV t ∧ e = .returned (.tuple #[.agg #[.bool t.list, .int .i64 t.num, .slice A t.items.length c], .nilIface]) ∧
    TAt w' (New w w') 6 (.agg #[.bool t.list, .int .i64 t.num, .slice A t.items.length c]) t ∧ Below w.heap.size w w' ∧ NF A w') ∨
  ((∀ t, Good 6 t → s.data.toList ≠ textV t) ∧ e = .returned (.tuple #[zeroV, .iface 26 (.int .i64 3)]) ∧ Below w.heap.size w w')

set_option maxHeartbeats 4000000 in
set_option maxRecDepth 100000 in
theorem parse_nf (s : ByteArray) (hs : s.size ≤ 1073741824) (w : World) (ht : Tab w) (he : Errs w) :
    Calls Tryd.prog 13 #[.string s] w (ParseNF s w) := by
  have b0 : Below w.heap.size w ((w.alloc (.cells #[.bool false, .int .i64 0, .slice none 0 0] 24)).alloc (.cells #[.string s, .int .i64 0, .int .i64 0] 49)) := ((Below.refl _ _).alloc (Nat.le_refl _) _).alloc (by simp) _
  have B0 := Lib.hid b0
  have X0 : B3 w.heap.size (.bool false) (.int .i64 0) (.slice none 0 0) ((w.alloc (.cells #[.bool false, .int .i64 0, .slice none 0 0] 24)).alloc (.cells #[.string s, .int .i64 0, .int .i64 0] 49)) := (B3.new w _ _ _).below ((Below.refl _ _).alloc (Nat.le_refl _) _)
  have R0 : RD (w.heap.size + 1) s 0 0 ((w.alloc (.cells #[.bool false, .int .i64 0, .slice none 0 0] 24)).alloc (.cells #[.string s, .int .i64 0, .int .i64 0] 49)) := by
    have := heap_new (w.alloc (.cells #[.bool false, .int .i64 0, .slice none 0 0] 24)) (.cells #[.string s, .int .i64 0, .int .i64 0] 49 (0, 0))
    simpa [RD] using this
  have L0 : LibOK (w.heap.size + 1) ((w.alloc (.cells #[.bool false, .int .i64 0, .slice none 0 0] 24)).alloc (.cells #[.string s, .int .i64 0, .int .i64 0] 49)) := by
    have t1 := ht
    obtain ⟨⟨t2, p2, e2⟩, t3, p3, e3⟩ := id he
    exact ⟨ht.below b0, he.below b0, by have := Tab.lt t1; omega, by have := var_block gSyn e2; omega, by have := var_block gRng e3; omega⟩
  have V0 := Lib.hid (val_ok 6 (w.heap.size + 1) s 0 0 _ rfl hs (Nat.zero_le _) R0 L0)
  have XX := Lib.hid X0
  clear b0 X0 R0 L0 ht he
  go_enter Tryd.func13, Tryd.ntmps13
  go_wp2_with fail
  refine V0.out.mono ?_
  rintro e w2 (⟨t, q, A, c, hgd, hq, htx, hfw, rfl, hta, hr2, hg2, hnf⟩ | ⟨hno, rfl, ⟨q, hq, hr2⟩, hg2⟩)
  · have b2 : Below w2.heap.size w2 (w2.alloc (.cells #[.bool t.list, .int .i64 t.num, .slice A t.items.length c] 24)) := (Below.refl _ _).alloc (Nat.le_refl _) _
    have r3 := hr2.below b2
    have x3 := (XX.out.gr hg2 (by simp)).below b2
    have v3 := B3.new w2 (.bool t.list) (.int .i64 t.num) (.slice A t.items.length c)
    have BL := below_gr B0.out hg2 (by omega)
    have B3' := Lib.hid (BL.trans (b2.mono BL.size))
    have GD := Lib.hid hgd
    have TX := Lib.hid htx
    have FW := Lib.hid hfw
    have TA := Lib.hid hta
    have NFI := Lib.hid (hnf.below b2)
    have B2 := Lib.hid b2
    have c1 := r3.c1
    obtain ⟨z0, z1, z2, y0, y1, y2⟩ := x3.facts
    obtain ⟨v0, v1, v2, _, _, _⟩ := v3.facts
    have hz2 := hg2.size
    simp only [World.size_alloc] at hz2
    have HZ2 := Lib.hid hz2
    clear hgd htx hfw hta hnf hr2 hg2 b2 r3 x3 v3 BL V0 XX B0 hz2
    by_cases hlt : q < s.size
    · have g1 : decide ((q : Int) < (s.size : Int)) = true := by rw [decide_eq_true_eq]; omega
      have g2 : decide (q < s.size) = true := by rw [decide_eq_true_eq]; omega
      have NO := Lib.hid (show ∀ u, Good 6 u → s.data.toList ≠ textV u by
        intro u hu e
        have h1 : textV t ++ s.data.toList.drop q = textV u ++ [] := by rw [List.append_nil, ← e]; exact TX.out.symm
        have h2 := (text_uniq 6 t u _ _ GD.out.1 hu.1 FW.out (fits_nil u).w h1).2
        have h3 := congrArg List.length h2
        rw [List.length_drop, ← size_toList, List.length_nil] at h3
        omega)
      clear hlt
      go_wp2_with fail
      refine bodyPost_ret (v := .tuple #[zeroV, .iface 26 (.int .i64 3)]) (by simp [results, Tryd.results13, go_sem, z0, z1, z2]) rfl ?_
      exact .inr ⟨NO.out, rfl, below_set (below_set (below_set B3'.out (Nat.le_refl _) _ _) (Nat.le_refl _) _ _) (Nat.le_refl _) _ _⟩
    · have g1 : decide ((q : Int) < (s.size : Int)) = false := by rw [decide_eq_false_iff_not]; omega
      have g2 : decide (q < s.size) = false := by rw [decide_eq_false_iff_not]; omega
      have YE := Lib.hid (show s.data.toList = textV t by
        have := TX.out
        rw [drop_end s q (by omega), List.append_nil, List.drop_zero] at this
        exact this)
      clear hlt
      go_wp2_with fail
      refine bodyPost_ret (v := .tuple #[.agg #[.bool t.list, .int .i64 t.num, .slice A t.items.length c], .nilIface]) (by simp [results, Tryd.results13, go_sem, z0, z1, z2]) rfl ?_
      have HK : ∀ b, w.heap.size + 1 + 1 ≤ b → b < w2.heap.size → ∀ x0 x1 x2, ((((w2.alloc (.cells #[.bool t.list, .int .i64 t.num, .slice A t.items.length c] 24)).setCell ⟨w.heap.size, 0, none⟩ x0).setCell ⟨w.heap.size, 1, none⟩ x1).setCell ⟨w.heap.size, 2, none⟩ x2).heap[b]? = w2.heap[b]? := by
        intro b h1 h2 x0 x1 x2
        exact (Below.heap_setCell _ ⟨w.heap.size, 2, none⟩ _ _ (by show b ≠ w.heap.size; omega)).trans ((Below.heap_setCell _ ⟨w.heap.size, 1, none⟩ _ _ (by show b ≠ w.heap.size; omega)).trans ((Below.heap_setCell _ ⟨w.heap.size, 0, none⟩ _ _ (by show b ≠ w.heap.size; omega)).trans (B2.out.block b h2)))
      have h1 : ∀ b, New ((w.alloc (.cells #[.bool false, .int .i64 0, .slice none 0 0] 24)).alloc (.cells #[.string s, .int .i64 0, .int .i64 0] 49)) w2 b → w.heap.size + 1 + 1 ≤ b := fun b hb => by
        have h1 := hb.1
        simp only [World.size_alloc] at h1
        exact h1
      refine .inl ⟨t, A, c, GD.out, YE.out, rfl, TA.out.keep fun b hb => ?_, below_set (below_set (below_set B3'.out (Nat.le_refl _) _ _) (Nat.le_refl _) _ _) (Nat.le_refl _) _ _, ((NFI.out.set _ _).set _ _).set _ _⟩
      have h2 := h1 b hb
      have h3 := hb.2
      exact ⟨⟨by omega, by simp [World.setCell]; omega⟩, fun o => World.cell?_of_block (HK b h2 h3 _ _ _)⟩
  · have b2 : Below w2.heap.size w2 (w2.alloc (.cells #[.bool false, .int .i64 0, .slice none 0 0] 24)) := (Below.refl _ _).alloc (Nat.le_refl _) _
    have r3 := hr2.below b2
    have x3 := (XX.out.gr hg2 (by simp)).below b2
    have BL := below_gr B0.out hg2 (by omega)
    have B3' := Lib.hid (BL.trans (b2.mono BL.size))
    have NO := Lib.hid (show ∀ u, Good 6 u → s.data.toList ≠ textV u from fun u hu e => hno u [] hu (fits_nil u) (by rw [List.append_nil, List.drop_zero]; exact e))
    have c1 := r3.c1
    obtain ⟨z0, z1, z2, y0, y1, y2⟩ := x3.facts
    clear hno hr2 hg2 b2 r3 x3 BL V0 XX B0
    go_wp2_with fail
    refine bodyPost_ret (v := .tuple #[zeroV, .iface 26 (.int .i64 3)]) (by simp [results, Tryd.results13, go_sem, z0, z1, z2]) rfl ?_
    exact .inr ⟨NO.out, rfl, below_set (below_set (below_set B3'.out (Nat.le_refl _) _ _) (Nat.le_refl _) _ _) (Nat.le_refl _) _ _⟩

theorem parse_prog (s : ByteArray) (hs : s.size ≤ 1073741824) (w : World) (ht : Tab w) (he : Errs w) :
    Calls Tryd.prog 13 #[.string s] w (ParseEnds .nilIface (.iface 26 (.int .i64 3)) s w) := by
  refine (parse_nf s hs w ht he).mono ?_
  rintro e w' (⟨t, A, c, h1, h2, h3, h4, h5, _⟩ | h)
  · exact .inl ⟨t, A, c, h1, h2, h3, h4, h5⟩
  · exact .inr h
end Go.Proofs.YtgeljcfokeiaeaaDoor.Vals
