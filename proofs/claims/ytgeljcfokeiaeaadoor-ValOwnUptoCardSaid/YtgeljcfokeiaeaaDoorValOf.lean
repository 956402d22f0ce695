/- Contract of the document's own ValueOf. Condition: the size. -/
import Derived.Test.YtgeljcfokeiaeaaDoorValAtL
namespace Go.Proofs.YtgeljcfokeiaeaaDoor.Vals
open Go.RowKit Go.ChangeShapes Lists Ints Build Ref
open Go.Lib (itoa)
set_option linter.unusedVariables false

set_option maxHeartbeats 4000000 in
set_option maxRecDepth 100000 in
theorem valueof_any (s : ByteArray) (hs : s.size ≤ 1073741824) (w : World) :
    Calls Tryd.prog 12 #[.string s] w (ParseEnds (.bool true) (.bool false) s w) := by
  have b0 : Below w.heap.size w (w.alloc (.cells #[.bool false, .int .i64 0, .slice none 0 0] 24)) := (Below.refl _ _).alloc (Nat.le_refl _) _
  have HB0 := Lib.hid b0
  have XX := Lib.hid (B3.new w (.bool false) (.int .i64 0) (.slice none 0 0))
  have V0 := Lib.hid (at_ok 6 s 0 6 0 (w.alloc (.cells #[.bool false, .int .i64 0, .slice none 0 0] 24)) rfl rfl (Nat.le_refl _) hs (Nat.zero_le _))
  clear b0
  go_enter Tryd.func12, Tryd.ntmps12
  go_wp2_with fail
  refine V0.out.mono ?_
  rintro e w2 (⟨t, q, A, c, hgd, hq, htx, hfw, rfl, hta, hb2⟩ | ⟨hno, rfl, hb2⟩)
  · have b2 : Below w2.heap.size w2 (w2.alloc (.cells #[.bool t.list, .int .i64 t.num, .slice A t.items.length c] 24)) := (Below.refl _ _).alloc (Nat.le_refl _) _
    have x3 := (XX.out.below hb2).below b2
    have v3 := B3.new w2 (.bool t.list) (.int .i64 t.num) (.slice A t.items.length c)
    have BL := on HB0.out hb2
    have B3' := Lib.hid (on BL b2)
    have GD := Lib.hid hgd
    have TX := Lib.hid htx
    have FW := Lib.hid hfw
    have TA := Lib.hid hta
    have B2 := Lib.hid b2
    obtain ⟨z0, z1, z2, y0, y1, y2⟩ := x3.facts
    obtain ⟨v0, v1, v2, _, _, _⟩ := v3.facts
    have hz2 := hb2.size
    simp only [World.size_alloc] at hz2
    clear hgd htx hfw hta hb2 b2 x3 v3 BL V0 XX HB0
    by_cases hlt : q = s.size
    · have g1 : ((q : Int) != (s.size : Int)) = false := by rw [bne_eq_false_iff_eq]; omega
      have YE := Lib.hid (show s.data.toList = textV t by
        have := TX.out
        rw [drop_end s q (by omega), List.append_nil, List.drop_zero] at this
        exact this)
      clear hlt
      go_wp2_with fail
      refine bodyPost_ret (v := .tuple #[.agg #[.bool t.list, .int .i64 t.num, .slice A t.items.length c], .bool true]) (by simp [results, Tryd.results12, go_sem, z0, z1, z2]) rfl ?_
      have HK : ∀ b, w.heap.size + 1 ≤ b → b < w2.heap.size → ∀ x0 x1 x2, ((((w2.alloc (.cells #[.bool t.list, .int .i64 t.num, .slice A t.items.length c] 24)).setCell ⟨w.heap.size, 0, none⟩ x0).setCell ⟨w.heap.size, 1, none⟩ x1).setCell ⟨w.heap.size, 2, none⟩ x2).heap[b]? = w2.heap[b]? := by
        intro b h1 h2 x0 x1 x2
        exact (Below.heap_setCell _ ⟨w.heap.size, 2, none⟩ _ _ (by show b ≠ w.heap.size; omega)).trans ((Below.heap_setCell _ ⟨w.heap.size, 1, none⟩ _ _ (by show b ≠ w.heap.size; omega)).trans ((Below.heap_setCell _ ⟨w.heap.size, 0, none⟩ _ _ (by show b ≠ w.heap.size; omega)).trans (B2.out.block b h2)))
      have h1 : ∀ b, New (w.alloc (.cells #[.bool false, .int .i64 0, .slice none 0 0] 24)) w2 b → w.heap.size + 1 ≤ b := fun b hb => by
        have h1 := hb.1
        simp only [World.size_alloc] at h1
        exact h1
      refine .inl ⟨t, A, c, GD.out, YE.out, rfl, TA.out.keep fun b hb => ?_, below_set (below_set (below_set B3'.out (Nat.le_refl _) _ _) (Nat.le_refl _) _ _) (Nat.le_refl _) _ _⟩
      have h2 := h1 b hb
      have h3 := hb.2
      exact ⟨⟨by omega, by simp [World.setCell]; omega⟩, fun o => World.cell?_of_block (HK b h2 h3 _ _ _)⟩
    · have g1 : ((q : Int) != (s.size : Int)) = true := by rw [bne_iff_ne]; omega
      have NO := Lib.hid (show ∀ u, Good 6 u → s.data.toList ≠ textV u by
        intro u hu e
        have h1 : textV t ++ s.data.toList.drop q = textV u ++ [] := by rw [List.append_nil, ← e]; exact TX.out.symm
        have h2 := (text_uniq 6 t u _ _ GD.out.1 hu.1 FW.out.w (fits_nil u).w h1).2
        have h3 := congrArg List.length h2
        rw [List.length_drop, ← size_toList, List.length_nil] at h3
        omega)
      clear hlt
      go_wp2_with fail
      refine bodyPost_ret (v := .tuple #[zeroV, .bool false]) (by simp [results, Tryd.results12, go_sem, z0, z1, z2]) rfl ?_
      exact .inr ⟨NO.out, rfl, below_set (below_set (below_set B3'.out (Nat.le_refl _) _ _) (Nat.le_refl _) _ _) (Nat.le_refl _) _ _⟩
  · have b2 : Below w2.heap.size w2 (w2.alloc (.cells #[.bool false, .int .i64 0, .slice none 0 0] 24)) := (Below.refl _ _).alloc (Nat.le_refl _) _
    have x3 := (XX.out.below hb2).below b2
    have BL := on HB0.out hb2
    have B3' := Lib.hid (on BL b2)
    have NO := Lib.hid (show ∀ u, Good 6 u → s.data.toList ≠ textV u from fun u hu e => hno u [] hu (fits_nil u) (by rw [List.append_nil, List.drop_zero]; exact e))
    have g1 : ((-1 : Int) != (s.size : Int)) = true := by rw [bne_iff_ne]; omega
    obtain ⟨z0, z1, z2, y0, y1, y2⟩ := x3.facts
    clear hno hb2 b2 x3 BL V0 XX HB0
    go_wp2_with fail
    refine bodyPost_ret (v := .tuple #[zeroV, .bool false]) (by simp [results, Tryd.results12, go_sem, z0, z1, z2]) rfl ?_
    exact .inr ⟨NO.out, rfl, below_set (below_set (below_set B3'.out (Nat.le_refl _) _ _) (Nat.le_refl _) _ _) (Nat.le_refl _) _ _⟩
end Go.Proofs.YtgeljcfokeiaeaaDoor.Vals
