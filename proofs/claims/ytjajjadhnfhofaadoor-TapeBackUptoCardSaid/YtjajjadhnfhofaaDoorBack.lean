/-
  TapeBack: a tape is that of its text; a text that is one's is its text.
  Conditions: the second form's bound on what comes in; the library's variables as the program's text lays them.
-/
import Derived.Test.YtjajjadhnfhofaaDoorParse
namespace Go.Proofs.YtjajjadhnfhofaaDoor.BackLaw
open Go.ChangeShapes Go.WideShapes Go.ChangeAt Go.RowKit Lists Ints Build
set_option linter.unusedVariables false

theorem text_back (l : List Int) (s : ByteArray) (h : textL l = s.data.toList) (A : Option Addr) (c N : Nat) (hl : l.length ≤ 4294967296) (hi : ∀ n ∈ l, I64 n) (w : World) (ha : At w N A l) (hN : N ≤ w.heap.size) (ht : Tab w) :
    Calls Tryd.prog 14 #[.slice A l.length c] w fun e w' => e = .returned (.string s) ∧ Below w.heap.size w w' := by
  have hse : (⟨(textL l).toArray⟩ : ByteArray) = s := Go.WideShapes.bytes_inj (by simpa using h)
  rw [← hse]
  exact text_any l A c N hl hi w ha hN ht
theorem text_some (l : List Int) (A : Option Addr) (c N : Nat) (hl : l.length ≤ 4294967296) (hi : ∀ n ∈ l, I64 n) (w : World) (ha : At w N A l) (hN : N ≤ w.heap.size) (ht : Tab w) :
    Calls Tryd.prog 14 #[.slice A l.length c] w fun e w' => ∃ s : ByteArray, e = .returned (.string s) ∧ s.data.toList = textL l ∧ Below w.heap.size w w' :=
  (text_any l A c N hl hi w ha hN ht).mono fun _ _ ⟨h1, h2⟩ => ⟨_, h1, by simp, h2⟩

/-- Parse of a tape's text: the tape where it is one; else something, and an error or none. -/
theorem parse_yes (a : List Int) (hv : validB a = true) (s : ByteArray) (h : s.data.toList = textL a) (hs : s.size ≤ 1073741824) (w : World) (hx : Max w) (he : Errs w) (ht : Tab w) :
    Calls Tryd.prog 10 #[.string s] w fun e w' => ∃ (B : Option Addr) (c : Nat), e = .returned (.tuple #[.slice B a.length c, .nilIface]) ∧ At w' w'.heap.size B a ∧ Below w.heap.size w w' := by
  refine (parse_any s hs w hx he ht).mono ?_
  have hp := parse_text a ((validB_iff a).1 hv)
  rw [← h] at hp
  rintro e w' (⟨hn, _⟩ | ⟨l, B, c, hn, _, rfl, hat, hb⟩)
  · rw [hp] at hn; cases hn
  · rw [hp] at hn
    injection hn with hn
    subst hn
    exact ⟨B, c, rfl, hat, hb⟩
theorem parse_some (s : ByteArray) (hs : s.size ≤ 1073741824) (w : World) (hx : Max w) (he : Errs w) (ht : Tab w) :
    Calls Tryd.prog 10 #[.string s] w fun e w' => ∃ (l : List Int) (B : Option Addr) (c : Nat) (r : Value), e = .returned (.tuple #[.slice B l.length c, r]) ∧ l.length ≤ s.size + 1 ∧ At w' w'.heap.size B l ∧ Below w.heap.size w w' := by
  refine (parse_any s hs w hx he ht).mono ?_
  rintro e w' (⟨_, rfl, hb⟩ | ⟨l, B, c, _, hl, rfl, hat, hb⟩)
  · exact ⟨[], none, 0, _, rfl, by simp, At.nil, hb⟩
  · exact ⟨l, B, c, _, rfl, hl, hat, hb⟩

set_option maxHeartbeats 4000000 in
theorem walk (a : List Int) (A : Option Addr) (ca : Nat) (s : ByteArray) (hbulk : a.length + s.size ≤ 1048576) (w : World)
    (ha : At w w.heap.size A a) (ws : s.size ≤ 9223372036854775807) (ia : ∀ n ∈ a, I64 n) (ht : Tab w) (he : Errs w) (hx : Max w) :
    Calls Tryd.prog 4 #[.slice A a.length ca, .string s] w fun e w' => e = .returned (.bool true) ∧ Below w.heap.size w w' := by
  have hla : a.length ≤ 1048576 := by omega
  have hls : s.size ≤ 1048576 := by omega
  have IA := Lib.hid ia
  have HT := Lib.hid ht
  have HE := Lib.hid he
  have HX := Lib.hid hx
  have HA := Lib.hid ha
  have TL := Lib.hid (textL_le a ia)
  clear ha ia ht he hx hbulk ws
  have CK := Lib.hid (fun (W : World) h => check_any a A ca w.heap.size (by simp only [maxLen]; omega) W h)
  rcases (show validB a = true ∨ validB a = false by cases validB a <;> simp) with hv | hv
  · have HV := Lib.hid hv
    have ck := CK.out
    rw [hv] at ck
    simp only [if_true] at ck
    have CK := Lib.hid ck
    clear ck hv
    go_enter Tryd.func4, Tryd.ntmps4
    go_wp2_with fail
    refine (fact_below _ _ _ (by simp) (by simp) (by simp)).mono ?_
    rintro e w1 ⟨rfl, hb1'⟩
    have hb1 := after2 hb1'
    clear hb1'
    go_wp2_with fail
    refine (parse_any s (by omega) w1 (HX.out.below hb1) (HE.out.below hb1) (HT.out.below hb1)).mono ?_
    rintro e w2 (⟨_, rfl, hb2'⟩ | ⟨l, B, c, hp, hl, rfl, hat, hb2'⟩)
    · have hb3 := on hb1 hb2'
      clear hb2'
      go_wp2_with fail
      refine (text_some a A ca w.heap.size (by omega) IA.out w2 (HA.out.below hb3) hb3.size (HT.out.below hb3)).mono ?_
      rintro e w4 ⟨t, rfl, ht4, hb4⟩
      have B4 := on hb3 hb4
      have TS : t.size ≤ 1073741824 := by rw [size_toList, ht4]; have := TL.out; omega
      have HT4 := Lib.hid ht4
      clear hb4 hb3 ht4
      go_wp2_with fail
      refine (parse_yes a HV.out t HT4.out TS w4 (HX.out.below B4) (HE.out.below B4) (HT.out.below B4)).mono ?_
      rintro e w5 ⟨B5, c5, rfl, at5, hb5⟩
      have hb5' := on B4 hb5
      have AT5 := Lib.hid at5
      have cs := same_below a a B5 A c5 ca w5.heap.size (by simp only [maxLen]; omega) (by simp only [maxLen]; omega) w5 at5 ((HA.out.below hb5').more hb5'.size)
      rw [show decide (a = a) = true by simp] at cs
      have CS := Lib.hid cs
      clear hb5 at5 cs
      go_wp2_with fail
      refine CS.out.mono ?_
      rintro e w6 ⟨rfl, hb6⟩
      have B6 := on hb5' hb6
      clear hb6 hb5'
      go_wp2_with fail
      refine (CK.out w6 (HA.out.below B6)).mono ?_
      rintro e w' ⟨rfl, rfl⟩
      go_wp2
      go_ret
      exact ⟨rfl, B6⟩
    · have hb3' := on hb1 hb2'
      have HP := Lib.hid (parseL_sound hp)
      have HAT := Lib.hid hat
      clear hb2' hp hat
      go_wp2_with fail
      refine (text_back l s HP.out.1 B c w2.heap.size (by omega) (valid_i64 HP.out.2) w2 HAT.out (Nat.le_refl _) (HT.out.below hb3')).mono ?_
      rintro e w3 ⟨rfl, hb3⟩
      have hb3 := on hb3' hb3
      go_wp2_with fail
      refine (text_some a A ca w.heap.size (by omega) IA.out w3 (HA.out.below hb3) hb3.size (HT.out.below hb3)).mono ?_
      rintro e w4 ⟨t, rfl, ht4, hb4⟩
      have B4 := on hb3 hb4
      have TS : t.size ≤ 1073741824 := by rw [size_toList, ht4]; have := TL.out; omega
      have HT4 := Lib.hid ht4
      clear hb4 hb3 ht4
      go_wp2_with fail
      refine (parse_yes a HV.out t HT4.out TS w4 (HX.out.below B4) (HE.out.below B4) (HT.out.below B4)).mono ?_
      rintro e w5 ⟨B5, c5, rfl, at5, hb5⟩
      have hb5' := on B4 hb5
      have AT5 := Lib.hid at5
      have cs := same_below a a B5 A c5 ca w5.heap.size (by simp only [maxLen]; omega) (by simp only [maxLen]; omega) w5 at5 ((HA.out.below hb5').more hb5'.size)
      rw [show decide (a = a) = true by simp] at cs
      have CS := Lib.hid cs
      clear hb5 at5 cs
      go_wp2_with fail
      refine CS.out.mono ?_
      rintro e w6 ⟨rfl, hb6⟩
      have B6 := on hb5' hb6
      clear hb6 hb5'
      go_wp2_with fail
      refine (CK.out w6 (HA.out.below B6)).mono ?_
      rintro e w' ⟨rfl, rfl⟩
      go_wp2
      go_ret
      exact ⟨rfl, B6⟩
  · have HV := Lib.hid hv
    have ck := CK.out
    rw [hv] at ck
    simp only [Bool.false_eq_true, if_false] at ck
    have CK := Lib.hid ck
    clear ck hv
    go_enter Tryd.func4, Tryd.ntmps4
    go_wp2_with fail
    refine (fact_below _ _ _ (by simp) (by simp) (by simp)).mono ?_
    rintro e w1 ⟨rfl, hb1'⟩
    have hb1 := after2 hb1'
    clear hb1'
    go_wp2_with fail
    refine (parse_any s (by omega) w1 (HX.out.below hb1) (HE.out.below hb1) (HT.out.below hb1)).mono ?_
    rintro e w2 (⟨_, rfl, hb2'⟩ | ⟨l, B, c, hp, hl, rfl, hat, hb2'⟩)
    · have hb3 := on hb1 hb2'
      clear hb2'
      go_wp2_with fail
      refine (text_some a A ca w.heap.size (by omega) IA.out w2 (HA.out.below hb3) hb3.size (HT.out.below hb3)).mono ?_
      rintro e w4 ⟨t, rfl, ht4, hb4⟩
      have B4 := on hb3 hb4
      have TS : t.size ≤ 1073741824 := by rw [size_toList, ht4]; have := TL.out; omega
      have HT4 := Lib.hid ht4
      clear hb4 hb3 ht4
      go_wp2_with fail
      refine (parse_some t TS w4 (HX.out.below B4) (HE.out.below B4) (HT.out.below B4)).mono ?_
      rintro e w5 ⟨l5, B5, c5, r5, rfl, hl5, at5, hb5⟩
      have hb5' := on B4 hb5
      have AT5 := Lib.hid at5
      have cs := same_below l5 a B5 A c5 ca w5.heap.size (by simp only [maxLen]; omega) (by simp only [maxLen]; omega) w5 at5 ((HA.out.below hb5').more hb5'.size)
      have CS := Lib.hid cs
      clear hb5 at5 cs
      go_wp2_with fail
      refine CS.out.mono ?_
      rintro e w6 ⟨rfl, hb6⟩
      have B6 := on hb5' hb6
      clear hb6 hb5'
      go_wp2_with fail
      refine (CK.out w6 (HA.out.below B6)).mono ?_
      rintro e w' ⟨rfl, rfl⟩
      go_wp2
      go_ret
      exact ⟨rfl, B6⟩
    · have hb3' := on hb1 hb2'
      have HP := Lib.hid (parseL_sound hp)
      have HAT := Lib.hid hat
      clear hb2' hp hat
      go_wp2_with fail
      refine (text_back l s HP.out.1 B c w2.heap.size (by omega) (valid_i64 HP.out.2) w2 HAT.out (Nat.le_refl _) (HT.out.below hb3')).mono ?_
      rintro e w3 ⟨rfl, hb3⟩
      have hb3 := on hb3' hb3
      go_wp2_with fail
      refine (text_some a A ca w.heap.size (by omega) IA.out w3 (HA.out.below hb3) hb3.size (HT.out.below hb3)).mono ?_
      rintro e w4 ⟨t, rfl, ht4, hb4⟩
      have B4 := on hb3 hb4
      have TS : t.size ≤ 1073741824 := by rw [size_toList, ht4]; have := TL.out; omega
      have HT4 := Lib.hid ht4
      clear hb4 hb3 ht4
      go_wp2_with fail
      refine (parse_some t TS w4 (HX.out.below B4) (HE.out.below B4) (HT.out.below B4)).mono ?_
      rintro e w5 ⟨l5, B5, c5, r5, rfl, hl5, at5, hb5⟩
      have hb5' := on B4 hb5
      have AT5 := Lib.hid at5
      have cs := same_below l5 a B5 A c5 ca w5.heap.size (by simp only [maxLen]; omega) (by simp only [maxLen]; omega) w5 at5 ((HA.out.below hb5').more hb5'.size)
      have CS := Lib.hid cs
      clear hb5 at5 cs
      go_wp2_with fail
      refine CS.out.mono ?_
      rintro e w6 ⟨rfl, hb6⟩
      have B6 := on hb5' hb6
      clear hb6 hb5'
      go_wp2_with fail
      refine (CK.out w6 (HA.out.below B6)).mono ?_
      rintro e w' ⟨rfl, rfl⟩
      go_wp2
      go_ret
      exact ⟨rfl, B6⟩
end Go.Proofs.YtjajjadhnfhofaaDoor.BackLaw
