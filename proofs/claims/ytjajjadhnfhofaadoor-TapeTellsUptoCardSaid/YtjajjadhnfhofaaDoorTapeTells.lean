/-
  TapeTells: of any two tapes and any text the program tells what the document does: Check, Less, Text, Parse.
  Conditions: the second form's bound on what comes in; the library's variables as the program's text lays them.
-/
import Derived.Test.YtjajjadhnfhofaaDoorTapeOf
import Derived.Test.YtjajjadhnfhofaaDoorHandle
namespace Go.Proofs.YtjajjadhnfhofaaDoor.TellsLaw
open Go.ChangeShapes Go.WideShapes Go.ChangeAt Go.RowKit Lists Ints Build Ref
set_option linter.unusedVariables false

theorem parse_is (s : ByteArray) (hs : s.size ≤ 1073741824) (l : List Int) (h : parseL s.data.toList = some l) (w : World) (hx : Max w) (he : Errs w) (ht : Tab w) :
    Calls Tryd.prog 10 #[.string s] w fun e w' => ∃ (B : Option Addr) (c : Nat), e = .returned (.tuple #[.slice B l.length c, .nilIface]) ∧ At w' w'.heap.size B l ∧ Below w.heap.size w w' := by
  refine (parse_any s hs w hx he ht).mono ?_
  rintro e w' (⟨hn, _⟩ | ⟨m, B, c, hn, _, rfl, hat, hb⟩)
  · rw [h] at hn; cases hn
  · rw [h] at hn; injection hn with hn; subst hn; exact ⟨B, c, rfl, hat, hb⟩
theorem parse_not (s : ByteArray) (hs : s.size ≤ 1073741824) (h : parseL s.data.toList = none) (w : World) (hx : Max w) (he : Errs w) (ht : Tab w) :
    Calls Tryd.prog 10 #[.string s] w fun e w' => e = .returned (.tuple #[.slice none 0 0, .iface 23 (.int .i64 3)]) ∧ Below w.heap.size w w' := by
  refine (parse_any s hs w hx he ht).mono ?_
  rintro e w' (⟨_, rfl, hb⟩ | ⟨m, B, c, hn, _⟩)
  · exact ⟨rfl, hb⟩
  · rw [h] at hn; cases hn
theorem tapeof_is (s : ByteArray) (hs : s.size ≤ 1073741824) (l : List Int) (h : parseL s.data.toList = some l) (w : World) :
    Calls Tryd.prog 9 #[.string s] w fun e w' => ∃ (B : Option Addr) (c : Nat), e = .returned (.tuple #[.slice B l.length c, .bool true]) ∧ At w' w'.heap.size B l ∧ Below w.heap.size w w' ∧ l.length ≤ s.size + 1 := by
  refine (tapeof_any s hs w).mono ?_
  rintro e w' (⟨hn, _⟩ | ⟨m, B, c, hn, hl, rfl, hat, hb⟩)
  · rw [h] at hn; cases hn
  · rw [h] at hn; injection hn with hn; subst hn; exact ⟨B, c, rfl, hat, hb, hl⟩
theorem tapeof_not (s : ByteArray) (hs : s.size ≤ 1073741824) (h : parseL s.data.toList = none) (w : World) :
    Calls Tryd.prog 9 #[.string s] w fun e w' => e = .returned (.tuple #[.slice none 0 0, .bool false]) ∧ Below w.heap.size w w' := by
  refine (tapeof_any s hs w).mono ?_
  rintro e w' (⟨_, rfl, hb⟩ | ⟨m, B, c, hn, _⟩)
  · exact ⟨rfl, hb⟩
  · rw [h] at hn; cases hn
theorem shorter_below (l m : List Int) (A B : Option Addr) (c d N : Nat) (hl : l.length ≤ maxLen) (hm : m.length ≤ maxLen) (w : World) (ha : At w N A l) (hb : At w N B m) :
    Calls Tryd.prog 13 #[.slice A l.length c, .slice B m.length d] w fun e w' => e = .returned (.bool (lessL l m)) ∧ Below w.heap.size w w' :=
  (shorter_any l m A B c d N hl hm w ha hb).mono fun _ _ ⟨h, n, h'⟩ => ⟨h, h' ▸ ⟨rfl, rfl, rfl, Nat.le_refl _, fun _ _ => rfl⟩⟩
theorem nil_same (w : World) : Calls Tryd.prog 11 #[.slice none 0 0, .slice none 0 0] w fun e w' => e = .returned (.bool true) ∧ Below w.heap.size w w' :=
  same_below [] [] none none 0 0 0 (by simp [maxLen]) (by simp [maxLen]) w At.nil At.nil

set_option maxHeartbeats 8000000 in
set_option maxRecDepth 100000 in
theorem walk (a : List Int) (A : Option Addr) (ca : Nat) (b : List Int) (B : Option Addr) (cb : Nat) (s : ByteArray) (hbulk : a.length + b.length + s.size ≤ 1048576) (w : World)
    (ha : At w w.heap.size A a) (hb : At w w.heap.size B b) (ws : s.size ≤ 9223372036854775807) (ia : ∀ n ∈ a, I64 n) (ib : ∀ n ∈ b, I64 n) (ht : Tab w) (he : Errs w) (hx : Max w) (hh : Told.Handle w) :
    Calls Tryd.prog 3 #[.slice A a.length ca, .slice B b.length cb, .string s] w fun e w' => e = .returned (.bool true) ∧ Below w.heap.size w w' := by
  have hla : a.length ≤ 1048576 := by omega
  have hlb : b.length ≤ 1048576 := by omega
  have hls : s.size ≤ 1048576 := by omega
  have IA := Lib.hid ia
  have HT := Lib.hid ht
  have HE := Lib.hid he
  have HX := Lib.hid hx
  have HH := Lib.hid hh
  have HA := Lib.hid ha
  have HB := Lib.hid hb
  have TL := Lib.hid (textL_le a ia)
  clear ha hb ia ib ht he hx hh hbulk ws
  have FA := fun (W : World) h => fault_any a A ca w.heap.size (by simp only [maxLen]; omega) W h
  have CK := fun (W : World) h => check_any a A ca w.heap.size (by simp only [maxLen]; omega) W h
  have LE := fun (W : World) h h' => less_any a b A B ca cb w.heap.size (by simp only [maxLen]; omega) (by simp only [maxLen]; omega) W h h'
  have SH := fun (W : World) h h' => shorter_below a b A B ca cb w.heap.size (by simp only [maxLen]; omega) (by simp only [maxLen]; omega) W h h'
  obtain ⟨p, hp⟩ : ∃ p, lessL a b = p := ⟨_, rfl⟩
  rw [hp] at LE SH
  clear hp
  obtain ⟨t, ht⟩ : ∃ t : ByteArray, t.data.toList = textL a := ⟨⟨(textL a).toArray⟩, by simp⟩
  have TX := fun (W : World) h h2 h3 => text_any a A ca w.heap.size (by omega) IA.out W h h2 h3
  have RX := fun (W : World) h h2 => (tapetext_any a A ca w.heap.size (by omega) IA.out W h h2).mono (R' := fun e w' => e = .returned (.string t) ∧ Below W.heap.size W w') (by
    rintro e w' ⟨s1, rfl, h1, h2⟩
    exact ⟨by rw [Go.WideShapes.bytes_inj (h1.trans ht.symm)], h2⟩)
  have e1 : (⟨(textL a).toArray⟩ : ByteArray) = t := Go.WideShapes.bytes_inj (by simpa using ht.symm)
  rw [e1] at TX
  clear e1 ht
  rcases (show validB a = true ∨ validB a = false by cases validB a <;> simp) with hv | hv
  all_goals
    rw [hv] at FA CK
    simp only [Bool.not_true, Bool.not_false, Bool.false_eq_true, if_false, if_true] at FA CK
    have HFA := Lib.hid FA
    have HCK := Lib.hid CK
    have HLE := Lib.hid LE
    have HSH := Lib.hid SH
    have HTX := Lib.hid TX
    have HRX := Lib.hid RX
    clear FA CK LE SH TX RX hv
    rcases hpl : parseL s.data.toList with _ | l
    · have HP := Lib.hid hpl
      clear hpl
      cases p
      all_goals
        go_enter Tryd.func3, Tryd.ntmps3
        go_wp2_with fail
        refine (HFA.out w HA.out).mono ?_
        rintro e w' ⟨rfl, rfl⟩
        go_wp2_with fail
        refine (HCK.out w HA.out).mono ?_
        rintro e w' ⟨rfl, rfl⟩
        go_wp2_with fail
        first | (with_reducible refine (Told.error_nil 0 w).mono ?_) | (with_reducible refine (Told.error_errno 1 1 w HH.out).mono ?_)
        rintro e w1 ⟨rfl, b1⟩
        go_wp2_with fail
        refine (tapeof_not s (by omega) HP.out w1).mono ?_
        rintro e w2 ⟨rfl, b2'⟩
        have b2 := on b1 b2'
        clear b2' b1
        go_wp2_with fail
        refine (parse_not s (by omega) HP.out w2 (HX.out.below b2) (HE.out.below b2) (HT.out.below b2)).mono ?_
        rintro e w3 ⟨rfl, b3'⟩
        have b3 := on b2 b3'
        clear b3' b2
        go_wp2_with fail
        refine (Told.error_errno 3 3 w3 (HH.out.below b3)).mono ?_
        rintro e w4 ⟨rfl, b4'⟩
        have b4 := on b3 b4'
        clear b4' b3
        go_wp2_with fail
        refine (nil_same w4).mono ?_
        rintro e w5 ⟨rfl, b5'⟩
        have b5 := on b4 b5'
        clear b5' b4
        go_wp2_with fail
        refine (fact_below _ _ _ (by simp) (by simp) (by simp)).mono ?_
        rintro e w6 ⟨rfl, b6'⟩
        have b6 := on b5 (after2 b6')
        clear b6' b5
        go_wp2_with fail
        refine (HLE.out w6 (HA.out.below b6) (HB.out.below b6)).mono ?_
        rintro e w' ⟨rfl, rfl⟩
        go_wp2_with fail
        refine (HSH.out w6 (HA.out.below b6) (HB.out.below b6)).mono ?_
        rintro e w7 ⟨rfl, b7'⟩
        have b7 := on b6 b7'
        clear b7' b6
        go_wp2_with fail
        refine (HTX.out w7 (HA.out.below b7) b7.size (HT.out.below b7)).mono ?_
        rintro e w8 ⟨rfl, b8'⟩
        have b8 := on b7 b8'
        clear b8' b7
        go_wp2_with fail
        refine (HRX.out w8 (HA.out.below b8) b8.size).mono ?_
        rintro e w9 ⟨rfl, b9'⟩
        have b9 := on b8 b9'
        clear b9' b8
        go_wp2_with fail
        go_ret
        exact ⟨by first | rfl | simp, b9⟩
    · have HP := Lib.hid hpl
      clear hpl
      cases p
      all_goals
        go_enter Tryd.func3, Tryd.ntmps3
        go_wp2_with fail
        refine (HFA.out w HA.out).mono ?_
        rintro e w' ⟨rfl, rfl⟩
        go_wp2_with fail
        refine (HCK.out w HA.out).mono ?_
        rintro e w' ⟨rfl, rfl⟩
        go_wp2_with fail
        first | (with_reducible refine (Told.error_nil 0 w).mono ?_) | (with_reducible refine (Told.error_errno 1 1 w HH.out).mono ?_)
        rintro e w1 ⟨rfl, b1⟩
        go_wp2_with fail
        refine (tapeof_is s (by omega) l HP.out w1).mono ?_
        rintro e w2 ⟨C, cc, rfl, atC, b2', hll⟩
        have b2 := on b1 b2'
        have ATC := Lib.hid atC
        clear b2' b1 atC
        go_wp2_with fail
        refine (parse_is s (by omega) l HP.out w2 (HX.out.below b2) (HE.out.below b2) (HT.out.below b2)).mono ?_
        rintro e w3 ⟨D, cd, rfl, atD, b3'⟩
        have ATC3 := Lib.hid ((ATC.out.below b3').more b3'.size)
        have b3 := on b2 b3'
        have ATD := Lib.hid atD
        clear b3' b2 atD
        go_wp2_with fail
        refine (Told.error_nil 0 w3).mono ?_
        rintro e w4 ⟨rfl, b4'⟩
        have ATC4 := Lib.hid (ATC3.out.below b4')
        have ATD4 := Lib.hid (ATD.out.below b4')
        have b4 := on b3 b4'
        clear b4'
        have cs := same_below l l D C cd cc w3.heap.size (by simp only [maxLen]; omega) (by simp only [maxLen]; omega) w4 ATD4.out ATC4.out
        rw [show decide (l = l) = true by simp] at cs
        have CS := Lib.hid cs
        clear cs b3
        go_wp2_with fail
        refine CS.out.mono ?_
        rintro e w5 ⟨rfl, b5'⟩
        have b5 := on b4 b5'
        clear b5' b4
        go_wp2_with fail
        refine (fact_below _ _ _ (by simp) (by simp) (by simp)).mono ?_
        rintro e w6 ⟨rfl, b6'⟩
        have b6 := on b5 (after2 b6')
        clear b6' b5
        go_wp2_with fail
        refine (HLE.out w6 (HA.out.below b6) (HB.out.below b6)).mono ?_
        rintro e w' ⟨rfl, rfl⟩
        go_wp2_with fail
        refine (HSH.out w6 (HA.out.below b6) (HB.out.below b6)).mono ?_
        rintro e w7 ⟨rfl, b7'⟩
        have b7 := on b6 b7'
        clear b7' b6
        go_wp2_with fail
        refine (HTX.out w7 (HA.out.below b7) b7.size (HT.out.below b7)).mono ?_
        rintro e w8 ⟨rfl, b8'⟩
        have b8 := on b7 b8'
        clear b8' b7
        go_wp2_with fail
        refine (HRX.out w8 (HA.out.below b8) b8.size).mono ?_
        rintro e w9 ⟨rfl, b9'⟩
        have b9 := on b8 b9'
        clear b9' b8
        go_wp2_with fail
        go_ret
        exact ⟨by first | rfl | simp, b9⟩
end Go.Proofs.YtjajjadhnfhofaaDoor.TellsLaw
