/-
  TapeLonger: what is put behind a tape makes one that is not less, and its text is longer by at least as many letters as there are numbers more.
  Conditions: the second form's bound on what comes in.
-/
import Derived.Test.YtjajjadhnfhofaaDoorGrow
import Derived.Test.YtjajjadhnfhofaaDoorText
namespace Go.Proofs.YtjajjadhnfhofaaDoor.LongerLaw
open Go.ChangeShapes Go.WideShapes Go.ChangeAt Go.RowKit Lists Ints Build
set_option linter.unusedVariables false

theorem text_s (l : List Int) (A : Option Addr) (c N : Nat) (hl : l.length ≤ 4294967296) (hi : ∀ n ∈ l, I64 n) (w : World) (ha : At w N A l) (hN : N ≤ w.heap.size) (ht : Tab w) :
    Calls Tryd.prog 14 #[.slice A l.length c] w fun e w' => ∃ s : ByteArray, e = .returned (.string s) ∧ s.size = (textL l).length ∧ Below w.heap.size w w' :=
  (text_any l A c N hl hi w ha hN ht).mono fun _ _ ⟨h1, h2⟩ => ⟨_, h1, size_of_list _, h2⟩

set_option maxHeartbeats 4000000 in
theorem walk (a : List Int) (A : Option Addr) (ca : Nat) (b : List Int) (B : Option Addr) (cb : Nat) (hbulk : a.length + b.length ≤ 1048576) (w : World)
    (ha : At w w.heap.size A a) (hb : At w w.heap.size B b) (ia : ∀ n ∈ a, I64 n) (ib : ∀ n ∈ b, I64 n) (ht : Tab w) :
    Calls Tryd.prog 5 #[.slice A a.length ca, .slice B b.length cb] w fun e w' => e = .returned (.bool true) ∧ Below w.heap.size w w' := by
  have hla : a.length ≤ 1048576 := by omega
  have hlb : b.length ≤ 1048576 := by omega
  have LAB := Lib.hid hbulk
  have IA := Lib.hid ia
  have IB := Lib.hid ib
  have HT := Lib.hid ht
  have HA := Lib.hid ha
  have HB := Lib.hid hb
  have F1 := Lib.hid (lessL_longer a b)
  have F2 := lessL_shorter a b
  have F3 := Lib.hid (textL_grow b a)
  have FA := Lib.hid (textL_le a ia)
  have FB := Lib.hid (textL_le (a ++ b) (fun n hn => (List.mem_append.1 hn).elim (ia n) (ib n)))
  clear ha hb ia ib ht
  obtain ⟨p, hp⟩ : ∃ p, decide (0 < b.length) = p := ⟨_, rfl⟩
  have hp' : decide (0 < (b.length : Int)) = p := by rw [← hp]; simp
  rw [hp] at F2
  cases p
  all_goals
    have F2 := Lib.hid F2
    go_enter Tryd.func5, Tryd.ntmps5
    go_wp2_with fail
    refine (fact_below _ _ _ (by simp) (by simp) (by simp)).mono ?_
    rintro e w2 ⟨rfl, hb1'⟩
    have hb2 := after2 hb1'
    clear hb1'
    have Z2 := hb2.size
    go_wp2_with (first
      | (at_builtin
         refine wpList_append_ints rfl (.tmp 10) (.tmp 11) rfl w2.heap.size 0 (some ⟨w2.heap.size, 0, none⟩) [] (Own.empty (heap_alloc_new _ _)) w.heap.size A ca a ((HA.out.below hb2).alloc Z2 _) rfl rfl (by simp; omega) (by simp) ?_
         intro A3 c3 w3 z3 hz3 own3 g3 r3
         have B3 : Below w.heap.size w w3 := (hb2.alloc Z2 _).grown g3 (by simp; omega) (by intro k hk; simp [rowOf] at hk; omega)
         have L3 := Lib.hid (show z3.length = 0 + a.length by rw [hz3.out]; simp)
         have Z3 := B3.size)
      | (at_builtin
         refine wpList_append_ints rfl (.tmp 12) (.tmp 13) rfl w2.heap.size c3 A3 z3 own3 w.heap.size B cb b (HB.out.below B3) rfl rfl (by have := L3.out; omega) (by have := g3.size; simp at this; omega) ?_
         intro A4 c4 w4 z4 hz4 own4 g4 r4
         have B4 : Below w.heap.size w w4 := B3.grown g4 Z3 (by intro k hk; have := own3.ge k hk; omega)
         have Z4 := B4.size)
      | (go_at_call 12
         have hz : z4 = a ++ b := by rw [hz4.out, hz3.out]; rfl
         have cl := less_any z4 a A4 A c4 ca w4.heap.size (by rw [hz]; simp [maxLen]; omega) (by simp only [maxLen]; omega) w4 own4.at_ ((HA.out.below B4).more Z4)
         rw [show lessL z4 a = false by rw [hz]; exact F1.out] at cl
         clear hz
         (with_reducible refine cl.mono ?_)
         clear cl
         rintro e w' ⟨rfl, rfl⟩)
      | (go_at_call 12
         have hz : z4 = a ++ b := by rw [hz4.out, hz3.out]; rfl
         have cl := less_any a z4 A A4 ca c4 w4.heap.size (by simp only [maxLen]; omega) (by rw [hz]; simp [maxLen]; omega) w4 ((HA.out.below B4).more Z4) own4.at_
         have hq := F2.out
         rw [← hz] at hq
         rw [hq] at cl
         clear hq
         clear hz
         (with_reducible refine cl.mono ?_)
         clear cl
         rintro e w' ⟨rfl, rfl⟩))
    have hz : z4 = a ++ b := by rw [hz4.out, hz3.out]; rfl
    have HZ := Lib.hid hz
    refine (text_s z4 A4 c4 w4.heap.size (by rw [hz]; simp; omega) (by rw [hz]; exact fun n hn => (List.mem_append.1 hn).elim (IA.out n) (IB.out n)) w4 own4.at_ (Nat.le_refl _) (HT.out.below B4)).mono ?_
    clear hz
    rintro e w5 ⟨s5, rfl, hs5, hb5⟩
    have B5 := on B4 hb5
    have HS5 := Lib.hid hs5
    clear hs5
    go_wp2_with fail
    refine (text_s a A ca w.heap.size (by omega) IA.out w5 (HA.out.below B5) B5.size (HT.out.below B5)).mono ?_
    rintro e w6 ⟨s6, rfl, hs6, hb6⟩
    have B6 := on B5 hb6
    have HS6 := Lib.hid hs6
    have hfin : (s6.size : Int) + (b.length : Int) ≤ (s5.size : Int) := by
      have h1 := HS5.out
      rw [HZ.out] at h1
      have h2 := F3.out
      omega
    have hmax : (s6.size : Int) + (b.length : Int) ≤ 9223372036854775807 := by
      have h2 := FA.out
      omega
    clear hs6
    go_wp2
    go_ret
    exact ⟨rfl, B6⟩
end Go.Proofs.YtjajjadhnfhofaaDoor.LongerLaw
