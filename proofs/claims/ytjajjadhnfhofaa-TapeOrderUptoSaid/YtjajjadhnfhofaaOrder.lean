/-
  TapeOrder: of two unlike tapes just one is less, it goes on, and what is put behind both alike changes nothing if they are as long; for all tapes that together hold at most 1048576 values.
  Conditions: the second form's bound on what comes in.
-/
import Derived.Test.YtjajjadhnfhofaaGrow
namespace Go.Proofs.Ytjajjadhnfhofaa.OrderLaw
open Go.ChangeShapes Go.WideShapes Go.ChangeAt Go.RowKit Lists Ints
set_option linter.unusedVariables false

theorem fact_any (b b2 : Nat) (w : World) (h0 : w.cell? ⟨b, 0, none⟩ = some (.int .i64 5)) (h1 : w.cell? ⟨b2, 0, none⟩ = some (.int .i64 1)) (h2 : w.cell? ⟨b2, 1, none⟩ = some (.int .i64 1)) :
    Calls Try.prog 4 #[.slice (some ⟨b, 0, none⟩) 1 1, .slice (some ⟨b2, 0, none⟩) 2 2] w fun e w' => e = .returned (.bool true) ∧ w = w' :=
  less_any [5] [1, 1] (some ⟨b, 0, none⟩) (some ⟨b2, 0, none⟩) 1 2 (b + b2 + 1) (by simp [maxLen]) (by simp [maxLen]) w
    (fun _ => ⟨b, 0, rfl, by omega, fun j hj => by
      obtain rfl : j = 0 := by simpa using hj
      exact h0⟩)
    (fun _ => ⟨b2, 0, rfl, by omega, fun j hj => by
      have hj : j < 2 := hj
      obtain rfl | rfl : j = 0 ∨ j = 1 := by omega
      · exact h1
      · exact h2⟩)

theorem fact_below (b b2 : Nat) (w : World) (h0 : w.cell? ⟨b, 0, none⟩ = some (.int .i64 5)) (h1 : w.cell? ⟨b2, 0, none⟩ = some (.int .i64 1)) (h2 : w.cell? ⟨b2, 1, none⟩ = some (.int .i64 1)) :
    Calls Try.prog 4 #[.slice (some ⟨b, 0, none⟩) 1 1, .slice (some ⟨b2, 0, none⟩) 2 2] w fun e w' => e = .returned (.bool true) ∧ Below w.heap.size w w' :=
  (fact_any b b2 w h0 h1 h2).mono fun _ _ ⟨h, h'⟩ => ⟨h, h' ▸ Below.refl _ _⟩
theorem same_below (l m : List Int) (A B : Option Addr) (c d N : Nat) (hl : l.length ≤ maxLen) (hm : m.length ≤ maxLen) (w : World) (ha : At w N A l) (hb : At w N B m) :
    Calls Try.prog 5 #[.slice A l.length c, .slice B m.length d] w fun e w' => e = .returned (.bool (decide (l = m))) ∧ Below w.heap.size w w' :=
  (same_any l m A B c d N hl hm w ha hb).mono fun _ _ ⟨h, n, h'⟩ => ⟨h, h' ▸ ⟨rfl, rfl, rfl, Nat.le_refl _, fun _ _ => rfl⟩⟩
theorem on {a b c : World} (h : Below a.heap.size a b) (k : Below b.heap.size b c) : Below a.heap.size a c := h.trans (k.mono h.size)
theorem after2 {w w1 : World} {o p : Obj} (h : Below ((w.alloc o).alloc p).heap.size ((w.alloc o).alloc p) w1) : Below w.heap.size w w1 :=
  Below.trans (((Below.refl _ _).alloc (Nat.le_refl _) o).alloc (by simp) p) (h.mono (by simp; omega))

set_option maxHeartbeats 4000000 in
theorem walk (a : List Int) (A : Option Addr) (ca : Nat) (b : List Int) (B : Option Addr) (cb : Nat) (c : List Int) (C : Option Addr) (cc : Nat) (hbulk : a.length + b.length + c.length ≤ 1048576) (w : World)
    (ha : At w w.heap.size A a) (hb : At w w.heap.size B b) (hc : At w w.heap.size C c) :
    Calls Try.prog 3 #[.slice A a.length ca, .slice B b.length cb, .slice C c.length cc] w fun e w' => e = .returned (.bool true) ∧ Below w.heap.size w w' := by
  have hla : a.length ≤ 1048576 := by omega
  have hlb : b.length ≤ 1048576 := by omega
  have hlc : c.length ≤ 1048576 := by omega
  clear hbulk
  have ma : a.length ≤ maxLen := by simp only [maxLen]; omega
  have mb : b.length ≤ maxLen := by simp only [maxLen]; omega
  have mc : c.length ≤ maxLen := by simp only [maxLen]; omega
  have LA := Lib.hid hla
  have LB := Lib.hid hlb
  have LC := Lib.hid hlc
  have MA := Lib.hid ma
  have MB := Lib.hid mb
  have MC := Lib.hid mc
  have HA := Lib.hid ha
  have HB := Lib.hid hb
  have HC := Lib.hid hc
  clear ha hb hc ma mb mc hla hlb hlc
  have caa := fun (W : World) h => less_any a a A A ca ca w.heap.size MA.out MA.out W h h
  have cab := fun (W : World) h h' => less_any a b A B ca cb w.heap.size MA.out MB.out W h h'
  have cba := fun (W : World) h h' => less_any b a B A cb ca w.heap.size MB.out MA.out W h h'
  have cbc := fun (W : World) h h' => less_any b c B C cb cc w.heap.size MB.out MC.out W h h'
  have cac := fun (W : World) h h' => less_any a c A C ca cc w.heap.size MA.out MC.out W h h'
  have css := fun (W : World) h h' => same_below a b A B ca cb w.heap.size MA.out MB.out W h h'
  rw [lessL_irrefl] at caa
  have f1 : decide (a = b) = false → lessL b a = !lessL a b := fun h => lessL_one a b (of_decide_eq_false h)
  have f2 := lessL_trans a b c
  have f3 := lessL_append a b c
  generalize hs : decide (a = b) = s at css f1
  generalize hp : lessL a b = p at cab f1 f2 f3
  generalize hq : lessL b a = q at cba f1
  generalize hr : lessL b c = r at cbc f2
  generalize ht : lessL a c = t at cac f2
  clear hs hp hq hr ht
  have e1 : s = true ∨ (s = false ∧ q = !p) := by
    cases s
    · exact .inr ⟨rfl, f1 rfl⟩
    · exact .inl rfl
  have e2 : p = false ∨ (p = true ∧ r = false) ∨ (p = true ∧ r = true ∧ t = true) := by
    cases p
    · exact .inl rfl
    · cases r
      · exact .inr (.inl ⟨rfl, rfl⟩)
      · exact .inr (.inr ⟨rfl, rfl, f2 rfl rfl⟩)
  have F3 := Lib.hid f3
  have CAA := Lib.hid caa
  have CAB := Lib.hid cab
  have CBA := Lib.hid cba
  have CBC := Lib.hid cbc
  have CAC := Lib.hid cac
  have CSS := Lib.hid css
  clear f1 f2 f3 caa cab cba cbc cac css
  rcases e1 with rfl | ⟨rfl, rfl⟩ <;> rcases e2 with rfl | ⟨rfl, rfl⟩ | ⟨rfl, rfl, rfl⟩
  all_goals
    go_enter Try.func3, Try.ntmps3
    go_wp2_with fail
    refine (fact_below _ _ _ (by simp) (by simp) (by simp)).mono ?_
    rintro e w1 ⟨rfl, hb1'⟩
    have hb1 := after2 hb1'
    clear hb1'
    go_wp2_with fail
    refine (CSS.out _ (HA.out.below hb1) (HB.out.below hb1)).mono ?_
    rintro e w2 ⟨rfl, hb2'⟩
    have hb2 := on hb1 hb2'
    have J1 := Lib.hid (HA.out.below hb2)
    have J2 := Lib.hid (HB.out.below hb2)
    have J3 := Lib.hid (HC.out.below hb2)
    clear hb2' hb1
    have Z2 := hb2.size
    go_wp2_with (first
      | (go_at_call 4; (with_reducible refine (CAA.out _ J1.out).mono ?_); rintro e w' ⟨rfl, rfl⟩)
      | (go_at_call 4; (with_reducible refine (CAB.out _ J1.out J2.out).mono ?_); rintro e w' ⟨rfl, rfl⟩)
      | (go_at_call 4; (with_reducible refine (CBA.out _ J2.out J1.out).mono ?_); rintro e w' ⟨rfl, rfl⟩)
      | (go_at_call 4; (with_reducible refine (CBC.out _ J2.out J3.out).mono ?_); rintro e w' ⟨rfl, rfl⟩)
      | (go_at_call 4; (with_reducible refine (CAC.out _ J1.out J3.out).mono ?_); rintro e w' ⟨rfl, rfl⟩)
      | (at_builtin
         refine wpList_append_ints rfl (.tmp 53) (.tmp 54) rfl w2.heap.size 0 (some ⟨w2.heap.size, 0, none⟩) [] (Own.empty (heap_alloc_new _ _)) w.heap.size A ca a (J1.out.alloc Z2 _) rfl rfl (by have := LA.out; simp; omega) (by simp) ?_
         intro A3 c3 w3 z3 hz3 own3 g3 r3
         have B3 : Below w.heap.size w w3 := (hb2.alloc Z2 _).grown g3 (by simp; omega) (by intro k hk; simp [rowOf] at hk; omega)
         have L3 := Lib.hid (show z3.length = 0 + a.length by rw [hz3.out]; simp)
         have Z3 := B3.size)
      | (at_builtin
         refine wpList_append_ints rfl (.tmp 55) (.tmp 56) rfl w2.heap.size c3 A3 z3 own3 w.heap.size C cc c (HC.out.below B3) rfl rfl (by have := LA.out; have := LC.out; have := L3.out; omega) (by have := g3.size; simp at this; omega) ?_
         intro A4 c4 w4 z4 hz4 own4 g4 r4
         have B4 : Below w.heap.size w w4 := B3.grown g4 Z3 (by intro k hk; have := own3.ge k hk; omega)
         have L4 := Lib.hid (show z4.length = z3.length + c.length by rw [hz4.out]; simp)
         have Z4 := B4.size)
      | (at_builtin
         refine wpList_append_ints rfl (.tmp 58) (.tmp 59) rfl w4.heap.size 0 (some ⟨w4.heap.size, 0, none⟩) [] (Own.empty (heap_alloc_new _ _)) w.heap.size B cb b ((HB.out.below B4).alloc Z4 _) rfl rfl (by have := LB.out; simp; omega) (by simp) ?_
         intro A5 c5 w5 z5 hz5 own5 g5 r5
         have D5 : Below w4.heap.size w4 w5 := ((Below.refl _ _).alloc (Nat.le_refl _) _).grown g5 (by simp) (by intro k hk; simp [rowOf] at hk; omega)
         have B5 : Below w.heap.size w w5 := on B4 D5
         have L5 := Lib.hid (show z5.length = 0 + b.length by rw [hz5.out]; simp)
         have Z5 := B5.size)
      | (at_builtin
         refine wpList_append_ints rfl (.tmp 60) (.tmp 61) rfl w4.heap.size c5 A5 z5 own5 w.heap.size C cc c (HC.out.below B5) rfl rfl (by have := LB.out; have := LC.out; have := L5.out; omega) D5.size ?_
         intro A6 c6 w6 z6 hz6 own6 g6 r6
         have D6 : Below w4.heap.size w4 w6 := D5.grown g6 D5.size own5.ge
         have B6 : Below w.heap.size w w6 := on B4 D6
         have L6 := Lib.hid (show z6.length = z5.length + c.length by rw [hz6.out]; simp)))
    have HX : At w6 w6.heap.size A4 z4 := (own4.at_.below D6).more D6.size
    have HY := own6.at_
    have cxy := less_any z4 z6 A4 A6 c4 c6 w6.heap.size (by have := LA.out; have := LC.out; have := L3.out; have := L4.out; simp only [maxLen]; omega) (by have := LB.out; have := LC.out; have := L5.out; have := L6.out; simp only [maxLen]; omega) w6 HX HY
    have hv := F3.out
    have hz : lessL z4 z6 = lessL (a ++ c) (b ++ c) := by rw [hz4.out, hz3.out, hz6.out, hz5.out]; rfl
    rw [hz, hv] at cxy
    clear HX HY hv hz
    refine cxy.mono ?_
    rintro e w' ⟨rfl, rfl⟩
    clear cxy
    go_wp2_with fail
    refine (CAB.out _ (HA.out.below B6) (HB.out.below B6)).mono ?_
    rintro e w' ⟨rfl, rfl⟩
    go_wp2
    go_ret
    exact ⟨rfl, B6⟩

end Go.Proofs.Ytjajjadhnfhofaa.OrderLaw
