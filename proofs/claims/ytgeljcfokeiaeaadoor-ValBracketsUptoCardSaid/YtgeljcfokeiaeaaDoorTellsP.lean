/- What the statements on values ask, each as one answer: of a value the document's fault and text; of a text the one value that has it, or none. Conditions: the size; the library's variables. -/
import Derived.Test.YtgeljcfokeiaeaaDoorSameP
import Derived.Test.YtgeljcfokeiaeaaDoorValOf
import Derived.Test.YtgeljcfokeiaeaaDoorFive
import Derived.Test.YtgeljcfokeiaeaaDoorHandle
namespace Go.Proofs.YtgeljcfokeiaeaaDoor.Vals
open Go.RowKit Lists Ints Build Ref Rng
set_option linter.unusedVariables false

section
variable {n : Nat} {t : Tr} {A : Option Addr} {c B : Nat}
theorem fault0 (w : World) (h : TAt w (Bel B) n (tv t A c) t) (hB : B ≤ w.heap.size) (hs : t.size ≤ 4294967296) :
    Calls Tryd.prog 9 #[tv t A c, .int .i64 0] w fun e w' => e = .returned (.int .i64 (faultV t 0)) ∧ Below w.heap.size w w' :=
  fault_any n t _ B 0 w h hB hs (by omega)
theorem reftext (w : World) (h : TAt w (Bel B) n (tv t A c) t) (hB : B ≤ w.heap.size) (hs : t.size ≤ 4294967296) :
    Calls Tryd.prog 16 #[tv t A c] w fun e w' => e = .returned (.string ⟨(textV t).toArray⟩) ∧ Below w.heap.size w w' :=
  (text_any n t _ B w h hB hs).mono fun e w' ⟨s, he, hx, hb⟩ => ⟨by rw [he, Go.WideShapes.bytes_inj (a := s) (b := ⟨(textV t).toArray⟩) (by simpa using hx)], hb⟩
end
theorem err_told (f : Int) (w : World) (h : Told.Handle w) : Calls Tryd.prog 10 #[errOf f, .int .i64 f] w fun e w' => e = .returned (.bool true) ∧ Below w.heap.size w w' := by
  by_cases hf : f = 0
  · subst hf
    refine (Told.error_nil 0 w).mono ?_
    rintro e w' ⟨rfl, hb⟩
    exact ⟨by simp, hb⟩
  · rw [errOf_no hf]
    refine (Told.error_errno f f w h).mono ?_
    rintro e w' ⟨rfl, hb⟩
    exact ⟨by simp, hb⟩
theorem err_nil (w : World) (h : Told.Handle w) : Calls Tryd.prog 10 #[.nilIface, .int .i64 0] w fun e w' => e = .returned (.bool true) ∧ Below w.heap.size w w' := err_told 0 w h
theorem err_3 (w : World) (h : Told.Handle w) : Calls Tryd.prog 10 #[.iface 26 (.int .i64 3), .int .i64 3] w fun e w' => e = .returned (.bool true) ∧ Below w.heap.size w w' := err_told 3 w h

/-- a reading that comes to the tree t -/
def Is (t : Tr) (yes : Value) (w : World) (e : Ending) (w' : World) : Prop :=
  ∃ (A : Option Addr) (c : Nat), e = .returned (.tuple #[tv t A c, yes]) ∧ TAt w' (New w w') 6 (tv t A c) t ∧ Below w.heap.size w w'
theorem ends_is {s : ByteArray} {yes no : Value} {w w' : World} {e : Ending} {t : Tr} (hg : Good 6 t) (ht : s.data.toList = textV t) (h : ParseEnds yes no s w e w') : Is t yes w e w' := by
  rcases h with ⟨t2, A, c, h1, h2, h3, h4, h5⟩ | ⟨hno, _, _⟩
  · have : t2 = t := text_inj h1.1 hg.1 (h2.symm.trans ht)
    subst this
    exact ⟨A, c, h3, h4, h5⟩
  · exact absurd ht (hno t hg)
theorem ends_not {s : ByteArray} {yes no : Value} {w w' : World} {e : Ending} (hn : ∀ t, Good 6 t → s.data.toList ≠ textV t) (h : ParseEnds yes no s w e w') : e = .returned (.tuple #[zeroV, no]) ∧ Below w.heap.size w w' := by
  rcases h with ⟨t2, A, c, h1, h2, _⟩ | ⟨_, h1, h2⟩
  · exact absurd h2 (hn t2 h1)
  · exact ⟨h1, h2⟩
theorem TAt.bel {w w' : World} {n : Nat} {v : Value} {t : Tr} (h : TAt w' (New w w') n v t) : TAt w' (Bel w'.heap.size) n v t := h.keep fun b hb => ⟨hb.2, fun _ => rfl⟩
theorem zero_at (w : World) (B : Nat) : TAt w (Bel B) 1 zeroV (.node false 0 []) := ⟨by decide, none, 0, rfl, fun hp => by simp [Tr.items] at hp⟩
theorem same_eq {n m : Nat} {t : Tr} {v v' : Value} {B : Nat} (w : World) (h : TAt w (Bel B) n v t) (h' : TAt w (Bel B) m v' t) (hB : B ≤ w.heap.size) (hs : t.size ≤ 4294967296) :
    Calls Tryd.prog 14 #[v, v'] w fun e w' => e = .returned (.bool true) ∧ Below w.heap.size w w' := by
  have := same_any n t t v v' B m w h h' hB hs hs
  rw [(sameV_iff t t).2 rfl] at this
  exact this
/-- two boxes of values, at every later world -/
theorem box2 {w : World} {t u : Tr} {A D : Option Addr} {c d : Nat} {w1 : World} (hb : Below ((w.alloc (tc t A c)).alloc (tc u D d)).heap.size ((w.alloc (tc t A c)).alloc (tc u D d)) w1) :
    (w1.cell? ⟨w.heap.size, 0, none⟩ = some (.bool t.list) ∧ w1.cell? ⟨w.heap.size, 1, none⟩ = some (.int .i64 t.num) ∧ w1.cell? ⟨w.heap.size, 2, none⟩ = some (.slice A t.items.length c)) ∧
    (w1.cell? ⟨w.heap.size + 1, 0, none⟩ = some (.bool u.list) ∧ w1.cell? ⟨w.heap.size + 1, 1, none⟩ = some (.int .i64 u.num) ∧ w1.cell? ⟨w.heap.size + 1, 2, none⟩ = some (.slice D u.items.length d)) := by
  refine ⟨box_facts w w1 _ _ _ (((Below.refl _ _).alloc (Nat.le_refl _) _).trans (hb.mono (by simp))), ?_⟩
  have h1 := box_facts (w.alloc (tc t A c)) w1 (.bool u.list) (.int .i64 u.num) (.slice D u.items.length d) hb
  simpa only [World.size_alloc] using h1
theorem below_box2 (w : World) (t u : Tr) (A D : Option Addr) (c d : Nat) : Below w.heap.size w ((w.alloc (tc t A c)).alloc (tc u D d)) := ((Below.refl _ _).alloc (Nat.le_refl _) _).alloc (by simp) _
end Go.Proofs.YtgeljcfokeiaeaaDoor.Vals
