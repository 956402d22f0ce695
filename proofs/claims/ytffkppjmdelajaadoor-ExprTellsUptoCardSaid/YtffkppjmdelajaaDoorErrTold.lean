/- The statements' own Error of an error and its own number; the sameness of one value in two places. Conditions: the size; the library's variable that errors.As reads. -/
import Derived.Test.YtffkppjmdelajaaDoorHandle
import Derived.Test.YtffkppjmdelajaaDoorErr
import Derived.Test.YtffkppjmdelajaaDoorSameVal
namespace Go.Proofs.YtffkppjmdelajaaDoor.Vals
open Go.RowKit Lists Ints
set_option linter.unusedVariables false
theorem err_ok (f : Int) (w : World) (h : Told.Handle w) : Calls Tryd.prog 13 #[errOf f, .int .i64 f] w fun e w' => e = .returned (.bool true) ∧ Below w.heap.size w w' := by
  by_cases hf : f = 0
  · subst hf
    refine (Told.error_nil 0 w).mono ?_
    rintro e w' ⟨rfl, hb⟩
    exact ⟨by simp, hb⟩
  · rw [errOf_no hf]
    refine (Told.error_errno f f w h).mono ?_
    rintro e w' ⟨rfl, hb⟩
    exact ⟨by simp, hb⟩
theorem same_one {n m : Nat} {t : Tr} {v v' : Value} {B : Nat} (w : World) (h : TAt w (Bel B) n v t) (h' : TAt w (Bel B) m v' t) (hB : B ≤ w.heap.size) (hs : t.size ≤ 4294967296) :
    Calls Tryd.prog 21 #[v, v'] w fun e w' => e = .returned (.bool true) ∧ Below w.heap.size w w' := by
  have := same_any n t t v v' B m w h h' hB hs hs
  rw [(sameV_iff t t).2 rfl] at this
  exact this
theorem TAt.bel_of {w w' : World} {n : Nat} {v : Value} {t : Tr} (h : TAt w' (fun b => w.heap.size ≤ b ∧ b < w'.heap.size) n v t) : TAt w' (Bel w'.heap.size) n v t := h.keep fun b hb => ⟨hb.2, fun _ => rfl⟩
end Go.Proofs.YtffkppjmdelajaaDoor.Vals
