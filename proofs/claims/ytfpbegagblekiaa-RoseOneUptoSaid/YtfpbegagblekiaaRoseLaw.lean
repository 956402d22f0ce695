/- The program's Less at a tape of its generator, as the statements want it. Conditions: the sizes. -/
import Derived.Test.YtfpbegagblekiaaRose
import Derived.Test.YtfpbegagblekiaaRoseLawL
namespace Go.Proofs.Ytfpbegagblekiaa.Gens
open Go.RowKit Lists Ints Vals
set_option linter.unusedVariables false

def RsOk (z : List (List Int)) (w : World) (e : Ending) (w' : World) : Prop := ∃ (A : Option Addr) (c : Nat), e = .returned (.tuple #[.slice A z.length c, .nilIface]) ∧ OwnRows w' w.heap.size A c z ∧ Below w.heap.size w w'
theorem rose_ok {n : Nat} {t : Gn} {v : Value} {L : Option Addr} {l : List Int} {lc : Nat} {z : List (List Int)} (w : World) (h : GAt w (GBel w.heap.size) n v t) (hat : At w w.heap.size L l) (hcap : l.length ≤ lc) (hl : l.length ≤ 4294967296) (hsz : t.size ≤ 4294967296) (hz : roseE t l = 0) (hv : roseL t l = z) :
    Calls Try.prog 8 #[v, .slice L l.length lc] w (RsOk z w) := by
  have e2 : roseV t l = z := by unfold roseV; rw [if_pos hz, hv]
  refine (rose_prog w h hat hcap hl hsz).mono ?_
  rintro e w' ⟨A, c, rfl, ho, hb⟩
  rw [e2] at ho ⊢
  rw [hz, errOf_ok]
  exact ⟨A, c, rfl, ho.weak, hb⟩
theorem roseE_mend {t : Gn} (h0 : genV t = 0) (l : List Int) : roseE t (mendL t l) = 0 := rep_mend0 h0 l
theorem mend_len {t : Gn} (h0 : genV t = 0) (l : List Int) : (mendL t l).length ≤ 1399680 := by
  obtain ⟨v, r, _, h⟩ := mend_run (t := t) l h0
  exact h
end Go.Proofs.Ytfpbegagblekiaa.Gens
