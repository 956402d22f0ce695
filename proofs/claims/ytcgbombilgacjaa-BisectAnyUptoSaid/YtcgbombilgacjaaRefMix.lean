/- The document's own Mix of a number. Conditions: none. -/
import Derived.Test.YtcgbombilgacjaaMixL
namespace Go.Proofs.Ytcgbombilgacjaa.Rng
open Go.RowKit

theorem mixR_any (x : Int) (w : World) :
    Calls Try.prog 7 #[.int .u64 x] w fun e w' => e = .returned (.int .u64 (mixI x)) ∧ w = w' := by
  go_enter Try.func7, Try.ntmps7
  go_wp2
  go_ret
  exact ⟨rfl, rfl⟩

theorem mixR_same (x : Int) (w : World) :
    Calls Try.prog 7 #[.int .u64 x] w fun e w' => e = .returned (.int .u64 (mixI x)) ∧ w' = w :=
  (mixR_any x w).mono fun _ _ ⟨h1, h2⟩ => ⟨h1, h2.symm⟩
end Go.Proofs.Ytcgbombilgacjaa.Rng
