/- The statements' function values that fail, as what Min asks; and what Min tells of those lists that are known (chapter 10). Conditions: the sizes. -/
import Derived.Test.YtcenekjkdnfhkaaFault
import Derived.Test.YtcenekjkdnfhkaaDd
namespace Go.Proofs.Ytcenekjkdnfhkaa.Dd
open Go.RowKit Rng Ints Lists Vals
set_option linter.unusedVariables false

theorem fault_fail (p : Nat) (how limit : Int) (N : Option Addr) (need : List Int) (nc B : Nat) (hn : need.length ≤ 4294967296) (hp : p + 1 + 1 < B) : FailF 14 (fcap p) B (faultP how need limit) (FtB p how N need nc limit) := by
  refine ⟨fun args w => rfl, fun w w' h hb => h.below hp hb, fun w A c l hI hB ho hl => ?_⟩
  refine (fault1_any p how limit N A need l nc c (by omega) hn w hI ho.at_).mono ?_
  rintro e w' ⟨rfl, rfl⟩
  exact ⟨rfl, World.grownBy.refl _ _⟩
/-- is 2 among them? -/
theorem two_fail (k B : Nat) (hent : ∀ args w, (callFunc k args).run Try.prog w = .ok (.enter k args) w) (h : ∀ (w : World) (A : Option Addr) (c : Nat) (l : List Int), At w w.heap.size A l → l.length ≤ maxLen → Calls Try.prog k #[.slice A l.length c] w fun e w' => e = .returned (.bool (l.contains 2)) ∧ w' = w) :
    FailF k #[] B (fun l => l.contains 2) (fun _ => True) := by
  refine ⟨hent, fun w w' _ _ => trivial, fun w A c l _ hB ho hl => ?_⟩
  refine (h w A c l ho.at_ (by simp only [maxLen]; omega)).mono ?_
  rintro e w' ⟨rfl, rfl⟩
  exact ⟨rfl, World.grownBy.refl _ _⟩
theorem two_minE : minE (fun l => l.contains 2) [1, 2] = 0 := by decide
theorem two_minV : minV (fun l => l.contains 2) [1, 2] = [2] := fact_two (min_ok two_minE)
/-- the list 1, 2 in a new block -/
theorem at_two (w : World) : At (w.alloc (.cells #[.int .i64 1, .int .i64 2] 3)) (w.alloc (.cells #[.int .i64 1, .int .i64 2] 3)).heap.size (some ⟨w.heap.size, 0, none⟩) [1, 2] := fun _ =>
  ⟨w.heap.size, 0, rfl, by simp, fun j hj => by
    have hj : j < 2 := hj
    have hh := heap_new2 w (.cells #[.int .i64 1, .int .i64 2] 3)
    obtain rfl | rfl : j = 0 ∨ j = 1 := by omega
    · rw [Lib.cell_of_heap hh]; rfl
    · rw [Lib.cell_of_heap hh]; rfl⟩
theorem two_told (k : Nat) (hent : ∀ args w, (callFunc k args).run Try.prog w = .ok (.enter k args) w) (h : ∀ (w : World) (A : Option Addr) (c : Nat) (l : List Int), At w w.heap.size A l → l.length ≤ maxLen → Calls Try.prog k #[.slice A l.length c] w fun e w' => e = .returned (.bool (l.contains 2)) ∧ w' = w) (w : World) :
    Calls Try.prog 5 #[.slice (some ⟨w.heap.size, 0, none⟩) 2 2, dfv k #[]] (w.alloc (.cells #[.int .i64 1, .int .i64 2] 3)) fun e w' => ∃ (g c : Nat), e = .returned (.tuple #[.slice (some ⟨g, 0, none⟩) 1 c, .nilIface]) ∧ w'.cell? ⟨g, 0, none⟩ = some (.int .i64 2) ∧ Below w.heap.size w w' := by
  have M := min_prog (lc := 2) _ (two_fail k (w.alloc (.cells #[.int .i64 1, .int .i64 2] 3)).heap.size hent h) trivial (at_two w) (by decide) (by decide)
  refine M.mono ?_
  rintro e w' ⟨A, c, rfl, ho, hb⟩
  rw [two_minE, errOf_ok]
  rw [two_minV] at ho ⊢
  obtain ⟨b, off, rfl, _, hc⟩ := ho.at_ (by decide)
  have hz : off = 0 := by
    rcases ho.2 with ⟨he, _⟩ | ⟨g, cap, cur, he, _⟩
    · cases he
    · injection he with he; injection he with he; injection he
  subst hz
  exact ⟨b, c, rfl, hc 0 (by decide), below_trans (belw w _) hb⟩
theorem two_told_at (k : Nat) (hent : ∀ args w, (callFunc k args).run Try.prog w = .ok (.enter k args) w) (h : ∀ (w : World) (A : Option Addr) (c : Nat) (l : List Int), At w w.heap.size A l → l.length ≤ maxLen → Calls Try.prog k #[.slice A l.length c] w fun e w' => e = .returned (.bool (l.contains 2)) ∧ w' = w) (w : World) (b : Nat) (hb : w.heap.size = b) :
    Calls Try.prog 5 #[.slice (some ⟨b, 0, none⟩) 2 2, dfv k #[]] (w.alloc (.cells #[.int .i64 1, .int .i64 2] 3)) fun e w' => ∃ (g c : Nat), e = .returned (.tuple #[.slice (some ⟨g, 0, none⟩) 1 c, .nilIface]) ∧ w'.cell? ⟨g, 0, none⟩ = some (.int .i64 2) ∧ Below w.heap.size w w' := by
  subst hb
  exact two_told k hent h w
end Go.Proofs.Ytcenekjkdnfhkaa.Dd
