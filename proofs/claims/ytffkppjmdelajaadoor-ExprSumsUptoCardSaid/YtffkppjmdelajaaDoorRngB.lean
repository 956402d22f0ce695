/- Contracts of package rng's Next and Below: what each call gives. Conditions: none. -/
import Derived.Test.YtffkppjmdelajaaDoorRows
import Derived.WalkKit
import Derived.Deep.RegionWith
import Derived.Lib.Hide
import Derived.IntWalk
import Derived.ProofKit
import Derived.OpenShut
import Derived.ShutString
import Derived.ChangeOld
import Derived.Below
import Derived.Lib.SmallJoins
namespace Go.Proofs.YtffkppjmdelajaaDoor.Rng
open Go.RowKit

def step1 (x : Int) : Int := IntKind.u64.wrap (bits BinOp.xor IntKind.u64 x (x / 1073741824) * 13787848793156543929)
def step2 (x : Int) : Int := IntKind.u64.wrap (bits BinOp.xor IntKind.u64 x (x / 134217728) * 10723151780598845931)
def step3 (x : Int) : Int := bits BinOp.xor IntKind.u64 x (x / 2147483648)
def mixI (x : Int) : Int := step3 (step2 (step1 x))
def plus (a g : Int) : Int := IntKind.u64.wrap (a + g)
def odd (g : Int) : Int := bits BinOp.or IntKind.u64 g 1
def u64of (n : Int) : Int := IntKind.u64.wrap n
def gold : Int := 11400714819323198485

theorem bcell {W w1 : World} (hb : Below W.heap.size W w1) : (∀ b o, b < W.heap.size → w1.cell? ⟨b, o, none⟩ = W.cell? ⟨b, o, none⟩) ∧ (∀ b o, b < W.heap.size → w1.frozen? ⟨b, o, none⟩ = W.frozen? ⟨b, o, none⟩) :=
  ⟨fun b o h => hb.cell (p := ⟨b, o, none⟩) h, fun b o h => hb.frozen (p := ⟨b, o, none⟩) h⟩

theorem mix_any (x : Int) (w : World) :
    Calls Tryd.prog 94 #[.int .u64 x] w fun e w' => e = .returned (.int .u64 (mixI x)) ∧ w = w' := by
  go_enter Tryd.func94, Tryd.ntmps94
  go_wp2
  go_ret
  exact ⟨rfl, rfl⟩

def nextW (a g : Int) (w : World) : World := ((w.alloc (.cells #[.int .u64 (plus a g), .int .u64 g] 28)).alloc (.cells #[.int .u64 (plus a g), .int .u64 g] 28)).drew

theorem next_exact (a g : Int) (w : World) :
    Calls Tryd.prog 78 #[.agg #[.int .u64 a, .int .u64 g]] w fun e w' => e = .returned (.tuple #[.int .u64 (mixI (plus a g)), .agg #[.int .u64 (plus a g), .int .u64 g]]) ∧ nextW a g w = w' := by
  go_enter Tryd.func78, Tryd.ntmps78
  go_wp2
  go_region_with (go_at_call 94; refine (mix_any _ _).mono ?_; rintro e w' ⟨rfl, rfl⟩)
  all_goals go_wp2
  all_goals exact bodyPost_ret (v := .tuple #[.int .u64 (mixI (plus a g)), .agg #[.int .u64 (plus a g), .int .u64 g]]) (by simp [results, Tryd.results78, go_sem, plus]) rfl ⟨rfl, rfl⟩

theorem next_any (a g : Int) (w : World) :
    Calls Tryd.prog 78 #[.agg #[.int .u64 a, .int .u64 g]] w fun e w' => e = .returned (.tuple #[.int .u64 (mixI (plus a g)), .agg #[.int .u64 (plus a g), .int .u64 g]]) ∧ Below w.heap.size w w' :=
  (next_exact a g w).mono fun _ _ ⟨h1, h2⟩ => ⟨h1, h2 ▸ (((Below.refl _ _).alloc (Nat.le_refl _) _).alloc (by simp) _).drew⟩

def belowI (a g n : Int) : Int := u64of (mixI (plus a g) / 4294967296 * n) / 4294967296
def belowK (a g n : Int) : Int := wrap64 (belowI a g n)

theorem below_err (a g n : Int) (h : n < 1 ∨ 2147483647 < n) (w : World) :
    Calls Tryd.prog 56 #[.agg #[.int .u64 a, .int .u64 g], .int .i64 n] w fun e w' => e = .returned (.tuple #[.int .i64 0, .agg #[.int .u64 0, .int .u64 0], .iface 30 (.int .i64 1)]) ∧ Below w.heap.size w w' := by
  rcases h with h | h
  · go_enter Tryd.func56, Tryd.ntmps56
    go_wp2
    exact bodyPost_ret (v := .tuple #[.int .i64 0, .agg #[.int .u64 0, .int .u64 0], .iface 30 (.int .i64 1)]) (by simp [results, Tryd.results56, go_sem]) rfl
      ⟨rfl, by repeat (first | exact Below.refl _ _ | refine Below.drew ?_ | refine Below.alloc ?_ (by simp <;> omega) _)⟩
  · have h' : ¬ n < 1 := by omega
    go_enter Tryd.func56, Tryd.ntmps56
    go_wp2
    exact bodyPost_ret (v := .tuple #[.int .i64 0, .agg #[.int .u64 0, .int .u64 0], .iface 30 (.int .i64 1)]) (by simp [results, Tryd.results56, go_sem]) rfl
      ⟨rfl, by repeat (first | exact Below.refl _ _ | refine Below.drew ?_ | refine Below.alloc ?_ (by simp <;> omega) _)⟩

theorem below_ok (a g n : Int) (h1 : 1 ≤ n) (h2 : n ≤ 2147483647) (w : World) :
    Calls Tryd.prog 56 #[.agg #[.int .u64 a, .int .u64 g], .int .i64 n] w fun e w' => e = .returned (.tuple #[.int .i64 (belowK a g n), .agg #[.int .u64 (plus a g), .int .u64 g], .nilIface]) ∧ Below w.heap.size w w' := by
  have h1' : ¬ n < 1 := by omega
  have h2' : ¬ 2147483647 < n := by omega
  go_enter Tryd.func56, Tryd.ntmps56
  go_wp2_with fail
  refine (next_exact _ _ _).mono ?_
  rintro e w1 ⟨rfl, rfl⟩
  unfold nextW
  go_wp2
  go_region
  all_goals go_wp2
  exact bodyPost_ret (v := .tuple #[.int .i64 (belowK a g n), .agg #[.int .u64 (plus a g), .int .u64 g], .nilIface]) (by simp [results, Tryd.results56, go_sem, belowK, belowI, u64of]) rfl
    ⟨rfl, by repeat (first | exact Below.refl _ _ | refine Below.drew ?_ | refine Below.alloc ?_ (by simp <;> omega) _)⟩

/-! Reading a seed that came in. -/
open Go.ChangeShapes Go.WideShapes Go.ChangeAt Go.Joins
def U64 (x : Int) : Prop := 0 ≤ x ∧ x < 18446744073709551616
theorem u64_of_wf {x : Int} (h : (Lit.int .u64 x).wf = true) : U64 x := by
  simp only [Lit.wf, IntKind.min, IntKind.max, IntKind.signed, IntKind.bits, Bool.and_eq_true] at h
  unfold U64
  simp at h
  omega
theorem i64_of_wf {x : Int} (h : (Lit.int .i64 x).wf = true) : -9223372036854775808 ≤ x ∧ x ≤ 9223372036854775807 := by
  simp only [Lit.wf, IntKind.min, IntKind.max, IntKind.signed, IntKind.bits, Bool.and_eq_true] at h
  simp at h
  omega

set_option maxRecDepth 100000 in
theorem open_seed {H : Type} {enc : TypeId × Value → H} {w : World} {base : Nat} {r : Reach} {b0 : Nat} {spare : Nat → Bool} {held : Bool} {v : Value} {d : DataW H} {ps : List MemPlace}
    (hval : Value.okWide Tryd.prog w r b0 28 v) (hd : DataW.Trod enc Tryd.prog w base spare held 28 v d ps) :
    ∃ a g : Int, v = .agg #[.int .u64 a, .int .u64 g] ∧ U64 a ∧ U64 g := by
  obtain ⟨c0, c1, y0, y1, m, rfl, _, _, hy0, hy1⟩ := open_agg2 Tryd.underlying28 (by kernel_rfl) (by kernel_rfl) hval hd
  obtain ⟨a, e0, rfl, wa⟩ := DataW.trod_int Tryd.underlying26 hy0
  obtain ⟨g, e1, rfl, wb⟩ := DataW.trod_int Tryd.underlying26 hy1
  simp at e0 e1
  subst e0 e1
  exact ⟨a, g, rfl, u64_of_wf wa, u64_of_wf wb⟩

end Go.Proofs.YtffkppjmdelajaaDoor.Rng
