/- GenTells, part 11 of the proof: The program's Mend. Conditions: the sizes. · Contracts of package rng's Next and Below: what each call gives. Conditions: none. · Plain facts on numbers of 64 bits: what 'mix' is good for. No Go in sight. · The program's Draw: its closure as a source of choices; what Draw tells. Conditions: none but the generator's size. · What comes next in a draw: the greatest choice there. Without a program. · The document's MostOf along a draw. · Small laws on memory: what is laid behind a call's own blocks; a block that holds a seed. · The document's own answers on random numbers, as the statements write them: Mix, Step, BelowOf (for seats without SplitOf). Conditions: none. · Contract of the document's own DrawOf. Condition: the sizes. · The program's Replay: its closure as a source of choices, that may panic. Conditions: the size of the list. · The program's deferred closure in replay: a panic with an error's number is caught; else nothing. -/
import Derived.Test.YtffkppjmdelajaaDoorGenTellsZ9
import Derived.Test.YtffkppjmdelajaaDoorGenTellsZ10
import Derived.Test.YtffkppjmdelajaaDoorRows
import Derived.WalkKit
import Derived.Deep.RegionWith
import Derived.Lib.Hide
import Derived.IntWalk
import Derived.ProofKit
import Derived.OpenShut
import Derived.ShutString
import Derived.ChangeOld
import Derived.Below
import Derived.Lib.SmallJoins
import Derived.Test.YtffkppjmdelajaaDoorGenTellsZ6
import Derived.Deep.RegionHeld3
import Derived.StillTailTactics
import Derived.WalkSmall
import Derived.Tactics
import Derived.Tactics2
import Derived.Defers
import Derived.Recover
import Derived.Laws.Pointers
/- The program's Mend. Conditions: the sizes. -/
namespace Go.Proofs.YtffkppjmdelajaaDoor.Gens
open Go.RowKit Lists Ints Vals
set_option linter.unusedVariables false

/-- what Mend tells -/
def mendL (t : Gn) (l : List Int) : List Int := if genV t = 0 then (match play mendC t l with | .ok (c, _, _) => c | .error _ => []) else []
theorem mendL_of {t : Gn} {l c r : List Int} {v : Tr} (h0 : genV t = 0) (h : play mendC t l = .ok (c, v, r)) : mendL t l = c := by
  unfold mendL; rw [if_pos h0, h]
theorem mend_run {t : Gn} (l : List Int) (h0 : genV t = 0) : ∃ v r, play mendC t l = .ok (mendL t l, v, r) ∧ (mendL t l).length ≤ 1399680 := by
  obtain ⟨hr, hl⟩ := gen_right h0
  obtain ⟨c, v, r, h⟩ := mend_ex hr l
  refine ⟨v, r, ?_, ?_⟩
  · rw [mendL_of h0 h, h]
  · rw [mendL_of h0 h]
    exact Nat.le_trans (play_long mend_bounded t hr l c v r h) (small_long hl)
theorem small30 {t : Gn} (h0 : genV t = 0) : t.size ≤ 30 := small_size (gen_right h0).2

set_option maxHeartbeats 2000000 in
set_option maxRecDepth 100000 in
theorem mend_prog {n : Nat} {t : Gn} {v : Value} {L : Option Addr} {l : List Int} {lc : Nat} (w : World) (h : GAt w (GBel w.heap.size) n v t) (hat : At w w.heap.size L l) (hcap : l.length ≤ lc) (hl : l.length ≤ 4294967296) (hsz : t.size ≤ 4294967296) :
    Calls Tryd.prog 22 #[v, .slice L l.length lc] w fun e w' => ∃ (A' : Option Addr) (c' : Nat), e = .returned (.tuple #[.slice A' (mendL t l).length c', errOf (genV t)]) ∧ Own w' w.heap.size A' c' (mendL t l) ∧ Below w.heap.size w w' := by
  obtain ⟨m, A, c, e, hw, rfl, _⟩ := h.open_
  have b1 : Below w.heap.size w ((w.alloc (gc t A c)).alloc (.cells #[.slice L l.length lc] 25)) := ((Below.refl _ _).alloc (Nat.le_refl _) _).alloc (by simp) _
  have s1 : (w.alloc (gc t A c)).heap.size = w.heap.size + 1 := by simp
  have g1 : G4 w.heap.size (.int .i64 t.kind) (.int .i64 t.a) (.int .i64 t.b) (.slice A t.subs.length c) ((w.alloc (gc t A c)).alloc (.cells #[.slice L l.length lc] 25)) := (Below.heap_alloc _ _ _ (by omega)).trans (new_obj w _)
  have l1 : LB (w.heap.size + 1) L l.length lc ((w.alloc (gc t A c)).alloc (.cells #[.slice L l.length lc] 25)) := by
    have := new_obj (w.alloc (gc t A c)) (.cells #[.slice L l.length lc] 25)
    rw [s1] at this; exact this
  have z1 : ((w.alloc (gc t A c)).alloc (.cells #[.slice L l.length lc] 25)).heap.size = w.heap.size + 2 := by simp
  have C1 := gcheck _ (h.below b1) (by simp; omega) hsz
  have HB := Lib.hid (And.intro b1 (And.intro g1 (And.intro l1 z1)))
  have HT := Lib.hid (And.intro h (And.intro hat (And.intro hcap hl)))
  clear h hat hcap hl hsz e hw b1 s1 g1 l1 z1
  by_cases hz : genV t = 0
  · obtain ⟨v', r, hp, hlen⟩ := mend_run l hz
    have HR := Lib.hid (And.intro (gen_right hz).1 (And.intro (small30 hz) (And.intro hp hlen)))
    rw [hz, errOf_ok] at C1 ⊢
    have C1 := Lib.hid C1
    clear hz hp hlen
    generalize mendL t l = cs at HR ⊢
    go_enter Tryd.func22, Tryd.ntmps22
    go_wp2_with fail
    generalize (w.alloc (gc t A c)).alloc (.cells #[.slice L l.length lc] 25) = W1 at *
    refine C1.out.mono ?_
    rintro e w2 ⟨rfl, hb2⟩
    have B2 := Lib.hid (HB.out.1.trans (hb2.mono HB.out.1.size))
    obtain ⟨k0, k1, k2, k3⟩ := (HB.out.2.1.below hb2).facts
    have IS := Lib.hid (show IL w.heap.size (w.heap.size + 1) l (fun b => b = w.heap.size + 1) w2 from ⟨fun b => Iff.rfl, by omega, HT.out.2.2.2, B2.out.size, L, lc, (hb2.block _ HB.out.2.2.1.lt).trans HB.out.2.2.1, HT.out.2.1.below B2.out, HT.out.2.2.1⟩)
    have RC := record_ok (src_mend w.heap.size (w.heap.size + 1)) (HT.out.1.below B2.out) HR.out.1 HR.out.2.1 IS.out HR.out.2.2.1 (by have := HR.out.2.2.2; omega)
    have RC := Lib.hid RC
    clear hb2 C1
    go_wp2_with fail
    refine RC.out.mono ?_
    rintro e w3 ⟨A', c', X', rfl, hown, hmv⟩
    have HO := Lib.hid (own_less hown B2.out.size)
    have B3 := Lib.hid (B2.out.trans (Mv.below hmv (fun b hb => by show w.heap.size ≤ b; have : b = w.heap.size + 1 := hb; omega) B2.out.size))
    clear hown hmv RC
    go_wp2_with fail
    go_ret2
    exact ⟨A', c', rfl, HO.out, B3.out⟩
  · have RE := Lib.hid (errOf_no hz)
    have HL := Lib.hid (show mendL t l = [] by unfold mendL; rw [if_neg hz])
    rw [errOf_no hz] at C1
    generalize genV t = q at C1 RE
    have C1 := Lib.hid C1
    clear hz
    go_enter Tryd.func22, Tryd.ntmps22
    go_wp2_with fail
    generalize (w.alloc (gc t A c)).alloc (.cells #[.slice L l.length lc] 25) = W1 at *
    refine C1.out.mono ?_
    rintro e w2 ⟨rfl, hb2⟩
    have B2 := Lib.hid (HB.out.1.trans (hb2.mono HB.out.1.size))
    clear hb2
    go_wp2_with fail
    go_ret2
    exact ⟨none, 0, by rw [HL.out, RE.out]; rfl, by rw [HL.out]; exact Own.none, B2.out⟩
end Go.Proofs.YtffkppjmdelajaaDoor.Gens

/- Contracts of package rng's Next and Below: what each call gives. Conditions: none. -/
namespace Go.Proofs.YtffkppjmdelajaaDoor.Rng
open Go.RowKit

def step1 (x : Int) : Int := IntKind.u64.wrap (bits BinOp.xor IntKind.u64 x (x / 1073741824) * 13787848793156543929)
def step2 (x : Int) : Int := IntKind.u64.wrap (bits BinOp.xor IntKind.u64 x (x / 134217728) * 10723151780598845931)
def step3 (x : Int) : Int := bits BinOp.xor IntKind.u64 x (x / 2147483648)
def mixI (x : Int) : Int := step3 (step2 (step1 x))
def plus (a g : Int) : Int := IntKind.u64.wrap (a + g)
def odd (g : Int) : Int := bits BinOp.or IntKind.u64 g 1
def u64of (n : Int) : Int := IntKind.u64.wrap n
def gold : Int := 11400714819323198485

theorem bcell {W w1 : World} (hb : Below W.heap.size W w1) : (∀ b o, b < W.heap.size → w1.cell? ⟨b, o, none⟩ = W.cell? ⟨b, o, none⟩) ∧ (∀ b o, b < W.heap.size → w1.frozen? ⟨b, o, none⟩ = W.frozen? ⟨b, o, none⟩) :=
  ⟨fun b o h => hb.cell (p := ⟨b, o, none⟩) h, fun b o h => hb.frozen (p := ⟨b, o, none⟩) h⟩

theorem mix_any (x : Int) (w : World) :
    Calls Tryd.prog 94 #[.int .u64 x] w fun e w' => e = .returned (.int .u64 (mixI x)) ∧ w = w' := by
  go_enter Tryd.func94, Tryd.ntmps94
  go_wp2
  go_ret
  exact ⟨rfl, rfl⟩

def nextW (a g : Int) (w : World) : World := ((w.alloc (.cells #[.int .u64 (plus a g), .int .u64 g] 28)).alloc (.cells #[.int .u64 (plus a g), .int .u64 g] 28)).drew

theorem next_exact (a g : Int) (w : World) :
    Calls Tryd.prog 78 #[.agg #[.int .u64 a, .int .u64 g]] w fun e w' => e = .returned (.tuple #[.int .u64 (mixI (plus a g)), .agg #[.int .u64 (plus a g), .int .u64 g]]) ∧ nextW a g w = w' := by
  go_enter Tryd.func78, Tryd.ntmps78
  go_wp2
  go_region_with (go_at_call 94; refine (mix_any _ _).mono ?_; rintro e w' ⟨rfl, rfl⟩)
  all_goals go_wp2
  all_goals exact bodyPost_ret (v := .tuple #[.int .u64 (mixI (plus a g)), .agg #[.int .u64 (plus a g), .int .u64 g]]) (by simp [results, Tryd.results78, go_sem, plus]) rfl ⟨rfl, rfl⟩

theorem next_any (a g : Int) (w : World) :
    Calls Tryd.prog 78 #[.agg #[.int .u64 a, .int .u64 g]] w fun e w' => e = .returned (.tuple #[.int .u64 (mixI (plus a g)), .agg #[.int .u64 (plus a g), .int .u64 g]]) ∧ Below w.heap.size w w' :=
  (next_exact a g w).mono fun _ _ ⟨h1, h2⟩ => ⟨h1, h2 ▸ (((Below.refl _ _).alloc (Nat.le_refl _) _).alloc (by simp) _).drew⟩

def belowI (a g n : Int) : Int := u64of (mixI (plus a g) / 4294967296 * n) / 4294967296
def belowK (a g n : Int) : Int := wrap64 (belowI a g n)

theorem below_err (a g n : Int) (h : n < 1 ∨ 2147483647 < n) (w : World) :
    Calls Tryd.prog 56 #[.agg #[.int .u64 a, .int .u64 g], .int .i64 n] w fun e w' => e = .returned (.tuple #[.int .i64 0, .agg #[.int .u64 0, .int .u64 0], .iface 30 (.int .i64 1)]) ∧ Below w.heap.size w w' := by
  rcases h with h | h
  · go_enter Tryd.func56, Tryd.ntmps56
    go_wp2
    exact bodyPost_ret (v := .tuple #[.int .i64 0, .agg #[.int .u64 0, .int .u64 0], .iface 30 (.int .i64 1)]) (by simp [results, Tryd.results56, go_sem]) rfl
      ⟨rfl, by repeat (first | exact Below.refl _ _ | refine Below.drew ?_ | refine Below.alloc ?_ (by simp <;> omega) _)⟩
  · have h' : ¬ n < 1 := by omega
    go_enter Tryd.func56, Tryd.ntmps56
    go_wp2
    exact bodyPost_ret (v := .tuple #[.int .i64 0, .agg #[.int .u64 0, .int .u64 0], .iface 30 (.int .i64 1)]) (by simp [results, Tryd.results56, go_sem]) rfl
      ⟨rfl, by repeat (first | exact Below.refl _ _ | refine Below.drew ?_ | refine Below.alloc ?_ (by simp <;> omega) _)⟩

theorem below_ok (a g n : Int) (h1 : 1 ≤ n) (h2 : n ≤ 2147483647) (w : World) :
    Calls Tryd.prog 56 #[.agg #[.int .u64 a, .int .u64 g], .int .i64 n] w fun e w' => e = .returned (.tuple #[.int .i64 (belowK a g n), .agg #[.int .u64 (plus a g), .int .u64 g], .nilIface]) ∧ Below w.heap.size w w' := by
  have h1' : ¬ n < 1 := by omega
  have h2' : ¬ 2147483647 < n := by omega
  go_enter Tryd.func56, Tryd.ntmps56
  go_wp2_with fail
  refine (next_exact _ _ _).mono ?_
  rintro e w1 ⟨rfl, rfl⟩
  unfold nextW
  go_wp2
  go_region
  all_goals go_wp2
  exact bodyPost_ret (v := .tuple #[.int .i64 (belowK a g n), .agg #[.int .u64 (plus a g), .int .u64 g], .nilIface]) (by simp [results, Tryd.results56, go_sem, belowK, belowI, u64of]) rfl
    ⟨rfl, by repeat (first | exact Below.refl _ _ | refine Below.drew ?_ | refine Below.alloc ?_ (by simp <;> omega) _)⟩

/-! Reading a seed that came in. -/
open Go.ChangeShapes Go.WideShapes Go.ChangeAt Go.Joins
def U64 (x : Int) : Prop := 0 ≤ x ∧ x < 18446744073709551616
theorem u64_of_wf {x : Int} (h : (Lit.int .u64 x).wf = true) : U64 x := by
  simp only [Lit.wf, IntKind.min, IntKind.max, IntKind.signed, IntKind.bits, Bool.and_eq_true] at h
  unfold U64
  simp at h
  omega
theorem i64_of_wf {x : Int} (h : (Lit.int .i64 x).wf = true) : -9223372036854775808 ≤ x ∧ x ≤ 9223372036854775807 := by
  simp only [Lit.wf, IntKind.min, IntKind.max, IntKind.signed, IntKind.bits, Bool.and_eq_true] at h
  simp at h
  omega

set_option maxRecDepth 100000 in
theorem open_seed {H : Type} {enc : TypeId × Value → H} {w : World} {base : Nat} {r : Reach} {b0 : Nat} {spare : Nat → Bool} {held : Bool} {v : Value} {d : DataW H} {ps : List MemPlace}
    (hval : Value.okWide Tryd.prog w r b0 28 v) (hd : DataW.Trod enc Tryd.prog w base spare held 28 v d ps) :
    ∃ a g : Int, v = .agg #[.int .u64 a, .int .u64 g] ∧ U64 a ∧ U64 g := by
  obtain ⟨c0, c1, y0, y1, m, rfl, _, _, hy0, hy1⟩ := open_agg2 Tryd.underlying28 (by kernel_rfl) (by kernel_rfl) hval hd
  obtain ⟨a, e0, rfl, wa⟩ := DataW.trod_int Tryd.underlying26 hy0
  obtain ⟨g, e1, rfl, wb⟩ := DataW.trod_int Tryd.underlying26 hy1
  simp at e0 e1
  subst e0 e1
  exact ⟨a, g, rfl, u64_of_wf wa, u64_of_wf wb⟩

end Go.Proofs.YtffkppjmdelajaaDoor.Rng

/- Plain facts on numbers of 64 bits: what 'mix' is good for. No Go in sight. -/
namespace Go.Proofs.YtffkppjmdelajaaDoor.Rng
open Go.RowKit

theorem wrap_U64 (x : Int) : U64 (IntKind.u64.wrap x) := by rw [IntKind.wrap_u64]; unfold U64; omega
theorem plus_U64 (a g : Int) : U64 (plus a g) := wrap_U64 _
theorem mixI_U64 (x : Int) : U64 (mixI x) := wrap_U64 _

theorem mul_div_bounds (h n : Int) (h0 : 0 ≤ h) (h1 : h < 4294967296) (n1 : 1 ≤ n) : 0 ≤ h * n / 4294967296 ∧ h * n / 4294967296 < n := by
  have hp : 0 ≤ h * n := Int.mul_nonneg h0 (by omega)
  have hq : h * n < 4294967296 * n := Int.mul_lt_mul_of_pos_right h1 (by omega)
  omega
theorem mul_bound (h n : Int) (h0 : 0 ≤ h) (h1 : h < 4294967296) (n1 : 0 ≤ n) (n2 : n ≤ 2147483647) : 0 ≤ h * n ∧ h * n ≤ 4294967295 * 2147483647 := by
  have hp : 0 ≤ h * n := Int.mul_nonneg h0 (by omega)
  have hq : h * n ≤ 4294967295 * n := Int.mul_le_mul_of_nonneg_right (by omega) n1
  omega

theorem belowK_eq (a g n : Int) (h1 : 1 ≤ n) (h2 : n ≤ 2147483647) : belowK a g n = mixI (plus a g) / 4294967296 * n / 4294967296 := by
  have hm := mixI_U64 (plus a g)
  unfold belowK belowI u64of wrap64
  unfold U64 at hm
  rw [IntKind.wrap_u64]
  generalize mixI (plus a g) = x at *
  have hb := mul_bound (x / 4294967296) n (by omega) (by omega) (by omega) h2
  generalize x / 4294967296 * n = y at *
  omega

theorem belowK_bounds (a g n : Int) (h1 : 1 ≤ n) (h2 : n ≤ 2147483647) : 0 ≤ belowK a g n ∧ belowK a g n < n := by
  rw [belowK_eq a g n h1 h2]
  have hm := mixI_U64 (plus a g)
  unfold U64 at hm
  exact mul_div_bounds _ n (by omega) (by omega) h1

theorem belowK_mono (a g n m : Int) (h1 : 1 ≤ m) (h2 : m ≤ n) (h3 : n ≤ 2147483647) : belowK a g m ≤ belowK a g n := by
  rw [belowK_eq a g n (by omega) h3, belowK_eq a g m h1 (by omega)]
  have hm := mixI_U64 (plus a g)
  unfold U64 at hm
  have : mixI (plus a g) / 4294967296 * m ≤ mixI (plus a g) / 4294967296 * n := Int.mul_le_mul_of_nonneg_left h2 (by omega)
  exact Int.ediv_le_ediv (by omega) this

theorem xor_eq {x y : Nat} (h : x ^^^ y = 0) : x = y := by
  have : (x ^^^ y) ^^^ y = 0 ^^^ y := by rw [h]
  rw [Nat.xor_assoc, Nat.xor_self, Nat.xor_zero, Nat.zero_xor] at this
  exact this
theorem shift_inj (k : Nat) (hk : 1 ≤ k) (x y : Nat) (h : x ^^^ x / 2 ^ k = y ^^^ y / 2 ^ k) : x = y := by
  have h1 : (x ^^^ y) = (x ^^^ y) / 2 ^ k := by
    rw [Nat.xor_div_two_pow]
    have : (x ^^^ x / 2 ^ k) ^^^ (y ^^^ x / 2 ^ k) = (y ^^^ y / 2 ^ k) ^^^ (y ^^^ x / 2 ^ k) := by rw [h]
    have e1 : (x ^^^ x / 2 ^ k) ^^^ (y ^^^ x / 2 ^ k) = x ^^^ y := by
      rw [Nat.xor_comm y, Nat.xor_assoc, ← Nat.xor_assoc (x / 2 ^ k) (x / 2 ^ k), Nat.xor_self, Nat.zero_xor]
    have e2 : (y ^^^ y / 2 ^ k) ^^^ (y ^^^ x / 2 ^ k) = (x / 2 ^ k) ^^^ (y / 2 ^ k) := by
      rw [Nat.xor_comm y (y / 2 ^ k), Nat.xor_assoc, ← Nat.xor_assoc y y, Nat.xor_self, Nat.zero_xor, Nat.xor_comm]
    rw [e1, e2] at this
    exact this
  by_cases h0 : x ^^^ y = 0
  · exact xor_eq h0
  · have : (x ^^^ y) / 2 ^ k < x ^^^ y := Nat.div_lt_self (by omega) (Nat.one_lt_two_pow (by omega))
    omega
theorem mul_inj (c ci : Nat) (hc : c * ci % 18446744073709551616 = 1) (x y : Nat) (hx : x < 18446744073709551616) (hy : y < 18446744073709551616) (h : x * c % 18446744073709551616 = y * c % 18446744073709551616) : x = y := by
  have h2 : x * c * ci % 18446744073709551616 = y * c * ci % 18446744073709551616 := by
    rw [Nat.mul_mod, h, ← Nat.mul_mod]
  rw [Nat.mul_assoc, Nat.mul_assoc, Nat.mul_mod x, Nat.mul_mod y, hc, Nat.mul_one, Nat.mul_one, Nat.mod_mod, Nat.mod_mod, Nat.mod_eq_of_lt hx, Nat.mod_eq_of_lt hy] at h2
  exact h2

theorem step_inj (k s c ci : Nat) (hs : s = 2 ^ k) (hk : 1 ≤ k) (hc : c * ci % 18446744073709551616 = 1) (x y : Int) (hx : U64 x) (hy : U64 y)
    (h : IntKind.u64.wrap (bits BinOp.xor IntKind.u64 x (x / (s : Int)) * (c : Int)) = IntKind.u64.wrap (bits BinOp.xor IntKind.u64 y (y / (s : Int)) * (c : Int))) : x = y := by
  obtain ⟨X, rfl⟩ := Int.eq_ofNat_of_zero_le hx.1
  obtain ⟨Y, rfl⟩ := Int.eq_ofNat_of_zero_le hy.1
  have hX : X < 18446744073709551616 := by have := hx.2; omega
  have hY : Y < 18446744073709551616 := by have := hy.2; omega
  rw [mixStep_u64 X s c hX, mixStep_u64 Y s c hY] at h
  have h' : (X ^^^ X / s) * c % 18446744073709551616 = (Y ^^^ Y / s) * c % 18446744073709551616 := by exact_mod_cast h
  have lt : ∀ Z : Nat, Z < 18446744073709551616 → Z ^^^ Z / s < 18446744073709551616 := fun Z hZ => by
    have : Z ^^^ Z / s < 2 ^ 64 := Nat.xor_lt_two_pow (by omega) (Nat.lt_of_le_of_lt (Nat.div_le_self _ _) (by omega))
    omega
  have := mul_inj c ci hc _ _ (lt X hX) (lt Y hY) h'
  subst hs
  have e := shift_inj k hk X Y this
  subst e
  rfl
theorem step1_inj (x y : Int) (hx : U64 x) (hy : U64 y) (h : step1 x = step1 y) : x = y :=
  step_inj 30 1073741824 13787848793156543929 10871156337175269513 (by decide) (by decide) (by decide) x y hx hy h
theorem step2_inj (x y : Int) (hx : U64 x) (hy : U64 y) (h : step2 x = step2 y) : x = y :=
  step_inj 27 134217728 10723151780598845931 3573116690164977347 (by decide) (by decide) (by decide) x y hx hy h
theorem step3_inj (x y : Int) (hx : U64 x) (hy : U64 y) (h : step3 x = step3 y) : x = y := by
  obtain ⟨X, rfl⟩ := Int.eq_ofNat_of_zero_le hx.1
  obtain ⟨Y, rfl⟩ := Int.eq_ofNat_of_zero_le hy.1
  have hX : X < 18446744073709551616 := by have := hx.2; omega
  have hY : Y < 18446744073709551616 := by have := hy.2; omega
  have e1 : step3 (X : Int) = ((X ^^^ X / 2147483648 : Nat) : Int) := xorShift_u64 X 2147483648 hX
  have e2 : step3 (Y : Int) = ((Y ^^^ Y / 2147483648 : Nat) : Int) := xorShift_u64 Y 2147483648 hY
  rw [e1, e2] at h
  have e := shift_inj 31 (by decide) X Y (by exact_mod_cast h)
  subst e
  rfl
/-- MIX IS ONE TO ONE on numbers of 64 bits. -/
theorem mixI_inj (x y : Int) (hx : U64 x) (hy : U64 y) (h : mixI x = mixI y) : x = y :=
  step1_inj x y hx hy (step2_inj _ _ (wrap_U64 _) (wrap_U64 _) (step3_inj _ _ (wrap_U64 _) (wrap_U64 _) h))
theorem plus_inj (a b g : Int) (ha : U64 a) (hb : U64 b) (h : plus a g = plus b g) : a = b := by
  unfold plus at h; rw [IntKind.wrap_u64, IntKind.wrap_u64] at h
  unfold U64 at ha hb
  omega
theorem odd_odd (x : Int) (hx : U64 x) : odd x % 2 = 1 ∧ U64 (odd x) := by
  refine ⟨?_, wrap_U64 _⟩
  obtain ⟨X, rfl⟩ := Int.eq_ofNat_of_zero_le hx.1
  have hX : X < 18446744073709551616 := by have := hx.2; omega
  have e : odd (X : Int) = ((X ||| 1 : Nat) : Int) := by
    have := u64_or (X : Int) 1 (by omega) (by omega) (by omega) (by omega)
    exact this
  rw [e]
  have : (X ||| 1) % 2 = 1 := by simp [Nat.or_mod_two_eq_one]
  omega

/-- Behind so many steps. -/
def stepped (a g : Int) : Nat → Int
  | 0 => a
  | k + 1 => plus (stepped a g k) g
theorem stepped_eq (a g : Int) (ha : U64 a) : ∀ k : Nat, stepped a g k = (a + k * g) % 18446744073709551616
  | 0 => by unfold stepped; unfold U64 at ha; simp; omega
  | k + 1 => by
    unfold stepped plus
    rw [stepped_eq a g ha k, IntKind.wrap_u64, show ((k + 1 : Nat) : Int) * g = k * g + g by rw [Int.natCast_add, Int.add_mul]; simp]
    omega
theorem stepped_U64 (a g : Int) (ha : U64 a) : ∀ k : Nat, U64 (stepped a g k)
  | 0 => ha
  | _ + 1 => plus_U64 _ _
/-- AN ODD GAMMA COMES ROUND ONLY BEHIND ALL NUMBERS. -/
theorem stepped_ne (a g : Int) (ha : U64 a) (hg : U64 g) (ho : g % 2 = 1) (k : Nat) (h1 : 1 ≤ k) (h2 : k < 18446744073709551616) : stepped a g k ≠ a := by
  intro h
  rw [stepped_eq a g ha k] at h
  obtain ⟨G, rfl⟩ := Int.eq_ofNat_of_zero_le hg.1
  have hd : (18446744073709551616 : Int) ∣ ((k * G : Nat) : Int) := by
    unfold U64 at ha
    refine Int.dvd_of_emod_eq_zero ?_
    have : ((k * G : Nat) : Int) = (k : Int) * (G : Int) := by simp
    rw [this]
    omega
  have hn : 18446744073709551616 ∣ k * G := Int.natCast_dvd_natCast.mp (show ((18446744073709551616 : Nat) : Int) ∣ ((k * G : Nat) : Int) from hd)
  have hc : Nat.Coprime (2 ^ 64) G := Nat.Coprime.pow_left 64 (by
    have : G % 2 = 1 := by omega
    rw [Nat.coprime_iff_gcd_eq_one, Nat.gcd_rec, this]; rfl)
  have hd2 : 2 ^ 64 ∣ k := Nat.Coprime.dvd_of_dvd_mul_right hc (m := k) (show 2 ^ 64 ∣ k * G from hn)
  have := Nat.le_of_dvd (by omega) hd2
  omega
end Go.Proofs.YtffkppjmdelajaaDoor.Rng

/- The program's Draw: its closure as a source of choices; what Draw tells. Conditions: none but the generator's size. -/
namespace Go.Proofs.YtffkppjmdelajaaDoor.Gens
open Go.RowKit Lists Ints Vals Rng
set_option linter.unusedVariables false

/-- a random choice -/
def drawC (s : Int × Int) (m : Int) : Except Int (Int × (Int × Int)) := if m ≤ 1000 then .ok (belowK s.1 s.2 (m + 1), (plus s.1 s.2, s.2)) else .ok (0, s)
theorem draw_bounded : Bounded drawC := by
  intro s m x s' h0 h
  unfold drawC at h
  split at h
  · simp only [Except.ok.injEq, Prod.mk.injEq] at h
    have := belowK_bounds s.1 s.2 (m + 1) (by omega) (by omega)
    omega
  · simp only [Except.ok.injEq, Prod.mk.injEq] at h
    omega
theorem draw_total : Total drawC := fun s m _ => by unfold drawC; split <;> exact ⟨_, _, rfl⟩
/-- the box of a seed -/
def SB (p : Nat) (s : Int × Int) (w : World) : Prop := w.heap[p]? = some (.cells #[.int .u64 s.1, .int .u64 s.2] 28 (0, 0))
theorem SB.facts {p : Nat} {s : Int × Int} {w : World} (h : SB p s w) : w.cell? ⟨p, 0, none⟩ = some (.int .u64 s.1) ∧ w.cell? ⟨p, 1, none⟩ = some (.int .u64 s.2) ∧ w.frozen? ⟨p, 0, none⟩ = false ∧ w.frozen? ⟨p, 1, none⟩ = false :=
  ⟨by rw [Lib.cell_of_heap h]; rfl, by rw [Lib.cell_of_heap h]; rfl, Lib.frozen_of_heap h 0, Lib.frozen_of_heap h 1⟩
theorem SB.lt {p : Nat} {s : Int × Int} {w : World} (h : SB p s w) : p < w.heap.size := (Array.getElem?_eq_some_iff.1 h).1
theorem SB.put {p : Nat} {s : Int × Int} {w : World} (h : SB p s w) (a g : Int) : SB p (a, g) ((w.setCell ⟨p, 0, none⟩ (.int .u64 a)).setCell ⟨p, 1, none⟩ (.int .u64 g)) := by
  unfold SB at h ⊢
  simp [World.setCell, Array.getElem?_modify, h]
def IS (B p : Nat) (s : Int × Int) (X : Nat → Prop) (w : World) : Prop := (∀ b, X b ↔ b = p) ∧ B ≤ p ∧ B ≤ w.heap.size ∧ SB p s w

set_option maxHeartbeats 1000000 in
set_option maxRecDepth 100000 in
theorem src_draw (B p : Nat) : Src drawC 55 #[.pointer (some ⟨p, 0, none⟩)] B (IS B p) := by
  refine ⟨fun s X w w' h hk hs => ?_, fun s X w h => ?_, draw_bounded, fun args w => ?_, fun s X w m h0 h1 hI _ => ?_⟩
  · obtain ⟨h1, h2, h3, h4⟩ := h
    exact ⟨h1, h2, Nat.le_trans h3 hs, (hk p (.inr ((h1 p).2 rfl))).trans h4⟩
  · obtain ⟨h1, h2, h3, h4⟩ := h
    exact ⟨h3, fun b hb => by rw [h1] at hb; subst hb; exact ⟨h2, h4.lt⟩⟩
  · rfl
  · obtain ⟨a, g⟩ := s
    obtain ⟨hX, hBp, hBw, hbox⟩ := hI
    have HX := Lib.hid hX
    have HBX := Lib.hid hbox
    obtain ⟨f0, f1, _, _⟩ := hbox.facts
    simp only at f0 f1
    have CB := Lib.hid (below_ok a g (m + 1) (by omega) (by omega) w)
    have HR := Lib.hid (show drawC (a, g) m = .ok (belowK a g (m + 1), (plus a g, g)) by unfold drawC; rw [if_pos h1])
    clear hX hbox
    show Calls Tryd.prog 55 #[.int .i64 m, .pointer (some ⟨p, 0, none⟩)] w _
    go_enter Tryd.func55, Tryd.ntmps55
    go_wp2_with fail
    refine CB.out.mono ?_
    rintro e w1 ⟨rfl, hb⟩
    have HB1 := Lib.hid (show SB p (a, g) w1 from (hb.block p HBX.out.lt).trans HBX.out)
    have BB := Lib.hid hb
    clear hb CB f0 f1
    obtain ⟨f0, f1, z0, z1⟩ := HB1.out.facts
    simp only at f0 f1
    generalize belowK a g (m + 1) = x at *
    go_wp2_with fail
    go_ret
    show SPost _ (drawC (a, g) m) _ _ _ _
    rw [HR.out]
    refine ⟨rfl, X, ⟨HX.out, hBp, by have := BB.out.size; simp [World.setCell]; omega, HB1.out.put _ _⟩, ?_⟩
    refine ⟨BB.out.os, BB.out.tape, BB.out.output, by have := BB.out.size; simp [World.setCell]; omega, fun b hb hx => ?_, fun b hb => .inl hb⟩
    have hne : b ≠ p := fun e => hx ((HX.out b).2 e)
    exact (Below.heap_setCell _ ⟨p, 1, none⟩ _ b hne).trans ((Below.heap_setCell _ ⟨p, 0, none⟩ _ b hne).trans (BB.out.block b hb))

/-- what Draw tells -/
def drawL (t : Gn) (s : Int × Int) : List Int := if genV t = 0 then (match play drawC t s with | .ok (c, _, _) => c | .error _ => []) else []
theorem draw_run {t : Gn} (s : Int × Int) (h0 : genV t = 0) : ∃ v r, play drawC t s = .ok (drawL t s, v, r) ∧ (drawL t s).length ≤ 1399680 := by
  obtain ⟨hr, hl⟩ := gen_right h0
  obtain ⟨c, v, r, h⟩ := play_total draw_total t hr s
  have e : drawL t s = c := by unfold drawL; rw [if_pos h0, h]
  exact ⟨v, r, by rw [e, h], by rw [e]; exact Nat.le_trans (play_long draw_bounded t hr s c v r h) (small_long hl)⟩

set_option maxHeartbeats 2000000 in
set_option maxRecDepth 100000 in
theorem draw_prog {n : Nat} {t : Gn} {v : Value} {a g : Int} (w : World) (h : GAt w (GBel w.heap.size) n v t) (hsz : t.size ≤ 4294967296) :
    Calls Tryd.prog 24 #[v, .agg #[.int .u64 a, .int .u64 g]] w fun e w' => ∃ (A' : Option Addr) (c' : Nat), e = .returned (.tuple #[.slice A' (drawL t (a, g)).length c', errOf (genV t)]) ∧ Own w' w.heap.size A' c' (drawL t (a, g)) ∧ Below w.heap.size w w' := by
  obtain ⟨m, A, c, e, hw, rfl, _⟩ := h.open_
  have b1 : Below w.heap.size w ((w.alloc (gc t A c)).alloc (.cells #[.int .u64 a, .int .u64 g] 28)) := ((Below.refl _ _).alloc (Nat.le_refl _) _).alloc (by simp) _
  have s1 : (w.alloc (gc t A c)).heap.size = w.heap.size + 1 := by simp
  have g1 : G4 w.heap.size (.int .i64 t.kind) (.int .i64 t.a) (.int .i64 t.b) (.slice A t.subs.length c) ((w.alloc (gc t A c)).alloc (.cells #[.int .u64 a, .int .u64 g] 28)) := (Below.heap_alloc _ _ _ (by omega)).trans (new_obj w _)
  have l1 : SB (w.heap.size + 1) (a, g) ((w.alloc (gc t A c)).alloc (.cells #[.int .u64 a, .int .u64 g] 28)) := by
    have := new_obj (w.alloc (gc t A c)) (.cells #[.int .u64 a, .int .u64 g] 28)
    rw [s1] at this; exact this
  have z1 : ((w.alloc (gc t A c)).alloc (.cells #[.int .u64 a, .int .u64 g] 28)).heap.size = w.heap.size + 2 := by simp
  have C1 := gcheck _ (h.below b1) (by simp; omega) hsz
  have HB := Lib.hid (And.intro b1 (And.intro g1 (And.intro l1 z1)))
  have HT := Lib.hid h
  clear h hsz e hw b1 s1 g1 l1 z1
  by_cases hz : genV t = 0
  · obtain ⟨v', r, hp, hlen⟩ := draw_run (a, g) hz
    have HR := Lib.hid (And.intro (gen_right hz).1 (And.intro (small30 hz) (And.intro hp hlen)))
    rw [hz, errOf_ok] at C1 ⊢
    have C1 := Lib.hid C1
    clear hz hp hlen
    generalize drawL t (a, g) = cs at HR ⊢
    go_enter Tryd.func24, Tryd.ntmps24
    go_wp2_with fail
    generalize (w.alloc (gc t A c)).alloc (.cells #[.int .u64 a, .int .u64 g] 28) = W1 at *
    refine C1.out.mono ?_
    rintro e w2 ⟨rfl, hb2⟩
    have B2 := Lib.hid (HB.out.1.trans (hb2.mono HB.out.1.size))
    obtain ⟨k0, k1, k2, k3⟩ := (HB.out.2.1.below hb2).facts
    have IS0 := Lib.hid (show IS w.heap.size (w.heap.size + 1) (a, g) (fun b => b = w.heap.size + 1) w2 from ⟨fun b => Iff.rfl, by omega, B2.out.size, (hb2.block _ HB.out.2.2.1.lt).trans HB.out.2.2.1⟩)
    have RC := record_ok (src_draw w.heap.size (w.heap.size + 1)) (HT.out.below B2.out) HR.out.1 HR.out.2.1 IS0.out HR.out.2.2.1 (by have := HR.out.2.2.2; omega)
    have RC := Lib.hid RC
    clear hb2 C1
    go_wp2_with fail
    refine RC.out.mono ?_
    rintro e w3 ⟨A', c', X', rfl, hown, hmv⟩
    have HO := Lib.hid (own_less hown B2.out.size)
    have B3 := Lib.hid (B2.out.trans (Mv.below hmv (fun b hb => by show w.heap.size ≤ b; have : b = w.heap.size + 1 := hb; omega) B2.out.size))
    clear hown hmv RC
    go_wp2_with fail
    go_ret2
    exact ⟨A', c', rfl, HO.out, B3.out⟩
  · have RE := Lib.hid (errOf_no hz)
    have HL := Lib.hid (show drawL t (a, g) = [] by unfold drawL; rw [if_neg hz])
    rw [errOf_no hz] at C1
    generalize genV t = q at C1 RE
    have C1 := Lib.hid C1
    clear hz
    go_enter Tryd.func24, Tryd.ntmps24
    go_wp2_with fail
    generalize (w.alloc (gc t A c)).alloc (.cells #[.int .u64 a, .int .u64 g] 28) = W1 at *
    refine C1.out.mono ?_
    rintro e w2 ⟨rfl, hb2⟩
    have B2 := Lib.hid (HB.out.1.trans (hb2.mono HB.out.1.size))
    clear hb2
    go_wp2_with fail
    go_ret2
    exact ⟨none, 0, by rw [HL.out, RE.out]; rfl, by rw [HL.out]; exact Own.none, B2.out⟩
end Go.Proofs.YtffkppjmdelajaaDoor.Gens

/- What comes next in a draw: the greatest choice there. Without a program. -/
namespace Go.Proofs.YtffkppjmdelajaaDoor.Gens
open Go.RowKit Lists Ints Vals Rng
set_option linter.unusedVariables false

/-- the seed after so many choices -/
def adv : Nat → Int × Int → Int × Int
  | 0, s => s
  | n + 1, s => adv n (plus s.1 s.2, s.2)
theorem adv_add : ∀ (m n : Nat) (s : Int × Int), adv (m + n) s = adv n (adv m s)
  | 0, n, s => by rw [Nat.zero_add]; rfl
  | m + 1, n, s => by rw [Nat.succ_add]; exact adv_add m n _
theorem mend_top {m : Int} (h0 : 0 ≤ m) (h1 : m ≤ 1000) (r : List Int) : mendC (1001 :: r) m = .ok (m, r) := by
  unfold mendC mendX
  have e : max 0 (min 1001 m) = m := by omega
  rw [List.tail_cons]
  exact congrArg (fun z => Except.ok (z, r)) e
theorem draw_eq {s s1 : Int × Int} {m x : Int} (h1 : m ≤ 1000) (h : drawC s m = .ok (x, s1)) : x = belowK s.1 s.2 (m + 1) ∧ s1 = adv 1 s := by
  unfold drawC at h
  rw [if_pos h1] at h
  simp only [Except.ok.injEq, Prod.mk.injEq] at h
  exact ⟨h.1.symm, h.2.symm⟩
/-- of each place: the choice is of the greatest that a mended tape has there -/
def NxC {α : Type} (f : List Int → Except Int (List Int × α × List Int)) (s : Int × Int) (c : List Int) : Prop :=
  ∀ i, i < c.length → ∀ r, ∃ m c' v' r', 0 ≤ m ∧ m ≤ 1000 ∧ c.getD i 0 = belowK (adv i s).1 (adv i s).2 (m + 1) ∧ f (c.take i ++ 1001 :: r) = .ok (c.take i ++ m :: c', v', r')
theorem NxC.nil {α : Type} {f : List Int → Except Int (List Int × α × List Int)} {s : Int × Int} : NxC f s [] := fun i h => by simp at h
theorem NxC.cons {α β : Type} {f : List Int → Except Int (List Int × α × List Int)} {F : List Int → Except Int (List Int × β × List Int)} {s : Int × Int} {x m : Int} {c : List Int}
    (hm0 : 0 ≤ m) (hm1 : m ≤ 1000) (hx : x = belowK s.1 s.2 (m + 1)) (h0 : ∀ r, ∃ c' v' r', f (1001 :: r) = .ok (m :: c', v', r'))
    (h1 : ∀ z c' v' r', F z = .ok (c', v', r') → ∃ v2, f (x :: z) = .ok (x :: c', v2, r')) (hF : NxC F (adv 1 s) c) : NxC f s (x :: c) := by
  intro i hi r
  cases i with
  | zero =>
    obtain ⟨c', v', r', h⟩ := h0 r
    exact ⟨m, c', v', r', hm0, hm1, hx, h⟩
  | succ i =>
    obtain ⟨m2, c', v', r', q0, q1, q2, q3⟩ := hF i (by simpa using hi) r
    obtain ⟨v2, h⟩ := h1 _ _ _ _ q3
    exact ⟨m2, c', v2, r', q0, q1, q2, h⟩
def NxM (g : Gn) (s : Int × Int) (c : List Int) (v : Tr) (s' : Int × Int) : Prop :=
  g.size ≤ 30 → Right g ∧ s' = adv c.length s ∧ (∀ r, play mendC g (c ++ r) = .ok (c, v, r)) ∧ NxC (play mendC g) s c
def NxL (l : List Gn) (s : Int × Int) (c : List Int) (vs : List Tr) (s' : Int × Int) : Prop :=
  (∀ g ∈ l, g.size ≤ 30) → (∀ g ∈ l, Right g) ∧ s' = adv c.length s ∧ (∀ r, playAll mendC l (c ++ r) = .ok (c, vs, r)) ∧ NxC (playAll mendC l) s c
theorem nx_cons (g : Gn) (l : List Gn) (s : Int × Int) (c : List Int) (v : Tr) (s1 : Int × Int) (c2 : List Int) (vs : List Tr) (s2 : Int × Int) (h1 : NxM g s c v s1) (h2 : NxL l s1 c2 vs s2) : NxL (g :: l) s (c ++ c2) (v :: vs) s2 := by
  intro hz
  obtain ⟨a1, a2, a3, a4⟩ := h1 (hz g (by simp))
  obtain ⟨b1, b2, b3, b4⟩ := h2 (fun x hx => hz x (by simp [hx]))
  refine ⟨fun x hx => ?_, ?_, fun r => ?_, fun i hi r => ?_⟩
  · rcases List.mem_cons.1 hx with rfl | hx
    · exact a1
    · exact b1 x hx
  · rw [List.length_append, adv_add, ← a2]; exact b2
  · rw [List.append_assoc, playAll, a3]
    simp only [b3]
  · by_cases hlt : i < c.length
    · obtain ⟨m, c', v', r', q0, q1, q2, q3⟩ := a4 i hlt r
      obtain ⟨c3, vs3, r3, h3⟩ := all_total mend_total l b1 r'
      refine ⟨m, c' ++ c3, v' :: vs3, r3, q0, q1, ?_, ?_⟩
      · rw [← q2, List.getD, List.getD, List.getElem?_append_left hlt]
      · rw [List.take_append_of_le_length (by omega), playAll, q3]
        simp only [h3, List.append_assoc, List.cons_append]
    · obtain ⟨m, c', v', r', q0, q1, q2, q3⟩ := b4 (i - c.length) (by rw [List.length_append] at hi; omega) r
      refine ⟨m, c', v :: v', r', q0, q1, ?_, ?_⟩
      · have e : adv i s = adv (i - c.length) s1 := by rw [a2, ← adv_add]; congr 1; omega
        rw [e, ← q2, List.getD, List.getD, List.getElem?_append_right (by omega)]
      · have e : (c ++ c2).take i = c ++ c2.take (i - c.length) := by rw [List.take_append, List.take_of_length_le (by omega)]
        rw [e, List.append_assoc, playAll, a3]
        simp only [q3, List.append_assoc]
theorem draw_ind : Ind drawC NxM NxL where
  just := fun a b subs s hr hz => ⟨hr, rfl, fun r => by simp [play], NxC.nil⟩
  int := fun a b subs s x s1 hr hx0 hx1 h hz => by
    obtain ⟨m0, m1⟩ := (right_max hr).1 rfl
    obtain ⟨e1, e2⟩ := draw_eq m1 h
    refine ⟨hr, e2, fun r => ?_, NxC.cons (F := fun z => .ok ([], (), z)) m0 m1 e1 (fun r => ⟨[], _, r, by simp [play, mend_top m0 m1]; rfl⟩) (fun z c' v' r' hz => ?_) NxC.nil⟩
    · simp [play, mend_reads x _ r hx0 hx1]
    · simp only [Except.ok.injEq, Prod.mk.injEq] at hz
      obtain ⟨rfl, _, rfl⟩ := hz
      exact ⟨_, by simp [play, mend_reads x _ z hx0 hx1]; rfl⟩
  any := fun a b subs s x s1 c v s2 hlt hr hx0 h hM hz => by
    have m0 := (right_max hr).2.1 rfl
    have hsz : 1 + gsizes subs ≤ 30 := hz
    have m1 : (subs.length : Int) - 1 ≤ 1000 := by have := glen_sizes subs; omega
    obtain ⟨e1, e2⟩ := draw_eq m1 h
    have hmem := List.getElem_mem hlt
    obtain ⟨a1, a2, a3, a4⟩ := hM (by have := gsize_mem subs _ hmem; omega)
    have hx1 : x ≤ (subs.length : Int) - 1 := by omega
    refine ⟨hr, ?_, fun r => ?_, NxC.cons (F := play mendC (subs[x.toNat]'hlt)) m0 m1 e1 (fun r => ?_) (fun z c' v' r' hz => ?_) (by rw [← e2]; exact a4)⟩
    · rw [a2, e2]; rfl
    · simp [play, mend_reads x _ (c ++ r) hx0 hx1, at_get subs _ _ hlt, a3]
    · have hl2 : subs.length - 1 < subs.length := by omega
      have el : ((subs.length : Int) - 1).toNat = subs.length - 1 := by omega
      obtain ⟨c', v', r', h4⟩ := play_total mend_total (subs[subs.length - 1]'hl2) (hr.subs _ (List.getElem_mem hl2)) r
      exact ⟨c', v', r', by simp [play, mend_top m0 m1, el, at_get subs _ _ hl2, h4]⟩
    · exact ⟨v', by simp [play, mend_reads x _ z hx0 hx1, at_get subs _ _ hlt, hz]⟩
  both := fun a b subs s c vs s1 hr hL hz => by
    have hsz : 1 + gsizes subs ≤ 30 := hz
    obtain ⟨a1, a2, a3, a4⟩ := hL (fun x hx => by have := gsize_mem subs x hx; omega)
    refine ⟨hr, a2, fun r => by simp [play, a3], fun i hi r => ?_⟩
    obtain ⟨m, c', v', r', q0, q1, q2, q3⟩ := a4 i hi r
    exact ⟨m, c', .node true 0 v', r', q0, q1, q2, by simp [play, q3]⟩
  many := fun a b g s x s1 c vs s2 hr hx0 hx1 ha5 h hL hz => by
    obtain ⟨m0, _, _⟩ := (right_max hr).2.2.1 rfl
    have m1 : a ≤ 1000 := by omega
    have hsz : 1 + (g.size + 0) ≤ 30 := by simpa [Gn.size, gsizes] using hz
    obtain ⟨e1, e2⟩ := draw_eq m1 h
    have hrg : Right g := hr.subs g (by simp [Gn.subs])
    obtain ⟨a1, a2, a3, a4⟩ := hL (fun x hx => by rw [List.eq_of_mem_replicate hx]; omega)
    refine ⟨hr, ?_, fun r => ?_, NxC.cons (F := playAll mendC (List.replicate x.toNat g)) m0 m1 e1 (fun r => ?_) (fun z c' v' r' hz => ?_) (by rw [← e2]; exact a4)⟩
    · rw [a2, e2]; rfl
    · simp [play, mend_reads x _ (c ++ r) hx0 hx1, rep_all', a3]
    · obtain ⟨c', v', r', h4⟩ := all_total mend_total (List.replicate a.toNat g) (fun y hy => by rw [List.eq_of_mem_replicate hy]; exact hrg) r
      exact ⟨c', .node true 0 v', r', by simp [play, mend_top m0 m1, rep_all', h4]⟩
    · exact ⟨.node true 0 v', by simp [play, mend_reads x _ z hx0 hx1, rep_all', hz]⟩
  nil := fun s hz => ⟨fun g hg => by simp at hg, rfl, fun r => by simp [playAll], NxC.nil⟩
  cons := fun g r s c v s1 c2 vs s2 h1 h2 => nx_cons g r s c v s1 c2 vs s2 h1 h2
/-- what a draw has, place by place -/
theorem draw_next {g : Gn} (hr : Right g) (hz : g.size ≤ 30) {s s' : Int × Int} {c : List Int} {v : Tr} (h : play drawC g s = .ok (c, v, s')) :
    s' = adv c.length s ∧ (∀ r, play mendC g (c ++ r) = .ok (c, v, r)) ∧ NxC (play mendC g) s c :=
  (play_ind draw_bounded draw_ind g hr s c v s' h hz).2
end Go.Proofs.YtffkppjmdelajaaDoor.Gens

/- The document's MostOf along a draw. -/
namespace Go.Proofs.YtffkppjmdelajaaDoor.Gens
open Go.RowKit Lists Ints Vals Rng
set_option linter.unusedVariables false

theorem most_at {g : Gn} {s : Int × Int} {c : List Int} (h : NxC (play mendC g) s c) (i : Nat) (hi : i < c.length) :
    ∃ m : Int, 0 ≤ m ∧ m ≤ 1000 ∧ mostG g (c.take i) i = m ∧ c.getD i 0 = belowK (adv i s).1 (adv i s).2 (m + 1) := by
  obtain ⟨m, c', v', r', q0, q1, q2, q3⟩ := h i hi []
  refine ⟨m, q0, q1, ?_, q2⟩
  have ht : (c.take i).take i = c.take i := by rw [List.take_take, Nat.min_self]
  have hl : (c.take i).length = i := by rw [List.length_take]; omega
  unfold mostG
  rw [ht, q3]
  have hn : ¬ (c.take i ++ m :: c').length ≤ i := by rw [List.length_append, hl, List.length_cons]; omega
  simp only [if_neg hn]
  rw [List.getD, List.getElem?_append_right (by omega), hl, Nat.sub_self]
  rfl
theorem most_end {g : Gn} {c : List Int} {v : Tr} (h : ∀ r, play mendC g (c ++ r) = .ok (c, v, r)) : mostG g c c.length = -1 := by
  unfold mostG
  rw [List.take_length, h]
  simp
end Go.Proofs.YtffkppjmdelajaaDoor.Gens

/- Small laws on memory: what is laid behind a call's own blocks; a block that holds a seed. -/
namespace Go.Proofs.YtffkppjmdelajaaDoor.Rng
open Go.RowKit

theorem ret_bool {b : Bool} (h : b = true) : Ending.returned (.bool b) = .returned (.bool true) := by rw [h]
theorem after {w w1 : World} {o : Obj} (h : Below (w.alloc o).heap.size (w.alloc o) w1) : Below w.heap.size w w1 :=
  Below.trans ((Below.refl _ _).alloc (Nat.le_refl _) _) (h.mono (by simp))
theorem on {a b c : World} (h : Below a.heap.size a b) (k : Below b.heap.size b c) : Below a.heap.size a c := h.trans (k.mono h.size)
/-- Block b holds a seed, and may be written. -/
structure InT (b : Nat) (x y : Int) (w : World) : Prop where
  c0 : w.cell? ⟨b, 0, none⟩ = some (.int .u64 x)
  c1 : w.cell? ⟨b, 1, none⟩ = some (.int .u64 y)
  f0 : w.frozen? ⟨b, 0, none⟩ = false
  f1 : w.frozen? ⟨b, 1, none⟩ = false
  lt : b < w.heap.size

theorem InT.below {b : Nat} {x y : Int} {w w' : World} (h : InT b x y w) (hb : Below w.heap.size w w') : InT b x y w' :=
  ⟨(hb.cell (p := ⟨b, 0, none⟩) h.lt).trans h.c0, (hb.cell (p := ⟨b, 1, none⟩) h.lt).trans h.c1, (hb.frozen (p := ⟨b, 0, none⟩) h.lt).trans h.f0, (hb.frozen (p := ⟨b, 1, none⟩) h.lt).trans h.f1, Nat.lt_of_lt_of_le h.lt hb.size⟩
theorem InT.set {b : Nat} {x y : Int} {w : World} (h : InT b x y w) (x' y' : Int) (o : Obj) : InT b x' y' (((w.setCell ⟨b, 0, none⟩ (.int .u64 x')).setCell ⟨b, 1, none⟩ (.int .u64 y')).alloc o) := by
  have ne : (⟨b, 0, none⟩ : Addr) ≠ ⟨b, 1, none⟩ := by simp
  have lt := h.lt
  have k0 : (w.setCell ⟨b, 0, none⟩ (.int .u64 x')).cell? ⟨b, 0, none⟩ = some (.int .u64 x') := World.cell?_setCell_same w _ _ h.c0
  have k1 : (w.setCell ⟨b, 0, none⟩ (.int .u64 x')).cell? ⟨b, 1, none⟩ = some (.int .u64 y) := (World.cell?_setCell_other w _ _ _ ne).trans h.c1
  have q0 : ((w.setCell ⟨b, 0, none⟩ (.int .u64 x')).setCell ⟨b, 1, none⟩ (.int .u64 y')).cell? ⟨b, 0, none⟩ = some (.int .u64 x') := (World.cell?_setCell_other _ _ _ _ ne.symm).trans k0
  have q1 : ((w.setCell ⟨b, 0, none⟩ (.int .u64 x')).setCell ⟨b, 1, none⟩ (.int .u64 y')).cell? ⟨b, 1, none⟩ = some (.int .u64 y') := World.cell?_setCell_same _ _ _ k1
  have z : ((w.setCell ⟨b, 0, none⟩ (.int .u64 x')).setCell ⟨b, 1, none⟩ (.int .u64 y')).heap.size = w.heap.size := by simp [World.setCell]
  have bl : Below ((w.setCell ⟨b, 0, none⟩ (.int .u64 x')).setCell ⟨b, 1, none⟩ (.int .u64 y')).heap.size ((w.setCell ⟨b, 0, none⟩ (.int .u64 x')).setCell ⟨b, 1, none⟩ (.int .u64 y')) (((w.setCell ⟨b, 0, none⟩ (.int .u64 x')).setCell ⟨b, 1, none⟩ (.int .u64 y')).alloc o) := (Below.refl _ _).alloc (Nat.le_refl _) _
  exact InT.below ⟨q0, q1, by simp [h.f0], by simp [h.f1], by rw [z]; exact lt⟩ bl

theorem InT.fresh {w : World} {b T : Nat} (x y : Int) (h : w.heap.size = b) : InT b x y (w.alloc (.cells #[.int .u64 x, .int .u64 y] T)) := by
  subst h
  exact ⟨by simp, by simp, by simp, by simp, by simp⟩
theorem InT.alloc {b : Nat} {x y : Int} {w : World} (h : InT b x y w) (o : Obj) : InT b x y (w.alloc o) := h.below ((Below.refl _ _).alloc (Nat.le_refl _) _)
theorem InT.belowB {B b : Nat} {x y : Int} {w w' : World} (h : InT b x y w) (hb : Below B w w') (hB : b < B) : InT b x y w' :=
  ⟨(hb.cell (p := ⟨b, 0, none⟩) hB).trans h.c0, (hb.cell (p := ⟨b, 1, none⟩) hB).trans h.c1, (hb.frozen (p := ⟨b, 0, none⟩) hB).trans h.f0, (hb.frozen (p := ⟨b, 1, none⟩) hB).trans h.f1, Nat.lt_of_lt_of_le h.lt hb.size⟩
theorem InT.set0 {b : Nat} {x y : Int} {w : World} (h : InT b x y w) (x' y' : Int) : InT b x' y' ((w.setCell ⟨b, 0, none⟩ (.int .u64 x')).setCell ⟨b, 1, none⟩ (.int .u64 y')) := by
  have ne : (⟨b, 0, none⟩ : Addr) ≠ ⟨b, 1, none⟩ := by simp
  have k0 : (w.setCell ⟨b, 0, none⟩ (.int .u64 x')).cell? ⟨b, 0, none⟩ = some (.int .u64 x') := World.cell?_setCell_same w _ _ h.c0
  have k1 : (w.setCell ⟨b, 0, none⟩ (.int .u64 x')).cell? ⟨b, 1, none⟩ = some (.int .u64 y) := (World.cell?_setCell_other w _ _ _ ne).trans h.c1
  exact ⟨(World.cell?_setCell_other _ _ _ _ ne.symm).trans k0, World.cell?_setCell_same _ _ _ k1, by simp [h.f0], by simp [h.f1], by have := h.lt; simpa [World.setCell] using this⟩
end Go.Proofs.YtffkppjmdelajaaDoor.Rng

/- The document's own answers on random numbers, as the statements write them: Mix, Step, BelowOf (for seats without SplitOf). Conditions: none. -/
namespace Go.Proofs.YtffkppjmdelajaaDoor.Rng
open Go.RowKit

theorem mixR_any (x : Int) (w : World) :
    Calls Tryd.prog 72 #[.int .u64 x] w fun e w' => e = .returned (.int .u64 (mixI x)) ∧ w = w' := by
  go_enter Tryd.func72, Tryd.ntmps72
  go_wp2
  go_ret
  exact ⟨rfl, rfl⟩

theorem mixR_same (x : Int) (w : World) :
    Calls Tryd.prog 72 #[.int .u64 x] w fun e w' => e = .returned (.int .u64 (mixI x)) ∧ w' = w :=
  (mixR_any x w).mono fun _ _ ⟨h1, h2⟩ => ⟨h1, h2.symm⟩

def stepW (a g : Int) (w : World) : World := (w.alloc (.cells #[.int .u64 a, .int .u64 g] 28)).alloc (.cells #[.int .u64 (plus a g), .int .u64 g] 28)
theorem step_exact (a g : Int) (w : World) :
    Calls Tryd.prog 50 #[.agg #[.int .u64 a, .int .u64 g]] w fun e w' => e = .returned (.agg #[.int .u64 (plus a g), .int .u64 g]) ∧ stepW a g w = w' := by
  go_enter Tryd.func50, Tryd.ntmps50
  go_wp2
  exact bodyPost_ret (v := .agg #[.int .u64 (plus a g), .int .u64 g]) (by simp [results, Tryd.results50, go_sem, plus]) rfl ⟨rfl, rfl⟩
theorem step_any (a g : Int) (w : World) :
    Calls Tryd.prog 50 #[.agg #[.int .u64 a, .int .u64 g]] w fun e w' => e = .returned (.agg #[.int .u64 (plus a g), .int .u64 g]) ∧ Below w.heap.size w w' :=
  (step_exact a g w).mono fun _ _ ⟨h1, h2⟩ => ⟨h1, h2 ▸ ((Below.refl _ _).alloc (Nat.le_refl _) _).alloc (by simp) _⟩

theorem field0 (x y : Int) (w : World) : (Instr.field 28 (.agg #[.int .u64 x, .int .u64 y]) 0).run Tryd.prog w = .ok (.int .u64 x) w := by kernel_rfl
theorem seedEq (x y : Int) (w : World) : (binOp .eql 28 (.agg #[.int .u64 x, .int .u64 y]) (.agg #[.int .u64 x, .int .u64 y])).run Tryd.prog w = .ok (.bool true) w := by simp [go_sem]
theorem belowR_any (a g n : Int) (h1 : 1 ≤ n) (h2 : n ≤ 2147483647) (w : World) :
    Calls Tryd.prog 49 #[.agg #[.int .u64 a, .int .u64 g], .int .i64 n] w fun e w' => e = .returned (.int .i64 (belowK a g n)) ∧ Below w.heap.size w w' := by
  have hf0 := field0
  go_enter Tryd.func49, Tryd.ntmps49
  go_wp2_with fail
  refine (step_any _ _ _).mono ?_
  rintro e w1 ⟨rfl, hb⟩
  go_wp2_with fail
  refine (mixR_any _ _).mono ?_
  rintro e w2 ⟨rfl, rfl⟩
  go_wp2
  go_ret
  exact ⟨rfl, after hb⟩
end Go.Proofs.YtffkppjmdelajaaDoor.Rng

/- Contract of the document's own DrawOf. Condition: the sizes. -/
namespace Go.Proofs.YtffkppjmdelajaaDoor.Gens
open Go.RowKit Lists Ints Vals Rng
set_option linter.unusedVariables false

theorem own_cap {w : World} {base c : Nat} {A : Option Addr} {z : List Int} (h : Own w base A c z) : z.length ≤ c := by
  rcases h.2 with ⟨he, h0⟩ | ⟨g, cap, cur, he, _, _, h1, _⟩
  · omega
  · have e : c = cap := by injection he
    omega
set_option maxHeartbeats 400000 in
set_option maxRecDepth 100000 in
theorem drawof_any (n : Nat) (g : Gn) (A : Option Addr) (c B : Nat) (a gm : Int) (w : World) (hg : GAt w (GBel B) n (gv g A c) g) (hr : Right g) (hs : g.size ≤ 30) (hB : B ≤ w.heap.size)
    (hq : longG g ≤ 4294967294) {cs : List Int} {v : Tr} {s' : Int × Int} (h : play drawC g (a, gm) = .ok (cs, v, s')) :
    Calls Tryd.prog 18 #[gv g A c, .agg #[.int .u64 a, .int .u64 gm]] w fun e w' => ∃ (L : Option Addr) (lc : Nat), e = .returned (.slice L cs.length lc) ∧ Own w' (w.heap.size + 2) L lc cs ∧ Below w.heap.size w w' := by
  obtain ⟨_, d2, d3⟩ := draw_next hr hs h
  have hlen := play_long draw_bounded g hr _ _ _ _ h
  have ME := Lib.hid (most_end d2)
  have MA := Lib.hid (fun i hi => most_at d3 i hi)
  have LN := Lib.hid (show cs.length ≤ 4294967294 by omega)
  have MO := Lib.hid (fun (w1 : World) (b1 : Below w.heap.size w w1) (l : List Int) (L : Option Addr) (lc : Nat) (ho : At w1 w1.heap.size L l) (hl : l.length ≤ 4294967295) (hc : l.length ≤ lc) =>
    mostof_any plays_all n g A c l L lc l.length w1.heap.size w1 ((hg.below (b1.mono hB)).more (Nat.le_trans hB b1.size)) hr (by omega) ho (Nat.le_refl _) (by omega) hl (Nat.le_refl _) hc)
  have H0 := Lib.hid (show Below w.heap.size w ((w.alloc (gc g A c)).alloc (.cells #[.int .u64 a, .int .u64 gm] 28)) from bel2 w _ _ (Nat.le_refl _))
  have G0 := Lib.hid (show G4 w.heap.size (.int .i64 g.kind) (.int .i64 g.a) (.int .i64 g.b) (.slice A g.subs.length c) ((w.alloc (gc g A c)).alloc (.cells #[.int .u64 a, .int .u64 gm] 28)) from new12 w _ _)
  have S0 := Lib.hid (show SB (w.heap.size + 1) (a, gm) ((w.alloc (gc g A c)).alloc (.cells #[.int .u64 a, .int .u64 gm] 28)) from new22 w _ _)
  clear h d2 d3 hg hr hs hB hq hlen
  go_enter Tryd.func18, Tryd.ntmps18
  go_wp2_with fail
  go_loopw [5] (fun s wr => ∃ (i : Nat) (L : Option Addr) (lc : Nat), i ≤ cs.length ∧ s = .slice L i lc ∧ Hid (Own wr (w.heap.size + 2) L lc (cs.take i)) ∧ Hid (SB (w.heap.size + 1) (adv i (a, gm)) wr) ∧ Hid (Below w.heap.size w wr) ∧ Hid (G4 w.heap.size (.int .i64 g.kind) (.int .i64 g.a) (.int .i64 g.b) (.slice A g.subs.length c) wr) ∧ Hid (w.heap.size + 2 ≤ wr.heap.size)) (fun s _ => cs.length - (match s with | .slice _ n _ => n | _ => 0))
  case atStart => exact ⟨0, none, 0, Nat.zero_le _, rfl, Own.none, S0.out, H0.out, G0.out, (show _ ≤ _ by simp)⟩
  case round =>
    obtain ⟨i, L, lc, hi, rfl, HO, HS, HW, HG, HZ⟩ := hrel
    have LT : (cs.take i).length = i := by rw [List.length_take]; omega
    have M1 := MO.out wr HW.out (cs.take i) L lc HO.out.at_ (by have := LN.out; omega) (own_cap HO.out)
    rw [LT] at M1
    obtain ⟨k0, k1, k2, k3⟩ := HG.out.facts
    by_cases hlt : i < cs.length
    · obtain ⟨m, m0, m1, hm, hx⟩ := MA.out i hlt
      have M2 := Lib.hid (fun (w1 : World) (b1 : Below wr.heap.size wr w1) => MO.out w1 (HW.out.trans (b1.mono HW.out.size)) (cs.take i) L lc (HO.out.below b1).at_ (by have := LN.out; omega) (own_cap HO.out))
      rw [LT, hm] at M2
      rw [hm] at M1
      have M1 := Lib.hid M1
      have HX := Lib.hid (And.intro hm hx)
      have LTH := Lib.hid LT
      clear hm hx LT
      go_wp2_with fail
      refine M1.out.mono ?_
      rintro e w1 ⟨rfl, b1⟩
      have B1 := Lib.hid b1
      clear b1 k0 k1 k2 k3
      obtain ⟨k0, k1, k2, k3⟩ := (HG.out.below B1.out).facts
      have gm0 : decide (m ≥ 0) = true := decide_eq_true m0
      have gm1 : m ≥ 0 := m0
      go_wp2_with fail
      refine (M2.out w1 B1.out).mono ?_
      rintro e w2 ⟨rfl, b2⟩
      have B2 := Lib.hid (Ints.on B1.out b2)
      clear b2 k0 k1 k2 k3
      have S2 : Hid (SB _ _ w2) := (B2.out.block _ HS.out.lt).trans HS.out
      obtain ⟨s0, s1, f0, f1⟩ := S2.out.facts
      go_wp2_with fail
      refine (belowR_any _ _ (m + 1) (by omega) (by omega) w2).mono ?_
      rintro e w3 ⟨rfl, b3⟩
      have B3 := Lib.hid (Ints.on B2.out b3)
      clear b3 s0 s1 f0 f1
      obtain ⟨y, hy⟩ : ∃ y, y = cs.getD i 0 := ⟨_, rfl⟩
      rw [← HX.out.2, ← hy]
      have HY := Lib.hid hy
      clear hy
      have ZA := Lib.hid (show (w3.alloc (.cells #[.int .i64 y] 3)).heap.size = w3.heap.size + 1 by simp)
      have O3 := Lib.hid (HO.out.below B3.out)
      have Z3 := Lib.hid (Nat.le_trans HZ.out B3.out.size)
      have LI : i + 1 ≤ 17592186044416 := by have := LN.out; omega
      go_wp2_with (
        at_builtin
        go_loud (
          refine wpList_append_ints rfl (.tmp 19) (.tmp 23) rfl (w.heap.size + 2) lc L (cs.take i) (O3.out.below (bel1 _ _)) (w3.heap.size + 1) (some ⟨w3.heap.size, 0, none⟩) 1 [y]
            (lone_at w3.heap.size _ _ (by simp)) (by rw [LTH.out]; rfl) rfl (by rw [LTH.out]; exact LI) (by have := Z3.out; have := ZA.out; omega) ?_
          intro A4 c4 w4 z4 hz4 own4 g4 r4
          have Z4 := Lib.hid (show z4 = cs.take (i + 1) by rw [hz4.out, HY.out, List.take_add_one, List.getD, List.getElem?_eq_getElem hlt]; rfl)
          have LZ := Lib.hid (show z4.length = i + 1 by rw [Z4.out, List.length_take]; omega)
          have K4 := Lib.hid (show Below wr.heap.size wr w4 ∨ True from .inr trivial)
          have N3 := bel1 w3 (.cells #[.int .i64 y] 3)
          have R4 : ∀ q, q < w.heap.size + 2 → w4.heap[q]? = wr.heap[q]? := fun q hq => by
            have h1 := Z3.out
            have h2 := HZ.out
            exact (g4.block q (by have := ZA.out; omega) (fun e => by have := O3.out.ge q e.symm; omega)).trans ((N3.block q (by omega)).trans (B3.out.block q (by omega)))
          have S4 : Hid (SB (w.heap.size + 1) (adv i (a, gm)) w4) := (R4 _ (by omega)).trans HS.out
          have G4' : Hid (G4 w.heap.size (.int .i64 g.kind) (.int .i64 g.a) (.int .i64 g.b) (.slice A g.subs.length c) w4) := (R4 _ (by omega)).trans HG.out
          have W4 := Lib.hid (((HW.out.trans (B3.out.mono HW.out.size)).trans (N3.mono (Nat.le_trans HW.out.size B3.out.size))).grown g4 (by have := Z3.out; have := ZA.out; omega) (fun q e => by have := O3.out.ge q e; omega))
          have O4 := Lib.hid own4
          have ZZ := Lib.hid (show w.heap.size + 2 ≤ w4.heap.size by have := g4.size; have := Z3.out; have := ZA.out; omega)
          clear own4 g4 r4 N3 R4 hz4
          obtain ⟨s0, s1, f0, f1⟩ := S4.out.facts))
      refine (step_any _ _ w4).mono ?_
      rintro e w5 ⟨rfl, b5⟩
      have B5 := Lib.hid b5
      clear b5 s0 s1 f0 f1
      have S5 : Hid (SB (w.heap.size + 1) (adv i (a, gm)) w5) := (B5.out.block _ S4.out.lt).trans S4.out
      obtain ⟨s0, s1, f0, f1⟩ := S5.out.facts
      have GR : ∀ (x y : Value), w5.grownBy ((w5.setCell ⟨w.heap.size + 1, 0, none⟩ x).setCell ⟨w.heap.size + 1, 1, none⟩ y) (some (w.heap.size + 1)) := fun x y => gr_set (gr_set (gr_refl _ w5) 0 x) 1 y
      have GR := Lib.hid GR
      go_wp2_with fail
      go_roundw
      case rel =>
        have h5 := B5.out.size
        refine ⟨i + 1, A4, c4, by omega, by rw [LZ.out], ?_, ?_, (W4.out.trans (B5.out.mono W4.out.size)).grown (GR.out _ _) (Nat.le_trans W4.out.size B5.out.size) (fun q e => by have e := Option.some.inj e; omega), ?_, ?_⟩
        · rw [← Z4.out]
          exact (O4.out.below B5.out).grown (GR.out _ _) (fun q e e2 => by have h := O4.out.ge q e; have e2 := Option.some.inj e2; omega)
        · rw [adv_add]
          exact S5.out.put _ _
        · have hl := G4'.out.lt
          exact ((GR.out _ _).block w.heap.size (by omega) (fun e => by have e := Option.some.inj e; omega)).trans ((B5.out.block w.heap.size hl).trans G4'.out)
        · have := (GR.out (.int .u64 (plus (adv i (a, gm)).1 (adv i (a, gm)).2)) (.int .u64 (adv i (a, gm)).2)).size
          have := ZZ.out
          show w.heap.size + 2 ≤ _
          omega
      case measure =>
        have := LZ.out
        simp only []
        omega
    · have hie : i = cs.length := by omega
      subst hie
      have hmm : mostG g (cs.take cs.length) cs.length = -1 := by rw [List.take_length]; exact ME.out
      rw [hmm] at M1
      have M1 := Lib.hid M1
      have LTH := Lib.hid LT
      clear LT hmm
      have gq : decide ((-1 : Int) ≥ 0) = false := by decide
      go_wp2_with fail
      refine M1.out.mono ?_
      rintro e w1 ⟨rfl, b1⟩
      have B1 := Lib.hid b1
      clear b1 k0 k1 k2 k3
      go_wp2_with fail
      go_ret
      have OE := HO.out.below B1.out
      rw [List.take_length] at OE
      exact ⟨L, lc, rfl, OE, HW.out.trans (B1.out.mono HW.out.size)⟩
end Go.Proofs.YtffkppjmdelajaaDoor.Gens

/- The program's Replay: its closure as a source of choices, that may panic. Conditions: the size of the list. -/
namespace Go.Proofs.YtffkppjmdelajaaDoor.Gens
open Go.RowKit Lists Ints Vals
set_option linter.unusedVariables false

set_option maxHeartbeats 1000000 in
set_option maxRecDepth 100000 in
theorem src_read (B p : Nat) : Src readC 75 #[.pointer (some ⟨p, 0, none⟩)] B (IL B p) := by
  refine ⟨fun s X w w' h hk hs => h.keep hk hs, fun s X w h => h.lt, read_bounded, fun args w => ?_, fun s X w m h0 h1 hI _ => ?_⟩
  · rfl
  · have HI := Lib.hid hI
    obtain ⟨hX, hBp, hsl, hBw, A, c, hbox, hat, hcap⟩ := hI
    have f0 := hbox.cell
    have f1 := hbox.free
    have HX := Lib.hid hX
    have HAT := Lib.hid hat
    have HBX := Lib.hid hbox
    have hp := hbox.lt
    clear hat hbox hX
    show Calls Tryd.prog 75 #[.int .i64 m, .pointer (some ⟨p, 0, none⟩)] w _
    cases s with
    | nil =>
      simp only [List.length_nil] at f0 hcap hsl
      go_enter Tryd.func75, Tryd.ntmps75
      go_wp2_with fail
      exact ⟨rfl, rfl, X, Mv.refl X w⟩
    | cons x r =>
      obtain ⟨b, off, rfl, hb, hc⟩ := HAT.out (by simp)
      have c0 : w.cell? ⟨b, off, none⟩ = some (.int .i64 x) := hc 0 (by simp)
      clear hc
      have g0 : (((r.length : Int) + 1) == 0) = false := by rw [beq_eq_false_iff_ne]; omega
      simp only [List.length_cons] at f0 hcap hsl
      by_cases hx0 : x < 0
      · have HR := Lib.hid (show readC (x :: r) m = .error 1 by unfold readC; simp only []; rw [if_neg (by omega)])
        have g1 : decide (x < 0) = true := by rw [decide_eq_true_eq]; exact hx0
        go_enter Tryd.func75, Tryd.ntmps75
        go_wp2_with fail
        refine ⟨rfl, ?_⟩
        show SPost _ (readC (x :: r) m) _ _ _ _
        rw [HR.out]
        exact ⟨rfl, X, Mv.refl X w⟩
      · have g1 : decide (x < 0) = false := by rw [decide_eq_false_iff_not]; exact hx0
        by_cases hxm : m < x
        · have HR := Lib.hid (show readC (x :: r) m = .error 1 by unfold readC; simp only []; rw [if_neg (by omega)])
          have g2 : decide (m < x) = true := by rw [decide_eq_true_eq]; exact hxm
          go_enter Tryd.func75, Tryd.ntmps75
          go_wp2_with fail
          refine ⟨rfl, ?_⟩
          show SPost _ (readC (x :: r) m) _ _ _ _
          rw [HR.out]
          exact ⟨rfl, X, Mv.refl X w⟩
        · have g2 : decide (m < x) = false := by rw [decide_eq_false_iff_not]; exact hxm
          have HR := Lib.hid (show readC (x :: r) m = .ok (x, r) by unfold readC; simp only []; rw [if_pos (by omega)])
          by_cases hc1 : c = 1
          · obtain rfl : r = [] := List.eq_nil_of_length_eq_zero (by omega)
            have ST := Lib.hid (IL.step (A' := some ⟨b, off, none⟩) (c' := 0) HX.out hBp hsl hBw HBX.out (r := []) At.nil (by simp))
            subst hc1
            simp only [List.length_nil] at f0
            go_enter Tryd.func75, Tryd.ntmps75
            go_wp2_with fail
            go_ret
            show SPost _ (readC [x] m) _ _ _ _
            rw [HR.out]
            exact ⟨rfl, X, ST.out.1, ST.out.2⟩
          · have ST := Lib.hid (IL.step (A' := some ⟨b, off + 1, none⟩) (c' := c - 1) HX.out hBp hsl hBw HBX.out (r := r) (At.tail HAT.out) (by omega))
            go_enter Tryd.func75, Tryd.ntmps75
            go_wp2_with fail
            go_ret
            show SPost _ (readC (x :: r) m) _ _ _ _
            rw [HR.out]
            exact ⟨rfl, X, ST.out.1, ST.out.2⟩
end Go.Proofs.YtffkppjmdelajaaDoor.Gens

/- The program's deferred closure in replay: a panic with an error's number is caught; else nothing. -/
namespace Go.Proofs.YtffkppjmdelajaaDoor.Gens
open Go.RowKit Go.ChangeShapes Go.WideShapes Lists Ints Vals
set_option linter.unusedVariables false

theorem assert_errno (er : Int) (w : World) : (Instr.typeAssert (.iface 30 (.int .i64 er)) 20 30 true).run Tryd.prog w = .ok (.tuple #[.int .i64 er, .bool true]) w := by
  unfold Instr.typeAssert
  simp [run_underlying Tryd.underlying30]
theorem slots17 (p v : Value) : #[p] ++ ((Array.replicate 16 undef).setIfInBounds 3 v).setIfInBounds 0 v = #[p, v, undef, undef, v, undef, undef, undef, undef, undef, undef, undef, undef, undef, undef, undef, undef] := rfl
set_option maxHeartbeats 1000000 in
theorem catch_panic (p : Addr) (x : Value) (older : List PanicEntry) (w : World) (hc : w.cell? p = some x) (hz : w.frozen? p = false) (er : Int) :
    CallsD Tryd.prog 74 #[.pointer (some p)] (.panicking ({ v := .iface 30 (.int .i64 er), recovered := false } :: older)) w fun e u' w' =>
      e = .returned (.tuple #[]) ∧ u' = .panicking ({ v := .iface 30 (.int .i64 er), recovered := true } :: older) ∧ w' = w.setCell p (.iface 30 (.int .i64 er)) := by
  have ha := assert_errno er w
  refine callsD_of_wpS Tryd.func74 rfl fun c₀ cs hu => ?_
  apply wpS_seq
  apply wpS_region
  simp [wpOpsS, go_sem, recoverD, hu, Tryd.ntmps74, Exit.thenS]
  rw [slots17]
  refine wpS_of_wp ?_
  have HU := Lib.hid hu
  clear hu
  go_wp2_with fail
  simp [bodyPostS, results, Tryd.results74]
set_option maxHeartbeats 1000000 in
theorem catch_idle (p : Addr) (w : World) :
    CallsD Tryd.prog 74 #[.pointer (some p)] .returning w fun e u' w' => e = .returned (.tuple #[]) ∧ u' = .returning ∧ w' = w := by
  refine callsD_of_wpS Tryd.func74 rfl fun c₀ cs hu => ?_
  apply wpS_seq
  apply wpS_region
  simp [wpOpsS, go_sem, recoverD, hu, Tryd.ntmps74, Exit.thenS]
  rw [slots17]
  refine wpS_of_wp ?_
  have HU := Lib.hid hu
  clear hu
  go_wp2_with fail
  cases c₀
  have HU := HU.out
  simp_all [bodyPostS, results, Tryd.results74]
end Go.Proofs.YtffkppjmdelajaaDoor.Gens
