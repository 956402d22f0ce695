/- TopFails, part 18 of the proof: The program's Mend. Conditions: the sizes. · Contracts of package rng's Next and Below: what each call gives. Conditions: none. · Plain facts on numbers of 64 bits: what 'mix' is good for. No Go in sight. -/
import Derived.Test.YtabkihellcflhaaGreatDoorTopFailsZ5
import Derived.Test.YtabkihellcflhaaGreatDoorTopFailsZ17
import Derived.Test.YtabkihellcflhaaGreatDoorRows
import Derived.WalkKit
import Derived.Deep.RegionWith
import Derived.Lib.Hide
import Derived.IntWalk
import Derived.ProofKit
import Derived.OpenShut
import Derived.ShutString
import Derived.ChangeOld
import Derived.Below
import Derived.Lib.SmallJoins
/- The program's Mend. Conditions: the sizes. -/
namespace Go.Proofs.YtabkihellcflhaaGreatDoor.Gens
open Go.RowKit Lists Ints Vals
set_option linter.unusedVariables false

/-- what Mend tells -/
def mendL (t : Gn) (l : List Int) : List Int := if genV t = 0 then (match play mendC t l with | .ok (c, _, _) => c | .error _ => []) else []
theorem mendL_of {t : Gn} {l c r : List Int} {v : Tr} (h0 : genV t = 0) (h : play mendC t l = .ok (c, v, r)) : mendL t l = c := by
  unfold mendL; rw [if_pos h0, h]
theorem mend_run {t : Gn} (l : List Int) (h0 : genV t = 0) : ∃ v r, play mendC t l = .ok (mendL t l, v, r) ∧ (mendL t l).length ≤ 1399680 := by
  obtain ⟨hr, hl⟩ := gen_right h0
  obtain ⟨c, v, r, h⟩ := mend_ex hr l
  refine ⟨v, r, ?_, ?_⟩
  · rw [mendL_of h0 h, h]
  · rw [mendL_of h0 h]
    exact Nat.le_trans (play_long mend_bounded t hr l c v r h) (small_long hl)
theorem small30 {t : Gn} (h0 : genV t = 0) : t.size ≤ 30 := small_size (gen_right h0).2

set_option maxHeartbeats 2000000 in
set_option maxRecDepth 100000 in
theorem mend_prog {n : Nat} {t : Gn} {v : Value} {L : Option Addr} {l : List Int} {lc : Nat} (w : World) (h : GAt w (GBel w.heap.size) n v t) (hat : At w w.heap.size L l) (hcap : l.length ≤ lc) (hl : l.length ≤ 4294967296) (hsz : t.size ≤ 4294967296) :
    Calls Tryz.prog 72 #[v, .slice L l.length lc] w fun e w' => ∃ (A' : Option Addr) (c' : Nat), e = .returned (.tuple #[.slice A' (mendL t l).length c', errOf (genV t)]) ∧ Own w' w.heap.size A' c' (mendL t l) ∧ Below w.heap.size w w' := by
  obtain ⟨m, A, c, e, hw, rfl, _⟩ := h.open_
  have b1 : Below w.heap.size w ((w.alloc (gc t A c)).alloc (.cells #[.slice L l.length lc] 32)) := ((Below.refl _ _).alloc (Nat.le_refl _) _).alloc (by simp) _
  have s1 : (w.alloc (gc t A c)).heap.size = w.heap.size + 1 := by simp
  have g1 : G4 w.heap.size (.int .i64 t.kind) (.int .i64 t.a) (.int .i64 t.b) (.slice A t.subs.length c) ((w.alloc (gc t A c)).alloc (.cells #[.slice L l.length lc] 32)) := (Below.heap_alloc _ _ _ (by omega)).trans (new_obj w _)
  have l1 : LB (w.heap.size + 1) L l.length lc ((w.alloc (gc t A c)).alloc (.cells #[.slice L l.length lc] 32)) := by
    have := new_obj (w.alloc (gc t A c)) (.cells #[.slice L l.length lc] 32)
    rw [s1] at this; exact this
  have z1 : ((w.alloc (gc t A c)).alloc (.cells #[.slice L l.length lc] 32)).heap.size = w.heap.size + 2 := by simp
  have C1 := gcheck _ (h.below b1) (by simp; omega) hsz
  have HB := Lib.hid (And.intro b1 (And.intro g1 (And.intro l1 z1)))
  have HT := Lib.hid (And.intro h (And.intro hat (And.intro hcap hl)))
  clear h hat hcap hl hsz e hw b1 s1 g1 l1 z1
  by_cases hz : genV t = 0
  · obtain ⟨v', r, hp, hlen⟩ := mend_run l hz
    have HR := Lib.hid (And.intro (gen_right hz).1 (And.intro (small30 hz) (And.intro hp hlen)))
    rw [hz, errOf_ok] at C1 ⊢
    have C1 := Lib.hid C1
    clear hz hp hlen
    generalize mendL t l = cs at HR ⊢
    go_enter Tryz.func72, Tryz.ntmps72
    go_wp2_with fail
    generalize (w.alloc (gc t A c)).alloc (.cells #[.slice L l.length lc] 32) = W1 at *
    refine C1.out.mono ?_
    rintro e w2 ⟨rfl, hb2⟩
    have B2 := Lib.hid (HB.out.1.trans (hb2.mono HB.out.1.size))
    obtain ⟨k0, k1, k2, k3⟩ := (HB.out.2.1.below hb2).facts
    have IS := Lib.hid (show IL w.heap.size (w.heap.size + 1) l (fun b => b = w.heap.size + 1) w2 from ⟨fun b => Iff.rfl, by omega, HT.out.2.2.2, B2.out.size, L, lc, (hb2.block _ HB.out.2.2.1.lt).trans HB.out.2.2.1, HT.out.2.1.below B2.out, HT.out.2.2.1⟩)
    have RC := record_ok (src_mend w.heap.size (w.heap.size + 1)) (HT.out.1.below B2.out) HR.out.1 HR.out.2.1 IS.out HR.out.2.2.1 (by have := HR.out.2.2.2; omega)
    have RC := Lib.hid RC
    clear hb2 C1
    go_wp2_with fail
    refine RC.out.mono ?_
    rintro e w3 ⟨A', c', X', rfl, hown, hmv⟩
    have HO := Lib.hid (own_less hown B2.out.size)
    have B3 := Lib.hid (B2.out.trans (Mv.below hmv (fun b hb => by show w.heap.size ≤ b; have : b = w.heap.size + 1 := hb; omega) B2.out.size))
    clear hown hmv RC
    go_wp2_with fail
    go_ret2
    exact ⟨A', c', rfl, HO.out, B3.out⟩
  · have RE := Lib.hid (errOf_no hz)
    have HL := Lib.hid (show mendL t l = [] by unfold mendL; rw [if_neg hz])
    rw [errOf_no hz] at C1
    generalize genV t = q at C1 RE
    have C1 := Lib.hid C1
    clear hz
    go_enter Tryz.func72, Tryz.ntmps72
    go_wp2_with fail
    generalize (w.alloc (gc t A c)).alloc (.cells #[.slice L l.length lc] 32) = W1 at *
    refine C1.out.mono ?_
    rintro e w2 ⟨rfl, hb2⟩
    have B2 := Lib.hid (HB.out.1.trans (hb2.mono HB.out.1.size))
    clear hb2
    go_wp2_with fail
    go_ret2
    exact ⟨none, 0, by rw [HL.out, RE.out]; rfl, by rw [HL.out]; exact Own.none, B2.out⟩
end Go.Proofs.YtabkihellcflhaaGreatDoor.Gens

/- Contracts of package rng's Next and Below: what each call gives. Conditions: none. -/
namespace Go.Proofs.YtabkihellcflhaaGreatDoor.Rng
open Go.RowKit

def step1 (x : Int) : Int := IntKind.u64.wrap (bits BinOp.xor IntKind.u64 x (x / 1073741824) * 13787848793156543929)
def step2 (x : Int) : Int := IntKind.u64.wrap (bits BinOp.xor IntKind.u64 x (x / 134217728) * 10723151780598845931)
def step3 (x : Int) : Int := bits BinOp.xor IntKind.u64 x (x / 2147483648)
def mixI (x : Int) : Int := step3 (step2 (step1 x))
def plus (a g : Int) : Int := IntKind.u64.wrap (a + g)
def odd (g : Int) : Int := bits BinOp.or IntKind.u64 g 1
def u64of (n : Int) : Int := IntKind.u64.wrap n
def gold : Int := 11400714819323198485

theorem bcell {W w1 : World} (hb : Below W.heap.size W w1) : (∀ b o, b < W.heap.size → w1.cell? ⟨b, o, none⟩ = W.cell? ⟨b, o, none⟩) ∧ (∀ b o, b < W.heap.size → w1.frozen? ⟨b, o, none⟩ = W.frozen? ⟨b, o, none⟩) :=
  ⟨fun b o h => hb.cell (p := ⟨b, o, none⟩) h, fun b o h => hb.frozen (p := ⟨b, o, none⟩) h⟩

theorem mix_any (x : Int) (w : World) :
    Calls Tryz.prog 89 #[.int .u64 x] w fun e w' => e = .returned (.int .u64 (mixI x)) ∧ w = w' := by
  go_enter Tryz.func89, Tryz.ntmps89
  go_wp2
  go_ret
  exact ⟨rfl, rfl⟩

def nextW (a g : Int) (w : World) : World := ((w.alloc (.cells #[.int .u64 (plus a g), .int .u64 g] 65)).alloc (.cells #[.int .u64 (plus a g), .int .u64 g] 65)).drew

theorem next_exact (a g : Int) (w : World) :
    Calls Tryz.prog 55 #[.agg #[.int .u64 a, .int .u64 g]] w fun e w' => e = .returned (.tuple #[.int .u64 (mixI (plus a g)), .agg #[.int .u64 (plus a g), .int .u64 g]]) ∧ nextW a g w = w' := by
  go_enter Tryz.func55, Tryz.ntmps55
  go_wp2
  go_region_with (go_at_call 89; refine (mix_any _ _).mono ?_; rintro e w' ⟨rfl, rfl⟩)
  all_goals go_wp2
  all_goals exact bodyPost_ret (v := .tuple #[.int .u64 (mixI (plus a g)), .agg #[.int .u64 (plus a g), .int .u64 g]]) (by simp [results, Tryz.results55, go_sem, plus]) rfl ⟨rfl, rfl⟩

theorem next_any (a g : Int) (w : World) :
    Calls Tryz.prog 55 #[.agg #[.int .u64 a, .int .u64 g]] w fun e w' => e = .returned (.tuple #[.int .u64 (mixI (plus a g)), .agg #[.int .u64 (plus a g), .int .u64 g]]) ∧ Below w.heap.size w w' :=
  (next_exact a g w).mono fun _ _ ⟨h1, h2⟩ => ⟨h1, h2 ▸ (((Below.refl _ _).alloc (Nat.le_refl _) _).alloc (by simp) _).drew⟩

def belowI (a g n : Int) : Int := u64of (mixI (plus a g) / 4294967296 * n) / 4294967296
def belowK (a g n : Int) : Int := wrap64 (belowI a g n)

theorem below_err (a g n : Int) (h : n < 1 ∨ 2147483647 < n) (w : World) :
    Calls Tryz.prog 58 #[.agg #[.int .u64 a, .int .u64 g], .int .i64 n] w fun e w' => e = .returned (.tuple #[.int .i64 0, .agg #[.int .u64 0, .int .u64 0], .iface 29 (.int .i64 1)]) ∧ Below w.heap.size w w' := by
  rcases h with h | h
  · go_enter Tryz.func58, Tryz.ntmps58
    go_wp2
    exact bodyPost_ret (v := .tuple #[.int .i64 0, .agg #[.int .u64 0, .int .u64 0], .iface 29 (.int .i64 1)]) (by simp [results, Tryz.results58, go_sem]) rfl
      ⟨rfl, by repeat (first | exact Below.refl _ _ | refine Below.drew ?_ | refine Below.alloc ?_ (by simp <;> omega) _)⟩
  · have h' : ¬ n < 1 := by omega
    go_enter Tryz.func58, Tryz.ntmps58
    go_wp2
    exact bodyPost_ret (v := .tuple #[.int .i64 0, .agg #[.int .u64 0, .int .u64 0], .iface 29 (.int .i64 1)]) (by simp [results, Tryz.results58, go_sem]) rfl
      ⟨rfl, by repeat (first | exact Below.refl _ _ | refine Below.drew ?_ | refine Below.alloc ?_ (by simp <;> omega) _)⟩

theorem below_ok (a g n : Int) (h1 : 1 ≤ n) (h2 : n ≤ 2147483647) (w : World) :
    Calls Tryz.prog 58 #[.agg #[.int .u64 a, .int .u64 g], .int .i64 n] w fun e w' => e = .returned (.tuple #[.int .i64 (belowK a g n), .agg #[.int .u64 (plus a g), .int .u64 g], .nilIface]) ∧ Below w.heap.size w w' := by
  have h1' : ¬ n < 1 := by omega
  have h2' : ¬ 2147483647 < n := by omega
  go_enter Tryz.func58, Tryz.ntmps58
  go_wp2_with fail
  refine (next_exact _ _ _).mono ?_
  rintro e w1 ⟨rfl, rfl⟩
  unfold nextW
  go_wp2
  go_region
  all_goals go_wp2
  exact bodyPost_ret (v := .tuple #[.int .i64 (belowK a g n), .agg #[.int .u64 (plus a g), .int .u64 g], .nilIface]) (by simp [results, Tryz.results58, go_sem, belowK, belowI, u64of]) rfl
    ⟨rfl, by repeat (first | exact Below.refl _ _ | refine Below.drew ?_ | refine Below.alloc ?_ (by simp <;> omega) _)⟩

/-! Reading a seed that came in. -/
open Go.ChangeShapes Go.WideShapes Go.ChangeAt Go.Joins
def U64 (x : Int) : Prop := 0 ≤ x ∧ x < 18446744073709551616
theorem u64_of_wf {x : Int} (h : (Lit.int .u64 x).wf = true) : U64 x := by
  simp only [Lit.wf, IntKind.min, IntKind.max, IntKind.signed, IntKind.bits, Bool.and_eq_true] at h
  unfold U64
  simp at h
  omega
theorem i64_of_wf {x : Int} (h : (Lit.int .i64 x).wf = true) : -9223372036854775808 ≤ x ∧ x ≤ 9223372036854775807 := by
  simp only [Lit.wf, IntKind.min, IntKind.max, IntKind.signed, IntKind.bits, Bool.and_eq_true] at h
  simp at h
  omega

set_option maxRecDepth 100000 in
theorem open_seed {H : Type} {enc : TypeId × Value → H} {w : World} {base : Nat} {r : Reach} {b0 : Nat} {spare : Nat → Bool} {held : Bool} {v : Value} {d : DataW H} {ps : List MemPlace}
    (hval : Value.okWide Tryz.prog w r b0 65 v) (hd : DataW.Trod enc Tryz.prog w base spare held 65 v d ps) :
    ∃ a g : Int, v = .agg #[.int .u64 a, .int .u64 g] ∧ U64 a ∧ U64 g := by
  obtain ⟨c0, c1, y0, y1, m, rfl, _, _, hy0, hy1⟩ := open_agg2 Tryz.underlying65 (by kernel_rfl) (by kernel_rfl) hval hd
  obtain ⟨a, e0, rfl, wa⟩ := DataW.trod_int Tryz.underlying63 hy0
  obtain ⟨g, e1, rfl, wb⟩ := DataW.trod_int Tryz.underlying63 hy1
  simp at e0 e1
  subst e0 e1
  exact ⟨a, g, rfl, u64_of_wf wa, u64_of_wf wb⟩

end Go.Proofs.YtabkihellcflhaaGreatDoor.Rng

/- Plain facts on numbers of 64 bits: what 'mix' is good for. No Go in sight. -/
namespace Go.Proofs.YtabkihellcflhaaGreatDoor.Rng
open Go.RowKit

theorem wrap_U64 (x : Int) : U64 (IntKind.u64.wrap x) := by rw [IntKind.wrap_u64]; unfold U64; omega
theorem plus_U64 (a g : Int) : U64 (plus a g) := wrap_U64 _
theorem mixI_U64 (x : Int) : U64 (mixI x) := wrap_U64 _

theorem mul_div_bounds (h n : Int) (h0 : 0 ≤ h) (h1 : h < 4294967296) (n1 : 1 ≤ n) : 0 ≤ h * n / 4294967296 ∧ h * n / 4294967296 < n := by
  have hp : 0 ≤ h * n := Int.mul_nonneg h0 (by omega)
  have hq : h * n < 4294967296 * n := Int.mul_lt_mul_of_pos_right h1 (by omega)
  omega
theorem mul_bound (h n : Int) (h0 : 0 ≤ h) (h1 : h < 4294967296) (n1 : 0 ≤ n) (n2 : n ≤ 2147483647) : 0 ≤ h * n ∧ h * n ≤ 4294967295 * 2147483647 := by
  have hp : 0 ≤ h * n := Int.mul_nonneg h0 (by omega)
  have hq : h * n ≤ 4294967295 * n := Int.mul_le_mul_of_nonneg_right (by omega) n1
  omega

theorem belowK_eq (a g n : Int) (h1 : 1 ≤ n) (h2 : n ≤ 2147483647) : belowK a g n = mixI (plus a g) / 4294967296 * n / 4294967296 := by
  have hm := mixI_U64 (plus a g)
  unfold belowK belowI u64of wrap64
  unfold U64 at hm
  rw [IntKind.wrap_u64]
  generalize mixI (plus a g) = x at *
  have hb := mul_bound (x / 4294967296) n (by omega) (by omega) (by omega) h2
  generalize x / 4294967296 * n = y at *
  omega

theorem belowK_bounds (a g n : Int) (h1 : 1 ≤ n) (h2 : n ≤ 2147483647) : 0 ≤ belowK a g n ∧ belowK a g n < n := by
  rw [belowK_eq a g n h1 h2]
  have hm := mixI_U64 (plus a g)
  unfold U64 at hm
  exact mul_div_bounds _ n (by omega) (by omega) h1

theorem belowK_mono (a g n m : Int) (h1 : 1 ≤ m) (h2 : m ≤ n) (h3 : n ≤ 2147483647) : belowK a g m ≤ belowK a g n := by
  rw [belowK_eq a g n (by omega) h3, belowK_eq a g m h1 (by omega)]
  have hm := mixI_U64 (plus a g)
  unfold U64 at hm
  have : mixI (plus a g) / 4294967296 * m ≤ mixI (plus a g) / 4294967296 * n := Int.mul_le_mul_of_nonneg_left h2 (by omega)
  exact Int.ediv_le_ediv (by omega) this

theorem xor_eq {x y : Nat} (h : x ^^^ y = 0) : x = y := by
  have : (x ^^^ y) ^^^ y = 0 ^^^ y := by rw [h]
  rw [Nat.xor_assoc, Nat.xor_self, Nat.xor_zero, Nat.zero_xor] at this
  exact this
theorem shift_inj (k : Nat) (hk : 1 ≤ k) (x y : Nat) (h : x ^^^ x / 2 ^ k = y ^^^ y / 2 ^ k) : x = y := by
  have h1 : (x ^^^ y) = (x ^^^ y) / 2 ^ k := by
    rw [Nat.xor_div_two_pow]
    have : (x ^^^ x / 2 ^ k) ^^^ (y ^^^ x / 2 ^ k) = (y ^^^ y / 2 ^ k) ^^^ (y ^^^ x / 2 ^ k) := by rw [h]
    have e1 : (x ^^^ x / 2 ^ k) ^^^ (y ^^^ x / 2 ^ k) = x ^^^ y := by
      rw [Nat.xor_comm y, Nat.xor_assoc, ← Nat.xor_assoc (x / 2 ^ k) (x / 2 ^ k), Nat.xor_self, Nat.zero_xor]
    have e2 : (y ^^^ y / 2 ^ k) ^^^ (y ^^^ x / 2 ^ k) = (x / 2 ^ k) ^^^ (y / 2 ^ k) := by
      rw [Nat.xor_comm y (y / 2 ^ k), Nat.xor_assoc, ← Nat.xor_assoc y y, Nat.xor_self, Nat.zero_xor, Nat.xor_comm]
    rw [e1, e2] at this
    exact this
  by_cases h0 : x ^^^ y = 0
  · exact xor_eq h0
  · have : (x ^^^ y) / 2 ^ k < x ^^^ y := Nat.div_lt_self (by omega) (Nat.one_lt_two_pow (by omega))
    omega
theorem mul_inj (c ci : Nat) (hc : c * ci % 18446744073709551616 = 1) (x y : Nat) (hx : x < 18446744073709551616) (hy : y < 18446744073709551616) (h : x * c % 18446744073709551616 = y * c % 18446744073709551616) : x = y := by
  have h2 : x * c * ci % 18446744073709551616 = y * c * ci % 18446744073709551616 := by
    rw [Nat.mul_mod, h, ← Nat.mul_mod]
  rw [Nat.mul_assoc, Nat.mul_assoc, Nat.mul_mod x, Nat.mul_mod y, hc, Nat.mul_one, Nat.mul_one, Nat.mod_mod, Nat.mod_mod, Nat.mod_eq_of_lt hx, Nat.mod_eq_of_lt hy] at h2
  exact h2

theorem step_inj (k s c ci : Nat) (hs : s = 2 ^ k) (hk : 1 ≤ k) (hc : c * ci % 18446744073709551616 = 1) (x y : Int) (hx : U64 x) (hy : U64 y)
    (h : IntKind.u64.wrap (bits BinOp.xor IntKind.u64 x (x / (s : Int)) * (c : Int)) = IntKind.u64.wrap (bits BinOp.xor IntKind.u64 y (y / (s : Int)) * (c : Int))) : x = y := by
  obtain ⟨X, rfl⟩ := Int.eq_ofNat_of_zero_le hx.1
  obtain ⟨Y, rfl⟩ := Int.eq_ofNat_of_zero_le hy.1
  have hX : X < 18446744073709551616 := by have := hx.2; omega
  have hY : Y < 18446744073709551616 := by have := hy.2; omega
  rw [mixStep_u64 X s c hX, mixStep_u64 Y s c hY] at h
  have h' : (X ^^^ X / s) * c % 18446744073709551616 = (Y ^^^ Y / s) * c % 18446744073709551616 := by exact_mod_cast h
  have lt : ∀ Z : Nat, Z < 18446744073709551616 → Z ^^^ Z / s < 18446744073709551616 := fun Z hZ => by
    have : Z ^^^ Z / s < 2 ^ 64 := Nat.xor_lt_two_pow (by omega) (Nat.lt_of_le_of_lt (Nat.div_le_self _ _) (by omega))
    omega
  have := mul_inj c ci hc _ _ (lt X hX) (lt Y hY) h'
  subst hs
  have e := shift_inj k hk X Y this
  subst e
  rfl
theorem step1_inj (x y : Int) (hx : U64 x) (hy : U64 y) (h : step1 x = step1 y) : x = y :=
  step_inj 30 1073741824 13787848793156543929 10871156337175269513 (by decide) (by decide) (by decide) x y hx hy h
theorem step2_inj (x y : Int) (hx : U64 x) (hy : U64 y) (h : step2 x = step2 y) : x = y :=
  step_inj 27 134217728 10723151780598845931 3573116690164977347 (by decide) (by decide) (by decide) x y hx hy h
theorem step3_inj (x y : Int) (hx : U64 x) (hy : U64 y) (h : step3 x = step3 y) : x = y := by
  obtain ⟨X, rfl⟩ := Int.eq_ofNat_of_zero_le hx.1
  obtain ⟨Y, rfl⟩ := Int.eq_ofNat_of_zero_le hy.1
  have hX : X < 18446744073709551616 := by have := hx.2; omega
  have hY : Y < 18446744073709551616 := by have := hy.2; omega
  have e1 : step3 (X : Int) = ((X ^^^ X / 2147483648 : Nat) : Int) := xorShift_u64 X 2147483648 hX
  have e2 : step3 (Y : Int) = ((Y ^^^ Y / 2147483648 : Nat) : Int) := xorShift_u64 Y 2147483648 hY
  rw [e1, e2] at h
  have e := shift_inj 31 (by decide) X Y (by exact_mod_cast h)
  subst e
  rfl
/-- MIX IS ONE TO ONE on numbers of 64 bits. -/
theorem mixI_inj (x y : Int) (hx : U64 x) (hy : U64 y) (h : mixI x = mixI y) : x = y :=
  step1_inj x y hx hy (step2_inj _ _ (wrap_U64 _) (wrap_U64 _) (step3_inj _ _ (wrap_U64 _) (wrap_U64 _) h))
theorem plus_inj (a b g : Int) (ha : U64 a) (hb : U64 b) (h : plus a g = plus b g) : a = b := by
  unfold plus at h; rw [IntKind.wrap_u64, IntKind.wrap_u64] at h
  unfold U64 at ha hb
  omega
theorem odd_odd (x : Int) (hx : U64 x) : odd x % 2 = 1 ∧ U64 (odd x) := by
  refine ⟨?_, wrap_U64 _⟩
  obtain ⟨X, rfl⟩ := Int.eq_ofNat_of_zero_le hx.1
  have hX : X < 18446744073709551616 := by have := hx.2; omega
  have e : odd (X : Int) = ((X ||| 1 : Nat) : Int) := by
    have := u64_or (X : Int) 1 (by omega) (by omega) (by omega) (by omega)
    exact this
  rw [e]
  have : (X ||| 1) % 2 = 1 := by simp [Nat.or_mod_two_eq_one]
  omega

/-- Behind so many steps. -/
def stepped (a g : Int) : Nat → Int
  | 0 => a
  | k + 1 => plus (stepped a g k) g
theorem stepped_eq (a g : Int) (ha : U64 a) : ∀ k : Nat, stepped a g k = (a + k * g) % 18446744073709551616
  | 0 => by unfold stepped; unfold U64 at ha; simp; omega
  | k + 1 => by
    unfold stepped plus
    rw [stepped_eq a g ha k, IntKind.wrap_u64, show ((k + 1 : Nat) : Int) * g = k * g + g by rw [Int.natCast_add, Int.add_mul]; simp]
    omega
theorem stepped_U64 (a g : Int) (ha : U64 a) : ∀ k : Nat, U64 (stepped a g k)
  | 0 => ha
  | _ + 1 => plus_U64 _ _
/-- AN ODD GAMMA COMES ROUND ONLY BEHIND ALL NUMBERS. -/
theorem stepped_ne (a g : Int) (ha : U64 a) (hg : U64 g) (ho : g % 2 = 1) (k : Nat) (h1 : 1 ≤ k) (h2 : k < 18446744073709551616) : stepped a g k ≠ a := by
  intro h
  rw [stepped_eq a g ha k] at h
  obtain ⟨G, rfl⟩ := Int.eq_ofNat_of_zero_le hg.1
  have hd : (18446744073709551616 : Int) ∣ ((k * G : Nat) : Int) := by
    unfold U64 at ha
    refine Int.dvd_of_emod_eq_zero ?_
    have : ((k * G : Nat) : Int) = (k : Int) * (G : Int) := by simp
    rw [this]
    omega
  have hn : 18446744073709551616 ∣ k * G := Int.natCast_dvd_natCast.mp (show ((18446744073709551616 : Nat) : Int) ∣ ((k * G : Nat) : Int) from hd)
  have hc : Nat.Coprime (2 ^ 64) G := Nat.Coprime.pow_left 64 (by
    have : G % 2 = 1 := by omega
    rw [Nat.coprime_iff_gcd_eq_one, Nat.gcd_rec, this]; rfl)
  have hd2 : 2 ^ 64 ∣ k := Nat.Coprime.dvd_of_dvd_mul_right hc (m := k) (show 2 ^ 64 ∣ k * G from hn)
  have := Nat.le_of_dvd (by omega) hd2
  omega
end Go.Proofs.YtabkihellcflhaaGreatDoor.Rng
