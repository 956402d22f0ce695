/- RunsFail, part 21 of the proof: The program's Mend. Conditions: the sizes. · Contracts of package rng's Next and Below: what each call gives. Conditions: none. -/
import Derived.Test.YtabkihellcflhaaDoorRunsFailZ6
import Derived.Test.YtabkihellcflhaaDoorRunsFailZ20
import Derived.Test.YtabkihellcflhaaDoorRows
import Derived.WalkKit
import Derived.Deep.RegionWith
import Derived.Lib.Hide
import Derived.IntWalk
import Derived.ProofKit
import Derived.OpenShut
import Derived.ShutString
import Derived.ChangeOld
import Derived.Below
import Derived.Lib.SmallJoins
/- The program's Mend. Conditions: the sizes. -/
namespace Go.Proofs.YtabkihellcflhaaDoor.Gens
open Go.RowKit Lists Ints Vals
set_option linter.unusedVariables false

/-- what Mend tells -/
def mendL (t : Gn) (l : List Int) : List Int := if genV t = 0 then (match play mendC t l with | .ok (c, _, _) => c | .error _ => []) else []
theorem mendL_of {t : Gn} {l c r : List Int} {v : Tr} (h0 : genV t = 0) (h : play mendC t l = .ok (c, v, r)) : mendL t l = c := by
  unfold mendL; rw [if_pos h0, h]
theorem mend_run {t : Gn} (l : List Int) (h0 : genV t = 0) : ∃ v r, play mendC t l = .ok (mendL t l, v, r) ∧ (mendL t l).length ≤ 1399680 := by
  obtain ⟨hr, hl⟩ := gen_right h0
  obtain ⟨c, v, r, h⟩ := mend_ex hr l
  refine ⟨v, r, ?_, ?_⟩
  · rw [mendL_of h0 h, h]
  · rw [mendL_of h0 h]
    exact Nat.le_trans (play_long mend_bounded t hr l c v r h) (small_long hl)
theorem small30 {t : Gn} (h0 : genV t = 0) : t.size ≤ 30 := small_size (gen_right h0).2

set_option maxHeartbeats 2000000 in
set_option maxRecDepth 100000 in
theorem mend_prog {n : Nat} {t : Gn} {v : Value} {L : Option Addr} {l : List Int} {lc : Nat} (w : World) (h : GAt w (GBel w.heap.size) n v t) (hat : At w w.heap.size L l) (hcap : l.length ≤ lc) (hl : l.length ≤ 4294967296) (hsz : t.size ≤ 4294967296) :
    Calls Tryd.prog 47 #[v, .slice L l.length lc] w fun e w' => ∃ (A' : Option Addr) (c' : Nat), e = .returned (.tuple #[.slice A' (mendL t l).length c', errOf (genV t)]) ∧ Own w' w.heap.size A' c' (mendL t l) ∧ Below w.heap.size w w' := by
  obtain ⟨m, A, c, e, hw, rfl, _⟩ := h.open_
  have b1 : Below w.heap.size w ((w.alloc (gc t A c)).alloc (.cells #[.slice L l.length lc] 29)) := ((Below.refl _ _).alloc (Nat.le_refl _) _).alloc (by simp) _
  have s1 : (w.alloc (gc t A c)).heap.size = w.heap.size + 1 := by simp
  have g1 : G4 w.heap.size (.int .i64 t.kind) (.int .i64 t.a) (.int .i64 t.b) (.slice A t.subs.length c) ((w.alloc (gc t A c)).alloc (.cells #[.slice L l.length lc] 29)) := (Below.heap_alloc _ _ _ (by omega)).trans (new_obj w _)
  have l1 : LB (w.heap.size + 1) L l.length lc ((w.alloc (gc t A c)).alloc (.cells #[.slice L l.length lc] 29)) := by
    have := new_obj (w.alloc (gc t A c)) (.cells #[.slice L l.length lc] 29)
    rw [s1] at this; exact this
  have z1 : ((w.alloc (gc t A c)).alloc (.cells #[.slice L l.length lc] 29)).heap.size = w.heap.size + 2 := by simp
  have C1 := gcheck _ (h.below b1) (by simp; omega) hsz
  have HB := Lib.hid (And.intro b1 (And.intro g1 (And.intro l1 z1)))
  have HT := Lib.hid (And.intro h (And.intro hat (And.intro hcap hl)))
  clear h hat hcap hl hsz e hw b1 s1 g1 l1 z1
  by_cases hz : genV t = 0
  · obtain ⟨v', r, hp, hlen⟩ := mend_run l hz
    have HR := Lib.hid (And.intro (gen_right hz).1 (And.intro (small30 hz) (And.intro hp hlen)))
    rw [hz, errOf_ok] at C1 ⊢
    have C1 := Lib.hid C1
    clear hz hp hlen
    generalize mendL t l = cs at HR ⊢
    go_enter Tryd.func47, Tryd.ntmps47
    go_wp2_with fail
    generalize (w.alloc (gc t A c)).alloc (.cells #[.slice L l.length lc] 29) = W1 at *
    refine C1.out.mono ?_
    rintro e w2 ⟨rfl, hb2⟩
    have B2 := Lib.hid (HB.out.1.trans (hb2.mono HB.out.1.size))
    obtain ⟨k0, k1, k2, k3⟩ := (HB.out.2.1.below hb2).facts
    have IS := Lib.hid (show IL w.heap.size (w.heap.size + 1) l (fun b => b = w.heap.size + 1) w2 from ⟨fun b => Iff.rfl, by omega, HT.out.2.2.2, B2.out.size, L, lc, (hb2.block _ HB.out.2.2.1.lt).trans HB.out.2.2.1, HT.out.2.1.below B2.out, HT.out.2.2.1⟩)
    have RC := record_ok (src_mend w.heap.size (w.heap.size + 1)) (HT.out.1.below B2.out) HR.out.1 HR.out.2.1 IS.out HR.out.2.2.1 (by have := HR.out.2.2.2; omega)
    have RC := Lib.hid RC
    clear hb2 C1
    go_wp2_with fail
    refine RC.out.mono ?_
    rintro e w3 ⟨A', c', X', rfl, hown, hmv⟩
    have HO := Lib.hid (own_less hown B2.out.size)
    have B3 := Lib.hid (B2.out.trans (Mv.below hmv (fun b hb => by show w.heap.size ≤ b; have : b = w.heap.size + 1 := hb; omega) B2.out.size))
    clear hown hmv RC
    go_wp2_with fail
    go_ret2
    exact ⟨A', c', rfl, HO.out, B3.out⟩
  · have RE := Lib.hid (errOf_no hz)
    have HL := Lib.hid (show mendL t l = [] by unfold mendL; rw [if_neg hz])
    rw [errOf_no hz] at C1
    generalize genV t = q at C1 RE
    have C1 := Lib.hid C1
    clear hz
    go_enter Tryd.func47, Tryd.ntmps47
    go_wp2_with fail
    generalize (w.alloc (gc t A c)).alloc (.cells #[.slice L l.length lc] 29) = W1 at *
    refine C1.out.mono ?_
    rintro e w2 ⟨rfl, hb2⟩
    have B2 := Lib.hid (HB.out.1.trans (hb2.mono HB.out.1.size))
    clear hb2
    go_wp2_with fail
    go_ret2
    exact ⟨none, 0, by rw [HL.out, RE.out]; rfl, by rw [HL.out]; exact Own.none, B2.out⟩
end Go.Proofs.YtabkihellcflhaaDoor.Gens

/- Contracts of package rng's Next and Below: what each call gives. Conditions: none. -/
namespace Go.Proofs.YtabkihellcflhaaDoor.Rng
open Go.RowKit

def step1 (x : Int) : Int := IntKind.u64.wrap (bits BinOp.xor IntKind.u64 x (x / 1073741824) * 13787848793156543929)
def step2 (x : Int) : Int := IntKind.u64.wrap (bits BinOp.xor IntKind.u64 x (x / 134217728) * 10723151780598845931)
def step3 (x : Int) : Int := bits BinOp.xor IntKind.u64 x (x / 2147483648)
def mixI (x : Int) : Int := step3 (step2 (step1 x))
def plus (a g : Int) : Int := IntKind.u64.wrap (a + g)
def odd (g : Int) : Int := bits BinOp.or IntKind.u64 g 1
def u64of (n : Int) : Int := IntKind.u64.wrap n
def gold : Int := 11400714819323198485

theorem bcell {W w1 : World} (hb : Below W.heap.size W w1) : (∀ b o, b < W.heap.size → w1.cell? ⟨b, o, none⟩ = W.cell? ⟨b, o, none⟩) ∧ (∀ b o, b < W.heap.size → w1.frozen? ⟨b, o, none⟩ = W.frozen? ⟨b, o, none⟩) :=
  ⟨fun b o h => hb.cell (p := ⟨b, o, none⟩) h, fun b o h => hb.frozen (p := ⟨b, o, none⟩) h⟩

theorem mix_any (x : Int) (w : World) :
    Calls Tryd.prog 43 #[.int .u64 x] w fun e w' => e = .returned (.int .u64 (mixI x)) ∧ w = w' := by
  go_enter Tryd.func43, Tryd.ntmps43
  go_wp2
  go_ret
  exact ⟨rfl, rfl⟩

def nextW (a g : Int) (w : World) : World := ((w.alloc (.cells #[.int .u64 (plus a g), .int .u64 g] 53)).alloc (.cells #[.int .u64 (plus a g), .int .u64 g] 53)).drew

theorem next_exact (a g : Int) (w : World) :
    Calls Tryd.prog 26 #[.agg #[.int .u64 a, .int .u64 g]] w fun e w' => e = .returned (.tuple #[.int .u64 (mixI (plus a g)), .agg #[.int .u64 (plus a g), .int .u64 g]]) ∧ nextW a g w = w' := by
  go_enter Tryd.func26, Tryd.ntmps26
  go_wp2
  go_region_with (go_at_call 43; refine (mix_any _ _).mono ?_; rintro e w' ⟨rfl, rfl⟩)
  all_goals go_wp2
  all_goals exact bodyPost_ret (v := .tuple #[.int .u64 (mixI (plus a g)), .agg #[.int .u64 (plus a g), .int .u64 g]]) (by simp [results, Tryd.results26, go_sem, plus]) rfl ⟨rfl, rfl⟩

theorem next_any (a g : Int) (w : World) :
    Calls Tryd.prog 26 #[.agg #[.int .u64 a, .int .u64 g]] w fun e w' => e = .returned (.tuple #[.int .u64 (mixI (plus a g)), .agg #[.int .u64 (plus a g), .int .u64 g]]) ∧ Below w.heap.size w w' :=
  (next_exact a g w).mono fun _ _ ⟨h1, h2⟩ => ⟨h1, h2 ▸ (((Below.refl _ _).alloc (Nat.le_refl _) _).alloc (by simp) _).drew⟩

def belowI (a g n : Int) : Int := u64of (mixI (plus a g) / 4294967296 * n) / 4294967296
def belowK (a g n : Int) : Int := wrap64 (belowI a g n)

theorem below_err (a g n : Int) (h : n < 1 ∨ 2147483647 < n) (w : World) :
    Calls Tryd.prog 29 #[.agg #[.int .u64 a, .int .u64 g], .int .i64 n] w fun e w' => e = .returned (.tuple #[.int .i64 0, .agg #[.int .u64 0, .int .u64 0], .iface 66 (.int .i64 1)]) ∧ Below w.heap.size w w' := by
  rcases h with h | h
  · go_enter Tryd.func29, Tryd.ntmps29
    go_wp2
    exact bodyPost_ret (v := .tuple #[.int .i64 0, .agg #[.int .u64 0, .int .u64 0], .iface 66 (.int .i64 1)]) (by simp [results, Tryd.results29, go_sem]) rfl
      ⟨rfl, by repeat (first | exact Below.refl _ _ | refine Below.drew ?_ | refine Below.alloc ?_ (by simp <;> omega) _)⟩
  · have h' : ¬ n < 1 := by omega
    go_enter Tryd.func29, Tryd.ntmps29
    go_wp2
    exact bodyPost_ret (v := .tuple #[.int .i64 0, .agg #[.int .u64 0, .int .u64 0], .iface 66 (.int .i64 1)]) (by simp [results, Tryd.results29, go_sem]) rfl
      ⟨rfl, by repeat (first | exact Below.refl _ _ | refine Below.drew ?_ | refine Below.alloc ?_ (by simp <;> omega) _)⟩

theorem below_ok (a g n : Int) (h1 : 1 ≤ n) (h2 : n ≤ 2147483647) (w : World) :
    Calls Tryd.prog 29 #[.agg #[.int .u64 a, .int .u64 g], .int .i64 n] w fun e w' => e = .returned (.tuple #[.int .i64 (belowK a g n), .agg #[.int .u64 (plus a g), .int .u64 g], .nilIface]) ∧ Below w.heap.size w w' := by
  have h1' : ¬ n < 1 := by omega
  have h2' : ¬ 2147483647 < n := by omega
  go_enter Tryd.func29, Tryd.ntmps29
  go_wp2_with fail
  refine (next_exact _ _ _).mono ?_
  rintro e w1 ⟨rfl, rfl⟩
  unfold nextW
  go_wp2
  go_region
  all_goals go_wp2
  exact bodyPost_ret (v := .tuple #[.int .i64 (belowK a g n), .agg #[.int .u64 (plus a g), .int .u64 g], .nilIface]) (by simp [results, Tryd.results29, go_sem, belowK, belowI, u64of]) rfl
    ⟨rfl, by repeat (first | exact Below.refl _ _ | refine Below.drew ?_ | refine Below.alloc ?_ (by simp <;> omega) _)⟩

/-! Reading a seed that came in. -/
open Go.ChangeShapes Go.WideShapes Go.ChangeAt Go.Joins
def U64 (x : Int) : Prop := 0 ≤ x ∧ x < 18446744073709551616
theorem u64_of_wf {x : Int} (h : (Lit.int .u64 x).wf = true) : U64 x := by
  simp only [Lit.wf, IntKind.min, IntKind.max, IntKind.signed, IntKind.bits, Bool.and_eq_true] at h
  unfold U64
  simp at h
  omega
theorem i64_of_wf {x : Int} (h : (Lit.int .i64 x).wf = true) : -9223372036854775808 ≤ x ∧ x ≤ 9223372036854775807 := by
  simp only [Lit.wf, IntKind.min, IntKind.max, IntKind.signed, IntKind.bits, Bool.and_eq_true] at h
  simp at h
  omega

set_option maxRecDepth 100000 in
theorem open_seed {H : Type} {enc : TypeId × Value → H} {w : World} {base : Nat} {r : Reach} {b0 : Nat} {spare : Nat → Bool} {held : Bool} {v : Value} {d : DataW H} {ps : List MemPlace}
    (hval : Value.okWide Tryd.prog w r b0 53 v) (hd : DataW.Trod enc Tryd.prog w base spare held 53 v d ps) :
    ∃ a g : Int, v = .agg #[.int .u64 a, .int .u64 g] ∧ U64 a ∧ U64 g := by
  obtain ⟨c0, c1, y0, y1, m, rfl, _, _, hy0, hy1⟩ := open_agg2 Tryd.underlying53 (by kernel_rfl) (by kernel_rfl) hval hd
  obtain ⟨a, e0, rfl, wa⟩ := DataW.trod_int Tryd.underlying51 hy0
  obtain ⟨g, e1, rfl, wb⟩ := DataW.trod_int Tryd.underlying51 hy1
  simp at e0 e1
  subst e0 e1
  exact ⟨a, g, rfl, u64_of_wf wa, u64_of_wf wb⟩

end Go.Proofs.YtabkihellcflhaaDoor.Rng
