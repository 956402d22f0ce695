/- TopFails, part 38 of the proof: The program's candidates, seen one after another: the closure in Each. Conditions: the sizes. -/
import Derived.Test.YtabkihellcflhaaGreatDoorTopFailsZ35
import Derived.Test.YtabkihellcflhaaGreatDoorTopFailsZ36
import Derived.Test.YtabkihellcflhaaGreatDoorTopFailsZ37
/- The program's candidates, seen one after another: the closure in Each. Conditions: the sizes. -/
namespace Go.Proofs.YtabkihellcflhaaGreatDoor.Gens
open Go.RowKit Lists Ints Vals
set_option linter.unusedVariables false

theorem mv_of {X : Nat → Prop} {w w' : World} (hb : Below w.heap.size w w') : Mv X w w' X := ⟨hb.os, hb.tape, hb.output, hb.size, fun b h _ => hb.block b h, fun b h => .inl h⟩
theorem mv_trans {X X1 X2 : Nat → Prop} {w w1 w2 : World} (h : Mv X w w1 X1) (h2 : Mv X1 w1 w2 X2) : Mv X w w2 X2 :=
  ⟨h2.os.trans h.os, h2.tape.trans h.tape, h2.output.trans h.output, Nat.le_trans h.size h2.size, fun b hb hx => (h2.block b (Nat.lt_of_lt_of_le hb h.size) (fun h1 => by rcases h.new b h1 with h1 | h1; exact hx h1; omega)).trans (h.block b hb hx), fun b hb => by
    rcases h2.new b hb with h1 | h1
    · exact h.new b h1
    · exact .inr (Nat.le_trans h.size h1)⟩
theorem mv_below {X X1 : Nat → Prop} {B : Nat} {w w1 : World} (h : Mv X w w1 X1) (hB : B ≤ w.heap.size) (hX : ∀ b, X b → B ≤ b) : Below B w w1 :=
  ⟨h.os, h.tape, h.output, h.size, fun b hb => h.block b (Nat.lt_of_lt_of_le hb hB) (fun hx => by have := hX b hx; omega)⟩
/-- what is new is none of it still -/
theorem mv_off {X X1 : Nat → Prop} {w w1 : World} (h : Mv X w w1 X1) {b : Nat} (hb : b < w.heap.size) (hx : ¬ X b) : ¬ X1 b := fun h1 => by
  rcases h.new b h1 with h1 | h1
  · exact hx h1
  · omega
/-- the box of a function value -/
def FnB (p k : Nat) (cap : Array Value) (w : World) : Prop := w.heap[p]? = some (.cells #[ffv k cap] 83 (0, 0))
theorem FnB.cell {p k : Nat} {cap : Array Value} {w : World} (h : FnB p k cap w) : w.cell? ⟨p, 0, none⟩ = some (ffv k cap) := by rw [Lib.cell_of_heap h]; rfl
theorem FnB.lt {p k : Nat} {cap : Array Value} {w : World} (h : FnB p k cap w) : p < w.heap.size := (Array.getElem?_eq_some_iff.1 h).1
/-- a function value that sees the candidates: I X z, what it has seen is z, and the blocks that it may change are X -/
structure SeeB (k : Nat) (cap : Array Value) (t : Gn) (l : List Int) (stop : List Int → Bool) (I : (Nat → Prop) → List (List Int) → World → Prop) : Prop where
  ent : ∀ args w, (callFunc k args).run Tryz.prog w = .ok (.enter k args) w
  lt : ∀ X z w, I X z w → ∀ b, X b → b < w.heap.size
  keep : ∀ X z w w', I X z w → Below w.heap.size w w' → I X z w'
  call : ∀ X z w0 w1 D d x, x ∈ roseL t l → z.length ≤ 5598720 → (∀ a ∈ z, stop a = false) → I X z w0 → Below w0.heap.size w0 w1 → Own w1 w0.heap.size D d x →
    Calls Tryz.prog k (#[.slice D x.length d] ++ cap) w1 fun e w2 => e = .returned (.bool (!stop x)) ∧ ∃ X', I X' (z ++ [x]) w2 ∧ Mv X w0 w2 X'
/-- the boxes of Each -/
structure EcB (p : Nat) (t : Gn) (GA : Option Addr) (gcap : Nat) (L : Option Addr) (ln lc k : Nat) (cap : Array Value) (w : World) : Prop where
  g : G4 p (.int .i64 t.kind) (.int .i64 t.a) (.int .i64 t.b) (.slice GA t.subs.length gcap) w
  l : LB (p + 1) L ln lc w
  s : FnB (p + 1 + 1) k cap w
theorem EcB.mv {p : Nat} {t : Gn} {GA : Option Addr} {gcap : Nat} {L : Option Addr} {ln lc k : Nat} {cap : Array Value} {X X' : Nat → Prop} {w w' : World} (h : EcB p t GA gcap L ln lc k cap w) (hm : Mv X w w' X') (hx : ∀ b, X b → b < p ∨ p + 3 ≤ b) : EcB p t GA gcap L ln lc k cap w' :=
  ⟨h.g.mv hm (fun hb => by have := hx _ hb; omega), (hm.block _ h.l.lt (fun hb => by have := hx _ hb; omega)).trans h.l, (hm.block _ h.s.lt (fun hb => by have := hx _ hb; omega)).trans h.s⟩
/-- what the closure tells of one that is tried -/
def EndsPost (t : Gn) (l x : List Int) (stop : List Int → Bool) (I : (Nat → Prop) → List (List Int) → World → Prop) (X : Nat → Prop) (z : List (List Int)) (w : World) (e : Ending) (w' : World) : Prop :=
  ∃ (r : Bool) (X2 : Nat → Prop), e = .returned (.bool r) ∧ Hid (r = (keptL t l x).any stop) ∧ I X2 (z ++ keptL t l x) w' ∧ Mv X w w' X2

set_option maxHeartbeats 4000000 in
set_option maxRecDepth 100000 in
theorem ends_ok {t : Gn} {GA : Option Addr} {gcap n p : Nat} {L : Option Addr} {l : List Int} {lc k : Nat} {cap : Array Value} {stop : List Int → Bool} {I : (Nat → Prop) → List (List Int) → World → Prop} (S : SeeB k cap t l stop I) {X : Nat → Prop} {z : List (List Int)} {x : List Int} {D : Option Addr} {xc : Nat} (w : World)
    (h : EcB p t GA gcap L l.length lc k cap w) (hg : GAt w (GBel w.heap.size) n (gv t GA gcap) t) (h0 : genV t = 0) (hl : At w w.heap.size L l) (hln : l.length ≤ 4294967296) (hx : At w w.heap.size D x) (hxc : x.length ≤ xc) (hxl : x.length ≤ 4294967296) (hI : I X z w) (hz : z.length ≤ 5598720) (hst : ∀ a ∈ z, stop a = false) (hm : ∀ y ∈ keptL t l x, y ∈ roseL t l) (a xn : Nat) (ha : a = p + 1) (hxn : x.length = xn) :
    Calls Tryz.prog 71 #[.slice D xn xc, .pointer (some ⟨p, 0, none⟩), .pointer (some ⟨a, 0, none⟩), .pointer (some ⟨a + 1, 0, none⟩)] w (EndsPost t l x stop I X z w) := by
  subst ha hxn
  have hent := S.ent
  have hs : t.size ≤ 4294967296 := by have := small30 h0; omega
  have M := mend_prog w hg hx hxc hxl hs
  rw [h0, errOf_ok] at M
  have M := Lib.hid M
  have K := Lib.hid (show keptL t l x = if lessL (mendL t x) l = true then [mendL t x] else [] from rfl)
  have ML := Lib.hid (show (mendL t x).length ≤ 1399680 from (mend_run x h0).choose_spec.choose_spec.2)
  have H := Lib.hid h
  have HI := Lib.hid hI
  have SK := Lib.hid (fun w' (hb : Below w.heap.size w w') => S.keep X z w w' hI hb)
  have SC := Lib.hid (fun w1 D d y (hy : y ∈ roseL t l) (hb : Below w.heap.size w w1) (ho : Own w1 w.heap.size D d y) => S.call X z w w1 D d y hy hz hst hI hb ho)
  have HM := Lib.hid hm
  have HL := Lib.hid hl
  have HN := Lib.hid hln
  obtain ⟨k0, k1, k2, k3⟩ := h.g.facts
  clear h hg h0 hl hln hx hxc hxl hz hs hI S hm hst
  generalize mendL t x = m at *
  go_enter Tryz.func71, Tryz.ntmps71
  go_wp2_with fail
  ((with_reducible refine M.out.mono ?_))
  rintro e w1 ⟨A1, c1, rfl, own1, hb1⟩
  have H1 := Lib.hid (H.out.mv (mv_of (X := fun _ => False) hb1) (fun b h => h.elim))
  have O1 := Lib.hid own1
  have BW1 := Lib.hid hb1
  clear own1 hb1 M k0 k1 k2 k3 H
  have f0 := H1.out.l.cell
  have f1 := H1.out.s.cell
  have LS := Lib.hid (less_any m l A1 L c1 lc w1.heap.size (by have := ML.out; simp only [maxLen]; omega) (by have := HN.out; simp only [maxLen]; omega) w1 O1.out.at_ ((HL.out.below BW1.out).more BW1.out.size))
  go_wp2_with fail
  ((with_reducible refine LS.out.mono ?_))
  rintro e w2 ⟨rfl, rfl⟩
  clear f0 LS
  generalize lessL m l = q at *
  cases q
  · rw [if_neg (by decide)] at K
    go_wp2_with fail
    go_ret
    exact ⟨false, X, rfl, Lib.hid (by rw [K.out]; rfl), by rw [K.out, List.append_nil]; exact SK.out _ BW1.out, mv_of BW1.out⟩
  · rw [if_pos rfl] at K
    have C1 := Lib.hid (SC.out w1 A1 c1 m (HM.out m (by rw [K.out]; simp)) BW1.out O1.out)
    have KA := Lib.hid (show (keptL t l x).any stop = !(!stop m) by rw [K.out]; simp)
    clear SC HI SK
    generalize stop m = q2 at *
    go_wp2_with fail
    ((with_reducible refine C1.out.mono ?_))
    rintro e w2 ⟨rfl, X2, hI2, hm2⟩
    have I2 := Lib.hid hI2
    have M2 := Lib.hid hm2
    clear hI2 hm2 C1 f1
    go_wp2_with fail
    go_ret
    exact ⟨_, X2, rfl, Lib.hid (by rw [KA.out, Bool.not_not]), by rw [K.out]; exact I2.out, M2.out⟩
end Go.Proofs.YtabkihellcflhaaGreatDoor.Gens
