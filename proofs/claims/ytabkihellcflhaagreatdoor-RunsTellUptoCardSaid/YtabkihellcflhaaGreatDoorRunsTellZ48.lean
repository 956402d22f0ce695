/- RunsTell, part 48 of the proof: The document's own RunOf. Conditions: the sizes. · Contract of assayersame.Ints: it draws its order. Conditions: none but that the slices' cells are known. -/
import Derived.Test.YtabkihellcflhaaGreatDoorRunsTellZ30
import Derived.Test.YtabkihellcflhaaGreatDoorRunsTellZ46
import Derived.Test.YtabkihellcflhaaGreatDoorRunsTellZ47
import Derived.Test.YtabkihellcflhaaGreatDoorRunsTellZ2
import Derived.Test.YtabkihellcflhaaGreatDoorRunsTellZ9
/- The document's own RunOf. Conditions: the sizes. -/
namespace Go.Proofs.YtabkihellcflhaaGreatDoor.Gens
open Go.RowKit Lists Ints Vals Exprs Rng
set_option linter.unusedVariables false

/-- what tells a report -/
def RrPost (r : Rep) (w : World) (e : Ending) (w' : World) : Prop :=
  ∃ (A : Option Addr) (c : Nat), e = .returned (.agg #[.int .i64 r.runs, .bool r.failed, .slice A r.tape.length c, .int .i64 r.steps]) ∧ AtP w' (fun b => w.heap.size ≤ b ∧ b < w'.heap.size) A r.tape ∧ r.tape.length ≤ c ∧ Below w.heap.size w w'
/-- the boxes of RunOf -/
structure RBx (w0 : World) (t x : Gn) (GA : Option Addr) (gcap : Nat) (XA : Option Addr) (xcap : Nat) (k : Nat) (s : Int × Int) (w : World) : Prop where
  bel : Below w0.heap.size w0 w
  g : G4 w0.heap.size (.int .i64 t.kind) (.int .i64 t.a) (.int .i64 t.b) (.slice GA t.subs.length gcap) w
  x : E3 (w0.heap.size + 1) (.int .i64 x.kind) (.int .i64 x.a) (.slice XA x.subs.length xcap) w
  o : R4 (w0.heap.size + 1 + 1) (.int .i64 0) (.bool false) (.slice none 0 0) (.int .i64 0) w
  r : R4 (w0.heap.size + 1 + 1 + 1) (.int .i64 k) (.bool false) (.slice none 0 0) (.int .i64 0) w
  s : SB (w0.heap.size + 1 + 1 + 1 + 1) s w
theorem SB.below {p : Nat} {s : Int × Int} {w w' : World} (h : SB p s w) (hb : Below w.heap.size w w') : SB p s w' := (hb.block p h.lt).trans h
theorem RBx.later {w0 w w' : World} {t x : Gn} {GA XA : Option Addr} {gcap xcap k : Nat} {s : Int × Int} (h : RBx w0 t x GA gcap XA xcap k s w) (hb : Below w.heap.size w w') : RBx w0 t x GA gcap XA xcap k s w' :=
  ⟨below_trans h.bel hb, h.g.below hb, h.x.below hb, h.o.below hb, h.r.below hb, h.s.below hb⟩
theorem RBx.seed {w0 w : World} {t x : Gn} {GA XA : Option Addr} {gcap xcap k : Nat} {s : Int × Int} (h : RBx w0 t x GA gcap XA xcap k s w) (a g : Int) :
    RBx w0 t x GA gcap XA xcap k (a, g) ((w.setCell ⟨w0.heap.size + 1 + 1 + 1 + 1, 0, none⟩ (.int .u64 a)).setCell ⟨w0.heap.size + 1 + 1 + 1 + 1, 1, none⟩ (.int .u64 g)) := by
  have ne : ∀ b, b ≠ w0.heap.size + 1 + 1 + 1 + 1 → ((w.setCell ⟨w0.heap.size + 1 + 1 + 1 + 1, 0, none⟩ (.int .u64 a)).setCell ⟨w0.heap.size + 1 + 1 + 1 + 1, 1, none⟩ (.int .u64 g)).heap[b]? = w.heap[b]? := fun b hb => (Below.heap_setCell _ ⟨w0.heap.size + 1 + 1 + 1 + 1, 1, none⟩ _ b hb).trans (Below.heap_setCell _ ⟨w0.heap.size + 1 + 1 + 1 + 1, 0, none⟩ _ b hb)
  exact ⟨Below.setCell (p := ⟨w0.heap.size + 1 + 1 + 1 + 1, 1, none⟩) (Below.setCell (p := ⟨w0.heap.size + 1 + 1 + 1 + 1, 0, none⟩) h.bel (by show w0.heap.size ≤ w0.heap.size + 1 + 1 + 1 + 1; omega) _) (by show w0.heap.size ≤ w0.heap.size + 1 + 1 + 1 + 1; omega) _,
    (ne _ (by omega)).trans h.g, (ne _ (by omega)).trans h.x, (ne _ (by omega)).trans h.o, (ne _ (by omega)).trans h.r, h.s.put a g⟩
theorem RBx.count {w0 w : World} {t x : Gn} {GA XA : Option Addr} {gcap xcap k : Nat} {s : Int × Int} (h : RBx w0 t x GA gcap XA xcap k s w) (k' : Nat) :
    RBx w0 t x GA gcap XA xcap k' s (w.setCell ⟨w0.heap.size + 1 + 1 + 1, 0, none⟩ (.int .i64 k')) := by
  have ne : ∀ b, b ≠ w0.heap.size + 1 + 1 + 1 → (w.setCell ⟨w0.heap.size + 1 + 1 + 1, 0, none⟩ (.int .i64 k')).heap[b]? = w.heap[b]? := fun b hb => Below.heap_setCell _ ⟨w0.heap.size + 1 + 1 + 1, 0, none⟩ _ b hb
  exact ⟨Below.setCell (p := ⟨w0.heap.size + 1 + 1 + 1, 0, none⟩) h.bel (by show w0.heap.size ≤ w0.heap.size + 1 + 1 + 1; omega) _,
    (ne _ (by omega)).trans h.g, (ne _ (by omega)).trans h.x, (ne _ (by omega)).trans h.o, h.r.put0 _, (ne _ (by omega)).trans h.s⟩
theorem rbx_new (w : World) (t x : Gn) (GA XA : Option Addr) (gcap xcap : Nat) (s : Int × Int) :
    RBx w t x GA gcap XA xcap 0 s (((((w.alloc (gc t GA gcap)).alloc (ec x XA xcap)).alloc (.cells #[.int .i64 0, .bool false, .slice none 0 0, .int .i64 0] 34)).alloc (.cells #[.int .i64 0, .bool false, .slice none 0 0, .int .i64 0] 34)).alloc (.cells #[.int .u64 s.1, .int .u64 s.2] 65)) := by
  obtain ⟨h1, h2, h3, h4⟩ := gx_boxes w t x GA XA gcap xcap
  generalize (w.alloc (gc t GA gcap)).alloc (ec x XA xcap) = W at *
  have b1 := bel1 W (.cells #[.int .i64 0, .bool false, .slice none 0 0, .int .i64 0] 34)
  have n1 := new_obj W (.cells #[.int .i64 0, .bool false, .slice none 0 0, .int .i64 0] 34)
  have z1 : (W.alloc (.cells #[.int .i64 0, .bool false, .slice none 0 0, .int .i64 0] 34)).heap.size = w.heap.size + 1 + 1 + 1 := by simp [h4]
  generalize W.alloc (.cells #[.int .i64 0, .bool false, .slice none 0 0, .int .i64 0] 34) = W1 at *
  have b2 := bel1 W1 (.cells #[.int .i64 0, .bool false, .slice none 0 0, .int .i64 0] 34)
  have n2 := new_obj W1 (.cells #[.int .i64 0, .bool false, .slice none 0 0, .int .i64 0] 34)
  have z2 : (W1.alloc (.cells #[.int .i64 0, .bool false, .slice none 0 0, .int .i64 0] 34)).heap.size = w.heap.size + 1 + 1 + 1 + 1 := by simp [z1]
  generalize W1.alloc (.cells #[.int .i64 0, .bool false, .slice none 0 0, .int .i64 0] 34) = W2 at *
  have b3 := bel1 W2 (.cells #[.int .u64 s.1, .int .u64 s.2] 65)
  have n3 := new_obj W2 (.cells #[.int .u64 s.1, .int .u64 s.2] 65)
  rw [h4] at n1
  rw [z1] at n2
  rw [z2] at n3
  have n1 : R4 (w.heap.size + 1 + 1) (.int .i64 0) (.bool false) (.slice none 0 0) (.int .i64 0) W1 := n1
  have n2 : R4 (w.heap.size + 1 + 1 + 1) (.int .i64 0) (.bool false) (.slice none 0 0) (.int .i64 0) W2 := n2
  exact ⟨below_trans (below_trans (below_trans h3 b1) b2) b3, ((h1.below b1).below b2).below b3, ((h2.below b1).below b2).below b3, (n1.below b2).below b3, n2.below b3, n3⟩

/-- the boxes in a round -/
theorem round_boxes {w0 w1 : World} {t x : Gn} {GA XA : Option Addr} {gcap xcap k : Nat} {s : Int × Int} (h : RBx w0 t x GA gcap XA xcap k s w1) (sa sb : Int × Int) :
    let W2 := (w1.alloc (.cells #[.int .u64 sa.1, .int .u64 sa.2] 65)).alloc (.cells #[.int .u64 sb.1, .int .u64 sb.2] 65)
    let W3 := (W2.setCell ⟨w0.heap.size + 1 + 1 + 1 + 1, 0, none⟩ (.int .u64 sa.1)).setCell ⟨w0.heap.size + 1 + 1 + 1 + 1, 1, none⟩ (.int .u64 sa.2)
    let W4 := W3.setCell ⟨w0.heap.size + 1 + 1 + 1, 0, none⟩ (.int .i64 ((k : Int) + 1))
    RBx w0 t x GA gcap XA xcap k s W2 ∧ RBx w0 t x GA gcap XA xcap k sa W3 ∧ RBx w0 t x GA gcap XA xcap (k + 1) sa W4 ∧ SB (w1.heap.size + 1) sb W4 := by
  intro W2 W3 W4
  have z1 : (w1.alloc (.cells #[.int .u64 sa.1, .int .u64 sa.2] 65)).heap.size = w1.heap.size + 1 := by simp
  have h2 : RBx w0 t x GA gcap XA xcap k s W2 := (h.later (bel1 w1 _)).later (bel1 _ _)
  have h3 : RBx w0 t x GA gcap XA xcap k sa W3 := h2.seed sa.1 sa.2
  have h4 : RBx w0 t x GA gcap XA xcap (k + 1) sa W4 := h3.count (k + 1)
  have n2 : SB (w1.heap.size + 1) sb W2 := by
    have := new_obj (w1.alloc (.cells #[.int .u64 sa.1, .int .u64 sa.2] 65)) (.cells #[.int .u64 sb.1, .int .u64 sb.2] 65)
    rw [z1] at this
    exact this
  have lt := h.s.lt
  refine ⟨h2, h3, h4, ?_⟩
  have e1 : W4.heap[w1.heap.size + 1]? = W3.heap[w1.heap.size + 1]? := Below.heap_setCell _ ⟨w0.heap.size + 1 + 1 + 1, 0, none⟩ _ _ (by show w1.heap.size + 1 ≠ w0.heap.size + 1 + 1 + 1; omega)
  have e2 : W3.heap[w1.heap.size + 1]? = W2.heap[w1.heap.size + 1]? := (Below.heap_setCell _ ⟨w0.heap.size + 1 + 1 + 1 + 1, 1, none⟩ _ _ (by show w1.heap.size + 1 ≠ w0.heap.size + 1 + 1 + 1 + 1; omega)).trans (Below.heap_setCell _ ⟨w0.heap.size + 1 + 1 + 1 + 1, 0, none⟩ _ _ (by show w1.heap.size + 1 ≠ w0.heap.size + 1 + 1 + 1 + 1; omega))
  exact (e1.trans e2).trans n2

theorem fail_box {w0 w : World} {t x : Gn} {GA XA : Option Addr} {gcap xcap k : Nat} {s : Int × Int} (h : RBx w0 t x GA gcap XA xcap k s w) :
    let W := w.setCell ⟨w0.heap.size + 1 + 1 + 1, 1, none⟩ (.bool true)
    Below w0.heap.size w0 W ∧ G4 w0.heap.size (.int .i64 t.kind) (.int .i64 t.a) (.int .i64 t.b) (.slice GA t.subs.length gcap) W ∧ E3 (w0.heap.size + 1) (.int .i64 x.kind) (.int .i64 x.a) (.slice XA x.subs.length xcap) W ∧ R4 (w0.heap.size + 1 + 1) (.int .i64 0) (.bool false) (.slice none 0 0) (.int .i64 0) W ∧
      R4 (w0.heap.size + 1 + 1 + 1) (.int .i64 k) (.bool true) (.slice none 0 0) (.int .i64 0) W ∧ W.heap.size = w.heap.size ∧ ∀ b, b ≠ w0.heap.size + 1 + 1 + 1 → W.heap[b]? = w.heap[b]? := by
  intro W
  have ne : ∀ b, b ≠ w0.heap.size + 1 + 1 + 1 → W.heap[b]? = w.heap[b]? := fun b hb => Below.heap_setCell _ ⟨w0.heap.size + 1 + 1 + 1, 1, none⟩ _ b hb
  exact ⟨Below.setCell (p := ⟨w0.heap.size + 1 + 1 + 1, 1, none⟩) h.bel (by show w0.heap.size ≤ w0.heap.size + 1 + 1 + 1; omega) _, (ne _ (by omega)).trans h.g, (ne _ (by omega)).trans h.x, (ne _ (by omega)).trans h.o, h.r.put1 _, by show (World.setCell _ _ _).heap.size = _; simp [World.setCell], ne⟩
/-- the tape and the steps are noted -/
theorem tape_box {w : World} {p q : Nat} {x0 x1 x2 x3 z0 z1 z2 z3 : Value} (h : R4 p x0 x1 x2 x3 w) (h' : R4 q z0 z1 z2 z3 w) (hne : q ≠ p) (y z : Value) :
    let W := (w.setCell ⟨p, 2, none⟩ y).setCell ⟨p, 3, none⟩ z
    R4 p x0 x1 y z W ∧ R4 q z0 z1 z2 z3 W ∧ Below p w W ∧ ∀ b, b ≠ p → W.heap[b]? = w.heap[b]? := by
  intro W
  have ne : ∀ b, b ≠ p → W.heap[b]? = w.heap[b]? := fun b hb => (Below.heap_setCell _ ⟨p, 3, none⟩ _ b hb).trans (Below.heap_setCell _ ⟨p, 2, none⟩ _ b hb)
  exact ⟨h.put23 y z, (ne q hne).trans h', Below.setCell (p := ⟨p, 3, none⟩) (Below.setCell (p := ⟨p, 2, none⟩) (Below.refl _ _) (Nat.le_refl _) _) (Nat.le_refl _) _, ne⟩

set_option maxHeartbeats 16000000 in
set_option maxRecDepth 100000 in
theorem runof_any {t x : Gn} {GA XA : Option Addr} {gcap xcap n nx : Nat} (num : Int) (many : Nat) (w : World) (hg : GAt w (GBel w.heap.size) n (gv t GA gcap) t) (hx : EAt w (EBel w.heap.size) nx (ev x XA xcap) x) (h0 : genV t = 0) (hf : faultE x = 0) (hm : many ≤ 50) :
    Calls Tryz.prog 9 #[gv t GA gcap, ev x XA xcap, .int .i64 num, .int .i64 many] w (RrPost (repK t x (u64of num, gold) many) w) := by
  have SP := Lib.hid (fun (s : Int × Int) (W : World) => show Calls Tryz.prog 25 #[.agg #[.int .u64 s.1, .int .u64 s.2]] W fun e w' => e = .returned (.tuple #[.agg #[.int .u64 (fstS s).1, .int .u64 (fstS s).2], .agg #[.int .u64 (sndS s).1, .int .u64 (sndS s).2]]) ∧ Below W.heap.size W w' from splitR_any s.1 s.2 W)
  have DR := Lib.hid (fun (s : Int × Int) (W : World) (hb : Below w.heap.size w W) => show Calls Tryz.prog 26 #[gv t GA gcap, .agg #[.int .u64 s.1, .int .u64 s.2]] W fun e w' => ∃ (L : Option Addr) (lc : Nat), e = .returned (.slice L (drawL t s).length lc) ∧ Own w' (W.heap.size + 2) L lc (drawL t s) ∧ Below W.heap.size W w' by
    obtain ⟨v, r, h1, _⟩ := draw_run (t := t) s h0
    exact drawof_any n t GA gcap W.heap.size s.1 s.2 W ((hg.below hb).more hb.size) (gen_right h0).1 (small30 h0) (Nat.le_refl _) (by have := small_long (gen_right h0).2; omega) h1)
  have BT := Lib.hid (fun (l : List Int) (L : Option Addr) (lc : Nat) (hll : l.length ≤ 1399680) (W : World) (hb : Below w.heap.size w W) (hl : At W W.heap.size L l) => badtape_any (lc := lc) W ((hg.below hb).more hb.size) ((hx.below hb).more hb.size) h0 (fault_ok hf).2 hl (Nat.le_refl _) (by omega))
  have WO := Lib.hid (fun (l : List Int) (L : Option Addr) (lc lo : Nat) (hz : roseE t l = 0) (W : World) (hb : Below w.heap.size w W) (hlo : lo ≤ W.heap.size) (hl : AtP W (fun b => lo ≤ b ∧ b < W.heap.size) L l) (hcap : l.length ≤ lc) => show Calls Tryz.prog 28 #[gv t GA gcap, ev x XA xcap, .slice L l.length lc] W fun e w' => ∃ (A : Option Addr) (c : Nat), e = .returned (.tuple #[.slice A (walkT t x l).1.length c, .int .i64 (walkT t x l).2]) ∧ AtP w' (fun b => lo ≤ b ∧ b < w'.heap.size) A (walkT t x l).1 ∧ (walkT t x l).1.length ≤ c ∧ Below W.heap.size W w' by
    refine (walkof_in (lc := lc) W (fun b h => h.2) ((hg.below hb).more hb.size) ((hx.below hb).more hb.size) (fault_ok hf).2 hl hcap hz).mono ?_
    rintro e w' ⟨A, c, he, ho, hc, hb'⟩
    exact ⟨A, c, he, ho.keep fun b h => ⟨by rcases h with h | h; exact ⟨h.1, Nat.lt_of_lt_of_le h.2 hb'.size⟩; exact ⟨Nat.le_trans hlo h.1, h.2⟩, fun _ => rfl⟩, hc, hb'⟩)
  have DF := Lib.hid (fun (s : Int × Int) => And.intro (draw_rose (t := t) s h0) (rep_facts (draw_rose (t := t) s h0)).2.1)
  have N0 := Lib.hid (rbx_new w t x GA XA gcap xcap (IntKind.u64.wrap num, 11400714819323198485))
  clear hg hx h0 hf
  go_enter Tryz.func9, Tryz.ntmps9
  go_wp2_with fail
  generalize ((((w.alloc (gc t GA gcap)).alloc (ec x XA xcap)).alloc (.cells #[.int .i64 0, .bool false, .slice none 0 0, .int .i64 0] 34)).alloc (.cells #[.int .i64 0, .bool false, .slice none 0 0, .int .i64 0] 34)).alloc (.cells #[.int .u64 (IntKind.u64.wrap num), .int .u64 11400714819323198485] 65) = W0 at *
  have I0 := Lib.hid (show RBx w t x GA gcap XA xcap 0 (seedK (u64of num, gold) 0) W0 from N0.out)
  clear N0
  generalize (u64of num, gold) = s0 at *
  go_loopg [] (many) (fun g wr => ∃ k : Nat, k ≤ many ∧ g = many - k ∧ Hid (RBx w t x GA gcap XA xcap k (seedK s0 k) wr) ∧ Hid (∀ j, j < k → badT t x (tapeK t s0 j) = false))
  case atStart => exact ⟨0, Nat.zero_le _, rfl, I0.out, fun j h => absurd h (by omega)⟩
  case round =>
    obtain ⟨k, hk, rfl, hI, hno⟩ := hrel
    have TK := Lib.hid (show tapeK t s0 k = drawL t (sndS (seedK s0 k)) from rfl)
    have SK := Lib.hid (show seedK s0 (k + 1) = fstS (seedK s0 k) from rfl)
    have FN := Lib.hid (fun (h : badT t x (tapeK t s0 k) = false) => show ∀ j, j < k + 1 → badT t x (tapeK t s0 j) = false from fun j hj => by
      by_cases e : j = k
      · subst e; exact h
      · exact hno.out j (by omega))
    have FY := Lib.hid (fun (hlt : k < many) (h : badT t x (tapeK t s0 k) = true) => rep_some (first_is hlt h hno.out))
    have FZ := Lib.hid (fun (hlt : ¬ k < many) => show repK t x s0 many = ⟨k, false, [], 0⟩ by
      obtain rfl : k = many := by omega
      exact rep_none (first_no hno.out))
    generalize seedK s0 k = sk at *
    obtain ⟨⟨r0, r1, r2, r3⟩, rf0, rf1, rf2, rf3⟩ := hI.out.r.facts
    by_cases hlt : k < many
    · obtain ⟨q0, q1, qf0, qf1⟩ := hI.out.s.facts
      have C1 := Lib.hid (SP.out sk wr)
      go_wp2_with fail
      ((with_reducible refine C1.out.mono ?_))
      rintro e w1 ⟨rfl, hb1⟩
      have I1 := Lib.hid (hI.out.later hb1)
      clear hb1 C1 r0 r1 r2 r3 rf0 rf1 rf2 rf3 q0 q1 qf0 qf1
      generalize fstS sk = sa at *
      generalize sndS sk = sb at *
      have NB := round_boxes I1.out sa sb
      obtain ⟨q0, q1, qf0, qf1⟩ := NB.1.s.facts
      obtain ⟨⟨r0, r1, r2, r3⟩, rf0, rf1, rf2, rf3⟩ := NB.2.1.r.facts
      obtain ⟨k0, k1, k2, k3⟩ := NB.2.2.1.g.facts
      obtain ⟨b0, b1, _, _⟩ := NB.2.2.2.facts
      have I4 := Lib.hid NB.2.2.1
      have DC := Lib.hid (DR.out sb _ NB.2.2.1.bel)
      have DZ := Lib.hid (DF.out sb)
      clear NB
      go_wp2_with fail
      generalize (((((w1.alloc (.cells #[.int .u64 sa.1, .int .u64 sa.2] 65)).alloc (.cells #[.int .u64 sb.1, .int .u64 sb.2] 65)).setCell ⟨w.heap.size + 1 + 1 + 1 + 1, 0, none⟩ (.int .u64 sa.1)).setCell ⟨w.heap.size + 1 + 1 + 1 + 1, 1, none⟩ (.int .u64 sa.2)).setCell ⟨w.heap.size + 1 + 1 + 1, 0, none⟩ (.int .i64 ((k : Int) + 1))) = w4 at *
      ((with_reducible refine DC.out.mono ?_))
      rintro e w5 ⟨L5, lc5, rfl, ho5, hb5⟩
      have I5 := Lib.hid (I4.out.later hb5)
      have LA := Lib.hid (own_rowB ho5)
      have LC := Lib.hid ho5.cap_
      have CB := Lib.hid (BT.out (drawL t sb) L5 lc5 DZ.out.2 w5 I5.out.bel ho5.at_)
      have SZ5 := Lib.hid (And.intro I4.out.s.lt hb5.size)
      clear hb5 ho5 DC q0 q1 qf0 qf1 r0 r1 r2 r3 rf0 rf1 rf2 rf3 k0 k1 k2 k3 b0 b1 I1 SP DR
      obtain ⟨k0, k1, k2, k3⟩ := I5.out.g.facts
      obtain ⟨x0, x1, x2⟩ := I5.out.x.facts
      rw [TK.out] at FN FY
      generalize drawL t sb = l at *
      cases hbad : badT t x l with
      | false =>
        rw [hbad] at CB
        have FN2 := Lib.hid (FN.out hbad)
        clear hbad
        go_wp2_with fail
        ((with_reducible refine CB.out.mono ?_))
        rintro e w6 ⟨rfl, hb6⟩
        have I6 := Lib.hid (I5.out.later hb6)
        clear hb6 CB k0 k1 k2 k3 x0 x1 x2
        go_wp2_with fail
        go_roundg (many - (k + 1))
        case measure => omega
        case rel => exact ⟨k + 1, by omega, rfl, by rw [SK.out]; exact I6.out, FN2.out⟩
      | true =>
        rw [hbad] at CB
        have FY2 := Lib.hid (FY.out hlt hbad)
        clear hbad
        go_wp2_with fail
        ((with_reducible refine CB.out.mono ?_))
        rintro e w6 ⟨rfl, hb6⟩
        have I6 := Lib.hid (I5.out.later hb6)
        have LA6 := Lib.hid (show AtP w6 (fun b => w4.heap.size + 2 ≤ b ∧ b < w6.heap.size) L5 l from LA.out.keep fun b hb => ⟨⟨hb.1, Nat.lt_of_lt_of_le hb.2 hb6.size⟩, fun o => hb6.cell (p := ⟨b, o, none⟩) hb.2⟩)
        have SZ6 := Lib.hid hb6.size
        clear hb6 CB k0 k1 k2 k3 x0 x1 x2 LA I5
        obtain ⟨⟨r0, r1, r2, r3⟩, rf0, rf1, rf2, rf3⟩ := I6.out.r.facts
        have FB := Lib.hid (fail_box I6.out)
        have C7 := Lib.hid (WO.out l L5 lc5 (w.heap.size + 1 + 1 + 1 + 1 + 1) DZ.out.1 _ FB.out.1 (by rw [FB.out.2.2.2.2.2.1]; exact I6.out.s.lt) (LA6.out.keep fun b hb => ⟨⟨by have := SZ5.out.1; have := hb.1; omega, by rw [FB.out.2.2.2.2.2.1]; exact hb.2⟩, fun o => World.cell?_of_block (FB.out.2.2.2.2.2.2 b (by have := SZ5.out.1; have := hb.1; omega))⟩) LC.out)
        obtain ⟨k0, k1, k2, k3⟩ := FB.out.2.1.facts
        obtain ⟨x0, x1, x2⟩ := FB.out.2.2.1.facts
        go_wp2_with fail
        generalize w6.setCell ⟨w.heap.size + 1 + 1 + 1, 1, none⟩ (.bool true) = w7 at *
        ((with_reducible refine C7.out.mono ?_))
        rintro e w8 ⟨A8, c8, rfl, ha8, hc8, hb8⟩
        have O8 := FB.out.2.2.2.1.below hb8
        have R8 := FB.out.2.2.2.2.1.below hb8
        have B8 := Lib.hid (below_trans FB.out.1 hb8)
        have TB := Lib.hid (tape_box R8 O8 (by omega) (.slice A8 (walkT t x l).1.length c8) (.int .i64 (walkT t x l).2))
        have HA := Lib.hid ha8
        have HC := Lib.hid hc8
        have S7 := Lib.hid FB.out.2.2.2.2.1.lt
        clear ha8 hc8 hb8 C7 k0 k1 k2 k3 x0 x1 x2 r0 r1 r2 r3 rf0 rf1 rf2 rf3 FB I6 I4 LA6
        obtain ⟨⟨r0, r1, r2, r3⟩, rf0, rf1, rf2, rf3⟩ := R8.facts
        obtain ⟨⟨s0', s1', s2', s3'⟩, _⟩ := TB.out.1.facts
        obtain ⟨⟨o0, o1, o2, o3⟩, of0, of1, of2, of3⟩ := TB.out.2.1.facts
        have TD := Lib.hid (told_box TB.out.2.1 (.int .i64 ((k : Int) + 1)) (.bool true) (.slice A8 (walkT t x l).1.length c8) (.int .i64 (walkT t x l).2))
        generalize (walkT t x l).1 = z at *
        generalize (walkT t x l).2 = st at *
        clear R8 O8
        go_wp2_with fail
        obtain ⟨⟨t0, t1, t2, t3⟩, _⟩ := TD.out.1.facts
        refine bodyPost_ret (v := .agg #[.int .i64 ((k : Int) + 1), .bool true, .slice A8 z.length c8, .int .i64 st]) (by simp [results, Tryz.results9, go_sem, t0, t1, t2, t3]) rfl ?_
        refine ⟨A8, c8, ?_, ?_, ?_, ?_⟩
        · rw [FY2.out]; rfl
        · rw [FY2.out]
          exact HA.out.keep fun b hb => ⟨⟨by have := hb.1; omega, Nat.lt_of_lt_of_le hb.2 (Nat.le_trans TB.out.2.2.1.size TD.out.2.1.size)⟩, fun o => World.cell?_of_block ((TD.out.2.2 b (by have := hb.1; omega)).trans (TB.out.2.2.2 b (by have := hb.1; omega)))⟩
        · rw [FY2.out]; exact HC.out
        · exact B8.out.trans ((TB.out.2.2.1.mono (show w.heap.size ≤ w.heap.size + 1 + 1 + 1 by omega)).trans (TD.out.2.1.mono (show w.heap.size ≤ w.heap.size + 1 + 1 by omega)))
    · have FZ2 := Lib.hid (FZ.out hlt)
      obtain ⟨⟨o0, o1, o2, o3⟩, of0, of1, of2, of3⟩ := hI.out.o.facts
      have TD := Lib.hid (told_box hI.out.o (.int .i64 (k : Int)) (.bool false) (.slice none 0 0) (.int .i64 0))
      go_wp2_with fail
      obtain ⟨⟨t0, t1, t2, t3⟩, _⟩ := TD.out.1.facts
      refine bodyPost_ret (v := .agg #[.int .i64 (k : Int), .bool false, .slice none 0 0, .int .i64 0]) (by simp [results, Tryz.results9, go_sem, t0, t1, t2, t3]) rfl ?_
      refine ⟨none, 0, ?_, ?_, ?_, ?_⟩
      · rw [FZ2.out]; rfl
      · rw [FZ2.out]; exact fun h => by simp at h
      · rw [FZ2.out]; exact Nat.le_refl _
      · exact hI.out.bel.trans (TD.out.2.1.mono (show w.heap.size ≤ w.heap.size + 1 + 1 by omega))
end Go.Proofs.YtabkihellcflhaaGreatDoor.Gens

/- Contract of assayersame.Ints: it draws its order. Conditions: none but that the slices' cells are known. -/
namespace Go.Proofs.YtabkihellcflhaaGreatDoor.Ints
open Go.RowKit Go.WideShapes Go.ChangeShapes Lists
set_option linter.unusedVariables false

/-! assayersame.Ints: it draws its order -/
theorem same_any (l m : List Int) (A B : Option Addr) (c d N : Nat) (hl : l.length ≤ maxLen) (hm : m.length ≤ maxLen) (w : World) (ha : At w N A l) (hb : At w N B m) :
    Calls Tryz.prog 35 #[.slice A l.length c, .slice B m.length d] w fun e w' => e = .returned (.bool (decide (l = m))) ∧ ∃ n, w' = w.drewN n := by
  unfold maxLen at hl hm
  have HA := Lib.hid ha
  have HB := Lib.hid hb
  clear ha hb
  by_cases e : l.length = m.length
  · have ht : (((l.length : Nat) : Int) != ((m.length : Nat) : Int)) = false := by rw [bne_eq_false_iff_eq]; omega
    have hml : m.length ≤ l.length := by omega
    have hlm : l.length ≤ m.length := by omega
    have E := Lib.hid e
    clear e
    go_enter Tryz.func35, Tryz.ntmps35
    go_wp2
    go_loopw [5] (fun i wr => ∃ k n : Nat, k ≤ l.length ∧ i = .int .i64 k ∧ wr = w.drewN n ∧ Hid (l.take k = m.take k)) (fun i _ => l.length - (intOf i).toNat)
    case atStart => exact ⟨0, 0, Nat.zero_le _, rfl, rfl, rfl⟩
    case round =>
      obtain ⟨k, n, hk, rfl, rfl, ht2⟩ := hrel
      by_cases h1 : k < l.length
      · have h2 : k < m.length := by omega
        obtain ⟨b, off, rfl, _, hcell⟩ := HA.out (by omega)
        have c1 := hcell k h1
        clear hcell
        obtain ⟨b2, off2, rfl, _, hcell2⟩ := HB.out (by omega)
        have c2 := hcell2 k h2
        clear hcell2
        have t1 := Lib.hid (take_getD l k h1)
        have t2 := Lib.hid (take_getD m k h2)
        generalize hx : l.getD k 0 = x at c1 t1
        generalize hy : m.getD k 0 = y at c2 t2
        have HX := Lib.hid hx
        have HY := Lib.hid hy
        clear hx hy
        by_cases h : x = y
        · subst h
          have hv := Lib.hid (show l.take (k + 1) = m.take (k + 1) by rw [t1.out, t2.out, ht2.out])
          have h1' : (k : Int) < l.length := by omega
          have h2' : (k : Int) < m.length := by omega
          go_wp2
          go_quiet (fail)
          go_wp2
          go_roundw
          case rel => exact ⟨k + 1, _, by omega, by go_num, rfl, hv.out⟩
          case measure => simp [intOf]; omega
        · have hv := Lib.hid (show decide (l = m) = false by
            rw [decide_eq_false]; intro z; subst z; exact h (HX.out.symm.trans HY.out))
          have ht3 : (x != y) = true := by rw [bne_iff_ne]; exact h
          clear h
          go_wp2
          go_quiet (fail)
          go_wp2
          go_ret
          exact ⟨ret_b hv.out.symm, _, World.drewN_drewN _ _ _⟩
      · have hv := Lib.hid (show decide (l = m) = true by
          rw [decide_eq_true_eq, ← List.take_of_length_le (show l.length ≤ k by omega), ht2.out, List.take_of_length_le (by omega)])
        go_wp2
        go_ret
        exact ⟨ret_b hv.out.symm, _, rfl⟩
  · have ht : (((l.length : Nat) : Int) != ((m.length : Nat) : Int)) = true := by rw [bne_iff_ne]; omega
    have hv := Lib.hid (show decide (l = m) = false by rw [decide_eq_false]; intro z; subst z; exact e rfl)
    clear e
    go_enter Tryz.func35, Tryz.ntmps35
    go_wp2
    go_ret
    exact ⟨ret_b hv.out.symm, 0, rfl⟩
theorem same_below (l m : List Int) (A B : Option Addr) (c d N : Nat) (hl : l.length ≤ maxLen) (hm : m.length ≤ maxLen) (w : World) (ha : At w N A l) (hb : At w N B m) :
    Calls Tryz.prog 35 #[.slice A l.length c, .slice B m.length d] w fun e w' => e = .returned (.bool (decide (l = m))) ∧ Below w.heap.size w w' :=
  (same_any l m A B c d N hl hm w ha hb).mono fun _ _ ⟨h, n, h'⟩ => ⟨h, h' ▸ ⟨rfl, rfl, rfl, Nat.le_refl _, fun _ _ => rfl⟩⟩
end Go.Proofs.YtabkihellcflhaaGreatDoor.Ints
