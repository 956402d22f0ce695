/- TopFails, part 43 of the proof: The program's Run (package runs). Conditions: the sizes; the program's table. -/
import Derived.Test.YtabkihellcflhaaGreatDoorTopFailsZ41
import Derived.Test.YtabkihellcflhaaGreatDoorTopFailsZ42
import Derived.Deep.LoopGhost
/- The program's Run (package runs). Conditions: the sizes; the program's table. -/
namespace Go.Proofs.YtabkihellcflhaaGreatDoor.Gens
open Go.RowKit Lists Ints Vals Exprs Rng
set_option linter.unusedVariables false

set_option maxHeartbeats 4000000 in
set_option maxRecDepth 100000 in
theorem rcheck {t x : Gn} {GA XA : Option Addr} {gcap xcap n nx : Nat} (many : Int) (w : World) (hg : GAt w (GBel w.heap.size) n (gv t GA gcap) t) (hx : EAt w (EBel w.heap.size) nx (ev x XA xcap) x) (hsub : Subs w) (hsz : t.size ≤ 4294967296) (hxz : x.size ≤ 4294967296) :
    Calls Tryz.prog 29 #[gv t GA gcap, ev x XA xcap, .int .i64 many] w fun e w' => e = .returned (errOf (runE t x many)) ∧ Below w.heap.size w w' := by
  have HB := Lib.hid (gx_boxes w t x GA XA gcap xcap)
  have GC := Lib.hid (fun (W : World) (hb : Below w.heap.size w W) => gcheck W (hg.below hb) hb.size hsz)
  have EC := Lib.hid (fun (W : World) (hb : Below w.heap.size w W) => echeck W (hx.below hb) hb.size hxz (hsub.below hb))
  have SE := Lib.hid (show runE t x many = if genV t = 0 then (if faultE x = 0 then (if many < 0 ∨ 50 < many then 1 else 0) else faultE x) else genV t from rfl)
  clear hg hx hsub hsz hxz
  obtain ⟨k0, k1, k2, k3⟩ := HB.out.1.facts
  by_cases h0 : genV t = 0
  · rw [if_pos h0] at SE
    rw [h0, errOf_ok] at GC
    clear h0
    by_cases h1 : faultE x = 0
    · rw [if_pos h1] at SE
      rw [h1, errOf_ok] at EC
      clear h1
      by_cases hm : many < 0
      · rw [if_pos (.inl hm)] at SE
        go_enter Tryz.func29, Tryz.ntmps29
        go_wp2_with fail
        generalize (w.alloc (gc t GA gcap)).alloc (ec x XA xcap) = W0 at *
        ((with_reducible refine (GC.out W0 HB.out.2.2.1).mono ?_))
        rintro e w1 ⟨rfl, hb1⟩
        have B1 := Lib.hid (HB.out.2.2.1.trans (hb1.mono HB.out.2.2.1.size))
        have X1 := Lib.hid (HB.out.2.1.below hb1)
        obtain ⟨x0, x1, x2⟩ := X1.out.facts
        clear k0 k1 k2 k3 hb1
        go_wp2_with fail
        ((with_reducible refine (EC.out w1 B1.out).mono ?_))
        rintro e w2 ⟨rfl, hb2⟩
        clear x0 x1 x2
        have B2 := Lib.hid (below_trans B1.out hb2)
        clear hb2 X1
        go_wp2_with fail
        go_ret
        exact ⟨by rw [SE.out]; rfl, B2.out⟩
      · by_cases hq : 50 < many
        · rw [if_pos (.inr hq)] at SE
          go_enter Tryz.func29, Tryz.ntmps29
          go_wp2_with fail
          generalize (w.alloc (gc t GA gcap)).alloc (ec x XA xcap) = W0 at *
          ((with_reducible refine (GC.out W0 HB.out.2.2.1).mono ?_))
          rintro e w1 ⟨rfl, hb1⟩
          have B1 := Lib.hid (HB.out.2.2.1.trans (hb1.mono HB.out.2.2.1.size))
          have X1 := Lib.hid (HB.out.2.1.below hb1)
          obtain ⟨x0, x1, x2⟩ := X1.out.facts
          clear k0 k1 k2 k3 hb1
          go_wp2_with fail
          ((with_reducible refine (EC.out w1 B1.out).mono ?_))
          rintro e w2 ⟨rfl, hb2⟩
          clear x0 x1 x2
          have B2 := Lib.hid (below_trans B1.out hb2)
          clear hb2 X1
          go_wp2_with fail
          go_ret
          exact ⟨by rw [SE.out]; rfl, B2.out⟩
        · rw [if_neg (by omega)] at SE
          go_enter Tryz.func29, Tryz.ntmps29
          go_wp2_with fail
          generalize (w.alloc (gc t GA gcap)).alloc (ec x XA xcap) = W0 at *
          ((with_reducible refine (GC.out W0 HB.out.2.2.1).mono ?_))
          rintro e w1 ⟨rfl, hb1⟩
          have B1 := Lib.hid (HB.out.2.2.1.trans (hb1.mono HB.out.2.2.1.size))
          have X1 := Lib.hid (HB.out.2.1.below hb1)
          obtain ⟨x0, x1, x2⟩ := X1.out.facts
          clear k0 k1 k2 k3 hb1
          go_wp2_with fail
          ((with_reducible refine (EC.out w1 B1.out).mono ?_))
          rintro e w2 ⟨rfl, hb2⟩
          clear x0 x1 x2
          have B2 := Lib.hid (below_trans B1.out hb2)
          clear hb2 X1
          go_wp2_with fail
          go_ret
          exact ⟨by rw [SE.out]; rfl, B2.out⟩
    · rw [if_neg h1] at SE
      have RE := Lib.hid (errOf_no h1)
      rw [errOf_no h1] at EC
      clear h1
      generalize faultE x = f at *
      go_enter Tryz.func29, Tryz.ntmps29
      go_wp2_with fail
      generalize (w.alloc (gc t GA gcap)).alloc (ec x XA xcap) = W0 at *
      ((with_reducible refine (GC.out W0 HB.out.2.2.1).mono ?_))
      rintro e w1 ⟨rfl, hb1⟩
      have B1 := Lib.hid (HB.out.2.2.1.trans (hb1.mono HB.out.2.2.1.size))
      have X1 := Lib.hid (HB.out.2.1.below hb1)
      obtain ⟨x0, x1, x2⟩ := X1.out.facts
      clear k0 k1 k2 k3 hb1
      go_wp2_with fail
      ((with_reducible refine (EC.out w1 B1.out).mono ?_))
      rintro e w2 ⟨rfl, hb2⟩
      clear x0 x1 x2
      have B2 := Lib.hid (below_trans B1.out hb2)
      clear hb2 X1
      go_wp2_with fail
      go_ret
      exact ⟨by rw [SE.out, RE.out]; rfl, B2.out⟩
  · rw [if_neg h0] at SE
    have RE := Lib.hid (errOf_no h0)
    rw [errOf_no h0] at GC
    clear h0 EC
    generalize genV t = f at *
    go_enter Tryz.func29, Tryz.ntmps29
    go_wp2_with fail
    generalize (w.alloc (gc t GA gcap)).alloc (ec x XA xcap) = W0 at *
    ((with_reducible refine (GC.out W0 HB.out.2.2.1).mono ?_))
    rintro e w1 ⟨rfl, hb1⟩
    have B1 := Lib.hid (HB.out.2.2.1.trans (hb1.mono HB.out.2.2.1.size))
    clear k0 k1 k2 k3 hb1
    go_wp2_with fail
    go_ret
    exact ⟨by rw [SE.out, RE.out]; rfl, B1.out⟩

/-- Run's boxes -/
structure PBx (w0 : World) (t x : Gn) (GA : Option Addr) (gcap : Nat) (XA : Option Addr) (xcap : Nat) (p : Nat) (s : Int × Int) (w : World) : Prop where
  bel : Below w0.heap.size w0 w
  g : G4 w0.heap.size (.int .i64 t.kind) (.int .i64 t.a) (.int .i64 t.b) (.slice GA t.subs.length gcap) w
  x : E3 (w0.heap.size + 1) (.int .i64 x.kind) (.int .i64 x.a) (.slice XA x.subs.length xcap) w
  o : R4 (w0.heap.size + 1 + 1) (.int .i64 0) (.bool false) (.slice none 0 0) (.int .i64 0) w
  s : SB p s w
  lo : w0.heap.size + 1 + 1 < p
theorem sb_below {p : Nat} {s : Int × Int} {w w' : World} (h : SB p s w) (hb : Below w.heap.size w w') : SB p s w' := (hb.block p h.lt).trans h
theorem PBx.later {w0 w w' : World} {t x : Gn} {GA XA : Option Addr} {gcap xcap p : Nat} {s : Int × Int} (h : PBx w0 t x GA gcap XA xcap p s w) (hb : Below w.heap.size w w') : PBx w0 t x GA gcap XA xcap p s w' :=
  ⟨below_trans h.bel hb, h.g.below hb, h.x.below hb, h.o.below hb, sb_below h.s hb, h.lo⟩
theorem PBx.seed {w0 w : World} {t x : Gn} {GA XA : Option Addr} {gcap xcap p : Nat} {s : Int × Int} (h : PBx w0 t x GA gcap XA xcap p s w) (a g : Int) :
    PBx w0 t x GA gcap XA xcap p (a, g) ((w.setCell ⟨p, 0, none⟩ (.int .u64 a)).setCell ⟨p, 1, none⟩ (.int .u64 g)) := by
  have ne : ∀ b, b ≠ p → ((w.setCell ⟨p, 0, none⟩ (.int .u64 a)).setCell ⟨p, 1, none⟩ (.int .u64 g)).heap[b]? = w.heap[b]? := fun b hb => (Below.heap_setCell _ ⟨p, 1, none⟩ _ b hb).trans (Below.heap_setCell _ ⟨p, 0, none⟩ _ b hb)
  have lo := h.lo
  exact ⟨Below.setCell (p := ⟨p, 1, none⟩) (Below.setCell (p := ⟨p, 0, none⟩) h.bel (by show w0.heap.size ≤ p; omega) _) (by show w0.heap.size ≤ p; omega) _,
    (ne _ (by omega)).trans h.g, (ne _ (by omega)).trans h.x, (ne _ (by omega)).trans h.o, h.s.put a g, lo⟩
/-- another's box is filled -/
theorem PBx.other {w0 w : World} {t x : Gn} {GA XA : Option Addr} {gcap xcap p q : Nat} {s : Int × Int} (h : PBx w0 t x GA gcap XA xcap p s w) (hq : p < q) (v v' : Value) :
    PBx w0 t x GA gcap XA xcap p s ((w.setCell ⟨q, 0, none⟩ v).setCell ⟨q, 1, none⟩ v') := by
  have ne : ∀ b, b ≠ q → ((w.setCell ⟨q, 0, none⟩ v).setCell ⟨q, 1, none⟩ v').heap[b]? = w.heap[b]? := fun b hb => (Below.heap_setCell _ ⟨q, 1, none⟩ _ b hb).trans (Below.heap_setCell _ ⟨q, 0, none⟩ _ b hb)
  have lo := h.lo
  exact ⟨Below.setCell (p := ⟨q, 1, none⟩) (Below.setCell (p := ⟨q, 0, none⟩) h.bel (by show w0.heap.size ≤ q; omega) _) (by show w0.heap.size ≤ q; omega) _,
    (ne _ (by omega)).trans h.g, (ne _ (by omega)).trans h.x, (ne _ (by omega)).trans h.o, (ne _ (by omega)).trans h.s, lo⟩
/-- the boxes at the start -/
theorem gxo_boxes (w : World) (t x : Gn) (GA XA : Option Addr) (gcap xcap : Nat) :
    let W := ((w.alloc (gc t GA gcap)).alloc (ec x XA xcap)).alloc (.cells #[.int .i64 0, .bool false, .slice none 0 0, .int .i64 0] 34)
    G4 w.heap.size (.int .i64 t.kind) (.int .i64 t.a) (.int .i64 t.b) (.slice GA t.subs.length gcap) W ∧ E3 (w.heap.size + 1) (.int .i64 x.kind) (.int .i64 x.a) (.slice XA x.subs.length xcap) W ∧ R4 (w.heap.size + 1 + 1) (.int .i64 0) (.bool false) (.slice none 0 0) (.int .i64 0) W ∧ Below w.heap.size w W ∧ W.heap.size = w.heap.size + 1 + 1 + 1 := by
  obtain ⟨h1, h2, h3, h4⟩ := gx_boxes w t x GA XA gcap xcap
  generalize (w.alloc (gc t GA gcap)).alloc (ec x XA xcap) = W0 at *
  intro W
  have b1 := bel1 W0 (.cells #[.int .i64 0, .bool false, .slice none 0 0, .int .i64 0] 34)
  have n1 := new_obj W0 (.cells #[.int .i64 0, .bool false, .slice none 0 0, .int .i64 0] 34)
  rw [h4] at n1
  exact ⟨h1.below b1, h2.below b1, n1, below_trans h3 b1, by show (World.alloc _ _).heap.size = _; simp [h4]⟩
/-- the seed's box -/
theorem seed_box {w0 w : World} {t x : Gn} {GA XA : Option Addr} {gcap xcap : Nat} (hb : Below w0.heap.size w0 w) (hg : G4 w0.heap.size (.int .i64 t.kind) (.int .i64 t.a) (.int .i64 t.b) (.slice GA t.subs.length gcap) w) (hx : E3 (w0.heap.size + 1) (.int .i64 x.kind) (.int .i64 x.a) (.slice XA x.subs.length xcap) w) (ho : R4 (w0.heap.size + 1 + 1) (.int .i64 0) (.bool false) (.slice none 0 0) (.int .i64 0) w) (a g : Int) :
    PBx w0 t x GA gcap XA xcap w.heap.size (a, g) (w.alloc (.cells #[.int .u64 a, .int .u64 g] 65)) := by
  have b1 := bel1 w (.cells #[.int .u64 a, .int .u64 g] 65)
  exact ⟨below_trans hb b1, hg.below b1, hx.below b1, ho.below b1, new_obj w (.cells #[.int .u64 a, .int .u64 g] 65), ho.lt⟩
/-- the boxes in a round: w2 is the world behind Split -/
theorem pround_boxes {w0 w1 w2 : World} {t x : Gn} {GA XA : Option Addr} {gcap xcap p : Nat} {s : Int × Int} (h : PBx w0 t x GA gcap XA xcap p s w1) (hb : Below (w1.heap.size + 1) (w1.alloc (.cells #[.int .u64 0, .int .u64 0] 65)) w2) (sa sb : Int × Int) :
    let W3 := (w2.setCell ⟨p, 0, none⟩ (.int .u64 sa.1)).setCell ⟨p, 1, none⟩ (.int .u64 sa.2)
    let W4 := (W3.setCell ⟨w1.heap.size, 0, none⟩ (.int .u64 sb.1)).setCell ⟨w1.heap.size, 1, none⟩ (.int .u64 sb.2)
    PBx w0 t x GA gcap XA xcap p s w2 ∧ SB w1.heap.size (0, 0) W3 ∧ PBx w0 t x GA gcap XA xcap p sa W4 ∧ SB w1.heap.size sb W4 := by
  intro W3 W4
  have b1 := bel1 w1 (.cells #[.int .u64 0, .int .u64 0] 65)
  have z1 : (w1.alloc (.cells #[.int .u64 0, .int .u64 0] 65)).heap.size = w1.heap.size + 1 := by simp
  have n1 : SB w1.heap.size (0, 0) (w1.alloc (.cells #[.int .u64 0, .int .u64 0] 65)) := new_obj w1 (.cells #[.int .u64 0, .int .u64 0] 65)
  have hb : Below (w1.alloc (.cells #[.int .u64 0, .int .u64 0] 65)).heap.size (w1.alloc (.cells #[.int .u64 0, .int .u64 0] 65)) w2 := by rw [z1]; exact hb
  have h2 : PBx w0 t x GA gcap XA xcap p s w2 := (h.later b1).later hb
  have n2 : SB w1.heap.size (0, 0) w2 := sb_below n1 hb
  have lt := h.s.lt
  have h3 : PBx w0 t x GA gcap XA xcap p sa W3 := h2.seed sa.1 sa.2
  have e3 : W3.heap[w1.heap.size]? = w2.heap[w1.heap.size]? := (Below.heap_setCell _ ⟨p, 1, none⟩ _ _ (by show w1.heap.size ≠ p; omega)).trans (Below.heap_setCell _ ⟨p, 0, none⟩ _ _ (by show w1.heap.size ≠ p; omega))
  have n3 : SB w1.heap.size (0, 0) W3 := e3.trans n2
  exact ⟨h2, n3, h3.other lt _ _, n3.put sb.1 sb.2⟩

set_option maxHeartbeats 16000000 in
set_option maxRecDepth 100000 in
theorem run_prog {t x : Gn} {GA XA : Option Addr} {gcap xcap n nx : Nat} (num many : Int) (w : World) (hg : GAt w (GBel w.heap.size) n (gv t GA gcap) t) (hx : EAt w (EBel w.heap.size) nx (ev x XA xcap) x) (hsub : Subs w) (hsz : t.size ≤ 4294967296) (hxz : x.size ≤ 4294967296) :
    Calls Tryz.prog 10 #[gv t GA gcap, ev x XA xcap, .int .i64 num, .int .i64 many] w (RnPost (runR t x num many) (runE t x many) w) := by
  have HB := Lib.hid (gxo_boxes w t x GA XA gcap xcap)
  have CK := Lib.hid (fun (W : World) (hb : Below w.heap.size w W) => rcheck many W ((hg.below hb).more hb.size) ((hx.below hb).more hb.size) (hsub.below hb) hsz hxz)
  have SB0 := Lib.hid (fun (W : World) => seed_box (w0 := w) (w := W) (t := t) (x := x) (GA := GA) (XA := XA) (gcap := gcap) (xcap := xcap))
  obtain ⟨k0, k1, k2, k3⟩ := HB.out.1.facts
  obtain ⟨x0, x1, x2⟩ := HB.out.2.1.facts
  by_cases hr : runE t x many = 0
  · have hr' := hr
    obtain ⟨h0, hf, hm0, hm1⟩ := run_ok hr
    have RR := Lib.hid (show runR t x num many = repK t x (u64of num, gold) many.toNat from runR_ok hr)
    have RE := Lib.hid hr
    rw [hr, errOf_ok] at CK
    have SP := Lib.hid (fun (s : Int × Int) (W : World) => show Calls Tryz.prog 31 #[.agg #[.int .u64 s.1, .int .u64 s.2]] W fun e w' => e = .returned (.tuple #[.agg #[.int .u64 (fstS s).1, .int .u64 (fstS s).2], .agg #[.int .u64 (sndS s).1, .int .u64 (sndS s).2]]) ∧ Below W.heap.size W w' from split_any s.1 s.2 W)
    have NW := Lib.hid (fun (W : World) => new_any num W)
    have DR := Lib.hid (fun (s : Int × Int) (W : World) (hb : Below w.heap.size w W) => show Calls Tryz.prog 32 #[gv t GA gcap, .agg #[.int .u64 s.1, .int .u64 s.2]] W fun e w' => ∃ (A' : Option Addr) (c' : Nat), e = .returned (.tuple #[.slice A' (drawL t s).length c', .nilIface]) ∧ Own w' W.heap.size A' c' (drawL t s) ∧ Below W.heap.size W w' by
      have := draw_prog (a := s.1) (g := s.2) W ((hg.below hb).more hb.size) hsz
      rw [h0, errOf_ok] at this
      exact this)
    have WY := Lib.hid (fun (l : List Int) (L : Option Addr) (lc lo : Nat) (hz : roseE t l = 0) (hll : l.length ≤ 1399680) (hbad : badT t x l = true) (W : World) (hb : Below w.heap.size w W) (ho : Own W lo L lc l) => walk_is W ((hg.below hb).more hb.size) ((hx.below hb).more hb.size) (hsub.below hb) ho.at_ ho.cap_ (by omega) hsz hxz (start_of hf hz hbad) (show walkV t x l = ((walkT t x l).1, (walkT t x l).2) from walkV_ok (start_of hf hz hbad)))
    have WN := Lib.hid (fun (l : List Int) (L : Option Addr) (lc lo : Nat) (hz : roseE t l = 0) (hll : l.length ≤ 1399680) (hbad : badT t x l = false) (W : World) (hb : Below w.heap.size w W) (ho : Own W lo L lc l) => walk_is W ((hg.below hb).more hb.size) ((hx.below hb).more hb.size) (hsub.below hb) ho.at_ ho.cap_ (by omega) hsz hxz (start_none hf hz hbad) (walkV_no (by rw [start_none hf hz hbad]; decide)))
    have DF := Lib.hid (fun (s : Int × Int) => And.intro (draw_rose (t := t) s h0) (rep_facts (draw_rose (t := t) s h0)).2.1)
    obtain ⟨m, rfl⟩ : ∃ m : Nat, many = m := ⟨many.toNat, by omega⟩
    rw [show ((m : Int)).toNat = m from rfl] at RR
    have hm : m ≤ 50 := by omega
    clear hg hx hsub h0 hf hr hr' hm0 hm1 hsz hxz
    go_enter Tryz.func10, Tryz.ntmps10
    go_wp2_with fail
    generalize ((w.alloc (gc t GA gcap)).alloc (ec x XA xcap)).alloc (.cells #[.int .i64 0, .bool false, .slice none 0 0, .int .i64 0] 34) = W0 at *
    ((with_reducible refine (CK.out W0 HB.out.2.2.2.1).mono ?_))
    rintro e w1 ⟨rfl, hb1⟩
    have B1 := Lib.hid (HB.out.2.2.2.1.trans (hb1.mono HB.out.2.2.2.1.size))
    have G1 := Lib.hid (HB.out.1.below hb1)
    have X1 := Lib.hid (HB.out.2.1.below hb1)
    have O1 := Lib.hid (HB.out.2.2.1.below hb1)
    clear k0 k1 k2 k3 x0 x1 x2 hb1
    go_wp2_with fail
    ((with_reducible refine (NW.out w1).mono ?_))
    rintro e w2 ⟨rfl, hb2⟩
    have B2 := Lib.hid (below_trans B1.out hb2)
    have SBX := Lib.hid (SB0.out w2 B2.out (G1.out.below hb2) (X1.out.below hb2) (O1.out.below hb2) (u64of num) gold)
    have P2 := Lib.hid (show w.heap.size + 1 + 1 < w2.heap.size from (O1.out.below hb2).lt)
    clear hb2 G1 X1 O1 SB0
    go_wp2_with fail
    have I0 := Lib.hid (show PBx w t x GA gcap XA xcap w2.heap.size (seedK (u64of num, gold) 0) _ from SBX.out)
    clear SBX
    generalize w2.alloc (.cells #[.int .u64 (u64of num), .int .u64 gold] 65) = W3 at *
    generalize (u64of num, gold) = s0 at *
    generalize w2.heap.size = p at *
    clear B2 B1 HB
    go_loopg [30] (m) (fun g v wr => ∃ k : Nat, k ≤ m ∧ g = m - k ∧ v = .int .i64 k ∧ Hid (PBx w t x GA gcap XA xcap p (seedK s0 k) wr) ∧ Hid (∀ j, j < k → badT t x (tapeK t s0 j) = false))
    case atStart => exact ⟨0, Nat.zero_le _, rfl, rfl, I0.out, fun j h => absurd h (by omega)⟩
    case round =>
      obtain ⟨k, hk, rfl, rfl, hI, hno⟩ := hrel
      have TK := Lib.hid (show tapeK t s0 k = drawL t (sndS (seedK s0 k)) from rfl)
      have SK := Lib.hid (show seedK s0 (k + 1) = fstS (seedK s0 k) from rfl)
      have FN := Lib.hid (fun (h : badT t x (tapeK t s0 k) = false) => show ∀ j, j < k + 1 → badT t x (tapeK t s0 j) = false from fun j hj => by
        by_cases e : j = k
        · subst e; exact h
        · exact hno.out j (by omega))
      have FY := Lib.hid (fun (hlt : k < m) (h : badT t x (tapeK t s0 k) = true) => rep_some (first_is hlt h hno.out))
      have FZ := Lib.hid (fun (hlt : ¬ k < m) => show repK t x s0 m = ⟨k, false, [], 0⟩ by
        obtain rfl : k = m := by omega
        exact rep_none (first_no hno.out))
      generalize seedK s0 k = sk at *
      by_cases hlt : k < m
      · have BB1 := Lib.hid (bel1 wr (.cells #[.int .u64 0, .int .u64 0] 65))
        obtain ⟨q0, q1, qf0, qf1⟩ := (hI.out.later BB1.out).s.facts
        have C1 := Lib.hid (SP.out sk (wr.alloc (.cells #[.int .u64 0, .int .u64 0] 65)))
        go_wp2_with fail
        ((with_reducible refine C1.out.mono ?_))
        rintro e w1 ⟨rfl, hb1⟩
        generalize fstS sk = sa at *
        generalize sndS sk = sb at *
        have NB := pround_boxes hI.out (by simpa using hb1) sa sb
        clear hb1 C1 q0 q1 qf0 qf1 BB1
        obtain ⟨q0, q1, qf0, qf1⟩ := NB.1.s.facts
        obtain ⟨d0, d1, df0, df1⟩ := NB.2.1.facts
        obtain ⟨k0, k1, k2, k3⟩ := NB.2.2.1.g.facts
        obtain ⟨b0, b1, _, _⟩ := NB.2.2.2.facts
        have I4 := Lib.hid NB.2.2.1
        have DC := Lib.hid (DR.out sb _ NB.2.2.1.bel)
        have DZ := Lib.hid (DF.out sb)
        clear NB
        go_wp2_with fail
        generalize ((((w1.setCell ⟨p, 0, none⟩ (.int .u64 sa.1)).setCell ⟨p, 1, none⟩ (.int .u64 sa.2)).setCell ⟨wr.heap.size, 0, none⟩ (.int .u64 sb.1)).setCell ⟨wr.heap.size, 1, none⟩ (.int .u64 sb.2)) = w4 at *
        ((with_reducible refine DC.out.mono ?_))
        rintro e w5 ⟨L5, lc5, rfl, ho5, hb5⟩
        have I5 := Lib.hid (I4.out.later hb5)
        have HO5 := Lib.hid ho5
        clear hb5 ho5 DC q0 q1 qf0 qf1 d0 d1 df0 df1 k0 k1 k2 k3 b0 b1 I4 SP DR
        obtain ⟨k0, k1, k2, k3⟩ := I5.out.g.facts
        obtain ⟨x0, x1, x2⟩ := I5.out.x.facts
        rw [TK.out] at FN FY
        generalize drawL t sb = l at *
        cases hbad : badT t x l with
        | false =>
          have C6 := Lib.hid (WN.out l L5 lc5 _ DZ.out.1 DZ.out.2 hbad w5 I5.out.bel HO5.out)
          have FN2 := Lib.hid (FN.out hbad)
          clear hbad
          go_wp2_with fail
          ((with_reducible refine C6.out.mono ?_))
          rintro e w6 ⟨A6, c6, rfl, ho6, hb6⟩
          have I6 := Lib.hid (I5.out.later hb6)
          have E2 := Lib.hid (errOf_no (show (2 : Int) ≠ 0 by decide))
          clear hb6 ho6 C6 k0 k1 k2 k3 x0 x1 x2
          rw [E2.out]
          go_wp2_with fail
          go_roundg (m - (k + 1))
          case measure => omega
          case rel => exact ⟨k + 1, by omega, rfl, by go_num, by rw [SK.out]; exact I6.out, FN2.out⟩
        | true =>
          have C6 := Lib.hid (WY.out l L5 lc5 _ DZ.out.1 DZ.out.2 hbad w5 I5.out.bel HO5.out)
          have FY2 := Lib.hid (FY.out hlt hbad)
          clear hbad
          go_wp2_with fail
          ((with_reducible refine C6.out.mono ?_))
          rintro e w6 ⟨A6, c6, rfl, ho6, hb6⟩
          rw [errOf_ok]
          have I6 := Lib.hid (I5.out.later hb6)
          have HO6 := Lib.hid (own_less ho6 I5.out.bel.size)
          have S5 := Lib.hid (And.intro hb6.size I5.out.o.lt)
          have HW := Lib.hid ho6
          clear hb6 ho6 C6 k0 k1 k2 k3 x0 x1 x2
          obtain ⟨⟨o0, o1, o2, o3⟩, of0, of1, of2, of3⟩ := I6.out.o.facts
          generalize (walkT t x l).1 = z at *
          generalize (walkT t x l).2 = st at *
          have TD := Lib.hid (told_box I6.out.o (.int .i64 ((k : Int) + 1)) (.bool true) (.slice A6 z.length c6) (.int .i64 st))
          go_wp2_with fail
          obtain ⟨⟨t0, t1, t2, t3⟩, _⟩ := TD.out.1.facts
          refine bodyPost_ret (v := .tuple #[.agg #[.int .i64 ((k : Int) + 1), .bool true, .slice A6 z.length c6, .int .i64 st], .nilIface]) (by simp [results, Tryz.results10, go_sem, t0, t1, t2, t3]) rfl ?_
          refine ⟨A6, c6, ?_, ?_, ?_, ?_⟩
          · rw [RR.out, FY2.out, RE.out, errOf_ok]; rfl
          · rw [RR.out, FY2.out]
            exact (own_rowB HW.out).keep (S' := fun b => b < _) fun b hb => ⟨Nat.lt_of_lt_of_le hb.2 TD.out.2.1.size, fun o => World.cell?_of_block (TD.out.2.2 b (by have := hb.1; have := S5.out.2; omega))⟩
          · rw [RR.out, FY2.out]; exact HO6.out.cap_
          · exact I6.out.bel.trans (TD.out.2.1.mono (show w.heap.size ≤ w.heap.size + 1 + 1 by omega))
      · have FZ2 := Lib.hid (FZ.out hlt)
        obtain ⟨⟨o0, o1, o2, o3⟩, of0, of1, of2, of3⟩ := hI.out.o.facts
        have TD := Lib.hid (told_box hI.out.o (.int .i64 (m : Int)) (.bool false) (.slice none 0 0) (.int .i64 0))
        have KM := Lib.hid (show k = m by omega)
        go_wp2_with fail
        obtain ⟨⟨t0, t1, t2, t3⟩, _⟩ := TD.out.1.facts
        refine bodyPost_ret (v := .tuple #[.agg #[.int .i64 (m : Int), .bool false, .slice none 0 0, .int .i64 0], .nilIface]) (by simp [results, Tryz.results10, go_sem, t0, t1, t2, t3]) rfl ?_
        refine ⟨none, 0, ?_, ?_, ?_, ?_⟩
        · rw [RR.out, FZ2.out, RE.out, errOf_ok, KM.out]; rfl
        · rw [RR.out, FZ2.out]; exact fun h => by simp at h
        · rw [RR.out, FZ2.out]; exact Nat.le_refl _
        · exact hI.out.bel.trans (TD.out.2.1.mono (show w.heap.size ≤ w.heap.size + 1 + 1 by omega))
  · have RR := Lib.hid (runR_no (n := num) hr)
    have EN := Lib.hid (errOf_no hr)
    rw [errOf_no hr] at CK
    generalize runE t x many = q at *
    clear hg hx hsub hr hsz hxz SB0
    obtain ⟨⟨o0, o1, o2, o3⟩, of0, of1, of2, of3⟩ := HB.out.2.2.1.facts
    go_enter Tryz.func10, Tryz.ntmps10
    go_wp2_with fail
    generalize ((w.alloc (gc t GA gcap)).alloc (ec x XA xcap)).alloc (.cells #[.int .i64 0, .bool false, .slice none 0 0, .int .i64 0] 34) = W0 at *
    ((with_reducible refine (CK.out W0 HB.out.2.2.2.1).mono ?_))
    rintro e w1 ⟨rfl, hb1⟩
    have B1 := Lib.hid (HB.out.2.2.2.1.trans (hb1.mono HB.out.2.2.2.1.size))
    have O1 := Lib.hid (HB.out.2.2.1.below hb1)
    clear k0 k1 k2 k3 x0 x1 x2 hb1 o0 o1 o2 o3 of0 of1 of2 of3
    obtain ⟨⟨o0, o1, o2, o3⟩, of0, of1, of2, of3⟩ := O1.out.facts
    have TD := Lib.hid (told_box O1.out (.int .i64 0) (.bool false) (.slice none 0 0) (.int .i64 0))
    go_wp2_with fail
    obtain ⟨⟨t0, t1, t2, t3⟩, _⟩ := TD.out.1.facts
    refine bodyPost_ret (v := .tuple #[.agg #[.int .i64 0, .bool false, .slice none 0 0, .int .i64 0], errOf q]) (by simp [results, Tryz.results10, go_sem, t0, t1, t2, t3, EN.out]) rfl ?_
    refine ⟨none, 0, ?_, ?_, ?_, ?_⟩
    · rw [RR.out]; rfl
    · rw [RR.out]; exact fun h => by simp at h
    · rw [RR.out]; exact Nat.le_refl _
    · exact B1.out.trans (TD.out.2.1.mono (show w.heap.size ≤ w.heap.size + 1 + 1 by omega))
end Go.Proofs.YtabkihellcflhaaGreatDoor.Gens
