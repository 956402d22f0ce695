/- RunsTell, part 37 of the proof: The document's own Played, of a Both. Condition: the sizes. · Rows of one generator, so often: append. -/
import Derived.Test.YtabkihellcflhaaGreatDoorRunsTellZ36
/- The document's own Played, of a Both. Condition: the sizes. -/
namespace Go.Proofs.YtabkihellcflhaaGreatDoor.Gens
open Go.RowKit Lists Ints Vals Go.ChangeShapes
set_option linter.unusedVariables false

set_option maxHeartbeats 8000000 in
set_option maxRecDepth 100000 in
theorem played_both (n : Nat) (ih : PlayedOK n) (a b : Int) (subs : List Gn) (A : Option Addr) (c : Nat) (lb : Bool) (nm : Int) (VA : Option Addr) (vl vc : Nat) (t : List Int) (TA : Option Addr) (tc k : Nat) (l : List Int) (L : Option Addr) (lc : Nat) (mend : Bool) (B : Nat) (w : World)
    (hit : GsS w (GBel B) n A subs) (hr : Right (.node 3 a b subs)) (hsz : (Gn.node 3 a b subs).size ≤ 4294967296) (ht : At w B TA t) (hl : At w B L l) (hB : B ≤ w.heap.size) (htl : t.length + longG (.node 3 a b subs) ≤ 4294967296) (hll : l.length ≤ 4294967296) (hkl : k + longG (.node 3 a b subs) ≤ 4294967296) (htc : t.length ≤ tc) :
    Calls Tryz.prog 85 #[gv (.node 3 a b subs) A c, pv lb nm VA vl vc TA t.length tc k 0, .slice L l.length lc, .bool mend] w (PlP (n + 1) w t TA k (play (chC mend) (.node 3 a b subs) (l.drop k))) := by
  have HB := Lib.hid (three_play w (.node 3 a b subs) A c (.bool lb) (.int .i64 nm) (.slice VA vl vc) (.slice TA t.length tc) (.int .i64 k) (.int .i64 0) (.bool false) (.int .i64 0) (.slice none 0 0) (.slice none 0 0) (.int .i64 0) (.int .i64 0))
  simp only [Gn.kind, Gn.a, Gn.b, Gn.subs] at HB
  have hlg : longG (.node 3 a b subs) = 1 + longs subs := by simp [longG]
  have IH := Lib.hid ih
  have HR := Lib.hid (show ∀ x ∈ subs, Right x from hr.subs)
  have hzs : 1 + gsizes subs ≤ 4294967296 := hsz
  have HZ := Lib.hid (show ∀ x ∈ subs, x.size ≤ 4294967296 from fun x hx => by have := gsize_mem subs x hx; omega)
  have HLN := Lib.hid (show subs.length ≤ 4294967296 by have := glen_sizes subs; omega)
  have HK := Lib.hid (And.intro htl (And.intro hll hkl))
  have HLG := Lib.hid (show t.length + longs subs ≤ 4294967296 ∧ k + longs subs ≤ 4294967296 by omega)
  have HLL := Lib.hid (fun (W : World) (hb : Below w.heap.size w W) => show At W W.heap.size L l from (hl.below (hb.mono hB)).more (Nat.le_trans hB hb.size))
  obtain ⟨r, hrr⟩ : ∃ r, r = play (chC mend) (.node 3 a b subs) (l.drop k) := ⟨_, rfl⟩
  rw [← hrr]
  have HBAD := Lib.hid (fun er (h : playAll (chC mend) subs (l.drop k) = .error er) => show r = .error er by rw [hrr]; simp [play, h])
  have HGOOD := Lib.hid (fun cj acc s (h : playAll (chC mend) subs (l.drop k) = .ok (cj, acc, s)) => show r = .ok ([] ++ cj, .node true 0 acc, s) by rw [hrr]; simp [play, h])
  have HT := Lib.hid ht
  have HTC := Lib.hid htc
  have HBB := Lib.hid hB
  have HIT := Lib.hid hit
  clear ih hr hsz hzs htl hll hkl hl hlg hrr ht hB hit htc
  go_enter Tryz.func85, Tryz.ntmps85
  go_upto_region 1 with fail
  generalize ((w.alloc (gc (.node 3 a b subs) A c)).alloc (.cells #[.bool lb, .int .i64 nm, .slice VA vl vc, .slice TA t.length tc, .int .i64 k, .int .i64 0] 130)).alloc (.cells #[.bool false, .int .i64 0, .slice none 0 0, .slice none 0 0, .int .i64 0, .int .i64 0] 130) = W at HB ⊢
  obtain ⟨k0, k1, k2, k3⟩ := HB.out.1.facts
  obtain ⟨p0, p1, p2, p3, p4, p5⟩ := HB.out.2.1.facts
  go_upto_region 23 with fail
  have n1 := bel1 W (.cells #[.bool true, .int .i64 0, .slice none 0 0] 47)
  have V1 := Lib.hid (show V3 W.heap.size (.bool true) (.int .i64 0) (.slice none 0 0) (W.alloc (.cells #[.bool true, .int .i64 0, .slice none 0 0] 47)) from new_obj W _)
  have Z1 := Lib.hid (show (W.alloc (.cells #[.bool true, .int .i64 0, .slice none 0 0] 47)).heap.size = W.heap.size + 1 by simp)
  have N1 := Lib.hid n1
  clear n1 k0 k1 k2 k3 p0 p1 p2 p3 p4 p5
  generalize W.alloc (.cells #[.bool true, .int .i64 0, .slice none 0 0] 47) = W1 at *
  obtain ⟨vb, hvb⟩ : ∃ vb, vb = W.heap.size := ⟨_, rfl⟩
  obtain ⟨base, hbase⟩ : ∃ base, base = W1.heap.size := ⟨_, rfl⟩
  rw [← hvb] at V1 ⊢
  obtain ⟨S, hSS⟩ : ∃ S : Nat → Prop, S = GBel B := ⟨_, rfl⟩
  have HX := Lib.hid (show (∀ b, S b → b ≠ w.heap.size + 1 ∧ b ≠ w.heap.size + 1 + 1 ∧ b ≠ vb ∧ b < base) ∧ (w.heap.size ≤ w.heap.size + 1 ∧ w.heap.size + 1 < base) ∧ (w.heap.size ≤ w.heap.size + 1 + 1 ∧ w.heap.size + 1 + 1 < base) ∧ (w.heap.size ≤ vb ∧ vb < base) ∧ w.heap.size + 1 ≠ w.heap.size + 1 + 1 ∧ w.heap.size + 1 ≠ vb ∧ w.heap.size + 1 + 1 ≠ vb by
    have h1 := HB.out.2.2.2.2
    have h2 := Z1.out
    have h3 := HBB.out
    refine ⟨fun b hb => ?_, by omega, by omega, by omega, by omega, by omega, by omega⟩
    rw [hSS] at hb
    have hb : b < B := hb
    omega)
  have HM := Lib.hid (PM.start (ch := chC mend) (ps := subs) (r := r) (l := l) (t1 := t) (k1 := k) (n := n) (S := S) (SA := A) (base := base) (w := w) (TA1 := TA) (HB.out.2.1.below N1.out) V1.out (HB.out.2.2.1.below N1.out)
    (HIT.out.keep fun b hb => ⟨by rw [hSS]; exact hb, fun o => (HB.out.2.2.2.1.trans (N1.out.mono HB.out.2.2.2.1.size)).cell (p := ⟨b, o, none⟩) (Nat.lt_of_lt_of_le hb HBB.out)⟩)
    (HB.out.2.2.2.1.trans (N1.out.mono HB.out.2.2.2.1.size)) (by omega)
    (.inl ⟨rfl, rfl, rfl, rfl, (AtS.of (HT.out.below ((HB.out.2.2.2.1.trans (N1.out.mono HB.out.2.2.2.1.size)).mono HBB.out)) (by have := HBB.out; have := HB.out.2.2.2.1.size; have := Z1.out; omega)).keep fun b hb hlt => ⟨⟨by have hb : b < B := hb; have := HBB.out; have h1 := HB.out.2.2.2.2; omega, hlt⟩, fun _ => rfl⟩, HTC.out⟩))
  have HVB := Lib.hid (And.intro hvb hbase)
  clear hvb hbase hSS V1 N1 Z1 HB HIT HT
  go_wp2_with fail
  go_loopw [13] (fun i wr => ∃ (j : Nat) (xs : List (Value × Value × Value)) (A1 : Option Addr) (cA1 : Nat) (lb1 : Bool) (nm1 : Int) (VA1 : Option Addr) (vl1 vc1 : Nat) (TA1 : Option Addr) (tl1 tc1 : Nat) (a1 er1 : Int), i = .int .i64 j ∧ Hid (PM (chC mend) (subs) r l (t) (k) n S (A) (w.heap.size + 1) (w.heap.size + 1 + 1) vb base w (TA) j xs A1 cA1 lb1 nm1 VA1 vl1 vc1 TA1 tl1 tc1 a1 er1 wr)) (fun i _ => (subs).length - (intOf i).toNat)
  case atStart => exact ⟨0, [], none, 0, _, _, _, _, _, _, _, _, _, _, rfl, HM.out⟩
  case round =>
    obtain ⟨j, xs, A1, cA1, lb1, nm1, VA1, vl1, vc1, TA1, tl1, tc1, a1, er1, rfl, HJ⟩ := hrel
    obtain ⟨hS, hpb, hrb, hvb, hpr, hpv, hrv⟩ := HX.out
    by_cases hlt : j < (subs).length
    · obtain ⟨ib, off, D, d, rfl, y0, y1, y2, y3, hg⟩ := HJ.out.gs.sub j hlt
      obtain ⟨p0, p1, p2, p3, p4, p5⟩ := HJ.out.box.facts
      have CALL := Lib.hid (HJ.out.call (lc := lc) IH.out hlt HR.out HZ.out hS hpb hrb hvb (HLL.out wr HJ.out.bel) HK.out.2.1 HLG.out HBAD.out (Below.refl wr.heap.size wr).drew hg)
      have LEN := Lib.hid HJ.out.len
      have hjl : j ≤ 4294967296 := by have := HLN.out; omega
      have hji : (j : Int) < ((subs).length : Int) := by omega
      have NX := Lib.hid (fun lb' nm' VA' vl' vc' TA' tl' tc' a' e' w3 w4 w5 w6 w7 hb3 hn h4 h5 A' c' zl hz hown g6 r6 h7 => HJ.out.next hlt hS hpb hrb hvb hpr hpv hrv (lb' := lb') (nm' := nm') (VA' := VA') (vl' := vl') (vc' := vc') (TA' := TA') (tl' := tl') (tc' := tc') (a' := a') (e' := e') (w3 := w3) (w4 := w4) (w5 := w5) (w6 := w6) (w7 := w7) hb3 hn h4 h5 (A' := A') (c' := c') (zl := zl) hz hown g6 r6 h7)
      clear hg
      generalize (subs)[j]'hlt = y at *
      go_wp2_with fail
      go_region_law (first
        | (go_simp
           with_reducible refine CALL.out.mono ?_
           rintro en w3 ⟨lb2, nm2, VA2, vl2, vc2, TA2, tl2, tc2, a2, er2, rfl, hb3, hn⟩
           have HN := Lib.hid (And.intro hb3 hn)
           have P3 := Lib.hid (HJ.out.box.below hb3)
           clear hb3 hn
           obtain ⟨p0, p1, p2, p3, p4, p5⟩ := P3.out.facts
           have e0 := P3.out.free 0
           have e1 := P3.out.free 1
           have e2 := P3.out.free 2
           have e3 := P3.out.free 3
           have e4 := P3.out.free 4
           have e5 := P3.out.free 5))
      all_goals (
        go_upto_region 27 with fail
        have GR4 := Lib.hid (put6_gr w3 (w.heap.size + 1) (.bool lb2) (.int .i64 nm2) (.slice VA2 vl2 vc2) (.slice TA2 tl2 tc2) (.int .i64 a2) (.int .i64 er2))
        have P4 := Lib.hid (P3.out.put6 (.bool lb2) (.int .i64 nm2) (.slice VA2 vl2 vc2) (.slice TA2 tl2 tc2) (.int .i64 a2) (.int .i64 er2))
        have V4 := Lib.hid (show V3 vb _ _ _ _ from (GR4.out.block vb (HJ.out.vbox.below HN.out.1).lt (fun e => hpv (Option.some.inj e).symm)).trans (HJ.out.vbox.below HN.out.1))
        have ROW := Lib.hid (fun w5 (b5 : Below _ _ w5) => HJ.out.row_at hpb.2 HN.out.1 GR4.out b5)
        generalize hw4 : (((((w3.setCell ⟨w.heap.size + 1, 0, none⟩ (.bool lb2)).setCell ⟨w.heap.size + 1, 1, none⟩ (.int .i64 nm2)).setCell ⟨w.heap.size + 1, 2, none⟩ (.slice VA2 vl2 vc2)).setCell ⟨w.heap.size + 1, 3, none⟩ (.slice TA2 tl2 tc2)).setCell ⟨w.heap.size + 1, 4, none⟩ (.int .i64 a2)).setCell ⟨w.heap.size + 1, 5, none⟩ (.int .i64 er2) = w4 at GR4 P4 V4 ROW ⊢
        have HW4 := Lib.hid hw4
        clear hw4 p0 p1 p2 p3 p4 p5 e0 e1 e2 e3 e4 e5
        obtain ⟨p0, p1, p2, p3, p4, p5⟩ := P4.out.facts
        obtain ⟨v0, v1, v2, _, _, _⟩ := V4.out.facts
        have hvA : ∀ g, blockOf A1 = some g → base ≤ g := fun g hg => (HJ.out.row.ge g hg).1
        have HVA := Lib.hid hvA
        have hxl : xs.length + 1 ≤ 1099511627776 := by have := LEN.out; omega
        have HBS := Lib.hid (show base ≤ w4.heap.size from Nat.le_trans HJ.out.size (Nat.le_trans HN.out.1.size GR4.out.size))
        clear hvA
        go_wp2_with (
          at_builtin
          refine wpList_append_v rfl (.tmp 113) (.tmp 116) rfl base cA1 A1 xs (ROW.out _ (bel1 _ _)) w4.heap.size (.bool lb2) (.int .i64 nm2) (.slice VA2 vl2 vc2) 1 (V3.facts (new_obj w4 _)).1 (V3.facts (new_obj w4 _)).2.1 (V3.facts (new_obj w4 _)).2.2.1 ⟨rfl, rfl, rfl⟩ rfl rfl hxl (by have := HBS.out; simp; omega) ?_
          intro A6 c6 w6 z6 hz6 own6 g6 r6
          have V6 := Lib.hid (show V3 vb (.bool true) (.int .i64 0) (.slice A1 xs.length cA1) w6 from (g6.block vb (by have := V4.out.lt; simp; omega) (fun e => by have := HVA.out vb e.symm; omega)).trans (V4.out.below (bel1 _ _)))
          obtain ⟨u0, u1, u2, u3, u4, u5⟩ := V6.out.facts
          have PX := Lib.hid (fun w7 h7 => NX.out lb2 nm2 VA2 vl2 vc2 TA2 tl2 tc2 a2 er2 w3 w4 _ w6 w7 HN.out.1 HN.out.2 HW4.out.symm rfl A6 c6 z6 hz6.out own6 g6 r6 h7)
          clear own6 g6 r6)
        go_roundw
        case rel => exact ⟨j + 1, z6, A6, c6, lb2, nm2, VA2, vl2, vc2, TA2, tl2, tc2, a2, er2, by go_num, PX.out _ rfl⟩
        case measure => simp [intOf]; omega)
    · have hjn : ¬ ((j : Int) < ((subs).length : Int)) := by omega
      have HJE := Lib.hid (show j = (subs).length by have := HJ.out.le; omega)
      obtain ⟨v0, v1, v2, _, _, _⟩ := HJ.out.vbox.facts
      obtain ⟨p0, p1, p2, p3, p4, p5⟩ := HJ.out.box.facts
      have e0 := HJ.out.box.free 0
      have e1 := HJ.out.box.free 1
      have e2 := HJ.out.box.free 2
      have e3 := HJ.out.box.free 3
      have e4 := HJ.out.box.free 4
      have e5 := HJ.out.box.free 5
      have P5 := Lib.hid (HJ.out.box.put3 (.bool true) (.int .i64 0) (.slice A1 xs.length cA1))
      have GR5 := Lib.hid (put3_gr wr (w.heap.size + 1) (.bool true) (.int .i64 0) (.slice A1 xs.length cA1))
      have R5 := Lib.hid (HJ.out.rbox.same (GR5.out.block (w.heap.size + 1 + 1) HJ.out.rbox.lt (fun e => by have e := Option.some.inj e; omega)))
      have B5 := Lib.hid (HJ.out.bel.grown GR5.out HJ.out.bel.size (fun g hg => by have hg := Option.some.inj hg; omega))
      go_upto_region 29 with fail
      generalize ((wr.setCell ⟨w.heap.size + 1, 0, none⟩ (.bool true)).setCell ⟨w.heap.size + 1, 1, none⟩ (.int .i64 0)).setCell ⟨w.heap.size + 1, 2, none⟩ (.slice A1 xs.length cA1) = W5 at P5 GR5 R5 B5 ⊢
      clear p0 p1 p2 p3 p4 p5 e0 e1 e2 e3 e4 e5
      obtain ⟨p0, p1, p2, p3, p4, p5⟩ := P5.out.facts
      obtain ⟨r0, r1, r2, r3, r4, r5⟩ := R5.out.facts
      have f0 := R5.out.free 0
      have f1 := R5.out.free 1
      have f2 := R5.out.free 2
      have f3 := R5.out.free 3
      have f4 := R5.out.free 4
      have f5 := R5.out.free 5
      have Q := Lib.hid (And.intro (R5.out.put6 (.bool true) (.int .i64 0) (.slice A1 xs.length cA1) (.slice TA1 tl1 tc1) (.int .i64 a1) (.int .i64 er1)).facts (And.intro (B5.out.grown (put6_gr W5 (w.heap.size + 1 + 1) (.bool true) (.int .i64 0) (.slice A1 xs.length cA1) (.slice TA1 tl1 tc1) (.int .i64 a1) (.int .i64 er1)) B5.out.size (fun g hg => by have hg := Option.some.inj hg; omega)) (put6_gr W5 (w.heap.size + 1 + 1) (.bool true) (.int .i64 0) (.slice A1 xs.length cA1) (.slice TA1 tl1 tc1) (.int .i64 a1) (.int .i64 er1))))
      go_wp2_with fail
      generalize (((((W5.setCell ⟨w.heap.size + 1 + 1, 0, none⟩ (.bool true)).setCell ⟨w.heap.size + 1 + 1, 1, none⟩ (.int .i64 0)).setCell ⟨w.heap.size + 1 + 1, 2, none⟩ (.slice A1 xs.length cA1)).setCell ⟨w.heap.size + 1 + 1, 3, none⟩ (.slice TA1 tl1 tc1)).setCell ⟨w.heap.size + 1 + 1, 4, none⟩ (.int .i64 a1)).setCell ⟨w.heap.size + 1 + 1, 5, none⟩ (.int .i64 er1) = W9 at Q ⊢
      obtain ⟨q0, q1, q2, q3, q4, q5⟩ := Q.out.1
      refine bodyPost_ret (v := .agg #[.bool true, .int .i64 0, .slice A1 xs.length cA1, .slice TA1 tl1 tc1, .int .i64 a1, .int .i64 er1]) (by simp [results, Tryz.results85, go_sem, q0, q1, q2, q3, q4, q5]) rfl ?_
      exact HJ.out.done HJE.out hpb hrb (t := t) (c0 := []) (TA := TA) (k := k) (by simp) rfl (.inl ⟨rfl, rfl⟩) HGOOD.out GR5.out Q.out.2.2
end Go.Proofs.YtabkihellcflhaaGreatDoor.Gens

/- Rows of one generator, so often: append. -/
namespace Go.Proofs.YtabkihellcflhaaGreatDoor.Gens
open Go.RowKit Lists Ints Vals Go.ChangeShapes
set_option linter.unusedVariables false

/-- a row of one generator, so often -/
def OwnQ (w : World) (base : Nat) (A : Option Addr) (c : Nat) (X : List Value) (m : Nat) : Prop :=
  w.ownsRow base 24 4 (.slice A m c) m (List.replicate m X).flatten
theorem OwnQ.none_ {w : World} {base : Nat} {X : List Value} : OwnQ w base none 0 X 0 := ⟨rfl, .inl ⟨rfl, rfl⟩⟩
theorem OwnQ.below {w w' : World} {base c m : Nat} {A : Option Addr} {X : List Value} (h : OwnQ w base A c X m) (hb : Below w.heap.size w w') : OwnQ w' base A c X m := by
  refine ⟨h.1, ?_⟩
  rcases h.2 with h0 | ⟨g, cap, cur, he, hbg, hh, r⟩
  · exact .inl h0
  · exact .inr ⟨g, cap, cur, he, hbg, (hb.block g (Array.getElem?_eq_some_iff.1 hh).1).trans hh, r⟩
theorem OwnQ.ge {w : World} {base c m : Nat} {A : Option Addr} {X : List Value} (h : OwnQ w base A c X m) : ∀ g, blockOf A = some g → base ≤ g ∧ g < w.heap.size := by
  intro g hg
  rcases h.2 with ⟨he, _⟩ | ⟨g', cap, cur, he, hb, hh, _⟩
  · injection he with he; subst he; cases hg
  · injection he with he; subst he
    have : g' = g := by simpa [blockOf] using hg
    subst this
    exact ⟨hb, (Array.getElem?_eq_some_iff.1 hh).1⟩
theorem gen_info : (Tryz.prog.info? 24).map (fun i => (i.zero, i.size, i.bytes)) = some (some (.agg #[.int .i64 0, .int .i64 0, .int .i64 0, .slice none 0 0]), 4, 48) := by kernel_rfl
set_option maxRecDepth 100000 in
theorem run_append_q (w : World) (base c m : Nat) (A : Option Addr) (x0 x1 x2 x3 : Value) (hown : OwnQ w base A c [x0, x1, x2, x3] m) (b c2 : Nat)
    (k0 : w.cell? ⟨b, 0, none⟩ = some x0) (k1 : w.cell? ⟨b, 1, none⟩ = some x1) (k2 : w.cell? ⟨b, 2, none⟩ = some x2) (k3 : w.cell? ⟨b, 3, none⟩ = some x3) (one : x0.oneCell' = true ∧ x1.oneCell' = true ∧ x2.oneCell' = true ∧ x3.oneCell' = true)
    (h63 : m + 1 ≤ 1099511627776) (hbase : base ≤ w.heap.size) (ty : TypeId) :
    ∃ A' c' w', (Builtin.append_ #[22, 22] ty #[.slice A m c, .slice (some ⟨b, 0, none⟩) 1 c2]).run Tryz.prog w = .ok (.slice A' (m + 1) c') w' ∧ OwnQ w' base A' c' [x0, x1, x2, x3] (m + 1) ∧ w.grownBy w' (blockOf A) := by
  obtain ⟨i0, hi, hz, hsz, hby⟩ := info_parts gen_info
  have hcells : ∀ j u, ([x0, x1, x2, x3] : List Value)[j]? = some u → w.cell? ((⟨b, 0, none⟩ : Addr).add j) = some u := by
    intro j u hu
    rw [Go.WideShapes.add_plain, Nat.zero_add]
    match j, hu with
    | 0, hu => rw [k0]; simpa using hu
    | 1, hu => rw [k1]; simpa using hu
    | 2, hu => rw [k2]; simpa using hu
    | 3, hu => rw [k3]; simpa using hu
    | j + 4, hu => simp at hu
  obtain ⟨v', w', hrun, r2, r3, _, r5⟩ := run_append_own_at (P := Tryz.prog) w base 22 ty 24 i0 _ 4 48 Tryz.underlying22 hi hz hsz hby rfl (by decide) _ m _ hown
    ⟨b, 0, none⟩ 1 c2 [x0, x1, x2, x3] rfl hcells (by
      intro u hu
      simp only [List.mem_cons, List.not_mem_nil, or_false] at hu
      rcases hu with rfl | rfl | rfl | rfl
      · exact one.1
      · exact one.2.1
      · exact one.2.2.1
      · exact one.2.2.2) (by simp only [maxLen]; omega) (by omega) hbase
  have hv : ∃ A' c', v' = .slice A' (m + 1) c' := by
    rcases r2.2 with ⟨he, hn⟩ | ⟨g, cap, cur, he, _⟩
    · omega
    · exact ⟨_, _, he⟩
  obtain ⟨A', c', rfl⟩ := hv
  rw [blockOf_own] at r3
  refine ⟨A', c', w', hrun, ?_, r3⟩
  unfold OwnQ
  rw [← List.replicate_append_replicate, List.flatten_append]
  simpa using r2
theorem wpList_append_q {ops : Array Oper} {rest : List Oper} {o : Oper} {a : Act} {w : World} {Q : Exit → Act → World → Prop} (hgd : o.guard = none) (s x : Operand)
    (ho : o.op = .call { callee := .builtin .append, args := #[s, x], argTypes := #[22, 22] })
    (base c m : Nat) (A : Option Addr) (x0 x1 x2 x3 : Value) (hown : OwnQ w base A c [x0, x1, x2, x3] m) (b c2 : Nat)
    (k0 : w.cell? ⟨b, 0, none⟩ = some x0) (k1 : w.cell? ⟨b, 1, none⟩ = some x1) (k2 : w.cell? ⟨b, 2, none⟩ = some x2) (k3 : w.cell? ⟨b, 3, none⟩ = some x3) (one : x0.oneCell' = true ∧ x1.oneCell' = true ∧ x2.oneCell' = true ∧ x3.oneCell' = true)
    (hs : a.eval s = .slice A m c) (hx : a.eval x = .slice (some ⟨b, 0, none⟩) 1 c2)
    (h63 : m + 1 ≤ 1099511627776) (hbase : base ≤ w.heap.size)
    (h : ∀ A' c' w', OwnQ w' base A' c' [x0, x1, x2, x3] (m + 1) → w.grownBy w' (blockOf A) → wpList Tryz.prog ops Q rest (a.put o.dst (.slice A' (m + 1) c')) w') : wpList Tryz.prog ops Q (o :: rest) a w := by
  obtain ⟨A', c', w', hrun, h2, h3⟩ := run_append_q w base c m A x0 x1 x2 x3 hown b c2 k0 k1 k2 k3 one h63 hbase o.type
  refine wpList_plain hgd fun K hK => ?_
  unfold Oper.wp execOp
  simp only [ho, resolve, invoke, builtin, Sem.run_bind, Sem.run_pure, Result.andThen_ok, List.map_toArray, List.map_cons, List.map_nil, hs, hx, hrun]
  exact hK _ _ (h A' c' w' h2 h3)
/-- the row as a list of generators -/
theorem OwnQ.gs {w : World} {base c m n : Nat} {A : Option Addr} {y : Gn} {D : Option Addr} {d : Nat} {S : Nat → Prop} (h : OwnQ w base A c [.int .i64 y.kind, .int .i64 y.a, .int .i64 y.b, .slice D y.subs.length d] m) (hA : ∀ g, blockOf A = some g → S g) (ht : GAt w S n (gv y D d) y) :
    GsS w S n A (List.replicate m y) := fun hp => by
  have hm : 0 < m := by simpa using hp
  rcases h.2 with ⟨he, h0⟩ | ⟨g, cap, cur, he, hbg, hh, hmc, _, hcs, htk⟩
  · omega
  · have hA' : A = some ⟨g, 0, none⟩ := by injection he
    subst hA'
    refine ⟨g, 0, rfl, hA g rfl, fun j hj => ?_⟩
    have hj : j < m := by simpa using hj
    have hcell : ∀ q, q < 4 → w.cell? ⟨g, 0 + j * 4 + q, none⟩ = ([.int .i64 y.kind, .int .i64 y.a, .int .i64 y.b, .slice D y.subs.length d] : List Value)[q]? := fun q hq => by
      have e : (List.replicate m ([.int .i64 y.kind, .int .i64 y.a, .int .i64 y.b, .slice D y.subs.length d] : List Value)).flatten[j * 4 + q]? = ([.int .i64 y.kind, .int .i64 y.a, .int .i64 y.b, .slice D y.subs.length d] : List Value)[q]? := by
        rw [show m = j + (1 + (m - j - 1)) by omega, ← List.replicate_append_replicate, List.flatten_append, List.getElem?_append_right (by simp [List.length_flatten]), ← List.replicate_append_replicate, List.flatten_append, List.getElem?_append_left (by simp [List.length_flatten]; omega)]
        simp [List.length_flatten]
      rw [cell_of_row w g _ cur 24 (0, 0) hh]
      rw [← htk, List.getElem?_take, if_pos (by omega)] at e
      rw [← e, Array.getElem?_toList]
      congr 1
      omega
    exact ⟨_, _, _, _, hcell 0 (by omega), hcell 1 (by omega), hcell 2 (by omega), hcell 3 (by omega), by simpa using ht⟩
end Go.Proofs.YtabkihellcflhaaGreatDoor.Gens
