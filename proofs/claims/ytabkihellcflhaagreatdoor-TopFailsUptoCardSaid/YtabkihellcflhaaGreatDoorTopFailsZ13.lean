/- TopFails, part 13 of the proof: The program's value of a Both: all the sources' choices, one part after the other. Conditions: a small generator. -/
import Derived.Test.YtabkihellcflhaaGreatDoorTopFailsZ12
import Derived.Deep.DrawnRows
/- The program's value of a Both: all the sources' choices, one part after the other. Conditions: a small generator. -/
namespace Go.Proofs.YtabkihellcflhaaGreatDoor.Gens
open Go.RowKit Lists Ints Vals
set_option linter.unusedVariables false
attribute [local go_sem ↓] Go.wp_at_zero Go.wp_at_succ

section
variable {σ : Type} {ch : σ → Int → Except Int (Int × σ)} {k : Nat} {cap : Array Value} {B : Nat} {I : σ → (Nat → Prop) → World → Prop}
/-- the three boxes at its start -/
theorem three_boxes (w : World) (x0 x1 x2 x3 y0 y1 y2 z0 z1 z2 : Value) : G4 w.heap.size x0 x1 x2 x3 (((w.alloc (.cells #[x0, x1, x2, x3] 24)).alloc (.cells #[y0, y1, y2] 47)).alloc (.cells #[z0, z1, z2] 47)) ∧
    V3 (w.heap.size + 1) y0 y1 y2 (((w.alloc (.cells #[x0, x1, x2, x3] 24)).alloc (.cells #[y0, y1, y2] 47)).alloc (.cells #[z0, z1, z2] 47)) ∧
    V3 (w.heap.size + 1 + 1) z0 z1 z2 (((w.alloc (.cells #[x0, x1, x2, x3] 24)).alloc (.cells #[y0, y1, y2] 47)).alloc (.cells #[z0, z1, z2] 47)) ∧
    Below w.heap.size w (((w.alloc (.cells #[x0, x1, x2, x3] 24)).alloc (.cells #[y0, y1, y2] 47)).alloc (.cells #[z0, z1, z2] 47)) ∧
    (((w.alloc (.cells #[x0, x1, x2, x3] 24)).alloc (.cells #[y0, y1, y2] 47)).alloc (.cells #[z0, z1, z2] 47)).heap.size = w.heap.size + 3 := by
  obtain ⟨g, v, hb, hz⟩ := two_boxes w x0 x1 x2 x3 y0 y1 y2
  refine ⟨g.below (bel1 _ _), v.below (bel1 _ _), ?_, hb.trans ((bel1 _ _).mono hb.size), by simp⟩
  have := new_obj ((w.alloc (.cells #[x0, x1, x2, x3] 24)).alloc (.cells #[y0, y1, y2] 47)) (.cells #[z0, z1, z2] 47)
  rw [hz] at this
  exact this

set_option maxHeartbeats 4000000 in
set_option maxRecDepth 100000 in
theorem value_both (S : Src ch k cap B I) (n : Nat) (ih : ValueOK ch k cap B I n) (a b : Int) (subs : List Gn) (A : Option Addr) (c : Nat) (s : σ) (X : Nat → Prop) (w : World) (hr : Right (.node 3 a b subs)) (hsz : (Gn.node 3 a b subs).size ≤ 30) (hI : I s X w) (hne : play ch (.node 3 a b subs) s ≠ .error 77)
    (hit : 0 < subs.length → ∃ b off, A = some ⟨b, off, none⟩ ∧ GBel B b ∧ ∀ j (h : j < subs.length), ∃ x0 x1 x2 x3, w.cell? ⟨b, off + j * 4, none⟩ = some x0 ∧ w.cell? ⟨b, off + j * 4 + 1, none⟩ = some x1 ∧ w.cell? ⟨b, off + j * 4 + 2, none⟩ = some x2 ∧ w.cell? ⟨b, off + j * 4 + 3, none⟩ = some x3 ∧ GAt w (GBel B) n (.agg #[x0, x1, x2, x3]) (subs[j]'h)) :
    Calls Tryz.prog 68 #[fv k cap, .agg #[.int .i64 3, .int .i64 a, .int .i64 b, .slice A subs.length c]] w (VPost I (n + 1) (play ch (.node 3 a b subs) s) X w) := by
  have hrs : ∀ g ∈ subs, Right g := hr.subs
  have hzs : subs.length ≤ 30 ∧ ∀ g ∈ subs, g.size ≤ 30 := by
    rw [Gn.size] at hsz
    exact ⟨by have := glen_sizes subs; omega, fun g hg => by have := gsize_mem subs g hg; omega⟩
  have hX : ∀ q, w.heap.size ≤ q → ¬ X q := fun q hq => S.not hI hq
  obtain ⟨hBw, hXB⟩ := S.lt s X w hI
  have HB := Lib.hid (three_boxes w (.int .i64 3) (.int .i64 a) (.int .i64 b) (.slice A subs.length c) (.bool false) (.int .i64 0) (.slice none 0 0) (.bool true) (.int .i64 0) (.slice none 0 0))
  have IH := Lib.hid ih
  have HIT := Lib.hid hit
  have HRS := Lib.hid hrs
  have HZS := Lib.hid hzs
  have HXB := Lib.hid hXB
  have HPB := Lib.hid (fun er (h : playAll ch subs s = .error er) => show play ch (.node 3 a b subs) s = .error er by simp [play, h])
  have HPG := Lib.hid (fun cs vs s' (h : playAll ch subs s = .ok (cs, vs, s')) => show play ch (.node 3 a b subs) s = .ok (cs, .node true 0 vs, s') by simp [play, h])
  have HNE := Lib.hid (fun (e : playAll ch subs s = .error 77) => hne (HPB.out 77 e))
  have hln := hzs.1
  clear hne hrs hzs hr hsz ih hit hXB
  go_enter Tryz.func68, Tryz.ntmps68
  go_wp2_with fail
  generalize ((w.alloc (.cells #[.int .i64 3, .int .i64 a, .int .i64 b, .slice A subs.length c] 24)).alloc (.cells #[.bool false, .int .i64 0, .slice none 0 0] 47)).alloc (.cells #[.bool true, .int .i64 0, .slice none 0 0] 47) = W at HB ⊢
  have M0 := Lib.hid (Mid.start (ch := ch) (l := subs) (n := n) S hI HB.out.2.2.2.1 HB.out.2.2.1 (base := w.heap.size + 3) (by omega) (by omega) (by rw [HB.out.2.2.2.2]; omega))
  go_loopw [30] (fun i wr => ∃ (j : Nat) (acc : List Tr) (sj : σ) (Xj : Nat → Prop) (Aj : Option Addr) (cj : Nat), i = .int .i64 j ∧ Hid (Mid ch I subs s X w (w.heap.size + 1 + 1) (w.heap.size + 3) n j acc sj Xj Aj cj wr) ∧ Hid (V3 (w.heap.size + 1) (.bool false) (.int .i64 0) (.slice none 0 0) wr ∧ ¬ Xj (w.heap.size + 1))) (fun i _ => subs.length - (intOf i).toNat)
  case atStart => exact ⟨0, [], s, X, none, 0, rfl, M0.out, HB.out.2.1, hX _ (by omega)⟩
  case round =>
    obtain ⟨j, acc, sj, Xj, Aj, cj, rfl, HM, HR⟩ := hrel
    by_cases hlt : j < subs.length
    · have HBB := Lib.hid (Mv.below HM.out.mv (fun b hb => (HXB.out b hb).1) hBw)
      obtain ⟨ib, off, D, d, rfl, c0, c1, c2, c3, hti⟩ := sub_as HIT.out HBB.out j hlt
      have hsi : (subs[j]'hlt).size ≤ 30 := HZS.out.2 _ (List.getElem_mem hlt)
      have hri : Right (subs[j]'hlt) := HRS.out _ (List.getElem_mem hlt)
      have HT := Lib.hid (show GAt wr (GBel B) n (gv (subs[j]'hlt) D d) (subs[j]'hlt) ∧ (subs[j]'hlt).size ≤ 30 ∧ Right (subs[j]'hlt) from ⟨hti, hsi, hri⟩)
      have HBAD := Lib.hid (fun er w3 X' (hc : play ch (subs[j]'hlt) sj = .error er) (hm : Mv Xj wr w3 X') => VPost.bad (I := I) (er := er) (n := n + 1) (r := play ch (.node 3 a b subs) s) (HPB.out er (by obtain ⟨cs, hrun⟩ := HM.out.run; exact all_stop hlt hrun hc)) (Mv.trans HM.out.mv hm))
      have HNX := Lib.hid (fun (c2 : List Int) (t : Tr) (s' : σ) (X' : Nat → Prop) (w3 w4 w5 : World) (A' : Option Addr) (c' : Nat) (hp : play ch (subs[j]'hlt) sj = .ok (c2, t, s')) (hi : I s' X' w3) (hm : Mv Xj wr w3 X') hb ho hown hg => Mid.next (c2 := c2) (t := t) (s' := s') (X' := X') (w3 := w3) (w4 := w4) (w5 := w5) (A' := A') (c' := c') S HM.out hlt hp hi hm hb ho hown hg hBw)
      have HN7 := Lib.hid (show play ch (subs[j]'hlt) sj ≠ .error 77 from fun e => HNE.out (by obtain ⟨cs, hrun⟩ := HM.out.run; exact all_stop hlt hrun e))
      clear hti hsi hri
      generalize subs[j]'hlt = y at HT HBAD HNX HN7 c0 c1 c2 c3
      have HW1 := Lib.hid (show G4 wr.heap.size (.int .i64 y.kind) (.int .i64 y.a) (.int .i64 y.b) (.slice D y.subs.length d) (wr.alloc (.cells #[.int .i64 y.kind, .int .i64 y.a, .int .i64 y.b, .slice D y.subs.length d] 24)) ∧ Below wr.heap.size wr (wr.alloc (.cells #[.int .i64 y.kind, .int .i64 y.a, .int .i64 y.b, .slice D y.subs.length d] 24)) from ⟨new_obj _ _, bel1 _ _⟩)
      go_wp2_with fail
      generalize wr.alloc (.cells #[.int .i64 y.kind, .int .i64 y.a, .int .i64 y.b, .slice D y.subs.length d] 24) = W1 at HW1 ⊢
      have HBD := Lib.hid (show Below wr.heap.size wr W1.drew from bel_drew HW1.out.2)
      have HM1 := Lib.hid (Mid.later S HM.out HBD.out)
      have HV := Lib.hid (IH.out y _ sj Xj W1.drew (GAt.below HT.out.1 (HBD.out.mono (Nat.le_trans hBw HM.out.mv.size))) HT.out.2.2 HT.out.2.1 HM1.out.inv HN7.out)
      obtain ⟨g0, g1, g2, g3⟩ := HW1.out.1.facts
      have HAL := Lib.hid (show acc.length + 1 ≤ 1099511627776 by have := HM.out.len; omega)
      obtain ⟨k0, k1, k2, k3, k4, k5⟩ := (show V3 (w.heap.size + 1 + 1) (.bool true) (.int .i64 0) (.slice Aj acc.length cj) W1 from HM1.out.box).facts
      go_region_law (first
        | (go_simp
           with_reducible refine HV.out.mono ?_
           intro e w3 hs
           rcases hs.split with ⟨er, X', hc, rfl, hm3⟩ | ⟨c2, t, s', A3, cc3, X', hc, rfl, hi3, hm3, ht3, hn3⟩
           · exact ⟨rfl, HBAD.out er w3 X' hc (Mv.trans (Mv.of_below HBD.out) hm3)⟩
           have HC := Lib.hid (fun w4 (hb : Below w3.heap.size w3 w4) => Mid.called (w4 := w4) S HM1.out hi3 hm3 ht3 hb)
           have HN := Lib.hid (And.intro hc (And.intro hi3 hm3))
           obtain ⟨z0, z1, z2, y0, y1, y2⟩ := (HC.out w3 (Below.refl _ _)).2.2.2.2.facts
           have hne : w3.heap.size ≠ w.heap.size + 1 + 1 := World.new_ne w3 _ z2
           have hne2 : w.heap.size + 1 + 1 ≠ w3.heap.size := hne.symm
           obtain ⟨_, _, za, _, _, yb⟩ := (HC.out (w3.alloc (.cells #[.bool t.list, .int .i64 t.num, .slice A3 t.items.length cc3] 47)) (bel1 _ _)).2.2.2.2.facts
           clear hs hc hi3 hm3 ht3 hn3)
        | (refine step_append_x (by rfl) _ _ (by rfl) (w.heap.size + 3) cj n Aj acc X' (HC.out _ (bel1 w3 _)).2.2.1 (HC.out _ (bel1 w3 _)).1 w3.heap.size (.bool t.list) (.int .i64 t.num) (.slice A3 t.items.length cc3) _ t (V3.facts (new_obj w3 _)).1 (V3.facts (new_obj w3 _)).2.1 (V3.facts (new_obj w3 _)).2.2.1 ⟨rfl, rfl, rfl⟩ (HC.out _ (bel1 w3 _)).2.1 (by rfl) (by rfl) HAL.out (HC.out _ (bel1 w3 _)).2.2.2.1 ?_
           intro A' c' w5 zl hz ho hg
           obtain ⟨_, _, z2', y0', y1', y2'⟩ := (V3.grown (HC.out _ (bel1 w3 _)).2.2.2.2 (HC.out _ (bel1 w3 _)).1 hg (by omega)).facts))
      all_goals (
        have NX := HNX.out c2 t s' X' w3 _ w5 A' c' HN.out.1 HN.out.2.1 (Mv.trans (Mv.of_below HBD.out) HN.out.2.2) (bel1 w3 _) (by rw [← hz.out]; exact ho) (HC.out _ (bel1 w3 _)).1 hg
        rw [← hz.out] at NX
        have NX := Lib.hid NX
        have NR := Lib.hid (Mid.side (y := .slice A' zl.length c') HM.out (Mv.trans (Mv.of_below HBD.out) HN.out.2.2) (bel1 w3 _) (HC.out _ (bel1 w3 _)).1 hg HR.out (by omega) (by omega) 2)
        go_wp2_with fail
        go_roundw
        case rel => exact ⟨j + 1, zl, s', X', A', c', by go_num, NX.out, NR.out⟩
        case measure => simp [intOf]; omega)
    · have hj : j = subs.length := by have := HM.out.le; omega
      obtain ⟨k0, k1, k2, k3, k4, k5⟩ := HM.out.box.facts
      obtain ⟨z0, z1, z2, y0, y1, y2⟩ := HR.out.1.facts
      have HD := Lib.hid (Mid.done S (r := play ch (.node 3 a b subs) s) (rb := w.heap.size + 1) (y0 := .bool true) (y1 := .int .i64 0) (y2 := .slice Aj acc.length cj) HM.out hj hBw (by
        obtain ⟨cs, hrun⟩ := HM.out.run
        rw [List.take_of_length_le (by omega)] at hrun
        exact ⟨cs, fun cs2 _ => HPG.out cs acc sj hrun⟩) (by omega) (by omega) HR.out.2)
      have HVV := Lib.hid (((HR.out.1.put (.bool true) (.int .i64 0) (.slice Aj acc.length cj))).facts)
      go_wp2_with fail
      generalize ((wr.setCell ⟨w.heap.size + 1, 0, none⟩ (.bool true)).setCell ⟨w.heap.size + 1, 1, none⟩ (.int .i64 0)).setCell ⟨w.heap.size + 1, 2, none⟩ (.slice Aj acc.length cj) = W9 at HD HVV ⊢
      obtain ⟨f0, f1, f2, _⟩ := HVV.out
      refine bodyPost_ret (v := tval (.node true 0 acc) Aj cj) (by simp [results, Tryz.results68, go_sem, f0, f1, f2, Tr.list, Tr.num, Tr.items]) rfl ?_
      exact HD.out
end
end Go.Proofs.YtabkihellcflhaaGreatDoor.Gens
