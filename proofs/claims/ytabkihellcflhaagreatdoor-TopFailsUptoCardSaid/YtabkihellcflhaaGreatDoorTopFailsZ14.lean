/- TopFails, part 14 of the proof: The program's value of a Many. Conditions: a small generator. -/
import Derived.Test.YtabkihellcflhaaGreatDoorTopFailsZ13
/- The program's value of a Many. Conditions: a small generator. -/
namespace Go.Proofs.YtabkihellcflhaaGreatDoor.Gens
open Go.RowKit Lists Ints Vals
set_option linter.unusedVariables false
attribute [local go_sem ↓] Go.wp_at_zero Go.wp_at_succ

section
variable {σ : Type} {ch : σ → Int → Except Int (Int × σ)} {k : Nat} {cap : Array Value} {B : Nat} {I : σ → (Nat → Prop) → World → Prop}
set_option maxHeartbeats 4000000 in
set_option maxRecDepth 100000 in
theorem value_many (S : Src ch k cap B I) (n : Nat) (ih : ValueOK ch k cap B I n) (a b : Int) (y : Gn) (A : Option Addr) (c : Nat) (s : σ) (X : Nat → Prop) (w : World) (hr : Right (.node 4 a b [y])) (hsz : (Gn.node 4 a b [y]).size ≤ 30) (hI : I s X w) (hne : play ch (.node 4 a b [y]) s ≠ .error 77)
    (hit : 0 < [y].length → ∃ b off, A = some ⟨b, off, none⟩ ∧ GBel B b ∧ ∀ j (h : j < [y].length), ∃ x0 x1 x2 x3, w.cell? ⟨b, off + j * 4, none⟩ = some x0 ∧ w.cell? ⟨b, off + j * 4 + 1, none⟩ = some x1 ∧ w.cell? ⟨b, off + j * 4 + 2, none⟩ = some x2 ∧ w.cell? ⟨b, off + j * 4 + 3, none⟩ = some x3 ∧ GAt w (GBel B) n (.agg #[x0, x1, x2, x3]) ([y][j]'h)) :
    Calls Tryz.prog 68 #[fv k cap, .agg #[.int .i64 4, .int .i64 a, .int .i64 b, .slice A 1 c]] w (VPost I (n + 1) (play ch (.node 4 a b [y]) s) X w) := by
  have hry : ∀ g ∈ [y], Right g := hr.subs
  have hry := hry y (by simp)
  have hzy : y.size ≤ 30 := by rw [Gn.size, gsizes] at hsz; omega
  have hX : ∀ q, w.heap.size ≤ q → ¬ X q := fun q hq => S.not hI hq
  obtain ⟨hBw, hXB⟩ := S.lt s X w hI
  obtain ⟨ha0, ha5, _⟩ := (right_max hr).2.2.1 rfl
  have HB := Lib.hid (three_boxes w (.int .i64 4) (.int .i64 a) (.int .i64 b) (.slice A 1 c) (.bool false) (.int .i64 0) (.slice none 0 0) (.bool true) (.int .i64 0) (.slice none 0 0))
  have hent := S.ent
  have IH := Lib.hid ih
  have HIT := Lib.hid hit
  have HRS := Lib.hid (And.intro hzy hry)
  have HXB := Lib.hid hXB
  have HA := Lib.hid (And.intro ha0 ha5)
  have HPC := Lib.hid (fun er (h : ch s a = .error er) => show play ch (.node 4 a b [y]) s = .error er by simp [play, h])
  have HPB := Lib.hid (fun x s1 er (h : ch s a = .ok (x, s1)) (h2 : playAll ch (List.replicate x.toNat y) s1 = .error er) => show play ch (.node 4 a b [y]) s = .error er by simp [play, h, rep_all', h2])
  have HPG := Lib.hid (fun x s1 cs vs s' (h : ch s a = .ok (x, s1)) (h2 : playAll ch (List.replicate x.toNat y) s1 = .ok (cs, vs, s')) => show play ch (.node 4 a b [y]) s = .ok (x :: cs, .node true 0 vs, s') by simp [play, h, rep_all', h2])
  have HNE := Lib.hid (show ch s a ≠ .error 77 from fun e => hne (HPC.out 77 e))
  have HNB := Lib.hid (fun x s1 (h : ch s a = .ok (x, s1)) (e : playAll ch (List.replicate x.toNat y) s1 = .error 77) => hne (HPB.out x s1 77 h e))
  clear hne hry hzy hr hsz ih hit hXB ha0 ha5
  go_enter Tryz.func68, Tryz.ntmps68
  go_wp2_with fail
  generalize ((w.alloc (.cells #[.int .i64 4, .int .i64 a, .int .i64 b, .slice A 1 c] 24)).alloc (.cells #[.bool false, .int .i64 0, .slice none 0 0] 47)).alloc (.cells #[.bool true, .int .i64 0, .slice none 0 0] 47) = W at HB ⊢
  have HC := Lib.hid (S.call s X W a HA.out.1 (by have := HA.out; omega) (S.below hI HB.out.2.2.2.1) HNE.out)
  have hln1 : (List.length [y]) = 1 := rfl
  refine HC.out.mono ?_
  intro e w1 hs
  rcases hs.split with ⟨er, X', hc, rfl, hm1⟩ | ⟨x, s1, X1, hc, rfl, hi1, hm1⟩
  · exact ⟨rfl, VPost.bad (HPC.out er hc) (Mv.trans (Mv.of_below HB.out.2.2.2.1) hm1)⟩
  have hb := S.bnd s _ x s1 HA.out.1 hc
  obtain ⟨m, rfl⟩ := Int.eq_ofNat_of_zero_le hb.1
  have hm5 : m ≤ 5 := by have := HA.out; omega
  have hmw : Mv X w w1 X1 := Mv.trans (Mv.of_below HB.out.2.2.2.1) hm1
  have hX1 : ∀ q, w.heap.size ≤ q → q < w.heap.size + 3 → ¬ X1 q := fun q h1 h2 => Mv.not hm1 (by rw [HB.out.2.2.2.2]; omega) (hX q h1)
  have M0 := Lib.hid (Mid.start2 (ch := ch) (l := List.replicate m y) (n := n) (base := w.heap.size + 3) hi1 hmw (V3.mv HB.out.2.2.1 hm1 (hX _ (by omega))) (by omega) (by omega) (by have := hm1.size; rw [HB.out.2.2.2.2] at this; omega) (hX1 _ (by omega) (by omega)))
  have HG1 := Lib.hid (And.intro (G4.mv HB.out.1 hm1 (hX _ (Nat.le_refl _))) (hX1 w.heap.size (Nat.le_refl _) (by omega)))
  have HR1 := Lib.hid (And.intro (V3.mv HB.out.2.1 hm1 (hX _ (by omega))) (hX1 (w.heap.size + 1) (by omega) (by omega)))
  have HPB := Lib.hid (fun er => HPB.out (m : Int) s1 er hc)
  have HPG := Lib.hid (fun cs vs s' => HPG.out (m : Int) s1 cs vs s' hc)
  have HNB := Lib.hid (HNB.out (m : Int) s1 hc)
  simp only [Int.toNat_natCast] at HPB HPG HNB
  clear hs hc hi1 hm1 hb hmw hX1 HC HPC HB
  go_wp2_with fail
  go_loopw [51] (fun i wr => ∃ (j : Nat) (acc : List Tr) (sj : σ) (Xj : Nat → Prop) (Aj : Option Addr) (cj : Nat), i = .int .i64 j ∧ Hid (Mid ch I (List.replicate m y) s1 X w (w.heap.size + 1 + 1) (w.heap.size + 3) n j acc sj Xj Aj cj wr) ∧ Hid (V3 (w.heap.size + 1) (.bool false) (.int .i64 0) (.slice none 0 0) wr ∧ ¬ Xj (w.heap.size + 1)) ∧ Hid (G4 w.heap.size (.int .i64 4) (.int .i64 a) (.int .i64 b) (.slice A 1 c) wr ∧ ¬ Xj w.heap.size)) (fun i _ => m - (intOf i).toNat)
  case atStart => exact ⟨0, [], s1, X1, none, 0, rfl, M0.out, HR1.out, HG1.out⟩
  case round =>
    obtain ⟨j, acc, sj, Xj, Aj, cj, rfl, HM, HR, HG⟩ := hrel
    clear M0 HR1 HG1
    by_cases hlt : j < m
    · have HBB := Lib.hid (Mv.below HM.out.mv (fun b hb => (HXB.out b hb).1) hBw)
      have hlt' : j < (List.replicate m y).length := by rw [List.length_replicate]; exact hlt
      obtain ⟨ib, off, D, d, rfl, c0, c1, c2, c3, hti⟩ := sub_as HIT.out HBB.out 0 (by simp)
      simp only [Nat.zero_mul, Nat.add_zero, List.getElem_cons_zero] at c0 c1 c2 c3 hti
      have HBAD := Lib.hid (fun er w3 X' (hc : play ch y sj = .error er) (hm : Mv Xj wr w3 X') => VPost.bad (I := I) (er := er) (n := n + 1) (r := play ch (.node 4 a b [y]) s) (HPB.out er (by obtain ⟨cs, hrun⟩ := HM.out.run; exact all_stop hlt' hrun (by rw [List.getElem_replicate]; exact hc))) (Mv.trans HM.out.mv hm))
      have HNX := Lib.hid (fun (c2 : List Int) (t : Tr) (s' : σ) (X' : Nat → Prop) (w3 w4 w5 : World) (A' : Option Addr) (c' : Nat) (hp : play ch y sj = .ok (c2, t, s')) (hi : I s' X' w3) (hm : Mv Xj wr w3 X') hb ho hown hg => Mid.next (c2 := c2) (t := t) (s' := s') (X' := X') (w3 := w3) (w4 := w4) (w5 := w5) (A' := A') (c' := c') S HM.out hlt' (by rw [List.getElem_replicate]; exact hp) hi hm hb ho hown hg hBw)
      have HBD := Lib.hid (show Below wr.heap.size wr wr.drew from bel_drew (Below.refl _ _))
      have HM1 := Lib.hid (Mid.later S HM.out HBD.out)
      have HV := Lib.hid (IH.out y _ sj Xj wr.drew (GAt.below hti (HBD.out.mono (Nat.le_trans hBw HM.out.mv.size))) HRS.out.2 HRS.out.1 HM1.out.inv (fun e => HNB.out (by obtain ⟨cs, hrun⟩ := HM.out.run; exact all_stop hlt' hrun (by rw [List.getElem_replicate]; exact e))))
      obtain ⟨g0, g1, g2, g3⟩ := HG.out.1.facts
      have HAL := Lib.hid (show acc.length + 1 ≤ 1099511627776 by have := HM.out.len; omega)
      obtain ⟨k0, k1, k2, k3, k4, k5⟩ := HM.out.box.facts
      clear hti
      go_wp2_with fail
      go_region_law (first
        | (go_simp
           with_reducible refine HV.out.mono ?_
           intro e w3 hs
           rcases hs.split with ⟨er, X', hc, rfl, hm3⟩ | ⟨c2, t, s', A3, cc3, X', hc, rfl, hi3, hm3, ht3, hn3⟩
           · exact ⟨rfl, HBAD.out er w3 X' hc (Mv.trans (Mv.of_below HBD.out) hm3)⟩
           have HC := Lib.hid (fun w4 (hb : Below w3.heap.size w3 w4) => Mid.called (w4 := w4) S HM1.out hi3 hm3 ht3 hb)
           have HN := Lib.hid (And.intro hc (And.intro hi3 hm3))
           obtain ⟨z0, z1, z2, y0, y1, y2⟩ := (HC.out w3 (Below.refl _ _)).2.2.2.2.facts
           have hne : w3.heap.size ≠ w.heap.size + 1 + 1 := World.new_ne w3 _ z2
           have hne2 : w.heap.size + 1 + 1 ≠ w3.heap.size := hne.symm
           obtain ⟨_, _, za, _, _, yb⟩ := (HC.out (w3.alloc (.cells #[.bool t.list, .int .i64 t.num, .slice A3 t.items.length cc3] 47)) (bel1 _ _)).2.2.2.2.facts
           clear hs hc hi3 hm3 ht3 hn3)
        | (refine step_append_x (by rfl) _ _ (by rfl) (w.heap.size + 3) cj n Aj acc X' (HC.out _ (bel1 w3 _)).2.2.1 (HC.out _ (bel1 w3 _)).1 w3.heap.size (.bool t.list) (.int .i64 t.num) (.slice A3 t.items.length cc3) _ t (V3.facts (new_obj w3 _)).1 (V3.facts (new_obj w3 _)).2.1 (V3.facts (new_obj w3 _)).2.2.1 ⟨rfl, rfl, rfl⟩ (HC.out _ (bel1 w3 _)).2.1 (by rfl) (by rfl) HAL.out (HC.out _ (bel1 w3 _)).2.2.2.1 ?_
           intro A' c' w5 zl hz ho hg
           obtain ⟨_, _, z2', y0', y1', y2'⟩ := (V3.grown (HC.out _ (bel1 w3 _)).2.2.2.2 (HC.out _ (bel1 w3 _)).1 hg (by omega)).facts))
      all_goals (
        have NX := HNX.out c2 t s' X' w3 _ w5 A' c' HN.out.1 HN.out.2.1 (Mv.trans (Mv.of_below HBD.out) HN.out.2.2) (bel1 w3 _) (by rw [← hz.out]; exact ho) (HC.out _ (bel1 w3 _)).1 hg
        rw [← hz.out] at NX
        have NX := Lib.hid NX
        have NR := Lib.hid (Mid.side (y := .slice A' zl.length c') HM.out (Mv.trans (Mv.of_below HBD.out) HN.out.2.2) (bel1 w3 _) (HC.out _ (bel1 w3 _)).1 hg HR.out (by omega) (by omega) 2)
        have NG := Lib.hid (Mid.sideG (y := .slice A' zl.length c') HM.out (Mv.trans (Mv.of_below HBD.out) HN.out.2.2) (bel1 w3 _) (HC.out _ (bel1 w3 _)).1 hg HG.out (by omega) (by omega) 2)
        go_wp2_with fail
        go_roundw
        case rel => exact ⟨j + 1, zl, s', X', A', c', by go_num, NX.out, NR.out, NG.out⟩
        case measure => simp [intOf]; omega)
    · have hj : j = (List.replicate m y).length := by have := HM.out.le; rw [List.length_replicate] at this ⊢; omega
      have hjm : j = m := by rw [hj, List.length_replicate]
      obtain ⟨k0, k1, k2, k3, k4, k5⟩ := HM.out.box.facts
      obtain ⟨z0, z1, z2, y0, y1, y2⟩ := HR.out.1.facts
      have HD := Lib.hid (Mid.done S (r := play ch (.node 4 a b [y]) s) (rb := w.heap.size + 1) (y0 := .bool true) (y1 := .int .i64 0) (y2 := .slice Aj acc.length cj) HM.out hj hBw (by
        obtain ⟨cs, hrun⟩ := HM.out.run
        rw [List.take_of_length_le (by rw [← hj]; exact Nat.le_refl _)] at hrun
        exact ⟨_, fun cs2 _ => HPG.out cs acc sj hrun⟩) (by omega) (by omega) HR.out.2)
      have HVV := Lib.hid (((HR.out.1.put (.bool true) (.int .i64 0) (.slice Aj acc.length cj))).facts)
      clear hj
      go_wp2_with fail
      generalize ((wr.setCell ⟨w.heap.size + 1, 0, none⟩ (.bool true)).setCell ⟨w.heap.size + 1, 1, none⟩ (.int .i64 0)).setCell ⟨w.heap.size + 1, 2, none⟩ (.slice Aj acc.length cj) = W9 at HD HVV ⊢
      obtain ⟨f0, f1, f2, _⟩ := HVV.out
      refine bodyPost_ret (v := tval (.node true 0 acc) Aj cj) (by simp [results, Tryz.results68, go_sem, f0, f1, f2, Tr.list, Tr.num, Tr.items]) rfl ?_
      exact HD.out
end
end Go.Proofs.YtabkihellcflhaaGreatDoor.Gens
