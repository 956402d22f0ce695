/- RankTells, part 12 of the proof: The program's value of a Both: all the sources' choices, one part after the other. Conditions: a small generator. · The program's value of a Many. Conditions: a small generator. · The program's value of an Any, and of every generator. Conditions: a small generator. · The program's Mend: its closure as a source of choices. Conditions: the size of the list. · The program's record: a source that notes what another one tells. Conditions: none but the source's. -/
import Derived.Test.YtffkppjmdelajaaDoorRankTellsZ11
import Derived.Deep.DrawnRows
import Derived.Test.YtffkppjmdelajaaDoorRankTellsZ8
import Derived.Lib.MinMax
/- The program's value of a Both: all the sources' choices, one part after the other. Conditions: a small generator. -/
namespace Go.Proofs.YtffkppjmdelajaaDoor.Gens
open Go.RowKit Lists Ints Vals
set_option linter.unusedVariables false
attribute [local go_sem ↓] Go.wp_at_zero Go.wp_at_succ

section
variable {σ : Type} {ch : σ → Int → Except Int (Int × σ)} {k : Nat} {cap : Array Value} {B : Nat} {I : σ → (Nat → Prop) → World → Prop}
/-- the three boxes at its start -/
theorem three_boxes (w : World) (x0 x1 x2 x3 y0 y1 y2 z0 z1 z2 : Value) : G4 w.heap.size x0 x1 x2 x3 (((w.alloc (.cells #[x0, x1, x2, x3] 24)).alloc (.cells #[y0, y1, y2] 38)).alloc (.cells #[z0, z1, z2] 38)) ∧
    V3 (w.heap.size + 1) y0 y1 y2 (((w.alloc (.cells #[x0, x1, x2, x3] 24)).alloc (.cells #[y0, y1, y2] 38)).alloc (.cells #[z0, z1, z2] 38)) ∧
    V3 (w.heap.size + 1 + 1) z0 z1 z2 (((w.alloc (.cells #[x0, x1, x2, x3] 24)).alloc (.cells #[y0, y1, y2] 38)).alloc (.cells #[z0, z1, z2] 38)) ∧
    Below w.heap.size w (((w.alloc (.cells #[x0, x1, x2, x3] 24)).alloc (.cells #[y0, y1, y2] 38)).alloc (.cells #[z0, z1, z2] 38)) ∧
    (((w.alloc (.cells #[x0, x1, x2, x3] 24)).alloc (.cells #[y0, y1, y2] 38)).alloc (.cells #[z0, z1, z2] 38)).heap.size = w.heap.size + 3 := by
  obtain ⟨g, v, hb, hz⟩ := two_boxes w x0 x1 x2 x3 y0 y1 y2
  refine ⟨g.below (bel1 _ _), v.below (bel1 _ _), ?_, hb.trans ((bel1 _ _).mono hb.size), by simp⟩
  have := new_obj ((w.alloc (.cells #[x0, x1, x2, x3] 24)).alloc (.cells #[y0, y1, y2] 38)) (.cells #[z0, z1, z2] 38)
  rw [hz] at this
  exact this

set_option maxHeartbeats 4000000 in
set_option maxRecDepth 100000 in
theorem value_both (S : Src ch k cap B I) (n : Nat) (ih : ValueOK ch k cap B I n) (a b : Int) (subs : List Gn) (A : Option Addr) (c : Nat) (s : σ) (X : Nat → Prop) (w : World) (hr : Right (.node 3 a b subs)) (hsz : (Gn.node 3 a b subs).size ≤ 30) (hI : I s X w) (hne : play ch (.node 3 a b subs) s ≠ .error 77)
    (hit : 0 < subs.length → ∃ b off, A = some ⟨b, off, none⟩ ∧ GBel B b ∧ ∀ j (h : j < subs.length), ∃ x0 x1 x2 x3, w.cell? ⟨b, off + j * 4, none⟩ = some x0 ∧ w.cell? ⟨b, off + j * 4 + 1, none⟩ = some x1 ∧ w.cell? ⟨b, off + j * 4 + 2, none⟩ = some x2 ∧ w.cell? ⟨b, off + j * 4 + 3, none⟩ = some x3 ∧ GAt w (GBel B) n (.agg #[x0, x1, x2, x3]) (subs[j]'h)) :
    Calls Tryd.prog 76 #[fv k cap, .agg #[.int .i64 3, .int .i64 a, .int .i64 b, .slice A subs.length c]] w (VPost I (n + 1) (play ch (.node 3 a b subs) s) X w) := by
  have hrs : ∀ g ∈ subs, Right g := hr.subs
  have hzs : subs.length ≤ 30 ∧ ∀ g ∈ subs, g.size ≤ 30 := by
    rw [Gn.size] at hsz
    exact ⟨by have := glen_sizes subs; omega, fun g hg => by have := gsize_mem subs g hg; omega⟩
  have hX : ∀ q, w.heap.size ≤ q → ¬ X q := fun q hq => S.not hI hq
  obtain ⟨hBw, hXB⟩ := S.lt s X w hI
  have HB := Lib.hid (three_boxes w (.int .i64 3) (.int .i64 a) (.int .i64 b) (.slice A subs.length c) (.bool false) (.int .i64 0) (.slice none 0 0) (.bool true) (.int .i64 0) (.slice none 0 0))
  have IH := Lib.hid ih
  have HIT := Lib.hid hit
  have HRS := Lib.hid hrs
  have HZS := Lib.hid hzs
  have HXB := Lib.hid hXB
  have HPB := Lib.hid (fun er (h : playAll ch subs s = .error er) => show play ch (.node 3 a b subs) s = .error er by simp [play, h])
  have HPG := Lib.hid (fun cs vs s' (h : playAll ch subs s = .ok (cs, vs, s')) => show play ch (.node 3 a b subs) s = .ok (cs, .node true 0 vs, s') by simp [play, h])
  have HNE := Lib.hid (fun (e : playAll ch subs s = .error 77) => hne (HPB.out 77 e))
  have hln := hzs.1
  clear hne hrs hzs hr hsz ih hit hXB
  go_enter Tryd.func76, Tryd.ntmps76
  go_wp2_with fail
  generalize ((w.alloc (.cells #[.int .i64 3, .int .i64 a, .int .i64 b, .slice A subs.length c] 24)).alloc (.cells #[.bool false, .int .i64 0, .slice none 0 0] 38)).alloc (.cells #[.bool true, .int .i64 0, .slice none 0 0] 38) = W at HB ⊢
  have M0 := Lib.hid (Mid.start (ch := ch) (l := subs) (n := n) S hI HB.out.2.2.2.1 HB.out.2.2.1 (base := w.heap.size + 3) (by omega) (by omega) (by rw [HB.out.2.2.2.2]; omega))
  go_loopw [30] (fun i wr => ∃ (j : Nat) (acc : List Tr) (sj : σ) (Xj : Nat → Prop) (Aj : Option Addr) (cj : Nat), i = .int .i64 j ∧ Hid (Mid ch I subs s X w (w.heap.size + 1 + 1) (w.heap.size + 3) n j acc sj Xj Aj cj wr) ∧ Hid (V3 (w.heap.size + 1) (.bool false) (.int .i64 0) (.slice none 0 0) wr ∧ ¬ Xj (w.heap.size + 1))) (fun i _ => subs.length - (intOf i).toNat)
  case atStart => exact ⟨0, [], s, X, none, 0, rfl, M0.out, HB.out.2.1, hX _ (by omega)⟩
  case round =>
    obtain ⟨j, acc, sj, Xj, Aj, cj, rfl, HM, HR⟩ := hrel
    by_cases hlt : j < subs.length
    · have HBB := Lib.hid (Mv.below HM.out.mv (fun b hb => (HXB.out b hb).1) hBw)
      obtain ⟨ib, off, D, d, rfl, c0, c1, c2, c3, hti⟩ := sub_as HIT.out HBB.out j hlt
      have hsi : (subs[j]'hlt).size ≤ 30 := HZS.out.2 _ (List.getElem_mem hlt)
      have hri : Right (subs[j]'hlt) := HRS.out _ (List.getElem_mem hlt)
      have HT := Lib.hid (show GAt wr (GBel B) n (gv (subs[j]'hlt) D d) (subs[j]'hlt) ∧ (subs[j]'hlt).size ≤ 30 ∧ Right (subs[j]'hlt) from ⟨hti, hsi, hri⟩)
      have HBAD := Lib.hid (fun er w3 X' (hc : play ch (subs[j]'hlt) sj = .error er) (hm : Mv Xj wr w3 X') => VPost.bad (I := I) (er := er) (n := n + 1) (r := play ch (.node 3 a b subs) s) (HPB.out er (by obtain ⟨cs, hrun⟩ := HM.out.run; exact all_stop hlt hrun hc)) (Mv.trans HM.out.mv hm))
      have HNX := Lib.hid (fun (c2 : List Int) (t : Tr) (s' : σ) (X' : Nat → Prop) (w3 w4 w5 : World) (A' : Option Addr) (c' : Nat) (hp : play ch (subs[j]'hlt) sj = .ok (c2, t, s')) (hi : I s' X' w3) (hm : Mv Xj wr w3 X') hb ho hown hg => Mid.next (c2 := c2) (t := t) (s' := s') (X' := X') (w3 := w3) (w4 := w4) (w5 := w5) (A' := A') (c' := c') S HM.out hlt hp hi hm hb ho hown hg hBw)
      have HN7 := Lib.hid (show play ch (subs[j]'hlt) sj ≠ .error 77 from fun e => HNE.out (by obtain ⟨cs, hrun⟩ := HM.out.run; exact all_stop hlt hrun e))
      clear hti hsi hri
      generalize subs[j]'hlt = y at HT HBAD HNX HN7 c0 c1 c2 c3
      have HW1 := Lib.hid (show G4 wr.heap.size (.int .i64 y.kind) (.int .i64 y.a) (.int .i64 y.b) (.slice D y.subs.length d) (wr.alloc (.cells #[.int .i64 y.kind, .int .i64 y.a, .int .i64 y.b, .slice D y.subs.length d] 24)) ∧ Below wr.heap.size wr (wr.alloc (.cells #[.int .i64 y.kind, .int .i64 y.a, .int .i64 y.b, .slice D y.subs.length d] 24)) from ⟨new_obj _ _, bel1 _ _⟩)
      go_wp2_with fail
      generalize wr.alloc (.cells #[.int .i64 y.kind, .int .i64 y.a, .int .i64 y.b, .slice D y.subs.length d] 24) = W1 at HW1 ⊢
      have HBD := Lib.hid (show Below wr.heap.size wr W1.drew from bel_drew HW1.out.2)
      have HM1 := Lib.hid (Mid.later S HM.out HBD.out)
      have HV := Lib.hid (IH.out y _ sj Xj W1.drew (GAt.below HT.out.1 (HBD.out.mono (Nat.le_trans hBw HM.out.mv.size))) HT.out.2.2 HT.out.2.1 HM1.out.inv HN7.out)
      obtain ⟨g0, g1, g2, g3⟩ := HW1.out.1.facts
      have HAL := Lib.hid (show acc.length + 1 ≤ 1099511627776 by have := HM.out.len; omega)
      obtain ⟨k0, k1, k2, k3, k4, k5⟩ := (show V3 (w.heap.size + 1 + 1) (.bool true) (.int .i64 0) (.slice Aj acc.length cj) W1 from HM1.out.box).facts
      go_region_law (first
        | (go_simp
           with_reducible refine HV.out.mono ?_
           intro e w3 hs
           rcases hs.split with ⟨er, X', hc, rfl, hm3⟩ | ⟨c2, t, s', A3, cc3, X', hc, rfl, hi3, hm3, ht3, hn3⟩
           · exact ⟨rfl, HBAD.out er w3 X' hc (Mv.trans (Mv.of_below HBD.out) hm3)⟩
           have HC := Lib.hid (fun w4 (hb : Below w3.heap.size w3 w4) => Mid.called (w4 := w4) S HM1.out hi3 hm3 ht3 hb)
           have HN := Lib.hid (And.intro hc (And.intro hi3 hm3))
           obtain ⟨z0, z1, z2, y0, y1, y2⟩ := (HC.out w3 (Below.refl _ _)).2.2.2.2.facts
           have hne : w3.heap.size ≠ w.heap.size + 1 + 1 := World.new_ne w3 _ z2
           have hne2 : w.heap.size + 1 + 1 ≠ w3.heap.size := hne.symm
           obtain ⟨_, _, za, _, _, yb⟩ := (HC.out (w3.alloc (.cells #[.bool t.list, .int .i64 t.num, .slice A3 t.items.length cc3] 38)) (bel1 _ _)).2.2.2.2.facts
           clear hs hc hi3 hm3 ht3 hn3)
        | (refine step_append_x (by rfl) _ _ (by rfl) (w.heap.size + 3) cj n Aj acc X' (HC.out _ (bel1 w3 _)).2.2.1 (HC.out _ (bel1 w3 _)).1 w3.heap.size (.bool t.list) (.int .i64 t.num) (.slice A3 t.items.length cc3) _ t (V3.facts (new_obj w3 _)).1 (V3.facts (new_obj w3 _)).2.1 (V3.facts (new_obj w3 _)).2.2.1 ⟨rfl, rfl, rfl⟩ (HC.out _ (bel1 w3 _)).2.1 (by rfl) (by rfl) HAL.out (HC.out _ (bel1 w3 _)).2.2.2.1 ?_
           intro A' c' w5 zl hz ho hg
           obtain ⟨_, _, z2', y0', y1', y2'⟩ := (V3.grown (HC.out _ (bel1 w3 _)).2.2.2.2 (HC.out _ (bel1 w3 _)).1 hg (by omega)).facts))
      all_goals (
        have NX := HNX.out c2 t s' X' w3 _ w5 A' c' HN.out.1 HN.out.2.1 (Mv.trans (Mv.of_below HBD.out) HN.out.2.2) (bel1 w3 _) (by rw [← hz.out]; exact ho) (HC.out _ (bel1 w3 _)).1 hg
        rw [← hz.out] at NX
        have NX := Lib.hid NX
        have NR := Lib.hid (Mid.side (y := .slice A' zl.length c') HM.out (Mv.trans (Mv.of_below HBD.out) HN.out.2.2) (bel1 w3 _) (HC.out _ (bel1 w3 _)).1 hg HR.out (by omega) (by omega) 2)
        go_wp2_with fail
        go_roundw
        case rel => exact ⟨j + 1, zl, s', X', A', c', by go_num, NX.out, NR.out⟩
        case measure => simp [intOf]; omega)
    · have hj : j = subs.length := by have := HM.out.le; omega
      obtain ⟨k0, k1, k2, k3, k4, k5⟩ := HM.out.box.facts
      obtain ⟨z0, z1, z2, y0, y1, y2⟩ := HR.out.1.facts
      have HD := Lib.hid (Mid.done S (r := play ch (.node 3 a b subs) s) (rb := w.heap.size + 1) (y0 := .bool true) (y1 := .int .i64 0) (y2 := .slice Aj acc.length cj) HM.out hj hBw (by
        obtain ⟨cs, hrun⟩ := HM.out.run
        rw [List.take_of_length_le (by omega)] at hrun
        exact ⟨cs, fun cs2 _ => HPG.out cs acc sj hrun⟩) (by omega) (by omega) HR.out.2)
      have HVV := Lib.hid (((HR.out.1.put (.bool true) (.int .i64 0) (.slice Aj acc.length cj))).facts)
      go_wp2_with fail
      generalize ((wr.setCell ⟨w.heap.size + 1, 0, none⟩ (.bool true)).setCell ⟨w.heap.size + 1, 1, none⟩ (.int .i64 0)).setCell ⟨w.heap.size + 1, 2, none⟩ (.slice Aj acc.length cj) = W9 at HD HVV ⊢
      obtain ⟨f0, f1, f2, _⟩ := HVV.out
      refine bodyPost_ret (v := tval (.node true 0 acc) Aj cj) (by simp [results, Tryd.results76, go_sem, f0, f1, f2, Tr.list, Tr.num, Tr.items]) rfl ?_
      exact HD.out
end
end Go.Proofs.YtffkppjmdelajaaDoor.Gens

/- The program's value of a Many. Conditions: a small generator. -/
namespace Go.Proofs.YtffkppjmdelajaaDoor.Gens
open Go.RowKit Lists Ints Vals
set_option linter.unusedVariables false
attribute [local go_sem ↓] Go.wp_at_zero Go.wp_at_succ

section
variable {σ : Type} {ch : σ → Int → Except Int (Int × σ)} {k : Nat} {cap : Array Value} {B : Nat} {I : σ → (Nat → Prop) → World → Prop}
set_option maxHeartbeats 4000000 in
set_option maxRecDepth 100000 in
theorem value_many (S : Src ch k cap B I) (n : Nat) (ih : ValueOK ch k cap B I n) (a b : Int) (y : Gn) (A : Option Addr) (c : Nat) (s : σ) (X : Nat → Prop) (w : World) (hr : Right (.node 4 a b [y])) (hsz : (Gn.node 4 a b [y]).size ≤ 30) (hI : I s X w) (hne : play ch (.node 4 a b [y]) s ≠ .error 77)
    (hit : 0 < [y].length → ∃ b off, A = some ⟨b, off, none⟩ ∧ GBel B b ∧ ∀ j (h : j < [y].length), ∃ x0 x1 x2 x3, w.cell? ⟨b, off + j * 4, none⟩ = some x0 ∧ w.cell? ⟨b, off + j * 4 + 1, none⟩ = some x1 ∧ w.cell? ⟨b, off + j * 4 + 2, none⟩ = some x2 ∧ w.cell? ⟨b, off + j * 4 + 3, none⟩ = some x3 ∧ GAt w (GBel B) n (.agg #[x0, x1, x2, x3]) ([y][j]'h)) :
    Calls Tryd.prog 76 #[fv k cap, .agg #[.int .i64 4, .int .i64 a, .int .i64 b, .slice A 1 c]] w (VPost I (n + 1) (play ch (.node 4 a b [y]) s) X w) := by
  have hry : ∀ g ∈ [y], Right g := hr.subs
  have hry := hry y (by simp)
  have hzy : y.size ≤ 30 := by rw [Gn.size, gsizes] at hsz; omega
  have hX : ∀ q, w.heap.size ≤ q → ¬ X q := fun q hq => S.not hI hq
  obtain ⟨hBw, hXB⟩ := S.lt s X w hI
  obtain ⟨ha0, ha5, _⟩ := (right_max hr).2.2.1 rfl
  have HB := Lib.hid (three_boxes w (.int .i64 4) (.int .i64 a) (.int .i64 b) (.slice A 1 c) (.bool false) (.int .i64 0) (.slice none 0 0) (.bool true) (.int .i64 0) (.slice none 0 0))
  have hent := S.ent
  have IH := Lib.hid ih
  have HIT := Lib.hid hit
  have HRS := Lib.hid (And.intro hzy hry)
  have HXB := Lib.hid hXB
  have HA := Lib.hid (And.intro ha0 ha5)
  have HPC := Lib.hid (fun er (h : ch s a = .error er) => show play ch (.node 4 a b [y]) s = .error er by simp [play, h])
  have HPB := Lib.hid (fun x s1 er (h : ch s a = .ok (x, s1)) (h2 : playAll ch (List.replicate x.toNat y) s1 = .error er) => show play ch (.node 4 a b [y]) s = .error er by simp [play, h, rep_all', h2])
  have HPG := Lib.hid (fun x s1 cs vs s' (h : ch s a = .ok (x, s1)) (h2 : playAll ch (List.replicate x.toNat y) s1 = .ok (cs, vs, s')) => show play ch (.node 4 a b [y]) s = .ok (x :: cs, .node true 0 vs, s') by simp [play, h, rep_all', h2])
  have HNE := Lib.hid (show ch s a ≠ .error 77 from fun e => hne (HPC.out 77 e))
  have HNB := Lib.hid (fun x s1 (h : ch s a = .ok (x, s1)) (e : playAll ch (List.replicate x.toNat y) s1 = .error 77) => hne (HPB.out x s1 77 h e))
  clear hne hry hzy hr hsz ih hit hXB ha0 ha5
  go_enter Tryd.func76, Tryd.ntmps76
  go_wp2_with fail
  generalize ((w.alloc (.cells #[.int .i64 4, .int .i64 a, .int .i64 b, .slice A 1 c] 24)).alloc (.cells #[.bool false, .int .i64 0, .slice none 0 0] 38)).alloc (.cells #[.bool true, .int .i64 0, .slice none 0 0] 38) = W at HB ⊢
  have HC := Lib.hid (S.call s X W a HA.out.1 (by have := HA.out; omega) (S.below hI HB.out.2.2.2.1) HNE.out)
  have hln1 : (List.length [y]) = 1 := rfl
  refine HC.out.mono ?_
  intro e w1 hs
  rcases hs.split with ⟨er, X', hc, rfl, hm1⟩ | ⟨x, s1, X1, hc, rfl, hi1, hm1⟩
  · exact ⟨rfl, VPost.bad (HPC.out er hc) (Mv.trans (Mv.of_below HB.out.2.2.2.1) hm1)⟩
  have hb := S.bnd s _ x s1 HA.out.1 hc
  obtain ⟨m, rfl⟩ := Int.eq_ofNat_of_zero_le hb.1
  have hm5 : m ≤ 5 := by have := HA.out; omega
  have hmw : Mv X w w1 X1 := Mv.trans (Mv.of_below HB.out.2.2.2.1) hm1
  have hX1 : ∀ q, w.heap.size ≤ q → q < w.heap.size + 3 → ¬ X1 q := fun q h1 h2 => Mv.not hm1 (by rw [HB.out.2.2.2.2]; omega) (hX q h1)
  have M0 := Lib.hid (Mid.start2 (ch := ch) (l := List.replicate m y) (n := n) (base := w.heap.size + 3) hi1 hmw (V3.mv HB.out.2.2.1 hm1 (hX _ (by omega))) (by omega) (by omega) (by have := hm1.size; rw [HB.out.2.2.2.2] at this; omega) (hX1 _ (by omega) (by omega)))
  have HG1 := Lib.hid (And.intro (G4.mv HB.out.1 hm1 (hX _ (Nat.le_refl _))) (hX1 w.heap.size (Nat.le_refl _) (by omega)))
  have HR1 := Lib.hid (And.intro (V3.mv HB.out.2.1 hm1 (hX _ (by omega))) (hX1 (w.heap.size + 1) (by omega) (by omega)))
  have HPB := Lib.hid (fun er => HPB.out (m : Int) s1 er hc)
  have HPG := Lib.hid (fun cs vs s' => HPG.out (m : Int) s1 cs vs s' hc)
  have HNB := Lib.hid (HNB.out (m : Int) s1 hc)
  simp only [Int.toNat_natCast] at HPB HPG HNB
  clear hs hc hi1 hm1 hb hmw hX1 HC HPC HB
  go_wp2_with fail
  go_loopw [51] (fun i wr => ∃ (j : Nat) (acc : List Tr) (sj : σ) (Xj : Nat → Prop) (Aj : Option Addr) (cj : Nat), i = .int .i64 j ∧ Hid (Mid ch I (List.replicate m y) s1 X w (w.heap.size + 1 + 1) (w.heap.size + 3) n j acc sj Xj Aj cj wr) ∧ Hid (V3 (w.heap.size + 1) (.bool false) (.int .i64 0) (.slice none 0 0) wr ∧ ¬ Xj (w.heap.size + 1)) ∧ Hid (G4 w.heap.size (.int .i64 4) (.int .i64 a) (.int .i64 b) (.slice A 1 c) wr ∧ ¬ Xj w.heap.size)) (fun i _ => m - (intOf i).toNat)
  case atStart => exact ⟨0, [], s1, X1, none, 0, rfl, M0.out, HR1.out, HG1.out⟩
  case round =>
    obtain ⟨j, acc, sj, Xj, Aj, cj, rfl, HM, HR, HG⟩ := hrel
    clear M0 HR1 HG1
    by_cases hlt : j < m
    · have HBB := Lib.hid (Mv.below HM.out.mv (fun b hb => (HXB.out b hb).1) hBw)
      have hlt' : j < (List.replicate m y).length := by rw [List.length_replicate]; exact hlt
      obtain ⟨ib, off, D, d, rfl, c0, c1, c2, c3, hti⟩ := sub_as HIT.out HBB.out 0 (by simp)
      simp only [Nat.zero_mul, Nat.add_zero, List.getElem_cons_zero] at c0 c1 c2 c3 hti
      have HBAD := Lib.hid (fun er w3 X' (hc : play ch y sj = .error er) (hm : Mv Xj wr w3 X') => VPost.bad (I := I) (er := er) (n := n + 1) (r := play ch (.node 4 a b [y]) s) (HPB.out er (by obtain ⟨cs, hrun⟩ := HM.out.run; exact all_stop hlt' hrun (by rw [List.getElem_replicate]; exact hc))) (Mv.trans HM.out.mv hm))
      have HNX := Lib.hid (fun (c2 : List Int) (t : Tr) (s' : σ) (X' : Nat → Prop) (w3 w4 w5 : World) (A' : Option Addr) (c' : Nat) (hp : play ch y sj = .ok (c2, t, s')) (hi : I s' X' w3) (hm : Mv Xj wr w3 X') hb ho hown hg => Mid.next (c2 := c2) (t := t) (s' := s') (X' := X') (w3 := w3) (w4 := w4) (w5 := w5) (A' := A') (c' := c') S HM.out hlt' (by rw [List.getElem_replicate]; exact hp) hi hm hb ho hown hg hBw)
      have HBD := Lib.hid (show Below wr.heap.size wr wr.drew from bel_drew (Below.refl _ _))
      have HM1 := Lib.hid (Mid.later S HM.out HBD.out)
      have HV := Lib.hid (IH.out y _ sj Xj wr.drew (GAt.below hti (HBD.out.mono (Nat.le_trans hBw HM.out.mv.size))) HRS.out.2 HRS.out.1 HM1.out.inv (fun e => HNB.out (by obtain ⟨cs, hrun⟩ := HM.out.run; exact all_stop hlt' hrun (by rw [List.getElem_replicate]; exact e))))
      obtain ⟨g0, g1, g2, g3⟩ := HG.out.1.facts
      have HAL := Lib.hid (show acc.length + 1 ≤ 1099511627776 by have := HM.out.len; omega)
      obtain ⟨k0, k1, k2, k3, k4, k5⟩ := HM.out.box.facts
      clear hti
      go_wp2_with fail
      go_region_law (first
        | (go_simp
           with_reducible refine HV.out.mono ?_
           intro e w3 hs
           rcases hs.split with ⟨er, X', hc, rfl, hm3⟩ | ⟨c2, t, s', A3, cc3, X', hc, rfl, hi3, hm3, ht3, hn3⟩
           · exact ⟨rfl, HBAD.out er w3 X' hc (Mv.trans (Mv.of_below HBD.out) hm3)⟩
           have HC := Lib.hid (fun w4 (hb : Below w3.heap.size w3 w4) => Mid.called (w4 := w4) S HM1.out hi3 hm3 ht3 hb)
           have HN := Lib.hid (And.intro hc (And.intro hi3 hm3))
           obtain ⟨z0, z1, z2, y0, y1, y2⟩ := (HC.out w3 (Below.refl _ _)).2.2.2.2.facts
           have hne : w3.heap.size ≠ w.heap.size + 1 + 1 := World.new_ne w3 _ z2
           have hne2 : w.heap.size + 1 + 1 ≠ w3.heap.size := hne.symm
           obtain ⟨_, _, za, _, _, yb⟩ := (HC.out (w3.alloc (.cells #[.bool t.list, .int .i64 t.num, .slice A3 t.items.length cc3] 38)) (bel1 _ _)).2.2.2.2.facts
           clear hs hc hi3 hm3 ht3 hn3)
        | (refine step_append_x (by rfl) _ _ (by rfl) (w.heap.size + 3) cj n Aj acc X' (HC.out _ (bel1 w3 _)).2.2.1 (HC.out _ (bel1 w3 _)).1 w3.heap.size (.bool t.list) (.int .i64 t.num) (.slice A3 t.items.length cc3) _ t (V3.facts (new_obj w3 _)).1 (V3.facts (new_obj w3 _)).2.1 (V3.facts (new_obj w3 _)).2.2.1 ⟨rfl, rfl, rfl⟩ (HC.out _ (bel1 w3 _)).2.1 (by rfl) (by rfl) HAL.out (HC.out _ (bel1 w3 _)).2.2.2.1 ?_
           intro A' c' w5 zl hz ho hg
           obtain ⟨_, _, z2', y0', y1', y2'⟩ := (V3.grown (HC.out _ (bel1 w3 _)).2.2.2.2 (HC.out _ (bel1 w3 _)).1 hg (by omega)).facts))
      all_goals (
        have NX := HNX.out c2 t s' X' w3 _ w5 A' c' HN.out.1 HN.out.2.1 (Mv.trans (Mv.of_below HBD.out) HN.out.2.2) (bel1 w3 _) (by rw [← hz.out]; exact ho) (HC.out _ (bel1 w3 _)).1 hg
        rw [← hz.out] at NX
        have NX := Lib.hid NX
        have NR := Lib.hid (Mid.side (y := .slice A' zl.length c') HM.out (Mv.trans (Mv.of_below HBD.out) HN.out.2.2) (bel1 w3 _) (HC.out _ (bel1 w3 _)).1 hg HR.out (by omega) (by omega) 2)
        have NG := Lib.hid (Mid.sideG (y := .slice A' zl.length c') HM.out (Mv.trans (Mv.of_below HBD.out) HN.out.2.2) (bel1 w3 _) (HC.out _ (bel1 w3 _)).1 hg HG.out (by omega) (by omega) 2)
        go_wp2_with fail
        go_roundw
        case rel => exact ⟨j + 1, zl, s', X', A', c', by go_num, NX.out, NR.out, NG.out⟩
        case measure => simp [intOf]; omega)
    · have hj : j = (List.replicate m y).length := by have := HM.out.le; rw [List.length_replicate] at this ⊢; omega
      have hjm : j = m := by rw [hj, List.length_replicate]
      obtain ⟨k0, k1, k2, k3, k4, k5⟩ := HM.out.box.facts
      obtain ⟨z0, z1, z2, y0, y1, y2⟩ := HR.out.1.facts
      have HD := Lib.hid (Mid.done S (r := play ch (.node 4 a b [y]) s) (rb := w.heap.size + 1) (y0 := .bool true) (y1 := .int .i64 0) (y2 := .slice Aj acc.length cj) HM.out hj hBw (by
        obtain ⟨cs, hrun⟩ := HM.out.run
        rw [List.take_of_length_le (by rw [← hj]; exact Nat.le_refl _)] at hrun
        exact ⟨_, fun cs2 _ => HPG.out cs acc sj hrun⟩) (by omega) (by omega) HR.out.2)
      have HVV := Lib.hid (((HR.out.1.put (.bool true) (.int .i64 0) (.slice Aj acc.length cj))).facts)
      clear hj
      go_wp2_with fail
      generalize ((wr.setCell ⟨w.heap.size + 1, 0, none⟩ (.bool true)).setCell ⟨w.heap.size + 1, 1, none⟩ (.int .i64 0)).setCell ⟨w.heap.size + 1, 2, none⟩ (.slice Aj acc.length cj) = W9 at HD HVV ⊢
      obtain ⟨f0, f1, f2, _⟩ := HVV.out
      refine bodyPost_ret (v := tval (.node true 0 acc) Aj cj) (by simp [results, Tryd.results76, go_sem, f0, f1, f2, Tr.list, Tr.num, Tr.items]) rfl ?_
      exact HD.out
end
end Go.Proofs.YtffkppjmdelajaaDoor.Gens

/- The program's value of an Any, and of every generator. Conditions: a small generator. -/
namespace Go.Proofs.YtffkppjmdelajaaDoor.Gens
open Go.RowKit Lists Ints Vals
set_option linter.unusedVariables false
attribute [local go_sem ↓] Go.wp_at_zero Go.wp_at_succ

theorem sub_as2 {w wr : World} {B n ib off : Nat} {l : List Gn}
    (hit : 0 < l.length → ∃ b o, some (⟨ib, off, none⟩ : Addr) = some ⟨b, o, none⟩ ∧ GBel B b ∧ ∀ j (h : j < l.length), ∃ x0 x1 x2 x3, w.cell? ⟨b, o + j * 4, none⟩ = some x0 ∧ w.cell? ⟨b, o + j * 4 + 1, none⟩ = some x1 ∧ w.cell? ⟨b, o + j * 4 + 2, none⟩ = some x2 ∧ w.cell? ⟨b, o + j * 4 + 3, none⟩ = some x3 ∧ GAt w (GBel B) n (.agg #[x0, x1, x2, x3]) (l[j]'h))
    (hb : Below B w wr) (k : Nat) (h : k < l.length) : ∃ D d, wr.cell? ⟨ib, off + k * 4, none⟩ = some (.int .i64 (l[k]'h).kind) ∧ wr.cell? ⟨ib, off + k * 4 + 1, none⟩ = some (.int .i64 (l[k]'h).a) ∧ wr.cell? ⟨ib, off + k * 4 + 2, none⟩ = some (.int .i64 (l[k]'h).b) ∧ wr.cell? ⟨ib, off + k * 4 + 3, none⟩ = some (.slice D (l[k]'h).subs.length d) ∧
      GAt wr (GBel B) n (gv (l[k]'h) D d) (l[k]'h) := by
  obtain ⟨b, o, D, d, e, h1⟩ := sub_as hit hb k h
  simp only [Option.some.injEq, Addr.mk.injEq, and_true] at e
  obtain ⟨rfl, rfl⟩ := e
  exact ⟨D, d, h1⟩
theorem far3 (w : World) {rb b : Nat} (h : b ≠ rb) (o : Nat) (y0 y1 y2 : Value) : (((w.setCell ⟨rb, 0, none⟩ y0).setCell ⟨rb, 1, none⟩ y1).setCell ⟨rb, 2, none⟩ y2).cell? ⟨b, o, none⟩ = w.cell? ⟨b, o, none⟩ :=
  World.cell?_of_block ((Below.heap_setCell _ ⟨rb, 2, none⟩ _ b h).trans ((Below.heap_setCell _ ⟨rb, 1, none⟩ _ b h).trans (Below.heap_setCell _ ⟨rb, 0, none⟩ _ b h)))
/-- the sub at a place -/
def subN (l : List Gn) (m : Nat) : Gn := l.getD m default
theorem subN_get {l : List Gn} {m : Nat} (h : m < l.length) : subN l m = l[m]'h := by simp [subN, List.getD, h]
/-- where the subs' own subs lie -/
theorem subs_all {w : World} {B n ib off : Nat} {l : List Gn}
    (hit : 0 < l.length → ∃ b o, some (⟨ib, off, none⟩ : Addr) = some ⟨b, o, none⟩ ∧ GBel B b ∧ ∀ j (h : j < l.length), ∃ x0 x1 x2 x3, w.cell? ⟨b, o + j * 4, none⟩ = some x0 ∧ w.cell? ⟨b, o + j * 4 + 1, none⟩ = some x1 ∧ w.cell? ⟨b, o + j * 4 + 2, none⟩ = some x2 ∧ w.cell? ⟨b, o + j * 4 + 3, none⟩ = some x3 ∧ GAt w (GBel B) n (.agg #[x0, x1, x2, x3]) (l[j]'h)) :
    ∃ (D : Nat → Option Addr) (d : Nat → Nat), ∀ m, m < l.length → ∀ wr, Below B w wr → (wr.cell? ⟨ib, off + m * 4, none⟩ = some (.int .i64 (subN l m).kind) ∧ wr.cell? ⟨ib, off + m * 4 + 1, none⟩ = some (.int .i64 (subN l m).a) ∧ wr.cell? ⟨ib, off + m * 4 + 2, none⟩ = some (.int .i64 (subN l m).b) ∧ wr.cell? ⟨ib, off + m * 4 + 3, none⟩ = some (.slice (D m) (subN l m).subs.length (d m))) ∧
      GAt wr (GBel B) n (gv (subN l m) (D m) (d m)) (subN l m) := by
  have : ∀ m, ∃ p : Option Addr × Nat, m < l.length → ∀ wr, Below B w wr → (wr.cell? ⟨ib, off + m * 4, none⟩ = some (.int .i64 (subN l m).kind) ∧ wr.cell? ⟨ib, off + m * 4 + 1, none⟩ = some (.int .i64 (subN l m).a) ∧ wr.cell? ⟨ib, off + m * 4 + 2, none⟩ = some (.int .i64 (subN l m).b) ∧ wr.cell? ⟨ib, off + m * 4 + 3, none⟩ = some (.slice p.1 (subN l m).subs.length p.2)) ∧
      GAt wr (GBel B) n (gv (subN l m) p.1 p.2) (subN l m) := by
    intro m
    by_cases h : m < l.length
    · obtain ⟨D, d, c0, c1, c2, c3, ht⟩ := sub_as2 hit (Below.refl B w) m h
      rw [← subN_get h] at c0 c1 c2 c3 ht
      obtain ⟨b, o, e, hB, _⟩ := hit (by omega)
      simp only [Option.some.injEq, Addr.mk.injEq, and_true] at e
      obtain ⟨rfl, rfl⟩ := e
      exact ⟨(D, d), fun _ wr hb => ⟨⟨(hb.cell (p := ⟨ib, _, none⟩) hB).trans c0, (hb.cell (p := ⟨ib, _, none⟩) hB).trans c1, (hb.cell (p := ⟨ib, _, none⟩) hB).trans c2, (hb.cell (p := ⟨ib, _, none⟩) hB).trans c3⟩, ht.below hb⟩⟩
    · exact ⟨(none, 0), fun h' => absurd h' h⟩
  obtain ⟨f, hf⟩ := Classical.skolem.1 this
  exact ⟨fun m => (f m).1, fun m => (f m).2, hf⟩
section
variable {σ : Type} {ch : σ → Int → Except Int (Int × σ)} {k : Nat} {cap : Array Value} {B : Nat} {I : σ → (Nat → Prop) → World → Prop}
theorem VPost.through (S : Src ch k cap B I) {r : Except Int (List Int × Tr × σ)} {X X1 X2 : Nat → Prop} {w w1 w2 : World} {n rb : Nat} {c : List Int} {t : Tr} {s2 : σ} {A : Option Addr} {cc : Nat} {y0 y1 y2 : Value}
    (h : r = .ok (c, t, s2)) (hi : I s2 X2 w2) (hm1 : Mv X w w1 X1) (hm2 : Mv X1 w1 w2 X2) (ht : TAt w2 (fun b => w1.heap.size ≤ b ∧ b < w2.heap.size ∧ ¬ X2 b) n (tval t A cc) t) (hn : NFr A w2) (hB : B ≤ w.heap.size) (hlo : w.heap.size ≤ rb) (hhi : rb < w1.heap.size) (hx : ¬ X2 rb) :
    VPost I (n + 1) r X w (.returned (tval t A cc)) (((w2.setCell ⟨rb, 0, none⟩ y0).setCell ⟨rb, 1, none⟩ y1).setCell ⟨rb, 2, none⟩ y2) := by
  have hrb : B ≤ rb := Nat.le_trans hB hlo
  refine VPost.good h (S.set (S.set (S.set hi hrb hx 0 y0) hrb hx 1 y1) hrb hx 2 y2) (Mv.set (Mv.set (Mv.set (Mv.trans hm1 hm2) hlo 0 y0) hlo 1 y1) hlo 2 y2) (TAt.up (Nat.le_succ n) (ht.keep fun b ⟨h1, h2, h3⟩ => ⟨⟨Nat.le_trans hm1.size h1, by simpa [World.setCell] using h2, h3⟩, fun o => ?_⟩)) (NFr.set (NFr.set (NFr.set hn)))
  refine World.cell?_of_block ?_
  have hne : b ≠ rb := by omega
  exact (Below.heap_setCell _ ⟨rb, 2, none⟩ _ b hne).trans ((Below.heap_setCell _ ⟨rb, 1, none⟩ _ b hne).trans (Below.heap_setCell _ ⟨rb, 0, none⟩ _ b hne))

set_option maxHeartbeats 4000000 in
set_option maxRecDepth 100000 in
theorem value_any (S : Src ch k cap B I) (n : Nat) (ih : ValueOK ch k cap B I n) (a b : Int) (subs : List Gn) (A : Option Addr) (c : Nat) (s : σ) (X : Nat → Prop) (w : World) (hr : Right (.node 5 a b subs)) (hsz : (Gn.node 5 a b subs).size ≤ 30) (hI : I s X w) (hne : play ch (.node 5 a b subs) s ≠ .error 77)
    (hit : 0 < subs.length → ∃ b off, A = some ⟨b, off, none⟩ ∧ GBel B b ∧ ∀ j (h : j < subs.length), ∃ x0 x1 x2 x3, w.cell? ⟨b, off + j * 4, none⟩ = some x0 ∧ w.cell? ⟨b, off + j * 4 + 1, none⟩ = some x1 ∧ w.cell? ⟨b, off + j * 4 + 2, none⟩ = some x2 ∧ w.cell? ⟨b, off + j * 4 + 3, none⟩ = some x3 ∧ GAt w (GBel B) n (.agg #[x0, x1, x2, x3]) (subs[j]'h)) :
    Calls Tryd.prog 76 #[fv k cap, .agg #[.int .i64 5, .int .i64 a, .int .i64 b, .slice A subs.length c]] w (VPost I (n + 1) (play ch (.node 5 a b subs) s) X w) := by
  have hrs : ∀ g ∈ subs, Right g := hr.subs
  have hzs : subs.length ≤ 30 ∧ ∀ g ∈ subs, g.size ≤ 30 := by
    rw [Gn.size] at hsz
    exact ⟨by have := glen_sizes subs; omega, fun g hg => by have := gsize_mem subs g hg; omega⟩
  have hX : ∀ q, w.heap.size ≤ q → ¬ X q := fun q hq => S.not hI hq
  obtain ⟨hBw, hXB⟩ := S.lt s X w hI
  have hm1 := (right_max hr).2.1 rfl
  have hpos : 0 < subs.length := by omega
  obtain ⟨ib, off, rfl, hib, _⟩ := hit hpos
  have hib1 : ib ≠ w.heap.size + 1 := by have : ib < B := hib; omega
  clear hib
  have HB := Lib.hid (two_boxes w (.int .i64 5) (.int .i64 a) (.int .i64 b) (.slice (some ⟨ib, off, none⟩) subs.length c) (.bool false) (.int .i64 0) (.slice none 0 0))
  have hent := S.ent
  have IH := Lib.hid ih
  obtain ⟨D, d, hall⟩ := subs_all hit
  have HIT := Lib.hid hall
  have HRS := Lib.hid hrs
  have HZS := Lib.hid hzs
  have HXB := Lib.hid hXB
  have hln := hzs.1
  have hwr : IntKind.i64.wrap ((subs.length : Int) - 1) = (subs.length : Int) - 1 := wrap_small (by omega) (by omega)
  have HPC := Lib.hid (fun er (h : ch s ((subs.length : Int) - 1) = .error er) => show play ch (.node 5 a b subs) s = .error er by simp [play, h])
  have HPB := Lib.hid (fun (m : Nat) s1 er (hlt : m < subs.length) (h : ch s ((subs.length : Int) - 1) = .ok ((m : Int), s1)) (h2 : play ch (subN subs m) s1 = .error er) => show play ch (.node 5 a b subs) s = .error er by rw [subN_get hlt] at h2; simp [play, h, at_get _ _ _ hlt, h2])
  have HPG := Lib.hid (fun (m : Nat) s1 cs t s' (hlt : m < subs.length) (h : ch s ((subs.length : Int) - 1) = .ok ((m : Int), s1)) (h2 : play ch (subN subs m) s1 = .ok (cs, t, s')) => show play ch (.node 5 a b subs) s = .ok ((m : Int) :: cs, t, s') by rw [subN_get hlt] at h2; simp [play, h, at_get _ _ _ hlt, h2])
  have HNE := Lib.hid (show ch s ((subs.length : Int) - 1) ≠ .error 77 from fun e => hne (HPC.out 77 e))
  have HNB := Lib.hid (fun (m : Nat) s1 (hlt : m < subs.length) (h : ch s ((subs.length : Int) - 1) = .ok ((m : Int), s1)) (e : play ch (subN subs m) s1 = .error 77) => hne (HPB.out m s1 77 hlt h e))
  clear hne hrs hzs hr hsz ih hit hall hXB
  go_enter Tryd.func76, Tryd.ntmps76
  go_wp2_with fail
  generalize (w.alloc (.cells #[.int .i64 5, .int .i64 a, .int .i64 b, .slice (some ⟨ib, off, none⟩) subs.length c] 24)).alloc (.cells #[.bool false, .int .i64 0, .slice none 0 0] 38) = W at HB ⊢
  have HC := Lib.hid (S.call s X W.drew ((subs.length : Int) - 1) hm1 (by omega) (S.below hI (bel_drew HB.out.2.2.1)) HNE.out)
  obtain ⟨k0, k1, k2, k3⟩ := HB.out.1.facts
  have HWB := Lib.hid (show Below B w W from HB.out.2.2.1.mono hBw)
  have K0 := fun m (h : m < subs.length) => (HIT.out m h W HWB.out).1.1
  have K1 := fun m (h : m < subs.length) => (HIT.out m h W HWB.out).1.2.1
  have K2 := fun m (h : m < subs.length) => (HIT.out m h W HWB.out).1.2.2.1
  have K3 := fun m (h : m < subs.length) => (HIT.out m h W HWB.out).1.2.2.2
  go_region_held2 (fun w' => w'.cell? ⟨w.heap.size, 3, none⟩ = some (.slice (some ⟨ib, off, none⟩) subs.length c) ∧ (∀ m, m < subs.length → w'.cell? ⟨ib, off + m * 4, none⟩ = some (.int .i64 (subN subs m).kind)) ∧ (∀ m, m < subs.length → w'.cell? ⟨ib, off + m * 4 + 1, none⟩ = some (.int .i64 (subN subs m).a)) ∧ (∀ m, m < subs.length → w'.cell? ⟨ib, off + m * 4 + 2, none⟩ = some (.int .i64 (subN subs m).b)) ∧ (∀ m, m < subs.length → w'.cell? ⟨ib, off + m * 4 + 3, none⟩ = some (.slice (D m) (subN subs m).subs.length (d m)))) (first | exact ⟨(far3 w2 (by omega) _ _ _ _).trans i3, fun m h => (far3 w2 hib1 _ _ _ _).trans (M0 m h), fun m h => (far3 w2 hib1 _ _ _ _).trans (M1 m h), fun m h => (far3 w2 hib1 _ _ _ _).trans (M2 m h), fun m h => (far3 w2 hib1 _ _ _ _).trans (M3 m h)⟩ | exact ⟨i3, M0, M1, M2, M3⟩ | exact ⟨j3, L0, L1, L2, L3⟩ | exact ⟨k3, K0, K1, K2, K3⟩) (first
    | (with_reducible refine HC.out.mono ?_
       intro e w1 hs
       rcases hs.split with ⟨er, X', hc, rfl, hm1⟩ | ⟨x, s1, X1, hc, rfl, hi1, hm1⟩
       · exact ⟨rfl, VPost.bad (HPC.out er hc) (Mv.trans (Mv.of_below (bel_drew HB.out.2.2.1)) hm1)⟩
       have j3 := Mv.cell hm1 (v := .slice (some ⟨ib, off, none⟩) subs.length c) k3 (hX _ (Nat.le_refl _))
       have hb := S.bnd s _ x s1 (by omega) hc
       obtain ⟨m, rfl⟩ := Int.eq_ofNat_of_zero_le hb.1
       have hlt : m < subs.length := by omega
       have hlt2 : (m : Int) < (subs.length : Int) := by omega
       have hge2 : (0 : Int) ≤ (m : Int) := by omega
       have HMV := Lib.hid (show Mv X w w1 X1 from Mv.trans (Mv.of_below (bel_drew HB.out.2.2.1)) hm1)
       have HBB := Lib.hid (Mv.below HMV.out (fun b hb => (HXB.out b hb).1) hBw)
       have L0 := fun m (h : m < subs.length) => (HIT.out m h w1 HBB.out).1.1
       have L1 := fun m (h : m < subs.length) => (HIT.out m h w1 HBB.out).1.2.1
       have L2 := fun m (h : m < subs.length) => (HIT.out m h w1 HBB.out).1.2.2.1
       have L3 := fun m (h : m < subs.length) => (HIT.out m h w1 HBB.out).1.2.2.2
       have HV := Lib.hid (IH.out (subN subs m) _ s1 X1 w1 (HIT.out m hlt w1 HBB.out).2 (by rw [subN_get hlt]; exact HRS.out _ (List.getElem_mem hlt)) (by rw [subN_get hlt]; exact HZS.out.2 _ (List.getElem_mem hlt)) hi1 (HNB.out m s1 hlt hc))
       have HC1 := Lib.hid hc
       have HR1 := Lib.hid (And.intro (V3.mv HB.out.2.1 (Mv.trans (Mv.of_below (bel_drew (Below.refl _ _))) hm1) (hX _ (by omega))) (Mv.not hm1 (b := w.heap.size + 1) (by show w.heap.size + 1 < W.heap.size; rw [HB.out.2.2.2]; omega) (hX _ (by omega))))
       have hnx : ¬ X1 w.heap.size := Mv.not hm1 (b := w.heap.size) (by show w.heap.size < W.heap.size; rw [HB.out.2.2.2]; omega) (hX _ (by omega))
       have HPB := Lib.hid (fun er => HPB.out m s1 er hlt hc)
       have HPG := Lib.hid (fun cs t s' => HPG.out m s1 cs t s' hlt hc)
       clear hs hc hi1 hm1 hb)
    | (with_reducible refine HV.out.mono ?_
       intro e w2 hs
       rcases hs.split with ⟨er, X', hc, rfl, hm2⟩ | ⟨cs, t, s2, A3, cc3, X2, hc, rfl, hi2, hm2, ht2, hn2⟩
       · exact ⟨rfl, VPost.bad (HPB.out er hc) (Mv.trans HMV.out hm2)⟩
       have i3 := Mv.cell hm2 (v := .slice (some ⟨ib, off, none⟩) subs.length c) j3 hnx
       have HB2 := Lib.hid (Mv.below (Mv.trans HMV.out hm2) (fun b hb => (HXB.out b hb).1) hBw)
       have M0 := fun m (h : m < subs.length) => (HIT.out m h w2 HB2.out).1.1
       have M1 := fun m (h : m < subs.length) => (HIT.out m h w2 HB2.out).1.2.1
       have M2 := fun m (h : m < subs.length) => (HIT.out m h w2 HB2.out).1.2.2.1
       have M3 := fun m (h : m < subs.length) => (HIT.out m h w2 HB2.out).1.2.2.2
       have HR2 := Lib.hid (And.intro (V3.mv HR1.out.1 hm2 HR1.out.2) (Mv.not hm2 HR1.out.1.lt HR1.out.2))
       obtain ⟨z0, z1, z2, y0, y1, y2⟩ := HR2.out.1.facts
       have HN := Lib.hid (And.intro hc (And.intro hi2 (And.intro hm2 (And.intro ht2 hn2))))
       clear hs hc hi2 hm2 ht2 hn2))
  obtain ⟨hc, hi2, hm2, ht2, hn2⟩ := HN.out
  have V9 := V3.put HR2.out.1 (.bool t.list) (.int .i64 t.num) (.slice A3 t.items.length cc3)
  have T9 := Lib.hid (VPost.through S (n := n) (rb := w.heap.size + 1) (y0 := .bool t.list) (y1 := .int .i64 t.num) (y2 := .slice A3 t.items.length cc3) (HPG.out cs t s2 hc) hi2 HMV.out hm2 ht2 hn2 hBw (by omega) HR1.out.1.lt HR2.out.2)
  clear z0 z1 z2 y0 y1 y2 i3 j3 k0 k1 k2 k3 K0 K1 K2 K3 L0 L1 L2 L3 M0 M1 M2 M3 hc hi2 hm2 ht2 hn2 HN HR2 HR1 HV HC HPB HPG
  generalize ((w2.setCell ⟨w.heap.size + 1, 0, none⟩ (.bool t.list)).setCell ⟨w.heap.size + 1, 1, none⟩ (.int .i64 t.num)).setCell ⟨w.heap.size + 1, 2, none⟩ (.slice A3 t.items.length cc3) = W9 at V9 T9 ⊢
  obtain ⟨z0, z1, z2, _⟩ := V9.facts
  go_wp2_with fail
  refine bodyPost_ret (v := tval t A3 cc3) (by simp [results, Tryd.results76, go_sem, z0, z1, z2]) rfl ?_
  exact T9.out

/-- the program's value, of every right generator of few parts -/
theorem value_ok (S : Src ch k cap B I) : ∀ n, ValueOK ch k cap B I n := by
  intro n
  induction n with
  | zero => intro g v s X w h; exact h.elim
  | succ n ih =>
    intro g v s X w h hr hsz hI hne
    obtain ⟨m, A, c, e, hw, rfl, hit⟩ := h.open_
    obtain rfl : n = m := by omega
    cases g with | node kd a b subs =>
    obtain ⟨_, _, m4, k1, k5⟩ := right_max hr
    rcases (show kd = 1 ∨ kd = 2 ∨ kd = 3 ∨ kd = 4 ∨ kd = 5 by omega) with rfl | rfl | rfl | rfl | rfl
    · exact value_just S n a b subs A c s X w hr hI
    · exact value_int S n a b subs A c s X w hr hI hne
    · exact value_both S n ih a b subs A c s X w hr hsz hI hne hit
    · obtain ⟨_, _, h1⟩ := m4 rfl
      match subs, h1 with
      | [y], _ => exact value_many S n ih a b y A c s X w hr hsz hI hne hit
    · exact value_any S n ih a b subs A c s X w hr hsz hI hne hit
end
end Go.Proofs.YtffkppjmdelajaaDoor.Gens

/- The program's Mend: its closure as a source of choices. Conditions: the size of the list. -/
namespace Go.Proofs.YtffkppjmdelajaaDoor.Gens
open Go.RowKit Lists Ints Vals
set_option linter.unusedVariables false

/-- the box of a slice of numbers -/
def LB (p : Nat) (A : Option Addr) (n c : Nat) (w : World) : Prop := w.heap[p]? = some (.cells #[.slice A n c] 25 (0, 0))
theorem LB.cell {p n c : Nat} {A : Option Addr} {w : World} (h : LB p A n c w) : w.cell? ⟨p, 0, none⟩ = some (.slice A n c) := by rw [Lib.cell_of_heap h]; rfl
theorem LB.free {p n c : Nat} {A : Option Addr} {w : World} (h : LB p A n c w) : w.frozen? ⟨p, 0, none⟩ = false := Lib.frozen_of_heap h 0
theorem LB.lt {p n c : Nat} {A : Option Addr} {w : World} (h : LB p A n c w) : p < w.heap.size := (Array.getElem?_eq_some_iff.1 h).1
theorem LB.put {p n c : Nat} {A : Option Addr} {w : World} (h : LB p A n c w) (A' : Option Addr) (n' c' : Nat) : LB p A' n' c' (w.setCell ⟨p, 0, none⟩ (.slice A' n' c')) := by
  unfold LB at h ⊢
  simp [World.setCell, Array.getElem?_modify, h]
/-- the state of a source that reads a list out of box p -/
def IL (B p : Nat) (s : List Int) (X : Nat → Prop) (w : World) : Prop := (∀ b, X b ↔ b = p) ∧ B ≤ p ∧ s.length ≤ 4294967296 ∧ B ≤ w.heap.size ∧ ∃ A c, LB p A s.length c w ∧ At w B A s ∧ s.length ≤ c
theorem IL.keep {B p : Nat} {s : List Int} {X : Nat → Prop} {w w' : World} (h : IL B p s X w) (hk : ∀ b, b < B ∨ X b → w'.heap[b]? = w.heap[b]?) (hs : w.heap.size ≤ w'.heap.size) : IL B p s X w' := by
  obtain ⟨h1, h2, h3, h4, A, c, h5, h6, h7⟩ := h
  exact ⟨h1, h2, h3, Nat.le_trans h4 hs, A, c, (hk p (.inr ((h1 p).2 rfl))).trans h5, h6.keep (fun b o hb => World.cell?_of_block (hk b (.inl hb))), h7⟩
theorem IL.lt {B p : Nat} {s : List Int} {X : Nat → Prop} {w : World} (h : IL B p s X w) : B ≤ w.heap.size ∧ ∀ b, X b → B ≤ b ∧ b < w.heap.size := by
  obtain ⟨h1, h2, h3, h4, A, c, h5, h6, h7⟩ := h
  exact ⟨h4, fun b hb => by rw [h1] at hb; subst hb; exact ⟨h2, h5.lt⟩⟩
theorem At.tail {w : World} {B b off : Nat} {x : Int} {r : List Int} (h : At w B (some ⟨b, off, none⟩) (x :: r)) : At w B (some ⟨b, off + 1, none⟩) r := fun hp => by
  obtain ⟨b', o', e, hb, hc⟩ := h (by simp)
  simp only [Option.some.injEq, Addr.mk.injEq, and_true] at e
  obtain ⟨rfl, rfl⟩ := e
  refine ⟨b, off + 1, rfl, hb, fun j hj => ?_⟩
  have := hc (j + 1) (by simpa using hj)
  rw [show off + 1 + j = off + (j + 1) by omega, this]
  rfl

/-- one number further -/
theorem IL.step {B p c c' : Nat} {A A' : Option Addr} {r : List Int} {X : Nat → Prop} {w : World} (hX : ∀ b, X b ↔ b = p) (hBp : B ≤ p) (hsl : r.length + 1 ≤ 4294967296) (hBw : B ≤ w.heap.size) (hbox : LB p A (r.length + 1) c w) (hat : At w B A' r) (hcap : r.length ≤ c') :
    IL B p r X (w.setCell ⟨p, 0, none⟩ (.slice A' r.length c')) ∧ Mv X w (w.setCell ⟨p, 0, none⟩ (.slice A' r.length c')) X := by
  refine ⟨⟨hX, hBp, by omega, by simpa [World.setCell] using hBw, A', c', hbox.put A' r.length c', hat.keep fun b o hb => World.cell?_of_block (Below.heap_setCell _ _ _ _ (by show b ≠ p; omega)), hcap⟩, ?_⟩
  exact ⟨rfl, rfl, rfl, by simp [World.setCell], fun b hb hx => Below.heap_setCell _ _ _ _ (fun e => hx ((hX b).2 e)), fun b hb => .inl hb⟩

set_option maxHeartbeats 1000000 in
set_option maxRecDepth 100000 in
theorem src_mend (B p : Nat) : Src mendC 54 #[.pointer (some ⟨p, 0, none⟩)] B (IL B p) := by
  refine ⟨fun s X w w' h hk hs => h.keep hk hs, fun s X w h => h.lt, mend_bounded, fun args w => ?_, fun s X w m h0 h1 hI _ => ?_⟩
  · rfl
  · have HI := Lib.hid hI
    obtain ⟨hX, hBp, hsl, hBw, A, c, hbox, hat, hcap⟩ := hI
    have f0 := hbox.cell
    have f1 := hbox.free
    have HX := Lib.hid hX
    have HAT := Lib.hid hat
    have HBX := Lib.hid hbox
    have hp := hbox.lt
    clear hat hbox hX
    show Calls Tryd.prog 54 #[.int .i64 m, .pointer (some ⟨p, 0, none⟩)] w _
    cases s with
    | nil =>
      simp only [List.length_nil] at f0 hcap hsl
      go_enter Tryd.func54, Tryd.ntmps54
      go_wp2_with fail
      go_ret
      exact ⟨ret_int (by show (0 : Int) = max 0 (min 0 m); omega), X, HI.out, Mv.refl X w⟩
    | cons x r =>
      obtain ⟨b, off, rfl, hb, hc⟩ := HAT.out (by simp)
      have c0 : w.cell? ⟨b, off, none⟩ = some (.int .i64 x) := hc 0 (by simp)
      clear hc
      have g0 : (((r.length : Int) + 1) == 0) = false := by rw [beq_eq_false_iff_ne]; omega
      simp only [List.length_cons] at f0 hcap hsl
      have HR := Lib.hid (show min (max x 0) m = mendX (x :: r) m by show min (max x 0) m = max 0 (min x m); omega)
      by_cases hc1 : c = 1
      · obtain rfl : r = [] := List.eq_nil_of_length_eq_zero (by omega)
        have ST := Lib.hid (IL.step (A' := some ⟨b, off, none⟩) (c' := 0) HX.out hBp hsl hBw HBX.out (r := []) At.nil (by simp))
        subst hc1
        simp only [List.length_nil] at f0
        go_enter Tryd.func54, Tryd.ntmps54
        go_wp2_with fail
        go_ret
        exact ⟨ret_int HR.out, X, ST.out.1, ST.out.2⟩
      · have ST := Lib.hid (IL.step (A' := some ⟨b, off + 1, none⟩) (c' := c - 1) HX.out hBp hsl hBw HBX.out (r := r) (At.tail HAT.out) (by omega))
        go_enter Tryd.func54, Tryd.ntmps54
        go_wp2_with fail
        go_ret
        exact ⟨ret_int HR.out, X, ST.out.1, ST.out.2⟩
end Go.Proofs.YtffkppjmdelajaaDoor.Gens

/- The program's record: a source that notes what another one tells. Conditions: none but the source's. -/
namespace Go.Proofs.YtffkppjmdelajaaDoor.Gens
open Go.RowKit Lists Ints Vals
set_option linter.unusedVariables false

section
variable {σ : Type} {ch : σ → Int → Except Int (Int × σ)} {k : Nat} {cap : Array Value} {B : Nat} {I : σ → (Nat → Prop) → World → Prop}
/-- the box of a source -/
def FB (p k : Nat) (cap : Array Value) (w : World) : Prop := w.heap[p]? = some (.cells #[fv k cap] 111 (0, 0))
theorem FB.cell {p k : Nat} {cap : Array Value} {w : World} (h : FB p k cap w) : w.cell? ⟨p, 0, none⟩ = some (fv k cap) := by rw [Lib.cell_of_heap h]; rfl
theorem FB.lt {p k : Nat} {cap : Array Value} {w : World} (h : FB p k cap w) : p < w.heap.size := (Array.getElem?_eq_some_iff.1 h).1
/-- the state of a source that notes: the inner one's, the box that holds it, the box of what is noted, its row -/
def IR (B k : Nat) (cap : Array Value) (I : σ → (Nat → Prop) → World → Prop) (nb tb : Nat) (s : σ × List Int) (X : Nat → Prop) (w : World) : Prop :=
  ∃ (X0 : Nat → Prop) (A : Option Addr) (c : Nat), I s.1 X0 w ∧ FB nb k cap w ∧ LB tb A s.2.length c w ∧ Own w (tb + 1) A c s.2 ∧ s.2.length ≤ 4294967296 ∧ nb < tb ∧ B ≤ nb ∧ ¬ X0 nb ∧ ¬ X0 tb ∧ (∀ g, rowOf A = some g → ¬ X0 g) ∧ ∀ b, X b ↔ (X0 b ∨ b = nb ∨ b = tb ∨ rowOf A = some b)
theorem own_row_lt {w : World} {base c : Nat} {A : Option Addr} {z : List Int} (h : Own w base A c z) {g : Nat} (hg : rowOf A = some g) : g < w.heap.size := by
  rcases h.2 with ⟨he, _⟩ | ⟨g', cap, cur, he, _, hh, _⟩
  · injection he with he; subst he; cases hg
  · injection he with he; subst he
    have : g' = g := by simpa [rowOf] using hg
    subst this
    exact (Array.getElem?_eq_some_iff.1 hh).1
theorem own_kept {w w' : World} {base c : Nat} {A : Option Addr} {z : List Int} (h : Own w base A c z) (hk : ∀ g, rowOf A = some g → w'.heap[g]? = w.heap[g]?) : Own w' base A c z := by
  refine ⟨h.1, ?_⟩
  rcases h.2 with h0 | ⟨g, cap, cur, he, hb, hh, h1⟩
  · exact .inl h0
  · refine .inr ⟨g, cap, cur, he, hb, ?_, h1⟩
    injection he with he; subst he
    rw [hk g rfl]; exact hh
theorem IR.keep (S : Src ch k cap B I) {nb tb : Nat} {s : σ × List Int} {X : Nat → Prop} {w w' : World} (h : IR B k cap I nb tb s X w) (hk : ∀ b, b < B ∨ X b → w'.heap[b]? = w.heap[b]?) (hs : w.heap.size ≤ w'.heap.size) : IR B k cap I nb tb s X w' := by
  obtain ⟨X0, A, c, h1, h2, h3, h4, h5, h6, h7, h8, h9, h10, h11⟩ := h
  exact ⟨X0, A, c, S.keep s.1 X0 w w' h1 (fun b hb => hk b (hb.elim .inl (fun h => .inr ((h11 b).2 (.inl h))))) hs, (hk nb (.inr ((h11 nb).2 (.inr (.inl rfl))))).trans h2, (hk tb (.inr ((h11 tb).2 (.inr (.inr (.inl rfl)))))).trans h3,
    own_kept h4 (fun g hg => hk g (.inr ((h11 g).2 (.inr (.inr (.inr hg)))))), h5, h6, h7, h8, h9, h10, h11⟩
theorem IR.lt (S : Src ch k cap B I) {nb tb : Nat} {s : σ × List Int} {X : Nat → Prop} {w : World} (h : IR B k cap I nb tb s X w) : B ≤ w.heap.size ∧ ∀ b, X b → B ≤ b ∧ b < w.heap.size := by
  obtain ⟨X0, A, c, h1, h2, h3, h4, h5, h6, h7, h8, h9, h10, h11⟩ := h
  obtain ⟨q1, q2⟩ := S.lt s.1 X0 w h1
  refine ⟨q1, fun b hb => ?_⟩
  rcases (h11 b).1 hb with h | rfl | rfl | h
  · exact q2 b h
  · exact ⟨h7, h2.lt⟩
  · exact ⟨by omega, h3.lt⟩
  · exact ⟨by have := h4.ge b h; omega, own_row_lt h4 h⟩
/-- behind the inner call: memory as the notes want it -/
theorem IR.mid {nb tb c : Nat} {r : List Int} {X0 X' : Nat → Prop} {A : Option Addr} {w w1 : World} (h2 : FB nb k cap w) (h3 : LB tb A r.length c w) (h4 : Own w (tb + 1) A c r) (h8 : ¬ X0 nb) (h9 : ¬ X0 tb) (h10 : ∀ g, rowOf A = some g → ¬ X0 g) (hm : Mv X0 w w1 X') :
    FB nb k cap w1 ∧ LB tb A r.length c w1 ∧ Own w1 (tb + 1) A c r ∧ ¬ X' nb ∧ ¬ X' tb ∧ ∀ g, rowOf A = some g → ¬ X' g :=
  ⟨(hm.block nb h2.lt h8).trans h2, (hm.block tb h3.lt h9).trans h3, own_kept h4 (fun g hg => hm.block g (own_row_lt h4 hg) (h10 g hg)), Mv.not hm h2.lt h8, Mv.not hm h3.lt h9, fun g hg => Mv.not hm (own_row_lt h4 hg) (h10 g hg)⟩

theorem At.one_new (w : World) (x : Int) : At (w.alloc (.cells #[.int .i64 x] 3)) (w.heap.size + 1) (some ⟨w.heap.size, 0, none⟩) [x] := fun hp => by
  refine ⟨w.heap.size, 0, rfl, by omega, fun j hj => ?_⟩
  have hj : j = 0 := by simpa using hj
  subst hj
  rw [Lib.cell_of_heap (new_obj w _)]; rfl
theorem IR.bad {nb tb c : Nat} {r : List Int} {X X0 X' : Nat → Prop} {A : Option Addr} {w w1 : World} (hX : ∀ b, X b ↔ (X0 b ∨ b = nb ∨ b = tb ∨ rowOf A = some b)) (hm : Mv X0 w w1 X') : Mv X w w1 (fun _ => False) :=
  ⟨hm.os, hm.tape, hm.output, hm.size, fun b hb hx => hm.block b hb (fun h => hx ((hX b).2 (.inl h))), fun b h => h.elim⟩
/-- one number more is noted -/
theorem IR.next (S : Src ch k cap B I) {nb tb c c' : Nat} {s' : σ} {r zl : List Int} {X X0 X' : Nat → Prop} {A A' : Option Addr} {w w1 w5 : World} {O : Obj} (h2 : FB nb k cap w1) (h3 : LB tb A r.length c w1) (h4 : Own w1 (tb + 1) A c r) (h6 : nb < tb) (h7 : B ≤ nb) (h8 : ¬ X' nb) (h9 : ¬ X' tb) (h10 : ∀ g, rowOf A = some g → ¬ X' g)
    (hX : ∀ b, X b ↔ (X0 b ∨ b = nb ∨ b = tb ∨ rowOf A = some b)) (hi : I s' X' w1) (hm : Mv X0 w w1 X') (g5 : (w1.alloc O).grownBy w5 (rowOf A)) (own5 : Own w5 (tb + 1) A' c' zl) (r5 : rowOf A' = rowOf A ∨ rowOf A' = some (w1.alloc O).heap.size) (hl : zl.length ≤ 4294967296) :
    LB tb A r.length c w5 ∧ IR B k cap I nb tb (s', zl) (fun b => X' b ∨ b = nb ∨ b = tb ∨ rowOf A' = some b) (w5.setCell ⟨tb, 0, none⟩ (.slice A' zl.length c')) ∧
      Mv X w (w5.setCell ⟨tb, 0, none⟩ (.slice A' zl.length c')) (fun b => X' b ∨ b = nb ∨ b = tb ∨ rowOf A' = some b) := by
  have hsz : (w1.alloc O).heap.size = w1.heap.size + 1 := by simp
  have s5 := g5.size
  have hr : ∀ g, rowOf A = some g → tb + 1 ≤ g := h4.ge
  have blk : ∀ b, b < w1.heap.size → rowOf A ≠ some b → w5.heap[b]? = w1.heap[b]? := fun b hb hn => (g5.block b (by omega) (fun e => hn e.symm)).trans (Below.heap_alloc _ _ _ hb)
  have blk2 : ∀ b, b < w1.heap.size → rowOf A ≠ some b → b ≠ tb → (w5.setCell ⟨tb, 0, none⟩ (.slice A' zl.length c')).heap[b]? = w1.heap[b]? := fun b hb hn ht => (Below.heap_setCell _ _ _ _ ht).trans (blk b hb hn)
  have ht5 : LB tb A r.length c w5 := (blk tb h3.lt (fun e => by have := hr tb e; omega)).trans h3
  obtain ⟨q1, q2⟩ := S.lt s' X' w1 hi
  have hmx := hm.size
  have hnew : ∀ g, rowOf A' = some g → tb + 1 ≤ g := own5.ge
  refine ⟨ht5, ⟨X', A', c', S.keep s' X' w1 _ hi (fun b hb => ?_) (by simp [World.setCell]; omega), ?_, ht5.put A' zl.length c', own_kept own5 (fun g hg => Below.heap_setCell _ _ _ _ (by show g ≠ tb; have := hnew g hg; omega)), hl, h6, h7, h8, h9, fun g hg hx => ?_, fun b => Iff.rfl⟩, ⟨?_, ?_, ?_, by simp [World.setCell]; omega, fun b hb hx => ?_, fun b hb => ?_⟩⟩
  · rcases hb with hb | hb
    · exact blk2 b (by omega) (fun e => by have := hr b e; omega) (by omega)
    · exact blk2 b (q2 b hb).2 (fun e => h10 b e hb) (fun e => h9 (e ▸ hb))
  · exact (blk2 nb h2.lt (fun e => by have := hr nb e; omega) (by omega)).trans h2
  · rcases r5 with e | e
    · exact h10 g (by rw [← e]; exact hg) hx
    · rw [e] at hg
      have : (w1.alloc O).heap.size = g := by injection hg
      have := (q2 g hx).2
      omega
  · show w5.os = w.os; exact (g5.os.trans (show (w1.alloc O).os = w1.os from rfl)).trans hm.os
  · show w5.tape = w.tape; exact (g5.tape.trans (show (w1.alloc O).tape = w1.tape from rfl)).trans hm.tape
  · show w5.output = w.output; exact (g5.output.trans (show (w1.alloc O).output = w1.output from rfl)).trans hm.output
  · have hn : ¬ X0 b ∧ b ≠ nb ∧ b ≠ tb ∧ rowOf A ≠ some b := ⟨fun h => hx ((hX b).2 (.inl h)), fun h => hx ((hX b).2 (.inr (.inl h))), fun h => hx ((hX b).2 (.inr (.inr (.inl h)))), fun h => hx ((hX b).2 (.inr (.inr (.inr h))))⟩
    exact (blk2 b (by omega) hn.2.2.2 hn.2.2.1).trans (hm.block b hb hn.1)
  · rcases hb with h | rfl | rfl | h
    · exact (hm.new b h).imp (fun h => (hX b).2 (.inl h)) id
    · exact .inl ((hX b).2 (.inr (.inl rfl)))
    · exact .inl ((hX b).2 (.inr (.inr (.inl rfl))))
    · rcases r5 with e | e
      · exact .inl ((hX b).2 (.inr (.inr (.inr (by rw [← e]; exact h)))))
      · rw [e] at h
        have : (w1.alloc O).heap.size = b := by injection h
        exact .inr (by omega)

set_option maxHeartbeats 1000000 in
set_option maxRecDepth 100000 in
theorem src_rec (S : Src ch k cap B I) (nb tb : Nat) : Src (recC ch) 77 #[.pointer (some ⟨nb, 0, none⟩), .pointer (some ⟨tb, 0, none⟩)] B (IR B k cap I nb tb) := by
  refine ⟨fun s X w w' h hk hs => h.keep S hk hs, fun s X w h => h.lt S, rec_bounded S.bnd, fun args w => ?_, fun s X w m h0 h1 hI hne => ?_⟩
  · rfl
  · obtain ⟨s, r⟩ := s
    obtain ⟨X0, A, c, j1, j2, j3, j4, j5, j6, j7, j8, j9, j10, j11⟩ := hI
    simp only at j1 j3 j4 j5
    have hlr : r.length < 2000000 := by
      by_cases h : r.length < 2000000
      · exact h
      · exact absurd (by simp only [recC]; rw [if_neg h]) hne
    have HRC := Lib.hid (show recC ch (s, r) m = (match ch s m with | .error e => .error e | .ok (x, s') => .ok (x, (s', r ++ [x]))) by simp only [recC]; rw [if_pos hlr]; cases ch s m <;> rfl)
    have hent := S.ent
    have HC := Lib.hid (S.call s X0 w m h0 h1 j1 (fun e => hne (by rw [HRC.out, e])))
    have HJ := Lib.hid (And.intro j2 (And.intro j3 (And.intro j4 (And.intro j8 (And.intro j9 (And.intro j10 j11))))))
    have f0 := j2.cell
    clear j1 j2 j3 j4 j5 j8 j9 j10 j11 hne
    show Calls Tryd.prog 77 #[.int .i64 m, .pointer (some ⟨nb, 0, none⟩), .pointer (some ⟨tb, 0, none⟩)] w _
    go_enter Tryd.func77, Tryd.ntmps77
    go_wp2_with fail
    refine HC.out.mono ?_
    intro e w1 hs
    rcases hs.split with ⟨er, X', hc, rfl, hm1⟩ | ⟨x, s', X', hc, rfl, hi1, hm1⟩
    · refine ⟨rfl, ?_⟩
      show SPost _ (recC ch (s, r) m) _ _ _ _
      rw [HRC.out, hc]
      exact ⟨rfl, _, IR.bad (c := c) (r := r) HJ.out.2.2.2.2.2.2 hm1⟩
    have MD := IR.mid HJ.out.1 HJ.out.2.1 HJ.out.2.2.1 HJ.out.2.2.2.1 HJ.out.2.2.2.2.1 HJ.out.2.2.2.2.2.1 hm1
    have e0 := MD.2.1.cell
    have e1 := MD.2.1.free
    have HMD := Lib.hid MD
    have HN := Lib.hid (And.intro hc (And.intro hi1 hm1))
    clear hs hc hi1 hm1 MD HC f0
    go_wp2_with (first
      | (at_builtin
         refine wpList_append_ints rfl (.tmp 9) (.tmp 11) rfl (tb + 1) c A r (HMD.out.2.2.1.below (bel1 _ _)) (w1.heap.size + 1) (some ⟨w1.heap.size, 0, none⟩) 1 [x] (At.one_new w1 x) rfl rfl (by simp; omega) (by have := HMD.out.2.1.lt; simp; omega) ?_
         intro A' c' w5 zl hz own5 g5 r5
         have NX := IR.next (k := k) (cap := cap) S HMD.out.1 HMD.out.2.1 HMD.out.2.2.1 j6 j7 HMD.out.2.2.2.1 HMD.out.2.2.2.2.1 HMD.out.2.2.2.2.2 HJ.out.2.2.2.2.2.2 HN.out.2.1 HN.out.2.2 g5 own5 r5 (by rw [hz.out]; simp; omega)
         have t0 := NX.1.cell
         have t1 := NX.1.free
         have NX := Lib.hid NX.2
         clear own5 g5 r5))
    go_ret
    show SPost _ (recC ch (s, r) m) _ _ _ _
    rw [HRC.out, HN.out.1]
    show SPost _ (.ok (x, (s', r ++ [x]))) _ _ _ _
    rw [← hz.out]
    exact ⟨rfl, _, NX.out.1, NX.out.2⟩
theorem own_less {w : World} {base base' c : Nat} {A : Option Addr} {z : List Int} (h : Own w base A c z) (hb : base' ≤ base) : Own w base' A c z := by
  refine ⟨h.1, ?_⟩
  rcases h.2 with h0 | ⟨g, cap, cur, he, hb2, hh, h1⟩
  · exact .inl h0
  · exact .inr ⟨g, cap, cur, he, by omega, hh, h1⟩
/-- the boxes at record's start -/
theorem rec_boxes (S : Src ch k cap B I) {s : σ} {X : Nat → Prop} (w : World) (hI : I s X w) (O : Obj) :
    IR B k cap I (w.heap.size + 1) (w.heap.size + 1 + 1) (s, []) (fun b => X b ∨ b = w.heap.size + 1 ∨ b = w.heap.size + 1 + 1 ∨ rowOf none = some b) (((w.alloc O).alloc (.cells #[fv k cap] 111)).alloc (.cells #[.slice none 0 0] 25)) ∧
      Mv X w (((w.alloc O).alloc (.cells #[fv k cap] 111)).alloc (.cells #[.slice none 0 0] 25)) (fun b => X b ∨ b = w.heap.size + 1 ∨ b = w.heap.size + 1 + 1 ∨ rowOf none = some b) ∧
      Below w.heap.size w (((w.alloc O).alloc (.cells #[fv k cap] 111)).alloc (.cells #[.slice none 0 0] 25)) ∧
      (((w.alloc O).alloc (.cells #[fv k cap] 111)).alloc (.cells #[.slice none 0 0] 25)).heap.size = w.heap.size + 3 := by
  obtain ⟨q1, q2⟩ := S.lt s X w hI
  have hb : Below w.heap.size w (((w.alloc O).alloc (.cells #[fv k cap] 111)).alloc (.cells #[.slice none 0 0] 25)) := (((Below.refl _ _).alloc (Nat.le_refl _) _).alloc (by simp) _).alloc (by simp; omega) _
  have hm : Mv X w (((w.alloc O).alloc (.cells #[fv k cap] 111)).alloc (.cells #[.slice none 0 0] 25)) X := Mv.of_below hb
  have z1 : (w.alloc O).heap.size = w.heap.size + 1 := by simp
  have z2 : ((w.alloc O).alloc (.cells #[fv k cap] 111)).heap.size = w.heap.size + 1 + 1 := by simp
  refine ⟨⟨X, none, 0, S.below hI hb, ?_, ?_, Own.none, by simp, by omega, by omega, S.not hI (by omega), S.not hI (by omega), (fun g h => by cases h), fun b => Iff.rfl⟩, ⟨hm.os, hm.tape, hm.output, hm.size, hm.block, fun b h => ?_⟩, hb, by simp⟩
  · have h1 := new_obj (w.alloc O) (.cells #[fv k cap] 111)
    rw [z1] at h1
    exact (Below.heap_alloc _ _ _ (by rw [z2]; omega)).trans h1
  · have h1 := new_obj ((w.alloc O).alloc (.cells #[fv k cap] 111)) (.cells #[.slice none 0 0] 25)
    rw [z2] at h1
    exact h1
  · rcases h with h | h | h | h
    · exact .inl h
    · exact .inr (by omega)
    · exact .inr (by omega)
    · cases h

set_option maxHeartbeats 1000000 in
set_option maxRecDepth 100000 in
/-- the program's record: the choices -/
theorem record_ok (S : Src ch k cap B I) {n : Nat} {g : Gn} {A : Option Addr} {c : Nat} {s s' : σ} {X : Nat → Prop} {w : World} {cs : List Int} {t : Tr} (hg : GAt w (GBel B) n (gv g A c) g) (hr : Right g) (hsz : g.size ≤ 30) (hI : I s X w) (hp : play ch g s = .ok (cs, t, s')) (hln : cs.length ≤ 2000000) :
    Calls Tryd.prog 53 #[gv g A c, fv k cap] w fun e w' => ∃ (A' : Option Addr) (c' : Nat) (X' : Nat → Prop), e = .returned (.slice A' cs.length c') ∧ Own w' w.heap.size A' c' cs ∧ Mv X w w' X' := by
  have hBw := (S.lt s X w hI).1
  have RB := rec_boxes S w hI (.cells #[.int .i64 g.kind, .int .i64 g.a, .int .i64 g.b, .slice A g.subs.length c] 24)
  have RP := rec_play S.bnd hr hp [] (by simpa using hln)
  have HC := value_ok (src_rec S (w.heap.size + 1) (w.heap.size + 1 + 1)) n g (gv g A c) (s, []) _ _ (hg.below (RB.2.2.1.mono hBw)) hr hsz RB.1 (by rw [RP]; intro h; cases h)
  rw [RP] at HC
  have HM := Lib.hid RB.2.1
  have HC := Lib.hid HC
  clear hI hg hr hsz hp RP RB
  go_enter Tryd.func53, Tryd.ntmps53
  go_wp2_with fail
  refine HC.out.mono ?_
  rintro e w1 ⟨A1, c1, X1, rfl, hi, hm, _, _⟩
  obtain ⟨X0, A2, c2, _, _, hl, ho, _⟩ := hi
  simp only [List.nil_append] at hl ho
  have f0 := hl.cell
  have HO := Lib.hid (own_less ho (show w.heap.size ≤ w.heap.size + 1 + 1 + 1 by omega))
  have HMV := Lib.hid (Mv.trans HM.out hm)
  clear hl ho hm HC HM
  go_wp2_with fail
  go_ret
  exact ⟨A2, c2, X1, rfl, HO.out, HMV.out⟩
end
end Go.Proofs.YtffkppjmdelajaaDoor.Gens
