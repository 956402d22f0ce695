/- RunsFail, part 15 of the proof: The program's value: what it makes of a source's choices. Conditions: a small generator. -/
import Derived.Test.YtabkihellcflhaaDoorRunsFailZ13
/- The program's value: what it makes of a source's choices. Conditions: a small generator. -/
namespace Go.Proofs.YtabkihellcflhaaDoor.Gens
open Go.RowKit Lists Ints Vals
set_option linter.unusedVariables false

section
variable {σ : Type} {ch : σ → Int → Except Int (Int × σ)} {k : Nat} {cap : Array Value} {B : Nat} {I : σ → (Nat → Prop) → World → Prop}

theorem bel_drew {w W : World} (h : Below w.heap.size w W) : Below w.heap.size w W.drew := ⟨h.os, h.tape, h.output, h.size, h.block⟩

set_option maxHeartbeats 1000000 in
set_option maxRecDepth 100000 in
theorem value_int (S : Src ch k cap B I) (n : Nat) (a b : Int) (subs : List Gn) (A : Option Addr) (c : Nat) (s : σ) (X : Nat → Prop) (w : World) (hr : Right (.node 2 a b subs)) (hI : I s X w) (hne : play ch (.node 2 a b subs) s ≠ .error 77) :
    Calls Tryd.prog 37 #[fv k cap, .agg #[.int .i64 2, .int .i64 a, .int .i64 b, .slice A subs.length c]] w (VPost I (n + 1) (play ch (.node 2 a b subs) s) X w) := by
  have hm := (right_max hr).1 rfl
  have hn := (right_num hr).2 rfl
  have hsub : IntKind.i64.wrap (b - a) = b - a := wrap_small (by omega) (by omega)
  have hent := S.ent
  have HB := Lib.hid (two_boxes w (.int .i64 2) (.int .i64 a) (.int .i64 b) (.slice A subs.length c) (.bool false) (.int .i64 0) (.slice none 0 0))
  have HBAD := Lib.hid (fun er W1 X' (hc : ch s (b - a) = .error er) (hm : Mv X w W1 X') => VPost.bad (I := I) (er := er) (n := n + 1) (r := play ch (.node 2 a b subs) s) (by simp [play, hc]) hm)
  have HNE := Lib.hid (show ch s (b - a) ≠ .error 77 from fun e => hne (by simp [play, e]))
  clear hne
  have HN := Lib.hid hn
  have HM := Lib.hid hm
  have HR := Lib.hid hr
  clear hm hn hr
  go_enter Tryd.func37, Tryd.ntmps37
  go_wp2_with fail
  generalize (w.alloc (.cells #[.int .i64 2, .int .i64 a, .int .i64 b, .slice A subs.length c] 24)).alloc (.cells #[.bool false, .int .i64 0, .slice none 0 0] 44) = W at HB ⊢
  have hX : ∀ q, w.heap.size ≤ q → ¬ X q := fun q hq => S.not hI hq
  have HC := Lib.hid (S.call s X W.drew (b - a) HM.out.1 (by have := HM.out; omega) (S.below hI (bel_drew HB.out.2.2.1)) HNE.out)
  obtain ⟨k0, k1, k2, k3⟩ := HB.out.1.facts
  go_region_held2 (fun w' => w'.cell? ⟨w.heap.size, 1, none⟩ = some (.int .i64 a) ∧ w'.cell? ⟨w.heap.size, 2, none⟩ = some (.int .i64 b)) (go_keep) (first
    | (with_reducible refine HC.out.mono ?_
       intro e w1 hs
       rcases hs.split with ⟨er, X', hc, rfl, hm1⟩ | ⟨x, s', X', hc, rfl, hi1, hm1⟩
       · exact ⟨rfl, HBAD.out er w1 X' hc (Mv.trans (Mv.of_below (bel_drew HB.out.2.2.1)) hm1)⟩
       have j1 := Mv.cell hm1 (v := .int .i64 a) k1 (hX _ (Nat.le_refl _))
       have j2 := Mv.cell hm1 (v := .int .i64 b) k2 (hX _ (Nat.le_refl _))
       have hb := S.bnd s _ x s' HM.out.1 hc
       have hadd : IntKind.i64.wrap (a + x) = a + x := wrap_small (by have := HN.out; omega) (by have := HN.out; omega)
       have V1 := Lib.hid (V3.mv HB.out.2.1 (Mv.trans (Mv.of_below (bel_drew (Below.refl _ _))) hm1) (hX _ (by omega)))
       obtain ⟨z0, z1, z2, y0, y1, y2⟩ := V1.out.facts
       clear hs hb))
  have V9 := V3.put V1.out (.bool false) (.int .i64 (a + x)) (.slice none 0 0)
  have M9 := Lib.hid (Mv.set (Mv.set (Mv.set (Mv.trans (Mv.of_below (bel_drew HB.out.2.2.1)) hm1) (b := w.heap.size + 1) (by omega) 0 (.bool false)) (b := w.heap.size + 1) (by omega) 1 (.int .i64 (a + x))) (b := w.heap.size + 1) (by omega) 2 (.slice none 0 0))
  have hx1 : ¬ X' (w.heap.size + 1) := Mv.not hm1 (by show w.heap.size + 1 < W.heap.size; rw [HB.out.2.2.2]; omega) (hX _ (by omega))
  have hB : B ≤ w.heap.size + 1 := by have := (S.lt s X w hI).1; omega
  have I9 := Lib.hid (S.set (S.set (S.set hi1 hB hx1 0 (.bool false)) hB hx1 1 (.int .i64 (a + x))) hB hx1 2 (.slice none 0 0))
  have hb := S.bnd s _ x s' HM.out.1 hc
  have hwf : Wf (a + x) := wf_small (by have := HN.out; omega) (by have := HN.out; omega)
  clear z0 z1 z2 y0 y1 y2 j1 j2 V1 HC
  generalize ((w1.setCell ⟨w.heap.size + 1, 0, none⟩ (.bool false)).setCell ⟨w.heap.size + 1, 1, none⟩ (.int .i64 (a + x))).setCell ⟨w.heap.size + 1, 2, none⟩ (.slice none 0 0) = W9 at V9 M9 I9 ⊢
  obtain ⟨z0, z1, z2, _⟩ := V9.facts
  go_wp2_with fail
  refine bodyPost_ret (v := tval (.node false (a + x) []) none 0) (by simp [results, Tryd.results37, go_sem, z0, z1, z2, Tr.list, Tr.num, Tr.items]) rfl ?_
  exact VPost.good (c := [x]) (s' := s') (by simp [play, hc]) I9.out M9.out ⟨hwf, none, 0, rfl, fun hp => by simp [Tr.items] at hp⟩ (NFr.none_ _)
set_option maxHeartbeats 1000000 in
set_option maxRecDepth 100000 in
theorem value_just (S : Src ch k cap B I) (n : Nat) (a b : Int) (subs : List Gn) (A : Option Addr) (c : Nat) (s : σ) (X : Nat → Prop) (w : World) (hr : Right (.node 1 a b subs)) (hI : I s X w) :
    Calls Tryd.prog 37 #[fv k cap, .agg #[.int .i64 1, .int .i64 a, .int .i64 b, .slice A subs.length c]] w (VPost I (n + 1) (play ch (.node 1 a b subs) s) X w) := by
  have hn := (right_num hr).1 rfl
  have hwf : Wf a := wf_small (by omega) (by omega)
  have HB := Lib.hid (two_boxes w (.int .i64 1) (.int .i64 a) (.int .i64 b) (.slice A subs.length c) (.bool false) (.int .i64 a) (.slice none 0 0))
  have HN := Lib.hid hn
  clear hn hr
  go_enter Tryd.func37, Tryd.ntmps37
  go_wp2_with fail
  generalize (w.alloc (.cells #[.int .i64 1, .int .i64 a, .int .i64 b, .slice A subs.length c] 24)).alloc (.cells #[.bool false, .int .i64 a, .slice none 0 0] 44) = W at HB ⊢
  obtain ⟨_, v3, hb, _⟩ := HB.out
  obtain ⟨z0, z1, z2, _⟩ := v3.facts
  refine bodyPost_ret (v := tval (.node false a []) none 0) (by simp [results, Tryd.results37, go_sem, z0, z1, z2, Tr.list, Tr.num, Tr.items]) rfl ?_
  exact VPost.good (c := []) (s' := s) (by simp [play]) (S.below hI hb) (Mv.of_below hb) ⟨hwf, none, 0, rfl, fun hp => by simp [Tr.items] at hp⟩ (NFr.none_ _)
end
end Go.Proofs.YtabkihellcflhaaDoor.Gens
