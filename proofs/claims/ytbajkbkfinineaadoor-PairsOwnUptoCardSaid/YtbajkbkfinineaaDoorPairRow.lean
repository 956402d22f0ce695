/- The program's bestLevel and rowWith. Conditions: the sizes. -/
import Derived.Test.YtbajkbkfinineaaDoorPairMis
import Derived.Test.YtbajkbkfinineaaDoorPairRep
import Derived.BigQuiet
namespace Go.Proofs.YtbajkbkfinineaaDoor.Pair
open Go.RowKit Ints Lists Vals Gens
set_option linter.unusedVariables false

/-- a row of small levels, some of them open -/
def Fit (levels r : List Int) : Prop := r.length = levels.length ∧ levels.length ≤ 12 ∧ ∀ i, i < levels.length → -1 ≤ r.getD i 0 ∧ r.getD i 0 < 5
theorem Half.fit {levels r : List Int} {n : Nat} (h : Half levels r n) (h0 : levE levels = 0) : Fit levels r := by
  obtain ⟨h1, h2⟩ := lev_ok h0
  refine ⟨h.1, h1, fun i hi => ?_⟩
  have := lv_small h2 hi
  rcases h.2 i hi with ⟨h3, _⟩ | h3 <;> omega
theorem Fit.set {levels r : List Int} (h : Fit levels r) {a v : Nat} (ha : a < levels.length) (hv : v < 5) : Fit levels (r.set a (v : Int)) := by
  refine ⟨by rw [List.length_set]; exact h.1, h.2.1, fun i hi => ?_⟩
  rw [getD_set _ _ _ _ (by rw [h.1]; exact ha)]
  split
  · omega
  · exact h.2.2 i hi
theorem Fit.small {levels r : List Int} (h : Fit levels r) {q : Quad} (hq : q ∈ prs r) : Sm q := by
  obtain ⟨h1, h2, h3, h4, h5, h6⟩ := mem_prs.1 hq
  have hl := h.1
  have g1 := h.2.2 q.a (by omega)
  have g2 := h.2.2 q.b (by omega)
  have := h.2.1
  exact ⟨by omega, by omega, by omega, by omega⟩
theorem fresh_step (f : Quad → Int) (z : List Quad) (q : Quad) : freshN f (z ++ [q]) = freshN f z + if f q = 0 then 1 else 0 := by
  unfold freshN
  rw [List.countP_append]
  simp
theorem fresh_le (f : Quad → Int) (z : List Quad) : freshN f z ≤ z.length := List.countP_le_length

structure FreI (B p s n : Nat) (f : Quad → Int) (w0 : World) (z : List Quad) (w : World) : Prop where
  box : Bx p 53 (.map (some B)) w
  cnt : Bx s 3 (.int .i64 (freshN f z : Int)) w
  map : MAt B n f w
  grown : w0.grownBy w (some s)
theorem fre_do {B p s n N : Nat} {f : Quad → Int} {R : Option Addr} {r levels : List Int} {w0 : World} (hr : Fit levels r) (hN : N ≤ s) (hat : At w0 N R r) (hp : p < s) (hB : B < s) :
    DoQ 41 #[.pointer (some ⟨p, 0, none⟩), .pointer (some ⟨s, 0, none⟩)] R r (FreI B p s n f w0) := by
  refine ⟨fun args w => rfl, fun hl => ?_, fun z q w hI hpre => ?_⟩
  · obtain ⟨b, off, e, hb, hc⟩ := hat hl
    refine ⟨b, off, e, fun z w hI i hi => ?_⟩
    have := hc i hi
    exact hI.grown.cell this (by simp; omega)
  · have hs := hr.small (pre_mem hpre)
    have hl := prs_len (r := r) (by rw [hr.1]; exact hr.2.1)
    have hz := pre_len hpre
    have hf := fresh_le f z
    refine (best_new w hI.box hI.cnt hI.map hs (by omega)).mono ?_
    rintro e w' ⟨rfl, h1, h2⟩
    refine ⟨rfl, hI.box.kept h2 (by simp; omega), ?_, hI.map.kept h2 (by simp; omega), hI.grown.trans h2⟩
    have e : ((freshN f (z ++ [q]) : Nat) : Int) = if f q = 0 then ((freshN f z : Nat) : Int) + 1 else (freshN f z : Int) := by
      rw [fresh_step]
      split <;> simp
    rw [e]
    exact h1

set_option maxHeartbeats 4000000 in
set_option maxRecDepth 100000 in
theorem best_prog {B n a : Nat} {f : Quad → Int} {R L : Option Addr} {r levels : List Int} {rc lc : Nat} (w : World) (hfit : Fit levels r) (h0 : levE levels = 0) (ha : a < levels.length) (hl : At w w.heap.size L levels) (hr : At w w.heap.size R r) (hm : MAt B n f w) :
    Calls Tryd.prog 32 #[.int .i64 a, .slice R r.length rc, .slice L levels.length lc, .map (some B)] w fun e w' => e = .returned (.int .i64 ((bestN f r a (lv levels a)).1 : Int)) ∧ Below w.heap.size w w' := by
  have LV := lv_small (lev_ok h0).2 ha
  obtain ⟨lb, lo, rfl, hlb, hlc⟩ := hl (by omega)
  have c0 := hlc a ha
  rw [← LV.2.2] at c0
  have P1 := Lib.hid (show Bx w.heap.size 53 (.map (some B)) (w.alloc (.cells #[.map (some B)] 53)) from heap_new2 _ _)
  have BB := Lib.hid (show Below w.heap.size w (w.alloc (.cells #[.map (some B)] 53)) from vbel1 _ _)
  have M1 := Lib.hid (hm.kept (World.grownBy_alloc w (.cells #[.map (some B)] 53) none) (by simp))
  have ML := Lib.hid hm.lt
  have CL := Lib.hid (clone_ok (lc := rc) (w.alloc (.cells #[.map (some B)] 53)) (hr.below BB.out) BB.out.size (by have := hfit.1; have := hfit.2.1; omega))
  have SZ := Lib.hid (show (w.alloc (.cells #[.map (some B)] 53)).heap.size = w.heap.size + 1 by simp)
  have FT := Lib.hid hfit
  have hai : (a : Int) < levels.length := by omega
  have n12 : (levels.length : Int) ≤ 12 := by have := hfit.2.1; omega
  have lvi : ((lv levels a : Nat) : Int) ≤ 5 := by omega
  have LVH := Lib.hid LV
  have LC := Lib.hid (fun (W : World) (hb : Below w.heap.size w W) => show W.cell? ⟨lb, lo + a, none⟩ = some (.int .i64 (lv levels a : Int)) from (hb.cell (p := ⟨lb, lo + a, none⟩) hlb).trans c0)
  have HA := Lib.hid ha
  obtain ⟨V, HV⟩ : ∃ V, Hid (V = bestN f r a (lv levels a)) := ⟨_, Lib.hid rfl⟩
  rw [← HV.out]
  clear c0 hlc hm hr hl hfit LV ha h0
  go_enter Tryd.func32, Tryd.ntmps32
  go_wp2_with fail
  refine CL.out.mono ?_
  rintro e w1 ⟨A, c, rfl, ho, hb1⟩
  have O1 := Lib.hid (own_mono ho (Nat.le_of_eq SZ.out.symm))
  have B1 := Lib.hid (BB.out.trans (hb1.mono BB.out.size))
  have G1 : Hid ((w.alloc (.cells #[.map (some B)] 53)).grownBy w1 none) := Lib.hid ⟨hb1.os, hb1.tape, hb1.output, hb1.size, fun k hk _ => hb1.block k hk⟩
  have P2 := Lib.hid (P1.out.kept G1.out (by simp))
  have M2 := Lib.hid (M1.out.kept G1.out (by simp))
  have cL := LC.out w1 B1.out
  clear ho hb1 CL P1 M1 BB SZ G1
  go_wp2_with fail
  go_loopw [9, 10, 20] (fun bv gv nv wr => ∃ (m : Nat) (z : List Int), m ≤ lv levels a ∧ nv = .int .i64 m ∧ bv = .int .i64 ((bestN f r a m).1 : Int) ∧ gv = .int .i64 (bestN f r a m).2 ∧ Hid (z.length = r.length ∧ ∀ v, z.set a v = r.set a v) ∧ Hid (Own wr (w.heap.size + 1) A c z) ∧ Hid (Bx w.heap.size 53 (.map (some B)) wr) ∧ Hid (MAt B n f wr) ∧ Hid (Below w.heap.size w wr)) (fun _ _ nv _ => lv levels a - (intOf nv).toNat)
  case atStart => exact ⟨0, r, Nat.zero_le _, rfl, rfl, rfl, Lib.hid ⟨rfl, fun _ => rfl⟩, O1.out, P2.out, M2.out, B1.out⟩
  case round =>
    clear O1 P2 M2 cL
    obtain ⟨m, z, hm, rfl, rfl, rfl, hz, ho, hp, hmm, hbb⟩ := hrel
    by_cases hlt : m < lv levels a
    · obtain ⟨g, rfl, hg1, hg2, hgc, hgf, ho2, hgg⟩ := own_stored ho.out a (by rw [hz.out.1, FT.out.1]; exact HA.out) (m : Int)
      have hmi : (m : Int) < lv levels a := by omega
      have hra : (a : Int) < r.length := by have := FT.out.1; have := HA.out; omega
      have Z2 := Lib.hid (show z.set a (m : Int) = r.set a (m : Int) from hz.out.2 m)
      rw [Z2.out] at ho2
      have ZZ := Lib.hid (show (r.set a (m : Int)).length = r.length ∧ ∀ v, (r.set a (m : Int)).set a v = r.set a v from ⟨by rw [List.length_set], fun v => by rw [List.set_set]⟩)
      have F2 := Lib.hid (FT.out.set HA.out (show m < 5 by have := LVH.out; omega))
      have rlen := Lib.hid (show (r.set a (m : Int)).length = r.length by rw [List.length_set])
      obtain ⟨z2, hz2⟩ : ∃ z2, Hid (z2 = r.set a (m : Int)) := ⟨_, Lib.hid rfl⟩
      rw [← hz2.out] at ho2
      have ZZ2 := Lib.hid (show z2.length = r.length ∧ ∀ v, z2.set a v = r.set a v by rw [hz2.out]; exact ZZ.out)
      have FZ := Lib.hid (show Fit levels z2 by rw [hz2.out]; exact F2.out)
      have BS := Lib.hid (show bestN f r a (m + 1) = if (bestN f r a m).2 < (freshN f (prs z2) : Int) then (m, (freshN f (prs z2) : Int)) else bestN f r a m by rw [hz2.out]; rfl)
      have O2 := Lib.hid ho2
      have GS : Hid (wr.grownBy (wr.setCell ⟨g, a, none⟩ (.int .i64 m)) (some g)) := Lib.hid hgg
      have P3 := Lib.hid (hp.out.kept GS.out (by simp; omega))
      have M3 := Lib.hid (hmm.out.kept GS.out (by simp; have := ML.out; omega))
      have B3 := Lib.hid (hbb.out.grown GS.out hbb.out.size (fun k hk => by injection hk with hk; omega))
      have gl := hg2
      clear hz ho hp hmm hbb ho2 hgg Z2 ZZ F2 rlen hz2 GS
      have sz1 : (wr.setCell ⟨g, a, none⟩ (.int .i64 m)).heap.size = wr.heap.size := by simp [World.setCell]
      have S4 := Lib.hid (show Bx wr.heap.size 3 (.int .i64 0) ((wr.setCell ⟨g, a, none⟩ (.int .i64 m)).alloc (.cells #[.int .i64 0] 3)) by have := heap_new2 (wr.setCell ⟨g, a, none⟩ (.int .i64 m)) (.cells #[.int .i64 0] 3); rw [sz1] at this; exact this)
      have GA : Hid ((wr.setCell ⟨g, a, none⟩ (.int .i64 m)).grownBy ((wr.setCell ⟨g, a, none⟩ (.int .i64 m)).alloc (.cells #[.int .i64 0] 3)) none) := Lib.hid (World.grownBy_alloc _ _ _)
      have P4 := Lib.hid (P3.out.kept GA.out (by simp))
      have M4 := Lib.hid (M3.out.kept GA.out (by simp))
      have B4 := Lib.hid (B3.out.grown GA.out B3.out.size (fun k hk => by cases hk))
      have O4 := Lib.hid (O2.out.grown GA.out (fun g hg e => by cases e))
      have sz2 := Lib.hid (show ((wr.setCell ⟨g, a, none⟩ (.int .i64 m)).alloc (.cells #[.int .i64 0] 3)).heap.size = wr.heap.size + 1 by simp [World.setCell])
      have wsz := Lib.hid (show w.heap.size + 1 ≤ wr.heap.size by omega)
      have EA := Lib.hid (show Calls Tryd.prog 21 #[.slice (some ⟨g, 0, none⟩) z2.length c, qfv 41 #[.pointer (some ⟨w.heap.size, 0, none⟩), .pointer (some ⟨wr.heap.size, 0, none⟩)]] ((wr.setCell ⟨g, a, none⟩ (.int .i64 m)).alloc (.cells #[.int .i64 0] 3)) fun e w' => e = .returned (.tuple #[]) ∧ FreI B w.heap.size wr.heap.size n f ((wr.setCell ⟨g, a, none⟩ (.int .i64 m)).alloc (.cells #[.int .i64 0] 3)) (prs z2) w' from
        each_ok (fre_do (N := wr.heap.size) FZ.out (Nat.le_refl _) (fun hp => ⟨g, 0, rfl, gl, fun j hj => by
            obtain ⟨b', off', e', _, hc'⟩ := O4.out.at_ hp
            injection e' with e'
            injection e' with e1 e2
            subst e1
            subst e2
            exact hc' j hj⟩) (by have := wsz.out; omega) (by have := wsz.out; have := ML.out; omega)) (by have := FZ.out.1; have := FZ.out.2.1; omega) (fun i hi => (FZ.out.2.2 i (by rw [← FZ.out.1]; exact hi)).1) c _ ⟨P4.out, by simpa [freshN] using S4.out, M4.out, World.grownBy.refl _ _⟩)
      have ZL := ZZ2.out.1
      rw [ZL] at EA
      have FL := Lib.hid (show freshN f (prs z2) ≤ 144 from Nat.le_trans (fresh_le f _) (prs_len (by have := FZ.out.1; have := FZ.out.2.1; omega)))
      clear ZL S4 P3 M3 B3 O2 P4 M4 GA sz1
      go_wp2_with fail
      refine EA.out.mono ?_
      rintro e w5 ⟨rfl, hI⟩
      have P5 := Lib.hid hI.box
      have c5 := hI.cnt.cell
      have M5 := Lib.hid hI.map
      have B5 := Lib.hid (B4.out.grown hI.grown B4.out.size (fun k hk => by injection hk with hk; have := wsz.out; omega))
      have O5 := Lib.hid (O4.out.grown hI.grown (fun g' hg' e => by
        have e1 : g' = g := by simpa [rowOf] using hg'.symm
        injection e with e
        omega))
      clear hI EA O4 B4 hgc hgf
      generalize freshN f (prs z2) = F at *
      generalize hbn : bestN f r a m = bn at *
      clear hbn
      obtain ⟨bb, bg⟩ := bn
      simp only at BS
      by_cases hgt : bg < (F : Int)
      · have BS2 := Lib.hid (show bestN f r a (m + 1) = (m, (F : Int)) by rw [BS.out, if_pos hgt])
        clear BS
        go_wp2_with fail
        go_quiet (fail)
        go_wp2_with fail
        go_roundw
        case rel => exact ⟨m + 1, z2, hlt, by go_num, by rw [BS2.out], by rw [BS2.out], ZZ2.out, O5.out, P5.out, M5.out, below_trans B5.out (below_drewN _ _)⟩
        case measure => simp [intOf]; omega
      · have BS2 := Lib.hid (show bestN f r a (m + 1) = (bb, bg) by rw [BS.out, if_neg hgt])
        clear BS
        go_wp2_with fail
        go_roundw
        case rel => exact ⟨m + 1, z2, hlt, by go_num, by rw [BS2.out], by rw [BS2.out], ZZ2.out, O5.out, P5.out, M5.out, B5.out⟩
        case measure => simp [intOf]; omega
    · obtain rfl : m = lv levels a := by omega
      have hv := HV.out
      subst hv
      go_wp2_with fail
      go_ret
      exact ⟨rfl, hbb.out⟩
theorem grown_below {w w' : World} (h : Below w.heap.size w w') : w.grownBy w' none := ⟨h.os, h.tape, h.output, h.size, fun k hk _ => h.block k hk⟩

theorem put_comm (w : World) (g a b : Nat) (x y : Value) (h : ¬ a = b) : (w.setCell ⟨g, b, none⟩ y).setCell ⟨g, a, none⟩ x = (w.setCell ⟨g, a, none⟩ x).setCell ⟨g, b, none⟩ y := by
  unfold World.setCell
  congr 1
  simp only
  apply Array.ext_getElem?
  intro i
  simp only [Array.getElem?_modify]
  by_cases hi : g = i
  · subst hi
    simp only [if_true]
    cases w.heap[g]? with
    | none => rfl
    | some o =>
      cases o <;> try rfl
      simp only [Option.map_some, Option.isSome_none, Bool.false_eq_true, if_false]
      rw [Array.setIfInBounds_comm _ _ (fun e => h e.symm)]
  · simp [hi]

set_option maxHeartbeats 8000000 in
set_option maxRecDepth 100000 in
theorem rowwith_prog {B n : Nat} {f : Quad → Int} {p : Quad} {L : Option Addr} {levels : List Int} {lc : Nat} (w : World) (h0 : levE levels = 0) (hq : p ∈ quads levels) (hl : At w w.heap.size L levels) (hm : MAt B n f w) :
    Calls Tryd.prog 26 #[keyV p, .slice L levels.length lc, .map (some B)] w fun e w' => ∃ (A : Option Addr) (c : Nat) (z : List Int), e = .returned (.slice A z.length c) ∧ Hid (z = rowW levels f p) ∧ Own w' w.heap.size A c z ∧ Below w.heap.size w w' := by
  obtain ⟨hab, hbl, hxl, hyl⟩ := mem_quads.1 hq
  have L0 := Lib.hid h0
  have HQ := Lib.hid hq
  have h12 := (lev_ok h0).1
  have n12 : (levels.length : Int) ≤ 12 := by omega
  have HL := Lib.hid (fun (W : World) (hb : Below w.heap.size w W) => show At W W.heap.size L levels from (hl.below hb).more hb.size)
  have HM := Lib.hid (fun (W : World) (hb : Below w.heap.size w W) => show MAt B n f W from hm.kept (grown_below hb) (by simp))
  -- the box, and the list of one
  have K1 := Lib.hid (show At4 w.heap.size 0 0 p (keyW w p) from ⟨four_new w p 0 (by omega), four_new w p 1 (by omega), four_new w p 2 (by omega), four_new w p 3 (by omega)⟩)
  have B2 := Lib.hid (show Below w.heap.size w ((keyW w p).alloc (.cells #[.int .i64 (-1)] 3)) from (vbel1 w _).alloc (vbel1 w (.cells #[.int .i64 p.a, .int .i64 p.x, .int .i64 p.b, .int .i64 p.y] 46)).size _)
  have K2 := Lib.hid (K1.out.kept (World.grownBy_alloc (keyW w p) (.cells #[.int .i64 (-1)] 3) none) (by simp))
  have sz := Lib.hid (show (keyW w p).heap.size = w.heap.size + 1 by simp)
  have ON := Lib.hid (show ((keyW w p).alloc (.cells #[.int .i64 (-1)] 3)).cell? ⟨w.heap.size + 1, 0, none⟩ = some (.int .i64 (-1)) by
    have := heap_new2 (keyW w p) (.cells #[.int .i64 (-1)] 3)
    rw [sz.out] at this
    rw [Lib.cell_of_heap this]; rfl)
  have RP := Lib.hid (repeat_int (c := 1) _ ON.out (by simp) levels.length h12)
  have SZ2 := Lib.hid (show ((keyW w p).alloc (.cells #[.int .i64 (-1)] 3)).heap.size = w.heap.size + 2 by simp)
  have hai : (p.a : Int) < levels.length := by omega
  have hbi : (p.b : Int) < levels.length := by omega
  have hab1 : ¬ p.a = p.b := by omega
  have hab2 : ¬ p.b = p.a := by omega
  have R0 := Lib.hid (show rowN levels f p 0 = ((List.replicate levels.length (-1)).set p.a (p.x : Int)).set p.b (p.y : Int) from rfl)
  have R1 := Lib.hid (show rowN levels f p 0 = ((List.replicate levels.length (-1)).set p.b (p.y : Int)).set p.a (p.x : Int) from (List.set_comm _ _ (by omega)))
  obtain ⟨V, HV⟩ : ∃ V, Hid (V = rowW levels f p) := ⟨_, Lib.hid rfl⟩
  rw [← HV.out]
  unfold keyV
  clear h0 hq hl hm hxl hyl K1 ON sz
  go_enter Tryd.func26, Tryd.ntmps26
  go_wp2_with fail
  refine RP.out.mono ?_
  rintro e w3 ⟨A, c, z, rfl, hz, ho, hb3⟩
  have hzl : z.length = levels.length := by rw [hz.out]; simp
  have O3 := Lib.hid (own_mono ho B2.out.size)
  have B3 := Lib.hid (B2.out.trans (hb3.mono B2.out.size))
  obtain ⟨k0, k1, k2, k3⟩ := K2.out.kept (grown_below hb3) (by simp)
  simp only [Nat.zero_mul, Nat.add_zero, Nat.zero_add] at k0 k1 k2 k3
  obtain ⟨g, rfl, hgE, _⟩ := own_stored ho p.a (by omega) (p.x : Int)
  rw [SZ2.out] at hgE
  have hgn : ¬ w.heap.size = g := by omega
  have hgm : ¬ g = w.heap.size := by omega
  obtain ⟨g', eg, hg1, hg2, ca, fa, oa, ga⟩ := own_stored O3.out p.a (by omega) (p.x : Int)
  injection eg with eg
  injection eg with eg _
  subst eg
  obtain ⟨g', eg, _, _, cb, fb, ob, gb⟩ := own_stored O3.out p.b (by omega) (p.y : Int)
  injection eg with eg
  injection eg with eg _
  subst eg
  obtain ⟨g', eg, _, _, cab, fab, oab, gab⟩ := own_stored oa p.b (by rw [List.length_set]; omega) (p.y : Int)
  injection eg with eg
  injection eg with eg _
  subst eg
  obtain ⟨g', eg, _, _, cba, fba, oba, gba⟩ := own_stored ob p.a (by rw [List.length_set]; omega) (p.x : Int)
  injection eg with eg
  injection eg with eg _
  subst eg
  rw [hz.out] at oab oba
  rw [← R0.out] at oab
  rw [← R1.out] at oba
  have OAB := Lib.hid oab
  have OBA := Lib.hid oba
  have BAB := Lib.hid (B3.out.grown (ga.trans gab) B3.out.size (fun k hk => by injection hk with hk; omega))
  have BBA := Lib.hid (B3.out.grown (gb.trans gba) B3.out.size (fun k hk => by injection hk with hk; omega))
  rw [hzl]
  clear RP K2 ho hb3 oa ob oab oba ga gb gab gba R0 R1 O3 B3 B2 hz cab cba fab fba
  go_wp2_with fail
  have PC := put_comm w3 g p.a p.b (.int .i64 p.x) (.int .i64 p.y) hab1
  go_region
  all_goals
    first | rw [PC] | skip
    clear PC
    generalize ((w3.setCell ⟨g, p.a, none⟩ (.int .i64 p.x)).setCell ⟨g, p.b, none⟩ (.int .i64 p.y)) = W at OAB BAB ⊢
    have OD := Lib.hid (show Own W.drew w.heap.size (some ⟨g, 0, none⟩) c (rowN levels f p 0) from OAB.out)
    have BD := Lib.hid (show Below w.heap.size w W.drew from BAB.out.drew)
    clear OAB BAB OBA BBA k0 k1 k2 k3 ca fa cb fb
    generalize W.drew = W1 at *
    go_wp2_with fail
    go_loopw [27] (fun iv wr => ∃ (i : Nat) (z : List Int), i ≤ levels.length ∧ iv = .int .i64 i ∧ Hid (z = rowN levels f p i) ∧ Hid (Own wr w.heap.size (some ⟨g, 0, none⟩) c z) ∧ Hid (Below w.heap.size w wr)) (fun iv _ => levels.length - (intOf iv).toNat)
    case atStart => exact ⟨0, _, Nat.zero_le _, rfl, Lib.hid rfl, OD.out, BD.out⟩
    case round =>
      clear OD BD
      obtain ⟨i, z, hi, rfl, hz, ho, hbb⟩ := hrel
      have ZL := Lib.hid (show z.length = levels.length by rw [hz.out, rowN_len])
      by_cases hlt : i < levels.length
      · obtain ⟨g', eg, _, gl, gc, gf, _, _⟩ := own_stored ho.out i (by rw [ZL.out]; exact hlt) 0
        injection eg with eg
        injection eg with eg _
        subst eg
        have hii : (i : Int) < levels.length := by omega
        have RS := Lib.hid (show rowN levels f p (i + 1) = if z.getD i 0 = -1 then z.set i ((bestN f z i (lv levels i)).1 : Int) else z by rw [hz.out]; rfl)
        by_cases hop : z.getD i 0 = -1
        · have RS2 := Lib.hid (show z.set i ((bestN f z i (lv levels i)).1 : Int) = rowN levels f p (i + 1) by rw [RS.out, if_pos hop])
          rw [hop] at gc
          have FZ := Lib.hid (show Fit levels z by rw [hz.out]; exact (rowN_half (lev_ok L0.out).2 f HQ.out i hi).fit L0.out)
          have BP := Lib.hid (best_prog (rc := c) (lc := lc) wr FZ.out L0.out hlt (HL.out wr hbb.out) ho.out.at_ (HM.out wr hbb.out))
          have ON := Lib.hid (fun (W : World) (hb : Below wr.heap.size wr W) v => own_stored (ho.out.below hb) i (by rw [ZL.out]; exact hlt) v)
          rw [ZL.out] at BP
          clear RS hop
          generalize ((bestN f z i (lv levels i)).1 : Int) = v at *
          go_wp2_with fail
          refine BP.out.mono ?_
          rintro e w5 ⟨rfl, hb5⟩
          obtain ⟨g', eg, hg5, gl5, gc5, gf5, ho5, gg5⟩ := ON.out w5 hb5 v
          injection eg with eg
          injection eg with eg _
          subst eg
          rw [RS2.out] at ho5
          have O5 := Lib.hid ho5
          have B5 := Lib.hid ((below_trans hbb.out hb5).grown gg5 (below_trans hbb.out hb5).size (fun k hk => by injection hk with hk; omega))
          clear ho5 gg5 hb5 BP ON gc gf
          go_wp2_with fail
          go_roundw
          case rel => exact ⟨i + 1, _, hlt, by go_num, Lib.hid rfl, O5.out, B5.out⟩
          case measure => simp [intOf]; omega
        · have RS2 := Lib.hid (show z = rowN levels f p (i + 1) by rw [RS.out, if_neg hop])
          have h1 : (z.getD i 0 == -1) = false := beq_eq_false_iff_ne.2 hop
          clear RS
          generalize z.getD i 0 = u at *
          go_wp2_with fail
          go_roundw
          case rel => exact ⟨i + 1, z, hlt, by go_num, RS2.out, ho.out, hbb.out⟩
          case measure => simp [intOf]; omega
      · obtain rfl : i = levels.length := by omega
        have hv := HV.out
        subst hv
        go_wp2_with fail
        go_ret
        exact ⟨some ⟨g, 0, none⟩, c, z, by rw [ZL.out]; rfl, hz, ho.out, hbb.out⟩
end Go.Proofs.YtbajkbkfinineaaDoor.Pair
