/- GenWraps: the walk. Conditions: the sizes; the library's table of powers of ten, its variable that errors.As reads. -/
import Derived.Test.YtboecgbgcbkcjaaDoorOwnL
import Derived.Test.YtboecgbgcbkcjaaDoorJust
import Derived.Test.YtboecgbgcbkcjaaDoorGMend
import Derived.Test.YtboecgbgcbkcjaaDoorGReplay
import Derived.Test.YtboecgbgcbkcjaaDoorWrite
import Derived.Test.YtboecgbgcbkcjaaDoorLater
import Derived.Test.YtboecgbgcbkcjaaDoorNestP
import Derived.Deep.DeepCutAuto
import Derived.Deep.RegionHeld2
namespace Go.Proofs.YtboecgbgcbkcjaaDoor.WrapsLaw
open Go.RowKit Lists Ints Vals Gens Owns Build Rng
set_option linter.unusedVariables false

/-! one of one, a list of one -/
abbrev anyOf (t : Gn) : Gn := .node 5 0 0 [t]
abbrev listOf (t : Gn) : Gn := .node 3 0 0 [t]
theorem part_any {t : Gn} (h : Right t) : Right (anyOf t) := by
  unfold Right at h ⊢
  rw [partV_eq, if_neg (by simp [kindBad, Gn.kind]), if_neg (by simp [rangeBad, Gn.kind]), if_neg (by simp [subsBad, Gn.kind, Gn.subs])]
  simp only [Gn.subs, partVs]
  rw [if_neg (by simpa using h)]
theorem part_list {t : Gn} (h : Right t) : Right (listOf t) := by
  unfold Right at h ⊢
  rw [partV_eq, if_neg (by simp [kindBad, Gn.kind]), if_neg (by simp [rangeBad, Gn.kind]), if_neg (by simp [subsBad, Gn.kind, Gn.subs])]
  simp only [Gn.subs, partVs]
  rw [if_neg (by simpa using h)]
theorem gen_two {t : Gn} (h : genV t = 0) : (genV (anyOf t) = 0 ∨ genV (anyOf t) = 4) ∧ genV (listOf t) = genV (anyOf t) := by
  have hr := (gen_right h).1
  have e : (largeG (listOf t) 0).2 = (largeG (anyOf t) 0).2 := by rw [largeG_eq, largeG_eq]; rfl
  unfold genV
  rw [e, show partV (listOf t) = 0 from part_list hr, show partV (anyOf t) = 0 from part_any hr]
  by_cases hl : (largeG (anyOf t) 0).2 = true
  · rw [if_pos hl]; exact ⟨.inr rfl, rfl⟩
  · rw [if_neg hl]; exact ⟨.inl rfl, rfl⟩
theorem wraps_facts {t : Gn} (l : List Int) (h0 : genV t = 0) : (mendL t l).length ≤ 1399680 ∧ ∃ v, repV t (mendL t l) = .ok v ∧ v.size ≤ 1399680 ∧
    ((repV (anyOf t) ([0] ++ mendL t l) = .ok v ∧ repV (listOf t) (mendL t l) = .ok (.node true 0 [v])) ∨ (repV (anyOf t) ([0] ++ mendL t l) = .error 4 ∧ repV (listOf t) (mendL t l) = .error 4)) := by
  obtain ⟨v, r, h1, n1⟩ := mend_run (t := t) l h0
  obtain ⟨hr, hl⟩ := gen_right h0
  have h2 := mend_read hr h1 []
  rw [List.append_nil] at h2
  have e1 : repV t (mendL t l) = .ok v := by
    unfold repV repG
    rw [if_pos h0, h2]
    rfl
  refine ⟨n1, v, e1, (small_val mend_bounded hr hl h1).2, ?_⟩
  obtain ⟨g1, g2⟩ := gen_two h0
  rcases g1 with g1 | g1
  · refine .inl ⟨?_, ?_⟩
    · unfold repV repG
      rw [if_pos g1]
      have : play readC (anyOf t) ([0] ++ mendL t l) = .ok (0 :: mendL t l, v, []) := by
        simp only [play, show ¬ (5 : Int) = 1 by omega, show ¬ (5 : Int) = 2 by omega, if_false, if_true, List.singleton_append]
        rw [read_reads 0 _ (mendL t l) (by omega) (by simp)]
        simp only [playAt, Int.toNat_zero, h2]
      rw [this]
      rfl
    · unfold repV repG
      rw [if_pos (by rw [g2]; exact g1)]
      have : play readC (listOf t) (mendL t l) = .ok (mendL t l, .node true 0 [v], []) := by
        simp only [play, show ¬ (3 : Int) = 1 by omega, show ¬ (3 : Int) = 2 by omega, show ¬ (3 : Int) = 5 by omega, if_false, if_true, playAll, h2, List.append_nil]
      rw [this]
      rfl
  · refine .inr ⟨?_, ?_⟩
    · unfold repV
      rw [if_neg (by rw [g1]; decide), g1]
    · unfold repV
      rw [if_neg (by rw [g2, g1]; decide), g2, g1]
/-- a generator of one, its sub in a block of its own -/
theorem gat_block {W : World} {bs n : Nat} {t : Gn} {A : Option Addr} {c : Nat} {k : Int} (hk : Wf k) (hb : W.heap[bs]? = some (gc t A c)) (h : GAt W (GBel W.heap.size) n (gv t A c) t) :
    GAt W (GBel W.heap.size) (n + 1) (.agg #[.int .i64 k, .int .i64 0, .int .i64 0, .slice (some ⟨bs, 0, none⟩) 1 1]) (.node k 0 0 [t]) := by
  have hlt : bs < W.heap.size := (Array.getElem?_eq_some_iff.1 hb).1
  have g := (show G4 bs (.int .i64 t.kind) (.int .i64 t.a) (.int .i64 t.b) (.slice A t.subs.length c) W from hb).facts
  refine ⟨⟨hk, (show Wf 0 by decide), (show Wf 0 by decide)⟩, some ⟨bs, 0, none⟩, 1, rfl, Nat.le_refl _, fun _ => ⟨bs, 0, rfl, hlt, fun j hj => ?_⟩⟩
  have hj0 : j = 0 := by simp [Gn.subs] at hj; exact hj
  subst hj0
  exact ⟨_, _, _, _, by simpa using g.1, by simpa using g.2.1, by simpa using g.2.2.1, by simpa using g.2.2.2, h⟩
abbrev Z3 (b : Nat) (w : World) : Prop := V3 b (.bool false) (.int .i64 0) (.slice none 0 0) w
theorem with_z3 {P : Prop} {b : Nat} {w : World} (h : Z3 b w) (k : Z3 b w → P) : P := k h
theorem bel_on {w W w8 : World} (h : Below w.heap.size w W) (hb : Below W.heap.size W w8) : Below w.heap.size w w8 := h.trans (hb.mono h.size)
theorem at_on {w W : World} {A : Option Addr} {l : List Int} (h : At w w.heap.size A l) (hb : Below w.heap.size w W) : At W W.heap.size A l := (h.below hb).more hb.size
theorem put_keep {w7 : World} {wb lo n : Nat} {v : Value} {t : Tr} (hlo : wb < lo) (ht : TAt w7 (fun b => lo ≤ b ∧ b < w7.heap.size) n v t) (y0 y1 y2 : Value) :
    TAt (((w7.setCell ⟨wb, 0, none⟩ y0).setCell ⟨wb, 1, none⟩ y1).setCell ⟨wb, 2, none⟩ y2) (Bel (((w7.setCell ⟨wb, 0, none⟩ y0).setCell ⟨wb, 1, none⟩ y1).setCell ⟨wb, 2, none⟩ y2).heap.size) n v t :=
  ht.keep fun b hb => ⟨by show b < _; simp [World.setCell]; exact hb.2, fun o => by
    rw [World.cell?_setCell_other _ _ _ _ (by first | (simp; done) | (simp; omega)), World.cell?_setCell_other _ _ _ _ (by first | (simp; done) | (simp; omega)), World.cell?_setCell_other _ _ _ _ (by first | (simp; done) | (simp; omega))]⟩
theorem put_bel {w4 w7 : World} {wb : Nat} (hb : Below w4.heap.size w4 w7) (hw : w4.heap.size ≤ wb) (y0 y1 y2 : Value) : Below w4.heap.size w4 (((w7.setCell ⟨wb, 0, none⟩ y0).setCell ⟨wb, 1, none⟩ y1).setCell ⟨wb, 2, none⟩ y2) :=
  ((hb.setCell hw y0).setCell hw y1).setCell hw y2
theorem error_yes (p : Int) (w : World) (h : Told.Handle w) : Calls Tryd.prog 10 #[.iface 30 (.int .i64 p), .int .i64 p] w fun e w' => e = .returned (.bool true) ∧ Below w.heap.size w w' :=
  (Told.error_errno p p w h).mono fun _ _ ⟨h1, h2⟩ => ⟨by rw [h1, beq_self_eq_true], h2⟩
theorem cat_list (a b : ByteArray) : (a ++ b).data.toList = a.data.toList ++ b.data.toList := by simp
theorem own_one_at {w : World} {base b : Nat} {x : Int} (hb : base ≤ b) (h : w.heap[b]? = some (.cells #[.int .i64 x] 3 (0, 0))) : Own w base (some ⟨b, 0, none⟩) 1 [x] :=
  ⟨rfl, .inr ⟨b, 1, #[.int .i64 x], rfl, hb, h, Nat.le_refl _, by decide, rfl, rfl⟩⟩
theorem heap_alloc_at {w : World} {o : Obj} {b : Nat} (h : b = w.heap.size) : (w.alloc o).heap[b]? = some o := by subst h; exact new_obj w o
theorem heap_alloc_skip {w : World} {o : Obj} {b : Nat} {x : Option Obj} (hb : b < w.heap.size) (h : w.heap[b]? = x) : (w.alloc o).heap[b]? = x := (Below.heap_alloc w o b hb).trans h
theorem heap_drew_skip {w : World} {b : Nat} {x : Option Obj} (h : w.heap[b]? = x) : w.drew.heap[b]? = x := h

set_option maxHeartbeats 8000000 in
set_option maxRecDepth 100000 in
theorem walk (t : Gn) (A : Option Addr) (c n : Nat) (l : List Int) (L : Option Addr) (lc : Nat) (hbulk : t.size + l.length ≤ 1048576) (w : World) (hg : GAt w (GBel w.heap.size) n (gv t A c) t) (hl : At w w.heap.size L l) (hcap : l.length ≤ lc) (hh : Tab w) (hd : Told.Handle w) :
    Calls Tryd.prog 7 #[gv t A c, .slice L l.length lc] w fun e w' => e = .returned (.bool true) ∧ Below w.heap.size w w' := by
  have hb0 : Below w.heap.size w (w.alloc (gc t A c)) := (Below.refl _ _).alloc (Nat.le_refl _) _
  have g0 : G4 w.heap.size (.int .i64 t.kind) (.int .i64 t.a) (.int .i64 t.b) (.slice A t.subs.length c) (w.alloc (gc t A c)) := new_obj w _
  have JC := Lib.hid (fun (w : World) => just_ok w)
  have M1 := Lib.hid (fun (W : World) (hb : Below w.heap.size w W) => mend_prog (L := L) (l := l) (lc := lc) W ((hg.below hb).more hb.size) ((hl.below hb).more hb.size) hcap (by omega) (by omega))
  have HG := Lib.hid (fun (W : World) (hb : Below w.heap.size w W) => show GAt W (GBel W.heap.size) n (gv t A c) t from (hg.below hb).more hb.size)
  have TB := Lib.hid (fun (W : World) (hb : Below w.heap.size w W) => show Tab W from hh.below hb)
  have HD := Lib.hid (fun (W : World) (hb : Below w.heap.size w W) => hd.below hb)
  have SZ := Lib.hid (show t.size ≤ 1048576 by omega)
  have FT := Lib.hid (fun (h0 : genV t = 0) => wraps_facts l h0)
  have B0 := Lib.hid hb0
  have G0 := Lib.hid g0
  clear hb0 g0 hg hbulk hl hcap hh hd
  go_enter Tryd.func7, Tryd.ntmps7
  go_wp2_with fail
  generalize w.alloc (gc t A c) = W0 at *
  ((with_reducible refine (JC.out _).mono ?_))
  rintro e w1 ⟨rfl, hb1⟩
  have B1 := Lib.hid (below_trans B0.out hb1)
  have G1 := Lib.hid (G0.out.below hb1)
  clear hb1
  obtain ⟨k0, k1, k2, k3⟩ := G1.out.facts
  go_wp2_with fail
  ((with_reducible refine (M1.out w1 B1.out).mono ?_))
  rintro e w2 ⟨A2, c2, rfl, ho2, hb2⟩
  have B2 := Lib.hid (below_trans B1.out hb2)
  have G2 := Lib.hid (G1.out.below hb2)
  have M2 := Lib.hid ho2
  clear hb2 ho2 k0 k1 k2 k3
  by_cases hz : genV t = 0
  · obtain ⟨hlm, v, hv, hvs, hcase⟩ := FT.out hz
    rw [hz, errOf_ok]
    have RV := Lib.hid (fun (W : World) (hb : Below w.heap.size w W) (L : Option Addr) (lc : Nat) (hl : At W W.heap.size L (mendL t l)) (hcap : (mendL t l).length ≤ lc) => show Calls Tryd.prog 17 #[gv t A c, .slice L (mendL t l).length lc] W (RpOut n (.ok v) W) by
      have := replay_prog W (HG.out W hb) hl hcap (by omega) (by have := SZ.out; omega)
      rw [hv] at this
      exact this)
    have R5 := Lib.hid (fun (W : World) (hb : Below w.heap.size w W) (bs : Nat) (hbs : W.heap[bs]? = some (gc t A c)) (L : Option Addr) (lc : Nat) (z : List Int) (hz : z = [0] ++ mendL t l) (hl : At W W.heap.size L z) (hcap : z.length ≤ lc) => show Calls Tryd.prog 17 #[.agg #[.int .i64 5, .int .i64 0, .int .i64 0, .slice (some ⟨bs, 0, none⟩) 1 1], .slice L z.length lc] W (RpOut (n + 1) (repV (anyOf t) ([0] ++ mendL t l)) W) by
      subst hz
      exact replay_prog (g := anyOf t) W (gat_block (by decide) hbs (HG.out W hb)) hl hcap (by simp; omega) (by have := SZ.out; simp [Gn.size, gsizes]; omega))
    have R3 := Lib.hid (fun (W : World) (hb : Below w.heap.size w W) (bs : Nat) (hbs : W.heap[bs]? = some (gc t A c)) (L : Option Addr) (lc : Nat) (hl : At W W.heap.size L (mendL t l)) (hcap : (mendL t l).length ≤ lc) => show Calls Tryd.prog 17 #[.agg #[.int .i64 3, .int .i64 0, .int .i64 0, .slice (some ⟨bs, 0, none⟩) 1 1], .slice L (mendL t l).length lc] W (RpOut (n + 1) (repV (listOf t) (mendL t l)) W) from
      replay_prog (g := listOf t) W (gat_block (by decide) hbs (HG.out W hb)) hl hcap (by omega) (by have := SZ.out; simp [Gn.size, gsizes]; omega))
    have ML := Lib.hid hlm
    have VS := Lib.hid hvs
    have CASE := Lib.hid hcase
    clear FT hz hv hvs hlm hcase M1 HG
    generalize mendL t l = m at *
    obtain ⟨k0, k1, k2, k3⟩ := G2.out.facts
    go_wp2_with fail
    ((with_reducible refine (RV.out w2 B2.out A2 c2 M2.out.at_ M2.out.cap_).mono ?_))
    rintro e w3 ⟨A3, c3, rfl, ht3, _, hb3⟩
    have n4 := bel1 w3 (.cells #[.bool v.list, .int .i64 v.num, .slice A3 v.items.length c3] 38)
    have V4 := Lib.hid (show V3 w3.heap.size (.bool v.list) (.int .i64 v.num) (.slice A3 v.items.length c3) (w3.alloc (.cells #[.bool v.list, .int .i64 v.num, .slice A3 v.items.length c3] 38)) from new_obj w3 _)
    have T4 := Lib.hid (show TAt (w3.alloc (.cells #[.bool v.list, .int .i64 v.num, .slice A3 v.items.length c3] 38)) (Bel w3.heap.size) n (tval v A3 c3) v from ht3.keep fun b hb => ⟨hb.2, fun o => n4.cell (p := ⟨b, o, none⟩) hb.2⟩)
    have B4 := Lib.hid (below_trans (below_trans B2.out hb3) n4)
    have G4' := Lib.hid ((G2.out.below hb3).below n4)
    have M4 := Lib.hid ((M2.out.below hb3).below n4)
    have Z4 := Lib.hid n4.size
    simp only [trOf, errI, errOf_ok]
    clear hb3 ht3 n4 k0 k1 k2 k3
    obtain ⟨k0, k1, k2, k3⟩ := G4'.out.facts
    go_upto_region 6 with fail
    generalize hw4 : w3.alloc (.cells #[.bool v.list, .int .i64 v.num, .slice A3 v.items.length c3] 38) = w4 at *
    clear hw4
    generalize repV (anyOf t) ([0] ++ m) = r5 at *
    generalize repV (listOf t) m = r3 at *
    go_cut [10, 11] (fun s10 s11 wx => ∃ (wb : Nat) (A7 : Option Addr) (c7 : Nat), s10 = .pointer (some ⟨wb, 0, none⟩) ∧ s11 = errOf (errI r5) ∧ Hid (V3 wb (.bool (trOf r5).list) (.int .i64 (trOf r5).num) (.slice A7 (trOf r5).items.length c7) wx) ∧ Hid (TAt wx (Bel wx.heap.size) (n + 1) (tval (trOf r5) A7 c7) (trOf r5)) ∧ Hid (Below w4.heap.size w4 wx))
    case first =>
      have HK := Lib.hid (fun (W : World) (hb : Below w4.heap.size w4 W) => (G4'.out.below hb).facts)
      have HA := Lib.hid (fun (W : World) (hb : Below w4.heap.size w4 W) => show At W w4.heap.size A2 m from M4.out.at_.below hb)
      have HW := Lib.hid (fun (W : World) (hb : Below w4.heap.size w4 W) => below_trans B4.out hb)
      have hl1 : m.length ≤ 1399680 := ML.out
      have hz4 : w.heap.size < w4.heap.size := G4'.out.lt
      go_region_held2 (fun w' => w'.cell? ⟨w.heap.size, 0, none⟩ = some (.int .i64 t.kind) ∧ w'.cell? ⟨w.heap.size, 1, none⟩ = some (.int .i64 t.a) ∧ w'.cell? ⟨w.heap.size, 2, none⟩ = some (.int .i64 t.b) ∧ w'.cell? ⟨w.heap.size, 3, none⟩ = some (.slice A t.subs.length c)) ((refine HK.out _ ?_; repeat (first | with_reducible exact E7.out | with_reducible exact E5.out | with_reducible exact Below.refl _ _ | with_reducible refine Below.drew ?_ | with_reducible refine Below.setCell ?_ (by first | omega | (dsimp only; omega) | (simp; omega) | (simp; done)) _ | with_reducible refine Below.alloc ?_ (by first | omega | (simp; omega) | (simp; done)) _))) (first
        | (refine step_append_ints (by rfl) (.tmp 40) (.tmp 41) (by rfl) w4.heap.size 1 _ [0] ?_ w4.heap.size A2 c2 m (HA.out _ ?_) (by rfl) (by rfl) ?_ ?_ ?_
           · refine own_one_at (by omega) ?_
             repeat (first | (with_reducible refine heap_alloc_at ?_; simp; done) | with_reducible refine heap_drew_skip ?_ | with_reducible refine heap_alloc_skip (by first | omega | (simp; omega) | (simp; done)) ?_)
           · repeat (first | with_reducible exact Below.refl _ _ | with_reducible refine Below.drew ?_ | with_reducible refine Below.alloc ?_ (by first | omega | (simp; omega) | (simp; done)) _)
           · simp; omega
           · first | omega | (simp; omega) | (simp; done)
           intro A5 c5 w5 z5 hz5 own5 g5 r5'
           have E5 := Lib.hid (show Below w4.heap.size w4 w5 by
             refine Below.grown ?_ g5 (by first | omega | (simp; omega) | (simp; done)) (by intro k hk; simp [rowOf] at hk; omega)
             repeat (first | with_reducible exact Below.refl _ _ | with_reducible refine Below.drew ?_ | with_reducible refine Below.alloc ?_ (by first | omega | (simp; omega) | (simp; done)) _))
           have O5 := Lib.hid own5
           have Z5 := E5.out.size
           have S5 := g5.size
           simp at S5
           clear own5)
        | (go_simp
           with_reducible refine (R5.out _ ?_ _ ?_ A5 c5 z5 hz5.out ?_ O5.out.cap_).mono ?_
           · refine HW.out _ ?_
             repeat (first | with_reducible exact E7.out | with_reducible exact E5.out | with_reducible exact Below.refl _ _ | with_reducible refine Below.drew ?_ | with_reducible refine Below.setCell ?_ (by first | omega | (dsimp only; omega) | (simp; omega) | (simp; done)) _ | with_reducible refine Below.alloc ?_ (by first | omega | (simp; omega) | (simp; done)) _)
           · repeat (first
               | (with_reducible refine heap_alloc_at ?_; simp; done)
               | (with_reducible refine heap_drew_skip ?_)
               | (with_reducible refine heap_alloc_skip ?_ ?_
                  · (first | omega | (simp; omega) | (simp; done)))
               | (with_reducible refine (g5.block _ ?_ ?_).trans ?_
                  · (first | omega | (simp; omega) | (simp; done))
                  · (simp [rowOf]; try omega)))
             done
           · refine at_on O5.out.at_ ?_
             repeat (first | with_reducible exact Below.refl _ _ | with_reducible refine Below.drew ?_ | with_reducible refine Below.alloc ?_ (by first | omega | (simp; omega) | (simp; done)) _)
           rintro e w7 ⟨A7, c7, rfl, ht7, _, hb7⟩
           have E7 := Lib.hid (show Below w4.heap.size w4 w7 by
             refine bel_on ?_ hb7
             repeat (first | with_reducible exact E7.out | with_reducible exact E5.out | with_reducible exact Below.refl _ _ | with_reducible refine Below.drew ?_ | with_reducible refine Below.setCell ?_ (by first | omega | (dsimp only; omega) | (simp; omega) | (simp; done)) _ | with_reducible refine Below.alloc ?_ (by first | omega | (simp; omega) | (simp; done)) _))
           have Z7 := E7.out.size
           first
             | (refine with_z3 (b := w4.heap.size) (w := w7) ?_ (fun hz3 => ?_)
                · show w7.heap[w4.heap.size]? = _
                  refine (hb7.block _ ?_).trans ?_
                  · (first | omega | (simp; omega) | (simp; done))
                  repeat (first
                    | (with_reducible refine heap_alloc_at ?_; simp; done)
                    | (with_reducible refine heap_drew_skip ?_)
                    | (with_reducible refine heap_alloc_skip ?_ ?_
                       · (first | omega | (simp; omega) | (simp; done)))
                    | (with_reducible refine (g5.block _ ?_ ?_).trans ?_
                       · (first | omega | (simp; omega) | (simp; done))
                       · (simp [rowOf]; try omega)))
                  done
                obtain ⟨y0, y1, y2, y3, y4, y5⟩ := hz3.facts)
             | (refine with_z3 (b := w4.heap.size + 1) (w := w7) ?_ (fun hz3 => ?_)
                · show w7.heap[w4.heap.size + 1]? = _
                  refine (hb7.block _ ?_).trans ?_
                  · (first | omega | (simp; omega) | (simp; done))
                  repeat (first
                    | (with_reducible refine heap_alloc_at ?_; simp; done)
                    | (with_reducible refine heap_drew_skip ?_)
                    | (with_reducible refine heap_alloc_skip ?_ ?_
                       · (first | omega | (simp; omega) | (simp; done)))
                    | (with_reducible refine (g5.block _ ?_ ?_).trans ?_
                       · (first | omega | (simp; omega) | (simp; done))
                       · (simp [rowOf]; try omega)))
                  done
                obtain ⟨y0, y1, y2, y3, y4, y5⟩ := hz3.facts)
             | (refine with_z3 (b := w4.heap.size + 1 + 1) (w := w7) ?_ (fun hz3 => ?_)
                · show w7.heap[w4.heap.size + 1 + 1]? = _
                  refine (hb7.block _ ?_).trans ?_
                  · (first | omega | (simp; omega) | (simp; done))
                  repeat (first
                    | (with_reducible refine heap_alloc_at ?_; simp; done)
                    | (with_reducible refine heap_drew_skip ?_)
                    | (with_reducible refine heap_alloc_skip ?_ ?_
                       · (first | omega | (simp; omega) | (simp; done)))
                    | (with_reducible refine (g5.block _ ?_ ?_).trans ?_
                       · (first | omega | (simp; omega) | (simp; done))
                       · (simp [rowOf]; try omega)))
                  done
                obtain ⟨y0, y1, y2, y3, y4, y5⟩ := hz3.facts)
             | (refine with_z3 (b := w5.heap.size) (w := w7) ?_ (fun hz3 => ?_)
                · show w7.heap[w5.heap.size]? = _
                  refine (hb7.block _ ?_).trans ?_
                  · (first | omega | (simp; omega) | (simp; done))
                  repeat (first
                    | (with_reducible refine heap_alloc_at ?_; simp; done)
                    | (with_reducible refine heap_drew_skip ?_)
                    | (with_reducible refine heap_alloc_skip ?_ ?_
                       · (first | omega | (simp; omega) | (simp; done)))
                    | (with_reducible refine (g5.block _ ?_ ?_).trans ?_
                       · (first | omega | (simp; omega) | (simp; done))
                       · (simp [rowOf]; try omega)))
                  done
                obtain ⟨y0, y1, y2, y3, y4, y5⟩ := hz3.facts)
             | (refine with_z3 (b := w5.heap.size + 1) (w := w7) ?_ (fun hz3 => ?_)
                · show w7.heap[w5.heap.size + 1]? = _
                  refine (hb7.block _ ?_).trans ?_
                  · (first | omega | (simp; omega) | (simp; done))
                  repeat (first
                    | (with_reducible refine heap_alloc_at ?_; simp; done)
                    | (with_reducible refine heap_drew_skip ?_)
                    | (with_reducible refine heap_alloc_skip ?_ ?_
                       · (first | omega | (simp; omega) | (simp; done)))
                    | (with_reducible refine (g5.block _ ?_ ?_).trans ?_
                       · (first | omega | (simp; omega) | (simp; done))
                       · (simp [rowOf]; try omega)))
                  done
                obtain ⟨y0, y1, y2, y3, y4, y5⟩ := hz3.facts)
             | skip))
      all_goals (
                  clear k0 k1 k2 k3
                  go_wp2_with fail
                  go_meet
                  first
                    | (refine ⟨w7.heap.size, A7, c7, rfl, rfl, new_obj w7 _, ht7.keep fun b hb => ⟨?_, fun o => (bel1 w7 _).cell (p := ⟨b, o, none⟩) hb.2⟩, E7.out.trans ((bel1 _ _).mono E7.out.size)⟩
                       show b < _
                       have hb2 := hb.2
                       simp
                       omega)
                    | (refine ⟨_, A7, c7, rfl, rfl, hz3.put _ _ _, put_keep ?_ ht7 _ _ _, put_bel E7.out ?_ _ _ _⟩
                       · (first | omega | (simp; omega) | (simp; done))
                       · (first | omega | (simp; omega) | (simp; done))))
    case rest =>
      obtain ⟨wb, A7, c7, rfl, rfl, HV5, HT5, HB5⟩ := hcut
      have B5 := Lib.hid (below_trans B4.out HB5.out)
      have G5 := Lib.hid (G4'.out.below HB5.out)
      have M5 := Lib.hid (M4.out.below HB5.out)
      have n6 := bel1 wc (gc t A c)
      have B6 := Lib.hid (below_trans B5.out n6)
      have RL := Lib.hid (R3.out (wc.alloc (gc t A c)) B6.out wc.heap.size (new_obj wc _) A2 c2 (M5.out.below n6).at_ M5.out.cap_)
      have N6 := Lib.hid n6
      clear n6 k0 k1 k2 k3
      obtain ⟨k0, k1, k2, k3⟩ := G5.out.facts
      go_wp2_with fail
      ((with_reducible refine RL.out.mono ?_))
      rintro e w6 ⟨A8, c8, rfl, ht8, _, hb8⟩
      have n7 := bel1 w6 (.cells #[.bool (trOf r3).list, .int .i64 (trOf r3).num, .slice A8 (trOf r3).items.length c8] 38)
      have N57 := Lib.hid (below_trans (below_trans N6.out hb8) n7)
      have V8 := Lib.hid (show V3 w6.heap.size (.bool (trOf r3).list) (.int .i64 (trOf r3).num) (.slice A8 (trOf r3).items.length c8) (w6.alloc (.cells #[.bool (trOf r3).list, .int .i64 (trOf r3).num, .slice A8 (trOf r3).items.length c8] 38)) from new_obj w6 _)
      have T8 := Lib.hid (show TAt (w6.alloc (.cells #[.bool (trOf r3).list, .int .i64 (trOf r3).num, .slice A8 (trOf r3).items.length c8] 38)) (Bel w6.heap.size) (n + 1) (tval (trOf r3) A8 c8) (trOf r3) from ht8.keep fun b hb => ⟨hb.2, fun o => n7.cell (p := ⟨b, o, none⟩) hb.2⟩)
      have Z8 := Lib.hid n7.size
      clear hb8 ht8 n7 RL
      go_upto_region 8 with fail
      generalize hw7 : w6.alloc (.cells #[.bool (trOf r3).list, .int .i64 (trOf r3).num, .slice A8 (trOf r3).items.length c8] 38) = w7 at *
      clear hw7 k0 k1 k2 k3
      have B7 := Lib.hid (below_trans B5.out N57.out)
      have V7 := Lib.hid (HV5.out.below N57.out)
      have T7 := Lib.hid (HT5.out.below N57.out)
      have Z7 := Lib.hid N57.out.size
      have V47 := Lib.hid (V4.out.below (below_trans HB5.out N57.out))
      have T47 := Lib.hid (T4.out.below ((below_trans HB5.out N57.out).mono Z4.out))
      have Z47 := Lib.hid (Nat.le_trans Z4.out (below_trans HB5.out N57.out).size)
      have CS := CASE.out
      rcases CS with ⟨h5, h3⟩ | ⟨h5, h3⟩
      · subst h5 h3
        rw [show errOf (errI (.ok v)) = .nilIface from rfl, show errOf (errI (.ok (.node true 0 [v]))) = .nilIface from rfl]
        have V7 := Lib.hid (show V3 wb (.bool v.list) (.int .i64 v.num) (.slice A7 v.items.length c7) w7 from V7.out)
        have V8 := Lib.hid (show V3 w6.heap.size (.bool true) (.int .i64 0) (.slice A8 1 c8) w7 from V8.out)
        have T7 := Lib.hid (show TAt w7 (Bel wc.heap.size) (n + 1) (tval v A7 c7) v from T7.out)
        have T8 := Lib.hid (show TAt w7 (Bel w6.heap.size) (n + 1) (.agg #[.bool true, .int .i64 0, .slice A8 1 c8]) (wrap v) from T8.out)
        clear CASE RV R5 R3
        obtain ⟨sv, hsv⟩ : ∃ sv : ByteArray, sv = ⟨(textV v).toArray⟩ := ⟨_, rfl⟩
        obtain ⟨su, hsu⟩ : ∃ su : ByteArray, su = ⟨(textV (wrap v)).toArray⟩ := ⟨_, rfl⟩
        have hzv : sv.size ≤ 103079215104 := by
          rw [hsv, RowKit.size_of_list]
          have h1 := textV_le v T4.out.i64
          have h2 := VS.out
          omega
        have e1 : (su.toList == ((⟨#[40]⟩ : ByteArray) ++ sv ++ ⟨#[41]⟩).toList) = true := by
          rw [hsv, hsu, beq_iff_eq, ByteArray.toList_eq, ByteArray.toList_eq, cat_list, cat_list, text_wrap]; simp
        have e2 : (su.toList != ((⟨#[40]⟩ : ByteArray) ++ sv ++ ⟨#[41]⟩).toList) = false := by rw [bne, e1]; rfl
        have e3 : (sv.toList != sv.toList) = false := by simp
        have TXV := Lib.hid (fun (W : World) (hb : Below w7.heap.size w7 W) => show Calls Tryd.prog 26 #[tval v A7 c7] W fun e w' => e = .returned (.string sv) ∧ Below W.heap.size W w' by
          rw [hsv]; exact text_prog W (T7.out.below (hb.mono Z7.out)) (Nat.le_trans Z7.out hb.size) (by have := VS.out; omega) (TB.out _ (below_trans B7.out hb)))
        have TTV := Lib.hid (fun (W : World) (hb : Below w7.heap.size w7 W) => show Calls Tryd.prog 26 #[tval v A3 c3] W fun e w' => e = .returned (.string sv) ∧ Below W.heap.size W w' by
          rw [hsv]; exact text_prog W (T47.out.below (hb.mono Z47.out)) (Nat.le_trans Z47.out hb.size) (by have := VS.out; omega) (TB.out _ (below_trans B7.out hb)))
        have TUV := Lib.hid (fun (W : World) (hb : Below w7.heap.size w7 W) => show Calls Tryd.prog 26 #[.agg #[.bool true, .int .i64 0, .slice A8 1 c8]] W fun e w' => e = .returned (.string su) ∧ Below W.heap.size W w' by
          rw [hsu]; exact text_prog W (T8.out.below (hb.mono Z8.out)) (Nat.le_trans Z8.out hb.size) (by rw [size_wrap]; have := VS.out; omega) (TB.out _ (below_trans B7.out hb)))
        clear hsv hsu TB T7 T8 T47
        have E12 := Lib.hid (And.intro e1 (And.intro e2 hzv))
        clear e1 e2 hzv
        obtain ⟨x0, x1, x2, _, _, _⟩ := V7.out.facts
        obtain ⟨y0, y1, y2, _, _, _⟩ := V47.out.facts
        have p0 := fun (m : Later w7) => lat_cell x0 m
        have p1 := fun (m : Later w7) => lat_cell x1 m
        have p2 := fun (m : Later w7) => lat_cell x2 m
        have s0 := fun (m : Later w7) => lat_cell y0 m
        have s1 := fun (m : Later w7) => lat_cell y1 m
        have s2 := fun (m : Later w7) => lat_cell y2 m
        have TX := Lib.hid (fun (m : Later w7) => TXV.out (lat m) (lat_below m))
        have TT := Lib.hid (fun (m : Later w7) => TTV.out (lat m) (lat_below m))
        clear x0 x1 x2 y0 y1 y2
        go_wp2_with fail
        refine wp_region_later (by kernel_rfl) (by kernel_rfl) ?_
        repeat (go_big_quiet_step (first | (go_at_call 26; first | (with_reducible exact later_call (TX.out _)) | (with_reducible exact later_call (TT.out _)))))
        refine wpQuiet_nil ?_
        intro _ hw'
        obtain ⟨nq, hw''⟩ := hw'
        subst hw''
        have B9 := Lib.hid (lat_below nq)
        clear p0 p1 p2 s0 s1 s2 TX TT e3
        generalize lat nq = w9 at B9 ⊢
        go_wp2_with fail
        obtain ⟨x0, x1, x2, _, _, _⟩ := (V8.out.below B9.out).facts
        obtain ⟨y0, y1, y2, _, _, _⟩ := (V47.out.below B9.out).facts
        have p0 := fun (m : Later w9) => lat_cell x0 m
        have p1 := fun (m : Later w9) => lat_cell x1 m
        have p2 := fun (m : Later w9) => lat_cell x2 m
        have s0 := fun (m : Later w9) => lat_cell y0 m
        have s1 := fun (m : Later w9) => lat_cell y1 m
        have s2 := fun (m : Later w9) => lat_cell y2 m
        have TX := Lib.hid (fun (m : Later w9) => TUV.out (lat m) (below_trans B9.out (lat_below m)))
        have TT := Lib.hid (fun (m : Later w9) => TTV.out (lat m) (below_trans B9.out (lat_below m)))
        obtain ⟨e1, e2, hzv⟩ := E12.out
        clear x0 x1 x2 y0 y1 y2
        refine wp_region_later (by kernel_rfl) (by kernel_rfl) ?_
        repeat (go_big_quiet_step (first | (go_at_call 26; first | (with_reducible exact later_call (TX.out _)) | (with_reducible exact later_call (TT.out _)))))
        refine wpQuiet_nil ?_
        intro _ hw'
        obtain ⟨nr, hw''⟩ := hw'
        subst hw''
        have B10 := Lib.hid (below_trans (below_trans B7.out B9.out) (lat_below nr))
        clear p0 p1 p2 s0 s1 s2 TX TT e1 e2 hzv
        generalize lat nr = w10 at B10 ⊢
        have EY := Lib.hid (Told.error_nil 4 w10)
        go_wp2_with fail
        ((with_reducible refine EY.out.mono ?_))
        rintro e w11 ⟨rfl, hb11⟩
        have B11 := Lib.hid (below_trans B10.out hb11)
        have TS := told_same 0 w11 (HD.out w11 B11.out)
        rw [errOf_ok] at TS
        have TS := Lib.hid TS
        clear hb11 EY
        go_wp2_with fail
        ((with_reducible refine TS.out.mono ?_))
        rintro e w12 ⟨rfl, hb12⟩
        have B12 := Lib.hid (below_trans B11.out hb12)
        clear hb12 TS
        go_wp2_with fail
        go_ret
        exact ⟨rfl, B12.out⟩
      · subst h5 h3
        rw [show errOf (errI (.error 4)) = .iface 30 (.int .i64 4) from rfl]
        clear CASE RV R5 R3 TB
        go_wp2_with fail
        refine wp_region_later (by kernel_rfl) (by kernel_rfl) ?_
        repeat (go_big_quiet_step (fail))
        refine wpQuiet_nil ?_
        intro _ hw'
        obtain ⟨nq, hw''⟩ := hw'
        subst hw''
        have B9 := Lib.hid (below_trans B7.out (lat_below nq))
        generalize lat nq = w9 at *
        go_wp2_with fail
        refine wp_region_later (by kernel_rfl) (by kernel_rfl) ?_
        repeat (go_big_quiet_step (fail))
        refine wpQuiet_nil ?_
        intro _ hw'
        obtain ⟨nr, hw''⟩ := hw'
        subst hw''
        have B10 := Lib.hid (below_trans B9.out (lat_below nr))
        generalize lat nr = w10 at *
        have EY := Lib.hid (error_yes 4 w10 (HD.out w10 B10.out))
        go_wp2_with fail
        ((with_reducible refine EY.out.mono ?_))
        rintro e w11 ⟨rfl, hb11⟩
        have B11 := Lib.hid (below_trans B10.out hb11)
        have TS := told_same 4 w11 (HD.out w11 B11.out)
        rw [errOf_no (by decide)] at TS
        have TS := Lib.hid TS
        clear hb11 EY
        go_wp2_with fail
        ((with_reducible refine TS.out.mono ?_))
        rintro e w12 ⟨rfl, hb12⟩
        have B12 := Lib.hid (below_trans B11.out hb12)
        clear hb12 TS
        go_wp2_with fail
        go_ret
        exact ⟨rfl, B12.out⟩
  · have RE := Lib.hid (errOf_no hz)
    rw [errOf_no hz]
    clear FT
    generalize genV t = q at *
    go_wp2_with fail
    go_ret
    exact ⟨rfl, B2.out⟩
end Go.Proofs.YtboecgbgcbkcjaaDoor.WrapsLaw
