/- RoseTells, part 12 of the proof: The program's Replay. Conditions: the sizes. · The program's Less (package rose). Conditions: the sizes. · What the statements on candidates say, plainly. No program. · The program's Less at a tape of its generator, as the statements want it. Conditions: the sizes. · The document's own LessTapes. Conditions: the sizes. -/
import Derived.Test.YtplladlodgfloaaDoorRoseTellsZ6
import Derived.Test.YtplladlodgfloaaDoorRoseTellsZ11
import Derived.Test.YtplladlodgfloaaDoorRoseTellsZ7
import Derived.Deep.RegionHeld3
import Derived.Deep.CutRange
/- The program's Replay. Conditions: the sizes. -/
namespace Go.Proofs.YtplladlodgfloaaDoor.Gens
open Go.RowKit Lists Ints Vals
set_option linter.unusedVariables false

/-- the box of an error -/
def EB (p : Nat) (x : Value) (w : World) : Prop := w.heap[p]? = some (.cells #[x] 37 (0, 0))
theorem EB.cell {p : Nat} {x : Value} {w : World} (h : EB p x w) : w.cell? ⟨p, 0, none⟩ = some x := by rw [Lib.cell_of_heap h]; rfl
theorem EB.free {p : Nat} {x : Value} {w : World} (h : EB p x w) : w.frozen? ⟨p, 0, none⟩ = false := Lib.frozen_of_heap h 0
theorem EB.lt {p : Nat} {x : Value} {w : World} (h : EB p x w) : p < w.heap.size := (Array.getElem?_eq_some_iff.1 h).1
theorem EB.put {p : Nat} {x : Value} {w : World} (h : EB p x w) (y : Value) : EB p y (w.setCell ⟨p, 0, none⟩ y) := by
  unfold EB at h ⊢
  simp [World.setCell, Array.getElem?_modify, h]
/-- what Replay hands back -/
def RpOut (n : Nat) (r : Except Int Tr) (w : World) (e : Ending) (w' : World) : Prop :=
  ∃ (A : Option Addr) (c : Nat), e = .returned (.tuple #[tval (trOf r) A c, errOf (errI r)]) ∧ TAt w' (fun b => w.heap.size ≤ b ∧ b < w'.heap.size) n (tval (trOf r) A c) (trOf r) ∧ NFr A w' ∧ Below w.heap.size w w'
/-- the four boxes at its start -/
theorem four_boxes (w : World) (x0 x1 x2 x3 : Value) (L : Option Addr) (n c : Nat) :
    let W := (((w.alloc (.cells #[x0, x1, x2, x3] 24)).alloc (.cells #[.slice L n c] 25)).alloc (.cells #[.bool false, .int .i64 0, .slice none 0 0] 32)).alloc (.cells #[.nilIface] 37)
    G4 w.heap.size x0 x1 x2 x3 W ∧ LB (w.heap.size + 1) L n c W ∧ V3 (w.heap.size + 1 + 1) (.bool false) (.int .i64 0) (.slice none 0 0) W ∧ EB (w.heap.size + 1 + 1 + 1) .nilIface W ∧ Below w.heap.size w W ∧ W.heap.size = w.heap.size + 4 := by
  intro W
  have z1 : (w.alloc (.cells #[x0, x1, x2, x3] 24)).heap.size = w.heap.size + 1 := by simp
  have z2 : ((w.alloc (.cells #[x0, x1, x2, x3] 24)).alloc (.cells #[.slice L n c] 25)).heap.size = w.heap.size + 1 + 1 := by simp
  have z3 : (((w.alloc (.cells #[x0, x1, x2, x3] 24)).alloc (.cells #[.slice L n c] 25)).alloc (.cells #[.bool false, .int .i64 0, .slice none 0 0] 32)).heap.size = w.heap.size + 1 + 1 + 1 := by simp
  have n1 := new_obj w (.cells #[x0, x1, x2, x3] 24)
  have n2 := new_obj (w.alloc (.cells #[x0, x1, x2, x3] 24)) (.cells #[.slice L n c] 25)
  have n3 := new_obj ((w.alloc (.cells #[x0, x1, x2, x3] 24)).alloc (.cells #[.slice L n c] 25)) (.cells #[.bool false, .int .i64 0, .slice none 0 0] 32)
  have n4 := new_obj (((w.alloc (.cells #[x0, x1, x2, x3] 24)).alloc (.cells #[.slice L n c] 25)).alloc (.cells #[.bool false, .int .i64 0, .slice none 0 0] 32)) (.cells #[.nilIface] 37)
  rw [z1] at n2
  rw [z2] at n3
  rw [z3] at n4
  refine ⟨?_, ?_, ?_, n4, ?_, by show (World.alloc _ _).heap.size = _; simp⟩
  · exact (Below.heap_alloc _ _ _ (by omega)).trans ((Below.heap_alloc _ _ _ (by omega)).trans ((Below.heap_alloc _ _ _ (by omega)).trans n1))
  · exact (Below.heap_alloc _ _ _ (by omega)).trans ((Below.heap_alloc _ _ _ (by omega)).trans n2)
  · exact (Below.heap_alloc _ _ _ (by omega)).trans n3
  · exact ((((Below.refl _ _).alloc (Nat.le_refl _) _).alloc (by omega) _).alloc (by omega) _).alloc (by omega) _

theorem zero_tree {w : World} {S : Nat → Prop} {m : Nat} : TAt w S (m + 1) (tval (.node false 0 []) none 0) (.node false 0 []) := ⟨by decide, none, 0, rfl, fun hp => by simp [Tr.items] at hp⟩
theorem EB.other {p : Nat} {x : Value} {w : World} (h : EB p x w) {c : Nat} (hn : p ≠ c) (o : Nat) (v : Value) : EB p x (w.setCell ⟨c, o, none⟩ v) := (Below.heap_setCell w ⟨c, o, none⟩ v p hn).trans h
/-- three stores into one box -/
theorem three_put (w : World) {rb : Nat} {a0 a1 a2 : Value} (hv : V3 rb a0 a1 a2 w) (y0 y1 y2 : Value) (W : World) (hW : W = ((w.setCell ⟨rb, 0, none⟩ y0).setCell ⟨rb, 1, none⟩ y1).setCell ⟨rb, 2, none⟩ y2) :
    V3 rb y0 y1 y2 W ∧ (∀ b, b ≠ rb → W.heap[b]? = w.heap[b]?) ∧ W.heap.size = w.heap.size ∧ (∀ B, B ≤ rb → Below B w W) ∧ ∀ A, NFr A w → NFr A W := by
  subst hW
  refine ⟨hv.put y0 y1 y2, fun b h => ?_, by simp [World.setCell], fun B h => ?_, fun A h => NFr.set (NFr.set (NFr.set h))⟩
  · exact (Below.heap_setCell _ ⟨rb, 2, none⟩ _ b h).trans ((Below.heap_setCell _ ⟨rb, 1, none⟩ _ b h).trans (Below.heap_setCell _ ⟨rb, 0, none⟩ _ b h))
  · exact Below.setCell (p := ⟨rb, 2, none⟩) (Below.setCell (p := ⟨rb, 1, none⟩) (Below.setCell (p := ⟨rb, 0, none⟩) (Below.refl _ _) h _) h _) h _
/-- the seven stores at its end -/
theorem seven (w1 : World) {rb eb : Nat} {a0 a1 a2 e : Value} (hv : V3 rb a0 a1 a2 w1) (he : EB eb e w1) (hne : rb ≠ eb) (x0 x1 x2 y0 y1 y2 z : Value) (W : World)
    (hW : W = ((((((w1.setCell ⟨rb, 0, none⟩ x0).setCell ⟨rb, 1, none⟩ x1).setCell ⟨rb, 2, none⟩ x2).setCell ⟨rb, 0, none⟩ y0).setCell ⟨rb, 1, none⟩ y1).setCell ⟨rb, 2, none⟩ y2).setCell ⟨eb, 0, none⟩ z) :
    V3 rb y0 y1 y2 W ∧ EB eb z W ∧ (∀ b, b ≠ rb → b ≠ eb → W.heap[b]? = w1.heap[b]?) ∧ W.heap.size = w1.heap.size ∧ (∀ B, B ≤ rb → B ≤ eb → Below B w1 W) ∧ ∀ A, NFr A w1 → NFr A W := by
  obtain ⟨v2, k2, s2, b2, n2⟩ := three_put w1 hv x0 x1 x2 _ rfl
  generalize ((w1.setCell ⟨rb, 0, none⟩ x0).setCell ⟨rb, 1, none⟩ x1).setCell ⟨rb, 2, none⟩ x2 = w2 at *
  obtain ⟨v3, k3, s3, b3, n3⟩ := three_put w2 v2 y0 y1 y2 _ rfl
  generalize ((w2.setCell ⟨rb, 0, none⟩ y0).setCell ⟨rb, 1, none⟩ y1).setCell ⟨rb, 2, none⟩ y2 = w3 at *
  have e3 : EB eb e w3 := ((k3 eb hne.symm).trans (k2 eb hne.symm)).trans he
  subst hW
  exact ⟨v3.other hne 0 z, e3.put z, fun b h1 h2 => (Below.heap_setCell w3 ⟨eb, 0, none⟩ z b h2).trans ((k3 b h1).trans (k2 b h1)), by simp [World.setCell]; omega, fun B h1 h2 => ((b2 B h1).trans (b3 B h1)).setCell (p := ⟨eb, 0, none⟩) h2 z, fun A h => NFr.set (n3 A (n2 A h))⟩

set_option maxHeartbeats 2000000 in
set_option maxRecDepth 100000 in
theorem replay_ok {n : Nat} {g : Gn} {A : Option Addr} {c : Nat} {L : Option Addr} {l : List Int} {lc : Nat} (w : World) (hg : GAt w (GBel w.heap.size) n (gv g A c) g) (hr : Right g) (hsz : g.size ≤ 30) (hat : At w w.heap.size L l) (hcap : l.length ≤ lc) (hl : l.length ≤ 4294967296) :
    Calls Tryd.prog 28 #[gv g A c, .slice L l.length lc] w (RpOut n (repG g l) w) := by
  obtain ⟨m, hnm⟩ : ∃ m, n = m + 1 := by obtain ⟨m, _, _, h, _⟩ := hg.open_; exact ⟨m, h⟩
  have HNM := Lib.hid hnm
  clear hnm
  have FB := four_boxes w (.int .i64 g.kind) (.int .i64 g.a) (.int .i64 g.b) (.slice A g.subs.length c) L l.length lc
  have IS : IL w.heap.size (w.heap.size + 1) l (fun b => b = w.heap.size + 1) _ := ⟨fun b => Iff.rfl, by omega, hl, FB.2.2.2.2.1.size, L, lc, FB.2.1, hat.below FB.2.2.2.2.1, hcap⟩
  have HG := hg.below FB.2.2.2.2.1
  have HC := value_ok (src_read w.heap.size (w.heap.size + 1)) n g (gv g A c) l _ _ HG hr hsz IS (by intro h; rcases play_err g l _ h with h | h <;> omega)
  have RG := Lib.hid (show repG g l = match play readC g l with | .ok (_, v, r) => if r = [] then .ok v else .error 3 | .error e => .error e from rfl)
  have ER := Lib.hid (fun er (h : play readC g l = .error er) => play_err g l er h)
  have HB := Lib.hid FB
  clear hg hr hsz hat hcap hl FB IS HG
  generalize play readC g l = q at HC RG ER
  have HC := Lib.hid HC
  have hmf : ∀ (fn : Fn) (first cap : Array Value) (w : World), (Instr.makeFunc fn first cap).run Tryd.prog w = .ok (.func fn first cap) w := fun _ _ _ _ => rfl
  go_enter_defers Tryd.func28, Tryd.ntmps28
  go_wp2_with fail
  generalize (((w.alloc (.cells #[.int .i64 g.kind, .int .i64 g.a, .int .i64 g.b, .slice A g.subs.length c] 24)).alloc (.cells #[.slice L l.length lc] 25)).alloc (.cells #[.bool false, .int .i64 0, .slice none 0 0] 32)).alloc (.cells #[.nilIface] 37) = W at *
  refine HC.out.mono ?_
  intro e w1 hs
  have hX : ∀ q, q ≠ w.heap.size + 1 → ¬ (fun b => b = w.heap.size + 1) q := fun q h => h
  rcases hs.split with ⟨er, X', hc, rfl, hm1⟩ | ⟨cs, t, s', A1, c1, X1, hc, rfl, hi1, hm1, ht1, hn1⟩
  · have E1 := Lib.hid (show EB (w.heap.size + 1 + 1 + 1) .nilIface w1 from (hm1.block _ HB.out.2.2.2.1.lt (hX _ (by omega))).trans HB.out.2.2.2.1)
    have V1 := Lib.hid (V3.mv HB.out.2.2.1 hm1 (hX _ (by omega)))
    have B1 := Lib.hid (HB.out.2.2.2.2.1.trans (Mv.below hm1 (fun b hb => by show w.heap.size ≤ b; have : b = w.heap.size + 1 := hb; omega) (by have := HB.out.2.2.2.2.2; omega)))
    have hne : er ≠ 0 := by rcases ER.out er hc with h | h <;> omega
    have RG := Lib.hid (show repG g l = .error er by rw [RG.out, hc])
    clear hs hc hm1 HC
    refine leaves_cons (f := 39) (args := #[.pointer (some ⟨w.heap.size + 1 + 1 + 1, 0, none⟩)]) (by simp) (by simp [go_sem]) ?_
    refine (catch_panic ⟨w.heap.size + 1 + 1 + 1, 0, none⟩ .nilIface [] w1 E1.out.cell E1.out.free er).mono ?_
    rintro e u' w2 ⟨rfl, rfl, rfl⟩
    have E2 := E1.out.put (.iface 27 (.int .i64 er))
    have V2 := V1.out.other (c := w.heap.size + 1 + 1 + 1) (by omega) 0 (.iface 27 (.int .i64 er))
    have B2 := Lib.hid (B1.out.setCell (p := ⟨w.heap.size + 1 + 1 + 1, 0, none⟩) (show w.heap.size ≤ w.heap.size + 1 + 1 + 1 by omega) (.iface 27 (.int .i64 er)))
    generalize w1.setCell ⟨w.heap.size + 1 + 1 + 1, 0, none⟩ (.iface 27 (.int .i64 er)) = W2 at E2 V2 B2 ⊢
    have e2 := E2.cell
    obtain ⟨z0, z1, z2, _⟩ := V2.facts
    refine ⟨.tuple #[.agg #[.bool false, .int .i64 0, .slice none 0 0], .iface 27 (.int .i64 er)], by simp [results, Tryd.results28, go_sem, z0, z1, z2, e2], ?_⟩
    rw [RG.out]
    refine ⟨none, 0, ?_, ?_, NFr.none_ _, B2.out⟩
    · show Ending.returned _ = Ending.returned (.tuple #[tval (.node false 0 []) none 0, errOf er])
      rw [errOf_no hne]
      rfl
    · rw [HNM.out]; exact zero_tree
  · obtain ⟨hXl, _, _, _, L1, lc1, hl1, _, _⟩ := hi1
    have p0 := hl1.cell
    have E1 := Lib.hid (show EB (w.heap.size + 1 + 1 + 1) .nilIface w1 from (hm1.block _ HB.out.2.2.2.1.lt (hX _ (by omega))).trans HB.out.2.2.2.1)
    have V1 := Lib.hid (V3.mv HB.out.2.2.1 hm1 (hX _ (by omega)))
    have B1 := Lib.hid (HB.out.2.2.2.2.1.trans (Mv.below hm1 (fun b hb => by show w.heap.size ≤ b; have : b = w.heap.size + 1 := hb; omega) (by have := HB.out.2.2.2.2.2; omega)))
    have RG := Lib.hid (show repG g l = if s' = [] then .ok t else .error 3 by rw [RG.out, hc])
    have HT := Lib.hid (And.intro ht1 hn1)
    have hXl := Lib.hid hXl
    obtain ⟨z0, z1, z2, y0, y1, y2⟩ := V1.out.facts
    have x0 := E1.out.cell
    have x1 := E1.out.free
    clear hs hc hm1 HC hl1 ht1 hn1
    have HS := Lib.hid (fun y0 y1 y2 z W h => seven w1 V1.out E1.out (show w.heap.size + 1 + 1 ≠ w.heap.size + 1 + 1 + 1 by omega) (.bool t.list) (.int .i64 t.num) (.slice A1 t.items.length c1) y0 y1 y2 z W h)
    by_cases hs' : s' = []
    · have RG := Lib.hid (show repG g l = .ok t by rw [RG.out, if_pos hs'])
      subst hs'
      go_wp2_with fail
      have S9 := HS.out (.bool t.list) (.int .i64 t.num) (.slice A1 t.items.length c1) .nilIface _ rfl
      clear HS z0 z1 z2 y0 y1 y2 x0 x1 p0
      generalize ((((((w1.setCell ⟨w.heap.size + 1 + 1, 0, none⟩ (.bool t.list)).setCell ⟨w.heap.size + 1 + 1, 1, none⟩ (.int .i64 t.num)).setCell ⟨w.heap.size + 1 + 1, 2, none⟩ (.slice A1 t.items.length c1)).setCell ⟨w.heap.size + 1 + 1, 0, none⟩ (.bool t.list)).setCell ⟨w.heap.size + 1 + 1, 1, none⟩ (.int .i64 t.num)).setCell ⟨w.heap.size + 1 + 1, 2, none⟩ (.slice A1 t.items.length c1)).setCell ⟨w.heap.size + 1 + 1 + 1, 0, none⟩ .nilIface = W9 at S9 ⊢
      refine leaves_cons (f := 39) (args := #[.pointer (some ⟨w.heap.size + 1 + 1 + 1, 0, none⟩)]) (by simp) (by simp [go_sem]) ?_
      refine (catch_idle ⟨w.heap.size + 1 + 1 + 1, 0, none⟩ W9).mono ?_
      rintro e u' w2 ⟨rfl, rfl, rfl⟩
      obtain ⟨v9, e9, k9, z9, b9, n9⟩ := S9
      have e2 := e9.cell
      obtain ⟨z0, z1, z2, _⟩ := v9.facts
      have hz := HB.out.2.2.2.2.2
      refine ⟨.tuple #[tval t A1 c1, .nilIface], by simp [results, Tryd.results28, go_sem, z0, z1, z2, e2], ?_⟩
      rw [RG.out]
      exact ⟨A1, c1, rfl, HT.out.1.keep fun b ⟨h1, h2, _⟩ => ⟨⟨by omega, by omega⟩, fun o => World.cell?_of_block (k9 b (by omega) (by omega))⟩, n9 _ HT.out.2, B1.out.trans (b9 _ (by omega) (by omega))⟩
    · have RG := Lib.hid (show repG g l = .error 3 by rw [RG.out, if_neg hs'])
      have hp : decide (0 < (s'.length : Int)) = true := by rw [decide_eq_true_eq]; have := List.length_pos_iff.2 hs'; omega
      have hp2 : decide (0 < s'.length) = true := by rw [decide_eq_true_eq]; exact List.length_pos_iff.2 hs'
      go_wp2_with fail
      have S9 := HS.out (.bool false) (.int .i64 0) (.slice none 0 0) (.iface 27 (.int .i64 3)) _ rfl
      clear HS z0 z1 z2 y0 y1 y2 x0 x1 p0
      generalize ((((((w1.setCell ⟨w.heap.size + 1 + 1, 0, none⟩ (.bool t.list)).setCell ⟨w.heap.size + 1 + 1, 1, none⟩ (.int .i64 t.num)).setCell ⟨w.heap.size + 1 + 1, 2, none⟩ (.slice A1 t.items.length c1)).setCell ⟨w.heap.size + 1 + 1, 0, none⟩ (.bool false)).setCell ⟨w.heap.size + 1 + 1, 1, none⟩ (.int .i64 0)).setCell ⟨w.heap.size + 1 + 1, 2, none⟩ (.slice none 0 0)).setCell ⟨w.heap.size + 1 + 1 + 1, 0, none⟩ (.iface 27 (.int .i64 3)) = W9 at S9 ⊢
      refine leaves_cons (f := 39) (args := #[.pointer (some ⟨w.heap.size + 1 + 1 + 1, 0, none⟩)]) (by simp) (by simp [go_sem]) ?_
      refine (catch_idle ⟨w.heap.size + 1 + 1 + 1, 0, none⟩ W9).mono ?_
      rintro e u' w2 ⟨rfl, rfl, rfl⟩
      obtain ⟨v9, e9, k9, z9, b9, n9⟩ := S9
      have e2 := e9.cell
      obtain ⟨z0, z1, z2, _⟩ := v9.facts
      refine ⟨.tuple #[.agg #[.bool false, .int .i64 0, .slice none 0 0], .iface 27 (.int .i64 3)], by simp [results, Tryd.results28, go_sem, z0, z1, z2, e2], ?_⟩
      rw [RG.out]
      exact ⟨none, 0, rfl, by rw [HNM.out]; exact zero_tree, NFr.none_ _, B1.out.trans (b9 _ (by omega) (by omega))⟩

/-- the two boxes at Replay's start -/
theorem two_boxes2 (w : World) (x0 x1 x2 x3 y0 y1 y2 : Value) : G4 w.heap.size x0 x1 x2 x3 ((w.alloc (.cells #[x0, x1, x2, x3] 24)).alloc (.cells #[y0, y1, y2] 32)) ∧
    V3 (w.heap.size + 1) y0 y1 y2 ((w.alloc (.cells #[x0, x1, x2, x3] 24)).alloc (.cells #[y0, y1, y2] 32)) ∧
    Below w.heap.size w ((w.alloc (.cells #[x0, x1, x2, x3] 24)).alloc (.cells #[y0, y1, y2] 32)) ∧
    ((w.alloc (.cells #[x0, x1, x2, x3] 24)).alloc (.cells #[y0, y1, y2] 32)).heap.size = w.heap.size + 2 := two_boxes w x0 x1 x2 x3 y0 y1 y2
/-- the result's store -/
theorem RpOut.lay {n : Nat} {r : Except Int Tr} {w w2 w3 W : World} {A : Option Addr} {c rb : Nat} {y0 y1 y2 : Value} {e : Ending} (he : e = .returned (.tuple #[tval (trOf r) A c, errOf (errI r)])) (ht : TAt w3 (fun b => w2.heap.size ≤ b ∧ b < w3.heap.size) n (tval (trOf r) A c) (trOf r)) (hn : NFr A w3) (hb : Below w.heap.size w w3) (hs : rb < w2.heap.size) (hlo : w.heap.size ≤ rb)
    (hv : V3 rb y0 y1 y2 w3) (z0 z1 z2 : Value) (hW : W = ((w3.setCell ⟨rb, 0, none⟩ z0).setCell ⟨rb, 1, none⟩ z1).setCell ⟨rb, 2, none⟩ z2) : V3 rb z0 z1 z2 W ∧ RpOut n r w e W := by
  obtain ⟨v9, k9, s9, b9, n9⟩ := three_put w3 hv z0 z1 z2 W hW
  exact ⟨v9, A, c, he, ht.keep fun b ⟨h1, h2⟩ => ⟨⟨by omega, by omega⟩, fun o => World.cell?_of_block (k9 b (by omega))⟩, n9 _ hn, hb.trans (b9 _ hlo)⟩

set_option maxHeartbeats 2000000 in
set_option maxRecDepth 100000 in
theorem replay_prog {n : Nat} {g : Gn} {v : Value} {L : Option Addr} {l : List Int} {lc : Nat} (w : World) (h : GAt w (GBel w.heap.size) n v g) (hat : At w w.heap.size L l) (hcap : l.length ≤ lc) (hl : l.length ≤ 4294967296) (hsz : g.size ≤ 4294967296) :
    Calls Tryd.prog 17 #[v, .slice L l.length lc] w (RpOut n (repV g l) w) := by
  obtain ⟨m, A, c, hnm, hv⟩ : ∃ m A c, n = m + 1 ∧ v = gv g A c := by obtain ⟨m, A, c, e, _, hv, _⟩ := h.open_; exact ⟨m, A, c, e, hv⟩
  subst hv
  have FB := two_boxes w (.int .i64 g.kind) (.int .i64 g.a) (.int .i64 g.b) (.slice A g.subs.length c) (.bool false) (.int .i64 0) (.slice none 0 0)
  have C1 := gcheck _ (h.below FB.2.2.1) FB.2.2.1.size hsz
  have HT := Lib.hid (And.intro h (And.intro hat (And.intro hcap hl)))
  have HB := Lib.hid FB
  have HNM := Lib.hid hnm
  clear h hat hcap hl hsz FB hnm
  by_cases hz : genV g = 0
  · have HR := Lib.hid (And.intro (gen_right hz).1 (small30 hz))
    have RV := Lib.hid (show repV g l = repG g l by unfold repV; rw [if_pos hz])
    rw [hz, errOf_ok] at C1
    have C1 := Lib.hid C1
    clear hz
    go_enter Tryd.func17, Tryd.ntmps17
    go_wp2_with fail
    generalize (w.alloc (.cells #[.int .i64 g.kind, .int .i64 g.a, .int .i64 g.b, .slice A g.subs.length c] 24)).alloc (.cells #[.bool false, .int .i64 0, .slice none 0 0] 32) = W at *
    refine C1.out.mono ?_
    rintro e w2 ⟨rfl, hb2⟩
    have B2 := Lib.hid (below_trans HB.out.2.2.1 hb2)
    obtain ⟨k0, k1, k2, k3⟩ := (HB.out.1.below hb2).facts
    have V2 := Lib.hid (HB.out.2.1.below hb2)
    have C2 := Lib.hid (replay_ok w2 ((HT.out.1.below B2.out).more B2.out.size) HR.out.1 HR.out.2 ((HT.out.2.1.below B2.out).more B2.out.size) HT.out.2.2.1 HT.out.2.2.2)
    clear hb2 C1
    go_wp2_with fail
    refine C2.out.mono ?_
    rintro e w3 ⟨A3, c3, rfl, ht3, hn3, hb3⟩
    have V3' := Lib.hid (V2.out.below hb3)
    obtain ⟨z0, z1, z2, y0, y1, y2⟩ := V3'.out.facts
    have HL := Lib.hid (fun z0 z1 z2 (W : World) h => RpOut.lay (W := W) (e := .returned (.tuple #[tval (trOf (repG g l)) A3 c3, errOf (errI (repG g l))])) rfl ht3 hn3 (below_trans B2.out hb3) V2.out.lt (by omega) V3'.out z0 z1 z2 h)
    obtain ⟨r, hrr⟩ : ∃ r, r = repG g l := ⟨_, rfl⟩
    have RV := Lib.hid (RV.out.trans hrr.symm)
    rw [← hrr] at HL ⊢
    clear ht3 hn3 hb3 C2 hrr
    go_wp2_with fail
    have HL := HL.out (.bool (trOf r).list) (.int .i64 (trOf r).num) (.slice A3 (trOf r).items.length c3) _ rfl
    generalize ((w3.setCell ⟨w.heap.size + 1, 0, none⟩ (.bool (trOf r).list)).setCell ⟨w.heap.size + 1, 1, none⟩ (.int .i64 (trOf r).num)).setCell ⟨w.heap.size + 1, 2, none⟩ (.slice A3 (trOf r).items.length c3) = W9 at HL ⊢
    obtain ⟨f0, f1, f2, _⟩ := HL.1.facts
    refine bodyPost_ret (v := .tuple #[tval (trOf r) A3 c3, errOf (errI r)]) (by simp [results, Tryd.results17, go_sem, f0, f1, f2]) rfl ?_
    rw [RV.out]
    exact HL.2
  · have RE := Lib.hid (errOf_no hz)
    have RV := Lib.hid (show repV g l = .error (genV g) by unfold repV; rw [if_neg hz])
    rw [errOf_no hz] at C1
    generalize genV g = q at C1 RE RV
    have C1 := Lib.hid C1
    clear hz
    go_enter Tryd.func17, Tryd.ntmps17
    go_wp2_with fail
    generalize (w.alloc (.cells #[.int .i64 g.kind, .int .i64 g.a, .int .i64 g.b, .slice A g.subs.length c] 24)).alloc (.cells #[.bool false, .int .i64 0, .slice none 0 0] 32) = W at *
    refine C1.out.mono ?_
    rintro e w3 ⟨rfl, hb2⟩
    have B2 := Lib.hid (below_trans HB.out.2.2.1 hb2)
    have V3' := Lib.hid (HB.out.2.1.below hb2)
    obtain ⟨z0, z1, z2, y0, y1, y2⟩ := V3'.out.facts
    have HL := Lib.hid (fun z0 z1 z2 (W : World) h => RpOut.lay (W := W) (n := n) (r := .error q) (A := none) (c := 0) (w2 := w3) (e := .returned (.tuple #[tval (trOf (.error q)) none 0, errOf (errI (.error q))])) rfl (by rw [HNM.out]; exact zero_tree) (NFr.none_ _) B2.out V3'.out.lt (by omega) V3'.out z0 z1 z2 h)
    clear hb2 C1
    go_wp2_with fail
    have HL := HL.out (.bool false) (.int .i64 0) (.slice none 0 0) _ rfl
    generalize ((w3.setCell ⟨w.heap.size + 1, 0, none⟩ (.bool false)).setCell ⟨w.heap.size + 1, 1, none⟩ (.int .i64 0)).setCell ⟨w.heap.size + 1, 2, none⟩ (.slice none 0 0) = W9 at HL ⊢
    obtain ⟨f0, f1, f2, _⟩ := HL.1.facts
    refine bodyPost_ret (v := .tuple #[tval (trOf (.error q)) none 0, errOf (errI (.error q))]) (by
      show _ = Result.ok (Value.tuple #[.agg #[.bool false, .int .i64 0, .slice none 0 0], errOf q]) _
      rw [RE.out]
      simp [results, Tryd.results17, go_sem, f0, f1, f2]) rfl ?_
    rw [RV.out]
    exact HL.2
end Go.Proofs.YtplladlodgfloaaDoor.Gens

/- The program's Less (package rose). Conditions: the sizes. -/
namespace Go.Proofs.YtplladlodgfloaaDoor.Gens
open Go.RowKit Lists Ints Vals
set_option linter.unusedVariables false

/-- what Less tells -/
def roseE (t : Gn) (l : List Int) : Int := errI (repV t l)
def roseV (t : Gn) (l : List Int) : List (List Int) := if roseE t l = 0 then roseL t l else []
def RoPost (t : Gn) (l : List Int) (w : World) (e : Ending) (w' : World) : Prop :=
  ∃ (A : Option Addr) (c : Nat), e = .returned (.tuple #[.slice A (roseV t l).length c, errOf (roseE t l)]) ∧ OwnRows w' w.heap.size A c (roseV t l) ∧ Below w.heap.size w w'
theorem rep_facts {t : Gn} {l : List Int} (h : roseE t l = 0) : genV t = 0 ∧ l.length ≤ 1399680 ∧ ∀ x ∈ l, 0 ≤ x ∧ x ≤ 1000 := by
  obtain ⟨h0, h1⟩ := rep_own h
  obtain ⟨v, r, h2, h3⟩ := mend_run (t := t) l h0
  have h4 := mend_within (gen_right h0).1 (small30 h0) h2
  rw [h1] at h3 h4
  exact ⟨h0, h3, h4⟩

set_option maxHeartbeats 4000000 in
set_option maxRecDepth 100000 in
theorem rose_prog {n : Nat} {t : Gn} {v : Value} {L : Option Addr} {l : List Int} {lc : Nat} (w : World) (h : GAt w (GBel w.heap.size) n v t) (hat : At w w.heap.size L l) (hcap : l.length ≤ lc) (hl : l.length ≤ 4294967296) (hsz : t.size ≤ 4294967296) :
    Calls Tryd.prog 9 #[v, .slice L l.length lc] w (RoPost t l w) := by
  obtain ⟨m, A, c, e, hw, rfl, _⟩ := h.open_
  have b0 := bel1 w (gc t A c)
  have g0 : G4 w.heap.size (.int .i64 t.kind) (.int .i64 t.a) (.int .i64 t.b) (.slice A t.subs.length c) (w.alloc (gc t A c)) := new_obj w _
  have RP := Lib.hid (fun (W : World) (hb : Below w.heap.size w W) => replay_prog W ((h.below hb).more hb.size) ((hat.below hb).more hb.size) hcap hl hsz)
  have CD := Lib.hid (fun (hz : roseE t l = 0) (W : World) (hb : Below w.heap.size w W) => cand_ok W ((h.below hb).more hb.size) (rep_facts hz).1 ((hat.below hb).more hb.size) hcap (rep_facts hz).2.1 (rep_facts hz).2.2)
  have B0 := Lib.hid b0
  have G0 := Lib.hid g0
  clear h hat hcap hl hsz e hw b0 g0
  go_enter Tryd.func9, Tryd.ntmps9
  obtain ⟨k0, k1, k2, k3⟩ := G0.out.facts
  go_wp2_with fail
  generalize w.alloc (gc t A c) = W0 at *
  ((with_reducible refine (RP.out W0 B0.out).mono ?_))
  rintro e w1 ⟨A1, c1, rfl, _, _, hb1⟩
  have B1 := Lib.hid (below_trans B0.out hb1)
  have G1 := Lib.hid (G0.out.below hb1)
  clear hb1 k0 k1 k2 k3
  generalize trOf (repV t l) = v at *
  have n4 := bel1 w1 (.cells #[.bool v.list, .int .i64 v.num, .slice A1 v.items.length c1] 32)
  have B4 := Lib.hid (below_trans B1.out n4)
  obtain ⟨k0, k1, k2, k3⟩ := (G1.out.below n4).facts
  clear n4
  by_cases hz : roseE t l = 0
  · have E0 := Lib.hid (show errI (repV t l) = 0 from hz)
    have HZ := Lib.hid hz
    have HV := Lib.hid (show roseV t l = roseL t l by unfold roseV; rw [if_pos hz])
    have KD := Lib.hid (fun W hb => CD.out hz W hb)
    rw [E0.out, errOf_ok]
    clear hz CD RP
    go_wp2_with fail
    generalize w1.alloc (.cells #[.bool v.list, .int .i64 v.num, .slice A1 v.items.length c1] 32) = W4 at *
    ((with_reducible refine (KD.out W4 B4.out).mono ?_))
    rintro e w5 ⟨A5, c5, rfl, own5, hb5⟩
    have B5 := Lib.hid (below_trans B4.out hb5)
    have O5 := Lib.hid (own5.less B4.out.size)
    clear own5 hb5 KD
    go_wp2_with fail
    go_ret2
    exact ⟨A5, c5, (by rw [HV.out, HZ.out, errOf_ok]; rfl), (by rw [HV.out]; exact O5.out), B5.out⟩
  · have HV := Lib.hid (show roseV t l = [] by unfold roseV; rw [if_neg hz])
    have RE := Lib.hid (errOf_no hz)
    have EE := Lib.hid (show errOf (errI (repV t l)) = errOf (roseE t l) from rfl)
    rw [EE.out, errOf_no hz]
    clear hz CD RP
    generalize hq : roseE t l = q at *
    have QH := Lib.hid hq
    clear hq
    go_wp2_with fail
    go_ret2
    exact ⟨none, 0, by rw [HV.out, QH.out, RE.out]; rfl, by rw [HV.out]; exact OwnRows.zero, B4.out⟩
end Go.Proofs.YtplladlodgfloaaDoor.Gens

/- What the statements on candidates say, plainly. No program. -/
namespace Go.Proofs.YtplladlodgfloaaDoor.Gens
open Go.RowKit Lists Ints Vals
set_option linter.unusedVariables false

/-! one number -/
theorem mend_one {a b : Int} {l : List Int} (h0 : genV (.node 2 a b []) = 0) : mendL (.node 2 a b []) l = [mendX l (b - a)] := by
  refine mendL_of (v := .node false (a + mendX l (b - a)) []) (r := l.tail) h0 ?_
  simp [play, mendC]
theorem one_bounds {a b : Int} (h0 : genV (.node 2 a b []) = 0) : 0 ≤ b - a ∧ b - a ≤ 1000 := (right_max (gen_right h0).1).1 rfl
theorem one_right {a b x : Int} (h : errI (repV (.node 2 a b []) [x]) = 0) : genV (.node 2 a b []) = 0 ∧ 0 ≤ x ∧ x ≤ b - a := by
  obtain ⟨h0, h1⟩ := rep_own h
  rw [mend_one h0] at h1
  have hb := one_bounds h0
  simp only [List.cons.injEq, and_true, mendX] at h1
  exact ⟨h0, by omega, by omega⟩
theorem lessL_one1 (x y : Int) : lessL [x] [y] = decide (x < y) := by
  have h1 : lessL [x] [y] = decide (cmpL [x] [y] < 0) := by unfold lessL; rw [if_pos (show [x].length = [y].length from rfl)]
  have h2 : cmpL [x] [y] = if x < y then -1 else if y < x then 1 else 0 := rfl
  rw [h1, decide_eq_decide, h2]
  by_cases h : x < y
  · rw [if_pos h]; simp [h]
  · rw [if_neg h]
    by_cases h3 : y < x
    · rw [if_pos h3]; simp [h]
    · rw [if_neg h3]; simp [h]
theorem kept_one {a b x y : Int} {l : List Int} (h0 : genV (.node 2 a b []) = 0) (hy : mendX l (b - a) = y) : keptL (.node 2 a b []) [x] l = if y < x then [[y]] else [] := by
  unfold keptL
  rw [mend_one h0, hy, lessL_one1]
  simp
theorem rose_one {a b x : Int} (h : errI (repV (.node 2 a b []) [x]) = 0) : roseL (.node 2 a b []) [x] = if x = 0 then [] else [[0], [x / 2], [x - 1], [0]] := by
  obtain ⟨h0, hx0, hx1⟩ := one_right h
  show lessTo _ _ 1 = _
  rw [lessTo_succ, lessTo_zero, List.nil_append]
  by_cases hx : x = 0
  · subst hx
    rw [lessAt_one _ _ _ (by simp), kept_one (y := 0) h0 (by simp [lackL, mendX]; omega)]
    simp
  · rw [lessAt_four _ _ _ (by simp; omega), if_neg hx]
    rw [kept_one (y := 0) h0 (by simp [mendX]; omega), kept_one (y := x / 2) h0 (by simp [mendX]; omega), kept_one (y := x - 1) h0 (by simp [mendX]; omega), kept_one (y := 0) h0 (by simp [lackL, mendX]; omega)]
    rw [if_pos (by omega), if_pos (by omega), if_pos (by omega)]
    rfl

/-! noughts -/
theorem mend_zeros {t : Gn} (h0 : genV t = 0) {l : List Int} (hl : ∀ x ∈ l, x = 0) : mendL t l = mendL t [] := by
  obtain ⟨v1, r1, h1, _⟩ := mend_run (t := t) l h0
  obtain ⟨v2, r2, h2, _⟩ := mend_run (t := t) [] h0
  have hr := (gen_right h0).1
  have hz := small30 h0
  have z1 : ∀ x ∈ mendL t l, x = 0 := (play_inv (P := fun s => ∀ x ∈ s, x = 0) (Q := fun x => x = 0) mend_bounded (fun s m x s' h0 _ hs hc => by
    simp only [mendC, Except.ok.injEq, Prod.mk.injEq] at hc
    obtain ⟨rfl, rfl⟩ := hc
    refine ⟨?_, fun y hy => hs y (List.mem_of_mem_tail hy)⟩
    cases s with
    | nil => simp only [mendX]; omega
    | cons y s => have := hs y (by simp); simp only [mendX]; omega) hr hz h1 hl).1
  have z2 := mend_noughts hr hz h2
  refine mend_alike hr h1 h2 fun i hi hj => ?_
  simp only [List.getD, List.getElem?_eq_getElem hi, List.getElem?_eq_getElem hj, Option.getD_some]
  rw [z1 _ (List.getElem_mem hi), z2 _ (List.getElem_mem hj)]
theorem rose_noughts {t : Gn} (h0 : genV t = 0) : roseL t (mendL t []) = [] := by
  obtain ⟨v2, r2, h2, _⟩ := mend_run (t := t) [] h0
  have z := mend_noughts (gen_right h0).1 (small30 h0) h2
  have all : ∀ k, k ≤ (mendL t []).length → lessTo t (mendL t []) k = [] := by
    intro k
    induction k with
    | zero => intro _; rfl
    | succ k ih =>
      intro hk
      rw [lessTo_succ, ih (by omega), List.nil_append]
      have hg : (mendL t []).getD k 0 = 0 := by
        simp only [List.getD, List.getElem?_eq_getElem (show k < (mendL t []).length by omega), Option.getD_some]
        exact z _ (List.getElem_mem _)
      rw [lessAt_one _ _ _ (by rw [hg]; omega)]
      unfold keptL
      rw [mend_zeros h0 (l := lackL (mendL t []) k) (fun x hx => z x ?_), lessL_irrefl]
      · rfl
      · unfold lackL at hx
        rcases List.mem_append.1 hx with h | h
        · exact List.mem_of_mem_take h
        · exact List.mem_of_mem_drop h
  exact all _ (Nat.le_refl _)
/-- what is mended can be played -/
theorem rep_mend0 {t : Gn} (h0 : genV t = 0) (l : List Int) : errI (repV t (mendL t l)) = 0 := by
  obtain ⟨v, h⟩ := rep_mend h0 l
  rw [h]; rfl
end Go.Proofs.YtplladlodgfloaaDoor.Gens

/- The program's Less at a tape of its generator, as the statements want it. Conditions: the sizes. -/
namespace Go.Proofs.YtplladlodgfloaaDoor.Gens
open Go.RowKit Lists Ints Vals
set_option linter.unusedVariables false

def RsOk (z : List (List Int)) (w : World) (e : Ending) (w' : World) : Prop := ∃ (A : Option Addr) (c : Nat), e = .returned (.tuple #[.slice A z.length c, .nilIface]) ∧ OwnRows w' w.heap.size A c z ∧ Below w.heap.size w w'
theorem rose_ok {n : Nat} {t : Gn} {v : Value} {L : Option Addr} {l : List Int} {lc : Nat} {z : List (List Int)} (w : World) (h : GAt w (GBel w.heap.size) n v t) (hat : At w w.heap.size L l) (hcap : l.length ≤ lc) (hl : l.length ≤ 4294967296) (hsz : t.size ≤ 4294967296) (hz : roseE t l = 0) (hv : roseL t l = z) :
    Calls Tryd.prog 9 #[v, .slice L l.length lc] w (RsOk z w) := by
  have e2 : roseV t l = z := by unfold roseV; rw [if_pos hz, hv]
  refine (rose_prog w h hat hcap hl hsz).mono ?_
  rintro e w' ⟨A, c, rfl, ho, hb⟩
  rw [e2] at ho ⊢
  rw [hz, errOf_ok]
  exact ⟨A, c, rfl, ho, hb⟩
theorem roseE_mend {t : Gn} (h0 : genV t = 0) (l : List Int) : roseE t (mendL t l) = 0 := rep_mend0 h0 l
theorem mend_len {t : Gn} (h0 : genV t = 0) (l : List Int) : (mendL t l).length ≤ 1399680 := by
  obtain ⟨v, r, _, h⟩ := mend_run (t := t) l h0
  exact h
end Go.Proofs.YtplladlodgfloaaDoor.Gens

/- The document's own LessTapes. Conditions: the sizes. -/
namespace Go.Proofs.YtplladlodgfloaaDoor.Gens
open Go.RowKit Lists Ints Vals
set_option linter.unusedVariables false

/-- where what is behind a place lies -/
def tailAt (b off lc i : Nat) : Option Addr := if lc = i + 1 then some ⟨b, off, none⟩ else some ⟨b, off + (i + 1), none⟩
set_option maxRecDepth 100000 in
theorem slice_from (b off m lc i : Nat) (hi : i < m) (hm : m ≤ lc) (w : World) :
    (Instr.slice 25 (.slice (some ⟨b, off, none⟩) m lc) (some (.int .i64 ((i : Int) + 1))) none none).run Tryd.prog w = .ok (.slice (tailAt b off lc i) (m - (i + 1)) (lc - (i + 1))) w := by
  obtain ⟨i0, h1, h2, h3, h4⟩ := info_parts int_info
  have e1 : ((0 : Int) ≤ (i : Int) + 1 ∧ (i : Int) + 1 ≤ (m : Int)) := by omega
  have e2 : ((i : Int) + 1).toNat = i + 1 := by omega
  unfold tailAt
  by_cases hc : lc = i + 1 <;> simp [Instr.slice, Instr.sliceBounds, Instr.sliceBound, run_underlying Tryd.underlying25, sizeOf, typeInfo, h1, h3, asIntOf, e1, e2, hc, Addr.add, go_sem]
theorem tail_at {w : World} {N b off lc i : Nat} {l : List Int} (h : At w N (some ⟨b, off, none⟩) l) (hc : l.length ≤ lc) : At w N (tailAt b off lc i) (l.drop (i + 1)) := by
  unfold tailAt
  by_cases e : lc = i + 1
  · intro hp
    rw [List.length_drop] at hp
    omega
  · rw [if_neg e]
    exact rs_drop h (i + 1)
/-- what is asked of the document's LessTapes -/
def LtPost (z : List (List Int)) (w : World) (e : Ending) (w' : World) : Prop := ∃ (A : Option Addr) (c : Nat), e = .returned (.slice A z.length c) ∧ RowsWAt w' w'.heap.size A z ∧ Below w.heap.size w w'
theorem own_later {u W : World} {base c lo : Nat} {A : Option Addr} {z : List Int} (h : Own u base A c z) (hb : Below u.heap.size u W) (hlo : lo ≤ base) : AtP W (fun b => lo ≤ b ∧ b < W.heap.size) A z :=
  (own_rowB h).keep fun k hk => ⟨⟨Nat.le_trans hlo hk.1, Nat.lt_of_lt_of_le hk.2 hb.size⟩, fun o => hb.cell (p := ⟨k, o, none⟩) hk.2⟩
theorem rows_four {w : World} {b : Nat} {S : Nat → Prop} {D0 D1 D2 D3 : Option Addr} {x0 x1 x2 x3 : List Int} {n0 n1 n2 n3 d0 d1 d2 d3 : Nat} {T : TypeId} (hb : S b) (h : w.heap[b]? = some (.cells #[.slice D0 n0 d0, .slice D1 n1 d1, .slice D2 n2 d2, .slice D3 n3 d3] T (0, 0)))
    (e0 : n0 = x0.length) (e1 : n1 = x1.length) (e2 : n2 = x2.length) (e3 : n3 = x3.length) (h0 : AtP w S D0 x0) (h1 : AtP w S D1 x1) (h2 : AtP w S D2 x2) (h3 : AtP w S D3 x3) : RowsW w S S (some ⟨b, 0, none⟩) [x0, x1, x2, x3] := fun _ =>
  ⟨b, 0, rfl, hb, fun j hj => by
    subst e0 e1 e2 e3
    have hj : j < 4 := hj
    obtain rfl | rfl | rfl | rfl : j = 0 ∨ j = 1 ∨ j = 2 ∨ j = 3 := by omega
    · exact ⟨D0, d0, by rw [Lib.cell_of_heap h]; rfl, h0⟩
    · exact ⟨D1, d1, by rw [Lib.cell_of_heap h]; rfl, h1⟩
    · exact ⟨D2, d2, by rw [Lib.cell_of_heap h]; rfl, h2⟩
    · exact ⟨D3, d3, by rw [Lib.cell_of_heap h]; rfl, h3⟩⟩
theorem rows_single {w : World} {b : Nat} {S : Nat → Prop} {D0 : Option Addr} {x0 : List Int} {n0 d0 : Nat} {T : TypeId} (hb : S b) (h : w.heap[b]? = some (.cells #[.slice D0 n0 d0] T (0, 0))) (e0 : n0 = x0.length) (h0 : AtP w S D0 x0) : RowsW w S S (some ⟨b, 0, none⟩) [x0] := fun _ =>
  ⟨b, 0, rfl, hb, fun j hj => by
    subst e0
    have hj : j < 1 := hj
    obtain rfl : j = 0 := by omega
    exact ⟨D0, d0, by rw [Lib.cell_of_heap h]; rfl, h0⟩⟩
theorem atp_imp {w : World} {S S' : Nat → Prop} {A : Option Addr} {l : List Int} (h : AtP w S A l) (hs : ∀ b, S b → S' b) : AtP w S' A l := h.keep fun b hb => ⟨hs b hb, fun _ => rfl⟩
theorem tries_len (l : List Int) (j : Nat) (hj : j < l.length) : ∀ x ∈ triesL l j, x.length ≤ l.length := by
  intro x hx
  unfold triesL at hx
  have hl := lack_len l j
  split at hx
  · simp only [List.mem_cons, List.not_mem_nil, or_false] at hx
    rcases hx with rfl | rfl | rfl | rfl <;> first | (rw [List.length_set]; exact Nat.le_refl _) | exact hl
  · simp only [List.mem_cons, List.not_mem_nil, or_false] at hx
    subst hx; exact hl
theorem tries_count (l : List Int) (j : Nat) : (triesL l j).length ≤ 4 := by unfold triesL; split <;> simp
theorem take_flat (t : Gn) (l : List Int) (tr : List (List Int)) (p : Nat) (hp : p < tr.length) : (tr.take (p + 1)).flatMap (keptL t l) = (tr.take p).flatMap (keptL t l) ++ keptL t l (tr[p]'hp) := by
  rw [List.take_succ_eq_append_getElem hp, List.flatMap_append, List.flatMap_singleton]
/-- the blocks that are not the row's at A -/
abbrev NotRow (A : Option Addr) (w : World) (b : Nat) : Prop := b < w.heap.size ∧ rowOf A ≠ some b
theorem rows_grow {w w5 : World} {A A5 T : Option Addr} {zs : List (List Int)} (h : RowsW w (NotRow A w) (NotRow A w) T zs) (g : w.grownBy w5 (rowOf A)) (r : rowOf A5 = rowOf A ∨ rowOf A5 = some w.heap.size) : RowsW w5 (NotRow A5 w5) (NotRow A5 w5) T zs := by
  have hk : ∀ b, NotRow A w b → NotRow A5 w5 b ∧ ∀ o, w5.cell? ⟨b, o, none⟩ = w.cell? ⟨b, o, none⟩ := fun b hb =>
    ⟨⟨Nat.lt_of_lt_of_le hb.1 g.size, by
      rcases r with h | h
      · rw [h]; exact hb.2
      · rw [h]; intro e; have := Option.some.inj e; have := hb.1; omega⟩, fun o => World.cell?_of_block (g.block b hb.1 (fun e => hb.2 e.symm))⟩
  exact h.keep hk hk
theorem rows_below {w w' : World} {A T : Option Addr} {zs : List (List Int)} (h : RowsW w (NotRow A w) (NotRow A w) T zs) (hb : Below w.heap.size w w') : RowsW w' (NotRow A w') (NotRow A w') T zs := by
  have hk : ∀ b, NotRow A w b → NotRow A w' b ∧ ∀ o, w'.cell? ⟨b, o, none⟩ = w.cell? ⟨b, o, none⟩ := fun b hx =>
    ⟨⟨Nat.lt_of_lt_of_le hx.1 hb.size, hx.2⟩, fun o => hb.cell (p := ⟨b, o, none⟩) hx.1⟩
  exact h.keep hk hk
theorem oe_new (w : World) : Own (w.alloc (.cells #[] 3)).drew w.heap.size (some ⟨w.heap.size, 0, none⟩) 0 [] := Own.empty (heap_new2 w _)

set_option maxHeartbeats 16000000 in
set_option maxRecDepth 100000 in
theorem lesstapes_any {t : Gn} {GA : Option Addr} {gcap n : Nat} {L : Option Addr} {l : List Int} {lc : Nat} (w : World) (hg : GAt w (GBel w.heap.size) n (gv t GA gcap) t) (h0 : genV t = 0) (hl : At w w.heap.size L l) (hcap : l.length ≤ lc) (hln : l.length ≤ 1399680) (hv : ∀ x ∈ l, 0 ≤ x ∧ x ≤ 1000) :
    Calls Tryd.prog 8 #[gv t GA gcap, .slice L l.length lc] w (LtPost (roseL t l) w) := by
  have hln2 : l.length ≤ 4294967296 := by omega
  have B0 := Lib.hid (show Below w.heap.size w (w.alloc (gc t GA gcap)) from bel1 _ _)
  have G0 := Lib.hid (show G4 w.heap.size (.int .i64 t.kind) (.int .i64 t.a) (.int .i64 t.b) (.slice GA t.subs.length gcap) (w.alloc (gc t GA gcap)) from new_obj w _)
  have WI := Lib.hid (fun (W : World) (hb : Below w.heap.size w W) => refwith_ok (lc := lc) (N := w.heap.size) W (hl.below hb) hb.size hln2)
  have HV := Lib.hid (fun i (hi : i < l.length) => show 0 ≤ l.getD i 0 ∧ l.getD i 0 ≤ 1000 by simp only [List.getD, List.getElem?_eq_getElem hi, Option.getD_some]; exact hv _ (List.getElem_mem hi))
  have ZL := Lib.hid (fun k => lessTo_len t l k)
  have HL := Lib.hid hl
  have ME := Lib.hid (fun (x : List Int) (X : Option Addr) (xc : Nat) (W : World) (hb : Below w.heap.size w W) (hx : At W W.heap.size X x) (hxl : x.length ≤ 4294967296) =>
    mendof_new n t GA gcap x X xc W.heap.size W ((hg.below hb).more hb.size) (gen_right h0).1 (by have := small30 h0; omega) hx (Nat.le_refl _) (by have := small_long (gen_right h0).2; omega) hxl (mend_run x h0).choose_spec.choose_spec.1)
  have ML := Lib.hid (fun x => mend_len h0 x)
  clear hg hl h0 hv
  go_enter Tryd.func8, Tryd.ntmps8
  go_wp2_with fail
  generalize w.alloc (gc t GA gcap) = W0 at *
  go_loopg [5, 6] l.length (fun g v i wr => ∃ (j : Nat) (A : Option Addr) (c : Nat) (z : List (List Int)), j ≤ l.length ∧ g = l.length - j ∧ i = .int .i64 j ∧ v = .slice A z.length c ∧ Hid (z = lessTo t l j) ∧ Hid (OwnRowsW wr W0.heap.size A c z) ∧ Hid (Below W0.heap.size W0 wr))
  case atStart => exact ⟨0, none, 0, [], Nat.zero_le _, rfl, rfl, rfl, Lib.hid rfl, OwnRowsW.zero, Below.refl _ _⟩
  case round =>
    obtain ⟨j, A, c, z, hj, rfl, rfl, rfl, hz, ho, hbb⟩ := hrel
    by_cases hlt : j < l.length
    · obtain ⟨lb, lo, rfl, hlb, hlc⟩ := HL.out (by omega)
      have BW := Lib.hid (below_trans B0.out hbb.out)
      have HA := Lib.hid (fun (W : World) (hb : Below wr.heap.size wr W) => show At W w.heap.size (some ⟨lb, lo, none⟩) l from HL.out.below (below_trans BW.out hb))
      have hlj := hlc j hlt
      clear hlc
      have HS := fun W => slice_from lb lo l.length lc j hlt hcap W
      have HT := Lib.hid (fun (W : World) (hb : Below wr.heap.size wr W) => tail_at (i := j) (HA.out W hb) hcap)
      have TK := Lib.hid (show (l.take j).length = j by rw [List.length_take]; omega)
      have TD := Lib.hid (show (l.drop (j + 1)).length = l.length - (j + 1) by rw [List.length_drop])
      generalize tailAt lb lo lc j = TA at *
      have s0 : IntKind.i64.wrap ((j : Int) + 1) = (j : Int) + 1 := IntWalk.i64_in _ (by omega)
      have s1 : (0 : Int) ≤ (j : Int) + 1 := by omega
      have s3 : (0 : Int) ≤ (j : Int) := by omega
      have s4 : (j : Int) ≤ (lc : Int) := by omega
      have s5 : (j : Int) + 1 ≤ (l.length : Int) := by omega
      have s6 : (l.length : Int) ≤ (lc : Int) := by omega
      go_wp2_with fail
      go_region_held3 (fun w' => True) (trivial) (first
        | (refine step_append_ints (by rfl) (.tmp 16) (.tmp 19) (by rfl) wr.heap.size 0 (some ⟨wr.heap.size, 0, none⟩) [] (oe_new wr) w.heap.size (some ⟨lb, lo, none⟩) lc (l.take j) (rs_take (HA.out _ (bel_new _ _)) j) (by rfl) (by rw [TK.out]; rfl) ?_ ?_ ?_
           · rw [TK.out]; simp; omega
           · show wr.heap.size ≤ (World.alloc _ _).heap.size; simp
           intro A5 c5 w5 z5 hz5 own5 g5 r5
           have BX5 := Lib.hid (Below.grown (bel_new wr _) g5 (Nat.le_of_lt (lt_new wr _)) (by intro k hk; simp [rowOf] at hk; omega))
           have O5 := Lib.hid own5
           have Z5 := BX5.out.size
           have L5 := Lib.hid (show z5.length ≤ 4294967296 by rw [hz5.out]; simp; omega)
           clear own5 g5 r5)
        | (refine step_append_ints (by rfl) (.tmp 20) (.tmp 24) (by rfl) wr.heap.size c5 A5 z5 O5.out w.heap.size TA (lc - (j + 1)) (l.drop (j + 1)) (HT.out _ BX5.out) (by rfl) (by rw [TD.out]; rfl) ?_ ?_ ?_
           · rw [TD.out]; have := L5.out; omega
           · exact Z5
           intro A6 c6 w6 z6 hz6 own6 g6 r6
           have BX6 := Lib.hid (BX5.out.grown g6 Z5 O5.out.ge)
           have O6 := Lib.hid own6
           have Z6 := BX6.out.size
           have HE6 := Lib.hid (show z6 = lackL l j by rw [hz6.out, hz5.out]; rfl)
           clear own6 g6 r6))
      clear HS s0 s1 s4 s5 s6
      have e6 := ((below_trans BW.out BX6.out).cell (p := ⟨lb, lo + j, none⟩) hlb).trans hlj
      have hlw : lb < w6.heap.size := by have := BW.out.size; omega
      have vv := HV.out j hlt
      obtain ⟨tr, htr⟩ : ∃ tr, tr = triesL l j := ⟨_, rfl⟩
      have TRL := Lib.hid (show (∀ x ∈ tr, x.length ≤ l.length) ∧ tr.length ≤ 4 ∧ lessTo t l (j + 1) = lessTo t l j ++ tr.flatMap (keptL t l) from by rw [htr]; exact ⟨tries_len l j hlt, tries_count l j, lessTo_succ t l j⟩)
      have AGE := Lib.hid ho.out.ge
      have NR := Lib.hid (fun b (hb : wr.heap.size ≤ b) => show rowOf A ≠ some b from fun e => absurd (AGE.out b e).2 (by omega))
      have hp7 := Lib.hid (bel1 w6 (.cells #[.slice A6 z6.length c6] 25))
      have nh7 := Lib.hid (new_obj w6 (.cells #[.slice A6 z6.length c6] 25))
      have BX7 := Lib.hid (show Below wr.heap.size wr (w6.alloc (.cells #[.slice A6 z6.length c6] 25)) from BX6.out.trans (hp7.out.mono BX6.out.size))
      have HTR := Lib.hid htr
      clear htr
      generalize hvv : l.getD j 0 = v at e6 vv hlj
      have HVV := Lib.hid hvv
      clear hvv hlj
      go_upto_if 31 with (fail)
      go_cut [7] from 10 to 73 (fun s7 wx => ∃ (T : Option Addr) (tc : Nat), s7 = .slice T tr.length tc ∧ Hid (Below wr.heap.size wr wx) ∧ Hid (RowsW wx (NotRow A wx) (NotRow A wx) T tr))
      case first =>
        by_cases hp : 0 < v
        · have htr4 := Lib.hid (show tr = [l.set j 0, l.set j (v / 2), l.set j (v - 1), lackL l j] by rw [HTR.out]; unfold triesL; rw [HVV.out, if_pos hp])
          have t7 : (w6.alloc (.cells #[.slice A6 z6.length c6] 25)).cell? ⟨w6.heap.size, 0, none⟩ = some (.slice A6 z6.length c6) := by rw [Lib.cell_of_heap nh7.out]; rfl
          have e7 := (hp7.out.cell (p := ⟨lb, lo + j, none⟩) hlw).trans e6
          have K0 := Lib.hid (fun (W' : World) (hb : Below (w6.alloc (.cells #[.slice A6 z6.length c6] 25)).heap.size (w6.alloc (.cells #[.slice A6 z6.length c6] 25)) W') => own_later (lo := wr.heap.size) O6.out (below_trans hp7.out hb) (Nat.le_refl _))
          have ZE := Lib.hid (show z6.length = (lackL l j).length by rw [HE6.out])
          have hl7 : lb < (w6.alloc (.cells #[.slice A6 z6.length c6] 25)).heap.size := by simp; omega
          have ht7 : w6.heap.size < (w6.alloc (.cells #[.slice A6 z6.length c6] 25)).heap.size := by simp
          have ZW : wr.heap.size ≤ (w6.alloc (.cells #[.slice A6 z6.length c6] 25)).heap.size := BX7.out.size
          have WC := Lib.hid (fun (W : World) (hb : Below (w6.alloc (.cells #[.slice A6 z6.length c6] 25)).heap.size (w6.alloc (.cells #[.slice A6 z6.length c6] 25)) W) (x : Int) => WI.out W (below_trans (below_trans BW.out BX7.out) hb) j hlt x)
          have e8 : IntKind.i64.wrap (v - 1) = v - 1 := IntWalk.i64_in _ (by omega)
          have e9 : IntKind.i64.wrap (v.tdiv 2) = v / 2 := by
            rw [Int.tdiv_eq_ediv_of_nonneg (by omega)]
            exact IntWalk.i64_in _ (by omega)
          clear e6 hlw
          generalize w6.alloc (.cells #[.slice A6 z6.length c6] 25) = w7 at *
          generalize w6.heap.size = tb at *
          go_wp2_with fail
          go_region_held3 (fun w' => w'.cell? ⟨lb, lo + j, none⟩ = some (.int .i64 v) ∧ w'.cell? ⟨tb, 0, none⟩ = some (.slice A6 z6.length c6)) (first | exact ⟨e7, t7⟩ | exact ⟨p1, q1⟩ | exact ⟨p2, q2⟩ | exact ⟨p3, q3⟩ | exact ⟨(World.cell?_alloc_lt _ _ ⟨lb, lo + j, none⟩ ll3).trans p3, (World.cell?_alloc_lt _ _ ⟨tb, 0, none⟩ tl3).trans q3⟩) (first
          | (with_reducible refine (WC.out _ ?_ (0)).mono ?_
             · repeat (first | with_reducible exact E1.out | with_reducible exact E2.out | with_reducible exact E3.out | with_reducible exact Below.refl _ _ | with_reducible refine Below.drew ?_ | with_reducible refine below_trans ?_ (bel1 _ _))
             rintro e u1 ⟨X1, d1, rfl, own1, hb1⟩
             have E1 := Lib.hid (show Below w7.heap.size w7 u1 by
               refine Below.trans ?_ (hb1.mono ?_)
               · repeat (first | with_reducible exact E1.out | with_reducible exact E2.out | with_reducible exact E3.out | with_reducible exact Below.refl _ _ | with_reducible refine Below.drew ?_ | with_reducible refine below_trans ?_ (bel1 _ _))
               · (first | exact Nat.le_refl _ | exact E1.out.size | exact E2.out.size | exact E3.out.size))
             have H1 := Lib.hid hb1
             have K1 := Lib.hid (fun (W' : World) (hb : Below u1.heap.size u1 W') => own_later (lo := wr.heap.size) own1 hb (by first | exact ZW | exact Nat.le_trans ZW E1.out.size | exact Nat.le_trans ZW E2.out.size | exact Nat.le_trans ZW E3.out.size))
             have zz1 : wr.heap.size ≤ u1.heap.size := Nat.le_trans ZW E1.out.size
             have p1 := (E1.out.cell (p := ⟨lb, lo + j, none⟩) hl7).trans e7
             have q1 := (E1.out.cell (p := ⟨tb, 0, none⟩) ht7).trans t7
             have ll1 : lb < u1.heap.size := Nat.lt_of_lt_of_le hl7 E1.out.size
             have tl1 : tb < u1.heap.size := Nat.lt_of_lt_of_le ht7 E1.out.size
             clear own1 hb1)
          | (with_reducible refine (WC.out _ ?_ (v / 2)).mono ?_
             · repeat (first | with_reducible exact E1.out | with_reducible exact E2.out | with_reducible exact E3.out | with_reducible exact Below.refl _ _ | with_reducible refine Below.drew ?_ | with_reducible refine below_trans ?_ (bel1 _ _))
             rintro e u2 ⟨X2, d2, rfl, own2, hb2⟩
             have E2 := Lib.hid (show Below w7.heap.size w7 u2 by
               refine Below.trans ?_ (hb2.mono ?_)
               · repeat (first | with_reducible exact E1.out | with_reducible exact E2.out | with_reducible exact E3.out | with_reducible exact Below.refl _ _ | with_reducible refine Below.drew ?_ | with_reducible refine below_trans ?_ (bel1 _ _))
               · (first | exact Nat.le_refl _ | exact E1.out.size | exact E2.out.size | exact E3.out.size))
             have H2 := Lib.hid hb2
             have K2 := Lib.hid (fun (W' : World) (hb : Below u2.heap.size u2 W') => own_later (lo := wr.heap.size) own2 hb (by first | exact ZW | exact Nat.le_trans ZW E1.out.size | exact Nat.le_trans ZW E2.out.size | exact Nat.le_trans ZW E3.out.size))
             have zz2 : wr.heap.size ≤ u2.heap.size := Nat.le_trans ZW E2.out.size
             have p2 := (E2.out.cell (p := ⟨lb, lo + j, none⟩) hl7).trans e7
             have q2 := (E2.out.cell (p := ⟨tb, 0, none⟩) ht7).trans t7
             have ll2 : lb < u2.heap.size := Nat.lt_of_lt_of_le hl7 E2.out.size
             have tl2 : tb < u2.heap.size := Nat.lt_of_lt_of_le ht7 E2.out.size
             clear own2 hb2)
          | (with_reducible refine (WC.out _ ?_ (v - 1)).mono ?_
             · repeat (first | with_reducible exact E1.out | with_reducible exact E2.out | with_reducible exact E3.out | with_reducible exact Below.refl _ _ | with_reducible refine Below.drew ?_ | with_reducible refine below_trans ?_ (bel1 _ _))
             rintro e u3 ⟨X3, d3, rfl, own3, hb3⟩
             have E3 := Lib.hid (show Below w7.heap.size w7 u3 by
               refine Below.trans ?_ (hb3.mono ?_)
               · repeat (first | with_reducible exact E1.out | with_reducible exact E2.out | with_reducible exact E3.out | with_reducible exact Below.refl _ _ | with_reducible refine Below.drew ?_ | with_reducible refine below_trans ?_ (bel1 _ _))
               · (first | exact Nat.le_refl _ | exact E1.out.size | exact E2.out.size | exact E3.out.size))
             have H3 := Lib.hid hb3
             have K3 := Lib.hid (fun (W' : World) (hb : Below u3.heap.size u3 W') => own_later (lo := wr.heap.size) own3 hb (by first | exact ZW | exact Nat.le_trans ZW E1.out.size | exact Nat.le_trans ZW E2.out.size | exact Nat.le_trans ZW E3.out.size))
             have zz3 : wr.heap.size ≤ u3.heap.size := Nat.le_trans ZW E3.out.size
             have p3 := (E3.out.cell (p := ⟨lb, lo + j, none⟩) hl7).trans e7
             have q3 := (E3.out.cell (p := ⟨tb, 0, none⟩) ht7).trans t7
             have ll3 : lb < u3.heap.size := Nat.lt_of_lt_of_le hl7 E3.out.size
             have tl3 : tb < u3.heap.size := Nat.lt_of_lt_of_le ht7 E3.out.size
             clear own3 hb3))
          have NB := Lib.hid (bel1 u3 (.cells #[.slice X1 l.length d1, .slice X2 l.length d2, .slice X3 l.length d3, .slice A6 z6.length c6] 25))
          have NH := Lib.hid (new_obj u3 (.cells #[.slice X1 l.length d1, .slice X2 l.length d2, .slice X3 l.length d3, .slice A6 z6.length c6] 25))
          have BF := Lib.hid (below_trans (below_trans BX7.out E3.out) NB.out)
          have ST := Lib.hid (show RowsW (u3.alloc (.cells #[.slice X1 l.length d1, .slice X2 l.length d2, .slice X3 l.length d3, .slice A6 z6.length c6] 25)) (NotRow A (u3.alloc (.cells #[.slice X1 l.length d1, .slice X2 l.length d2, .slice X3 l.length d3, .slice A6 z6.length c6] 25))) (NotRow A (u3.alloc (.cells #[.slice X1 l.length d1, .slice X2 l.length d2, .slice X3 l.length d3, .slice A6 z6.length c6] 25))) (some ⟨u3.heap.size, 0, none⟩) tr by
            rw [htr4.out]
            refine rows_four ⟨by simp, NR.out _ zz3⟩ NH.out (by simp) (by simp) (by simp) ZE.out ?_ ?_ ?_ ?_
            · exact atp_imp (K1.out _ (below_trans (below_trans H2.out H3.out) NB.out)) (fun b hb => ⟨hb.2, NR.out b hb.1⟩)
            · exact atp_imp (K2.out _ (below_trans H3.out NB.out)) (fun b hb => ⟨hb.2, NR.out b hb.1⟩)
            · exact atp_imp (K3.out _ NB.out) (fun b hb => ⟨hb.2, NR.out b hb.1⟩)
            · rw [← HE6.out]
              exact atp_imp (K0.out _ (below_trans E3.out NB.out)) (fun b hb => ⟨hb.2, NR.out b hb.1⟩))
          have S7 := Lib.hid (show (Value.slice (some ⟨u3.heap.size, 0, none⟩) 4 4) = .slice (some ⟨u3.heap.size, 0, none⟩) tr.length 4 by rw [htr4.out]; rfl)
          go_wp2_with fail
          go_meet
          exact ⟨_, _, S7.out, BF.out, ST.out⟩
        · have htr1 := Lib.hid (show tr = [lackL l j] by rw [HTR.out]; unfold triesL; rw [HVV.out, if_neg hp])
          have ST := Lib.hid (show RowsW (w6.alloc (.cells #[.slice A6 z6.length c6] 25)) (NotRow A (w6.alloc (.cells #[.slice A6 z6.length c6] 25))) (NotRow A (w6.alloc (.cells #[.slice A6 z6.length c6] 25))) (some ⟨w6.heap.size, 0, none⟩) tr by
            rw [htr1.out]
            exact rows_single ⟨by simp, NR.out _ Z6⟩ nh7.out (by rw [HE6.out]) (by rw [← HE6.out]; exact atp_imp (own_later O6.out hp7.out (Nat.le_refl _)) (fun b hb => ⟨hb.2, NR.out b hb.1⟩)))
          have S7 := Lib.hid (show (Value.slice (some ⟨w6.heap.size, 0, none⟩) 1 1) = .slice (some ⟨w6.heap.size, 0, none⟩) tr.length 1 by rw [htr1.out]; rfl)
          go_wp2_with fail
          go_meet
          exact ⟨_, _, S7.out, BX7.out, ST.out⟩
      case rest =>
        obtain ⟨T, tc, rfl, hbx, hrx⟩ := hcut
        obtain ⟨wo, rfl⟩ : ∃ wo : World, wo = wr := ⟨_, rfl⟩
        have OZ := Lib.hid (ho.out.below hbx.out)
        have BZ := Lib.hid (below_trans hbb.out hbx.out)
        have TRN := TRL.out.2.1
        clear hp7 nh7 BX7 BX6 BX5 O5 O6 e6 hlw vv HVV HTR
        go_wp2_with fail
        go_loopw [5, 8] (fun v7 kk wr => ∃ (p : Nat) (A2 : Option Addr) (c2 : Nat) (z2 : List (List Int)), p ≤ tr.length ∧ kk = .int .i64 p ∧ v7 = .slice A2 z2.length c2 ∧ Hid (z2 = z ++ (tr.take p).flatMap (keptL t l) ∧ z2.length ≤ 4 * j + p) ∧ Hid (OwnRowsW wr W0.heap.size A2 c2 z2) ∧ Hid (Below W0.heap.size W0 wr) ∧ Hid (RowsW wr (NotRow A2 wr) (NotRow A2 wr) T tr)) (fun _ kk _ => tr.length - (intOf kk).toNat)
        case atStart => exact ⟨0, A, c, z, Nat.zero_le _, rfl, rfl, Lib.hid ⟨by simp, by have := ZL.out j; rw [← hz.out] at this; omega⟩, OZ.out, BZ.out, hrx.out⟩
        case round =>
          obtain ⟨p, A2, c2, z2, hp2, rfl, rfl, hz2, ho2, hb2, hr2⟩ := hrel
          by_cases hpt : p < tr.length
          · obtain ⟨rb, ro, rfl, hrb, hrc⟩ := hr2.out (by omega)
            obtain ⟨D, d, q0, q1⟩ := hrc p hpt
            have XL := Lib.hid (TRL.out.1 _ (List.getElem_mem hpt))
            have TF := Lib.hid (take_flat t l tr p hpt)
            clear hrc
            generalize tr[p]'hpt = x at *
            have BW2 := Lib.hid (below_trans B0.out hb2.out)
            have G2 := Lib.hid (G0.out.below hb2.out)
            obtain ⟨k0, k1, k2, k3⟩ := G2.out.facts
            have CM := Lib.hid (ME.out x D d wr.drew BW2.out.drew (show At wr.drew wr.drew.heap.size D x from (atp_imp q1 (fun b hb => hb.1)).at_) (by have := XL.out; omega))
            have KE := Lib.hid (show keptL t l x = if lessL (mendL t x) l = true then [mendL t x] else [] from rfl)
            have KN := Lib.hid (kept_len t l x)
            have MLX := Lib.hid (ML.out x)
            generalize mendL t x = m at *
            have LB2 := Lib.hid (show At wr w.heap.size (some ⟨lb, lo, none⟩) l from HL.out.below BW2.out)
            have CE := Lib.hid (show w.heap.size < wr.heap.size from G2.out.lt)
            clear q1
            go_wp2_with fail
            go_region_held3 (fun w' => w'.cell? ⟨w.heap.size, 0, none⟩ = some (.int .i64 t.kind) ∧ w'.cell? ⟨w.heap.size, 1, none⟩ = some (.int .i64 t.a) ∧ w'.cell? ⟨w.heap.size, 2, none⟩ = some (.int .i64 t.b) ∧ w'.cell? ⟨w.heap.size, 3, none⟩ = some (.slice GA t.subs.length gcap) ∧ w'.cell? ⟨rb, ro + p, none⟩ = some (.slice D x.length d)) (first | exact ⟨k0, k1, k2, k3, q0⟩ | exact ⟨j0, j1, j2, j3, j4⟩) (((with_reducible refine CM.out.mono ?_); rintro e y1 ⟨hb3, TA1, tc1, rfl, ha3⟩; have B3 := Lib.hid (show Below wr.heap.size wr y1 from ⟨hb3.os, hb3.tape, hb3.output, hb3.size, hb3.block⟩); have HA3 := Lib.hid (show AtP y1 (fun b => wr.heap.size ≤ b ∧ b < y1.heap.size) TA1 m from ha3); obtain ⟨j0, j1, j2, j3⟩ := (G2.out.below B3.out).facts; have j4 := (B3.out.cell (p := ⟨rb, ro + p, none⟩) hrb.1).trans q0; clear hb3 ha3))
            have SH := Lib.hid (Ref.shorter_below m l TA1 (some ⟨lb, lo, none⟩) tc1 lc y1.heap.size (by have := MLX.out; simp only [maxLen]; omega) (by simp only [maxLen]; omega) y1 (HA3.out.keep fun b hb => ⟨hb.2, fun _ => rfl⟩).at_ ((LB2.out.below (B3.out.mono (Nat.le_of_lt CE.out))).more (by have := B3.out.size; have := CE.out; omega)))
            generalize lessL m l = q at *
            clear j0 j1 j2 j3 j4 k0 k1 k2 k3 q0 CM
            go_wp2_with fail
            ((with_reducible refine SH.out.mono ?_))
            rintro e y2 ⟨rfl, hb4⟩
            have B4 := Lib.hid (below_trans B3.out hb4)
            have HA4 := Lib.hid (show AtP y2 (fun b => wr.heap.size ≤ b ∧ b < y2.heap.size) TA1 m from HA3.out.keep fun b hb => ⟨⟨hb.1, Nat.lt_of_lt_of_le hb.2 hb4.size⟩, fun o => hb4.cell (p := ⟨b, o, none⟩) hb.2⟩)
            clear hb4 SH
            cases q
            · rw [if_neg (by decide)] at KE
              have OZ5 := Lib.hid (ho2.out.below B4.out)
              have BZ5 := Lib.hid (below_trans hb2.out B4.out)
              have RZ5 := Lib.hid (rows_below hr2.out B4.out)
              have EZ := Lib.hid (show z2 = z ++ (tr.take (p + 1)).flatMap (keptL t l) ∧ z2.length ≤ 4 * j + (p + 1) from ⟨by rw [TF.out, KE.out, List.append_nil]; exact hz2.out.1, by have := hz2.out.2; omega⟩)
              go_wp2_with fail
              go_roundw
              case rel => exact ⟨p + 1, A2, c2, z2, by omega, by go_num, rfl, EZ.out, OZ5.out, BZ5.out, RZ5.out⟩
              case measure => simp [intOf]; omega
            · rw [if_pos rfl] at KE
              have NB := Lib.hid (bel1 y2 (.cells #[.slice TA1 m.length tc1] 25))
              have NH := Lib.hid (new_obj y2 (.cells #[.slice TA1 m.length tc1] 25))
              have BN := Lib.hid (below_trans B4.out NB.out)
              have ON := Lib.hid (ho2.out.below BN.out)
              have RN := Lib.hid (rows_below hr2.out BN.out)
              have AG2 := Lib.hid ho2.out.ge
              have WS := Lib.hid hb2.out.size
              have RO := Lib.hid (show RowsW (y2.alloc (.cells #[.slice TA1 m.length tc1] 25)) (fun _ => True) (fun b => W0.heap.size ≤ b ∧ b < (y2.alloc (.cells #[.slice TA1 m.length tc1] 25)).heap.size ∧ rowOf A2 ≠ some b) (some ⟨y2.heap.size, 0, none⟩) [m] from
                rowsw_one NH.out (HA4.out.keep fun k hk => ⟨⟨by have := WS.out; have := hk.1; omega, by have := hk.2; simp; omega, fun e => by have := (AG2.out k e).2; have := hk.1; omega⟩, fun o => World.cell?_alloc_lt _ _ ⟨k, o, none⟩ hk.2⟩))
              have BS := Lib.hid (show W0.heap.size ≤ (y2.alloc (.cells #[.slice TA1 m.length tc1] 25)).heap.size by have := WS.out; have := B4.out.size; simp; omega)
              have ZS := Lib.hid (show z2.length + [m].length ≤ 4398046511104 by have := hz2.out.2; simp; omega)
              go_wp2_with (at_builtin; refine wpList_append_rowsw rfl (.tmp 70) (.tmp 72) rfl W0.heap.size c2 A2 z2 ON.out (some ⟨y2.heap.size, 0, none⟩) 1 [m] RO.out rfl rfl ZS.out BS.out ?_; intro A5 c5 w5 z5 hz5 own5 g5 r5; have O5 := Lib.hid own5; have B5 := Lib.hid ((below_trans hb2.out BN.out).grown g5 BS.out (fun g hg => (AG2.out g hg).1)); have R5 := Lib.hid (rows_grow RN.out g5 r5); clear own5 g5 r5)
              have EZ := Lib.hid (show z5 = z ++ (tr.take (p + 1)).flatMap (keptL t l) ∧ z5.length ≤ 4 * j + (p + 1) from ⟨by rw [hz5.out, TF.out, KE.out, hz2.out.1, List.append_assoc], by rw [hz5.out]; have := hz2.out.2; simp; omega⟩)
              go_wp2_with fail
              go_roundw
              case rel => exact ⟨p + 1, A5, c5, z5, by omega, by go_num, rfl, EZ.out, O5.out, B5.out, R5.out⟩
              case measure => simp [intOf]; omega
          · have EV := Lib.hid (show z2 = lessTo t l (j + 1) by rw [TRL.out.2.2, hz2.out.1, hz.out, List.take_of_length_le (by omega)])
            go_wp2_with fail
            go_roundg (l.length - (j + 1))
            case measure => omega
            case rel => exact ⟨j + 1, A2, c2, z2, by omega, rfl, by go_num, rfl, EV.out, ho2.out, hb2.out⟩
    · have EV := Lib.hid (show z = roseL t l by rw [hz.out, show j = l.length by omega]; rfl)
      have RR := Lib.hid (show RowsWAt wr wr.heap.size A z from ho.out.at_)
      go_wp2_with fail
      go_ret
      exact ⟨A, c, (by rw [← EV.out]; rfl), (by rw [← EV.out]; exact RR.out), below_trans B0.out hbb.out⟩
end Go.Proofs.YtplladlodgfloaaDoor.Gens
