/- TopFails, part 31 of the proof: The program's Replay. Conditions: the sizes. -/
import Derived.Test.YtabkihellcflhaaGreatDoorTopFailsZ18
import Derived.Test.YtabkihellcflhaaGreatDoorTopFailsZ15
import Derived.Test.YtabkihellcflhaaGreatDoorTopFailsZ30
import Derived.Test.YtabkihellcflhaaGreatDoorTopFailsZ19
/- The program's Replay. Conditions: the sizes. -/
namespace Go.Proofs.YtabkihellcflhaaGreatDoor.Gens
open Go.RowKit Lists Ints Vals
set_option linter.unusedVariables false

/-- the box of an error -/
def EB (p : Nat) (x : Value) (w : World) : Prop := w.heap[p]? = some (.cells #[x] 37 (0, 0))
theorem EB.cell {p : Nat} {x : Value} {w : World} (h : EB p x w) : w.cell? ⟨p, 0, none⟩ = some x := by rw [Lib.cell_of_heap h]; rfl
theorem EB.free {p : Nat} {x : Value} {w : World} (h : EB p x w) : w.frozen? ⟨p, 0, none⟩ = false := Lib.frozen_of_heap h 0
theorem EB.lt {p : Nat} {x : Value} {w : World} (h : EB p x w) : p < w.heap.size := (Array.getElem?_eq_some_iff.1 h).1
theorem EB.put {p : Nat} {x : Value} {w : World} (h : EB p x w) (y : Value) : EB p y (w.setCell ⟨p, 0, none⟩ y) := by
  unfold EB at h ⊢
  simp [World.setCell, Array.getElem?_modify, h]
/-- what Replay hands back -/
def RpOut (n : Nat) (r : Except Int Tr) (w : World) (e : Ending) (w' : World) : Prop :=
  ∃ (A : Option Addr) (c : Nat), e = .returned (.tuple #[tval (trOf r) A c, errOf (errI r)]) ∧ TAt w' (fun b => w.heap.size ≤ b ∧ b < w'.heap.size) n (tval (trOf r) A c) (trOf r) ∧ NFr A w' ∧ Below w.heap.size w w'
/-- the four boxes at its start -/
theorem four_boxes (w : World) (x0 x1 x2 x3 : Value) (L : Option Addr) (n c : Nat) :
    let W := (((w.alloc (.cells #[x0, x1, x2, x3] 24)).alloc (.cells #[.slice L n c] 32)).alloc (.cells #[.bool false, .int .i64 0, .slice none 0 0] 47)).alloc (.cells #[.nilIface] 37)
    G4 w.heap.size x0 x1 x2 x3 W ∧ LB (w.heap.size + 1) L n c W ∧ V3 (w.heap.size + 1 + 1) (.bool false) (.int .i64 0) (.slice none 0 0) W ∧ EB (w.heap.size + 1 + 1 + 1) .nilIface W ∧ Below w.heap.size w W ∧ W.heap.size = w.heap.size + 4 := by
  intro W
  have z1 : (w.alloc (.cells #[x0, x1, x2, x3] 24)).heap.size = w.heap.size + 1 := by simp
  have z2 : ((w.alloc (.cells #[x0, x1, x2, x3] 24)).alloc (.cells #[.slice L n c] 32)).heap.size = w.heap.size + 1 + 1 := by simp
  have z3 : (((w.alloc (.cells #[x0, x1, x2, x3] 24)).alloc (.cells #[.slice L n c] 32)).alloc (.cells #[.bool false, .int .i64 0, .slice none 0 0] 47)).heap.size = w.heap.size + 1 + 1 + 1 := by simp
  have n1 := new_obj w (.cells #[x0, x1, x2, x3] 24)
  have n2 := new_obj (w.alloc (.cells #[x0, x1, x2, x3] 24)) (.cells #[.slice L n c] 32)
  have n3 := new_obj ((w.alloc (.cells #[x0, x1, x2, x3] 24)).alloc (.cells #[.slice L n c] 32)) (.cells #[.bool false, .int .i64 0, .slice none 0 0] 47)
  have n4 := new_obj (((w.alloc (.cells #[x0, x1, x2, x3] 24)).alloc (.cells #[.slice L n c] 32)).alloc (.cells #[.bool false, .int .i64 0, .slice none 0 0] 47)) (.cells #[.nilIface] 37)
  rw [z1] at n2
  rw [z2] at n3
  rw [z3] at n4
  refine ⟨?_, ?_, ?_, n4, ?_, by show (World.alloc _ _).heap.size = _; simp⟩
  · exact (Below.heap_alloc _ _ _ (by omega)).trans ((Below.heap_alloc _ _ _ (by omega)).trans ((Below.heap_alloc _ _ _ (by omega)).trans n1))
  · exact (Below.heap_alloc _ _ _ (by omega)).trans ((Below.heap_alloc _ _ _ (by omega)).trans n2)
  · exact (Below.heap_alloc _ _ _ (by omega)).trans n3
  · exact ((((Below.refl _ _).alloc (Nat.le_refl _) _).alloc (by omega) _).alloc (by omega) _).alloc (by omega) _

theorem zero_tree {w : World} {S : Nat → Prop} {m : Nat} : TAt w S (m + 1) (tval (.node false 0 []) none 0) (.node false 0 []) := ⟨by decide, none, 0, rfl, fun hp => by simp [Tr.items] at hp⟩
theorem EB.other {p : Nat} {x : Value} {w : World} (h : EB p x w) {c : Nat} (hn : p ≠ c) (o : Nat) (v : Value) : EB p x (w.setCell ⟨c, o, none⟩ v) := (Below.heap_setCell w ⟨c, o, none⟩ v p hn).trans h
/-- three stores into one box -/
theorem three_put (w : World) {rb : Nat} {a0 a1 a2 : Value} (hv : V3 rb a0 a1 a2 w) (y0 y1 y2 : Value) (W : World) (hW : W = ((w.setCell ⟨rb, 0, none⟩ y0).setCell ⟨rb, 1, none⟩ y1).setCell ⟨rb, 2, none⟩ y2) :
    V3 rb y0 y1 y2 W ∧ (∀ b, b ≠ rb → W.heap[b]? = w.heap[b]?) ∧ W.heap.size = w.heap.size ∧ (∀ B, B ≤ rb → Below B w W) ∧ ∀ A, NFr A w → NFr A W := by
  subst hW
  refine ⟨hv.put y0 y1 y2, fun b h => ?_, by simp [World.setCell], fun B h => ?_, fun A h => NFr.set (NFr.set (NFr.set h))⟩
  · exact (Below.heap_setCell _ ⟨rb, 2, none⟩ _ b h).trans ((Below.heap_setCell _ ⟨rb, 1, none⟩ _ b h).trans (Below.heap_setCell _ ⟨rb, 0, none⟩ _ b h))
  · exact Below.setCell (p := ⟨rb, 2, none⟩) (Below.setCell (p := ⟨rb, 1, none⟩) (Below.setCell (p := ⟨rb, 0, none⟩) (Below.refl _ _) h _) h _) h _
/-- the seven stores at its end -/
theorem seven (w1 : World) {rb eb : Nat} {a0 a1 a2 e : Value} (hv : V3 rb a0 a1 a2 w1) (he : EB eb e w1) (hne : rb ≠ eb) (x0 x1 x2 y0 y1 y2 z : Value) (W : World)
    (hW : W = ((((((w1.setCell ⟨rb, 0, none⟩ x0).setCell ⟨rb, 1, none⟩ x1).setCell ⟨rb, 2, none⟩ x2).setCell ⟨rb, 0, none⟩ y0).setCell ⟨rb, 1, none⟩ y1).setCell ⟨rb, 2, none⟩ y2).setCell ⟨eb, 0, none⟩ z) :
    V3 rb y0 y1 y2 W ∧ EB eb z W ∧ (∀ b, b ≠ rb → b ≠ eb → W.heap[b]? = w1.heap[b]?) ∧ W.heap.size = w1.heap.size ∧ (∀ B, B ≤ rb → B ≤ eb → Below B w1 W) ∧ ∀ A, NFr A w1 → NFr A W := by
  obtain ⟨v2, k2, s2, b2, n2⟩ := three_put w1 hv x0 x1 x2 _ rfl
  generalize ((w1.setCell ⟨rb, 0, none⟩ x0).setCell ⟨rb, 1, none⟩ x1).setCell ⟨rb, 2, none⟩ x2 = w2 at *
  obtain ⟨v3, k3, s3, b3, n3⟩ := three_put w2 v2 y0 y1 y2 _ rfl
  generalize ((w2.setCell ⟨rb, 0, none⟩ y0).setCell ⟨rb, 1, none⟩ y1).setCell ⟨rb, 2, none⟩ y2 = w3 at *
  have e3 : EB eb e w3 := ((k3 eb hne.symm).trans (k2 eb hne.symm)).trans he
  subst hW
  exact ⟨v3.other hne 0 z, e3.put z, fun b h1 h2 => (Below.heap_setCell w3 ⟨eb, 0, none⟩ z b h2).trans ((k3 b h1).trans (k2 b h1)), by simp [World.setCell]; omega, fun B h1 h2 => ((b2 B h1).trans (b3 B h1)).setCell (p := ⟨eb, 0, none⟩) h2 z, fun A h => NFr.set (n3 A (n2 A h))⟩

set_option maxHeartbeats 2000000 in
set_option maxRecDepth 100000 in
theorem replay_ok {n : Nat} {g : Gn} {A : Option Addr} {c : Nat} {L : Option Addr} {l : List Int} {lc : Nat} (w : World) (hg : GAt w (GBel w.heap.size) n (gv g A c) g) (hr : Right g) (hsz : g.size ≤ 30) (hat : At w w.heap.size L l) (hcap : l.length ≤ lc) (hl : l.length ≤ 4294967296) :
    Calls Tryz.prog 38 #[gv g A c, .slice L l.length lc] w (RpOut n (repG g l) w) := by
  obtain ⟨m, hnm⟩ : ∃ m, n = m + 1 := by obtain ⟨m, _, _, h, _⟩ := hg.open_; exact ⟨m, h⟩
  have HNM := Lib.hid hnm
  clear hnm
  have FB := four_boxes w (.int .i64 g.kind) (.int .i64 g.a) (.int .i64 g.b) (.slice A g.subs.length c) L l.length lc
  have IS : IL w.heap.size (w.heap.size + 1) l (fun b => b = w.heap.size + 1) _ := ⟨fun b => Iff.rfl, by omega, hl, FB.2.2.2.2.1.size, L, lc, FB.2.1, hat.below FB.2.2.2.2.1, hcap⟩
  have HG := hg.below FB.2.2.2.2.1
  have HC := value_ok (src_read w.heap.size (w.heap.size + 1)) n g (gv g A c) l _ _ HG hr hsz IS (by intro h; rcases play_err g l _ h with h | h <;> omega)
  have RG := Lib.hid (show repG g l = match play readC g l with | .ok (_, v, r) => if r = [] then .ok v else .error 3 | .error e => .error e from rfl)
  have ER := Lib.hid (fun er (h : play readC g l = .error er) => play_err g l er h)
  have HB := Lib.hid FB
  clear hg hr hsz hat hcap hl FB IS HG
  generalize play readC g l = q at HC RG ER
  have HC := Lib.hid HC
  have hmf : ∀ (fn : Fn) (first cap : Array Value) (w : World), (Instr.makeFunc fn first cap).run Tryz.prog w = .ok (.func fn first cap) w := fun _ _ _ _ => rfl
  go_enter_defers Tryz.func38, Tryz.ntmps38
  go_wp2_with fail
  generalize (((w.alloc (.cells #[.int .i64 g.kind, .int .i64 g.a, .int .i64 g.b, .slice A g.subs.length c] 24)).alloc (.cells #[.slice L l.length lc] 32)).alloc (.cells #[.bool false, .int .i64 0, .slice none 0 0] 47)).alloc (.cells #[.nilIface] 37) = W at *
  refine HC.out.mono ?_
  intro e w1 hs
  have hX : ∀ q, q ≠ w.heap.size + 1 → ¬ (fun b => b = w.heap.size + 1) q := fun q h => h
  rcases hs.split with ⟨er, X', hc, rfl, hm1⟩ | ⟨cs, t, s', A1, c1, X1, hc, rfl, hi1, hm1, ht1, hn1⟩
  · have E1 := Lib.hid (show EB (w.heap.size + 1 + 1 + 1) .nilIface w1 from (hm1.block _ HB.out.2.2.2.1.lt (hX _ (by omega))).trans HB.out.2.2.2.1)
    have V1 := Lib.hid (V3.mv HB.out.2.2.1 hm1 (hX _ (by omega)))
    have B1 := Lib.hid (HB.out.2.2.2.2.1.trans (Mv.below hm1 (fun b hb => by show w.heap.size ≤ b; have : b = w.heap.size + 1 := hb; omega) (by have := HB.out.2.2.2.2.2; omega)))
    have hne : er ≠ 0 := by rcases ER.out er hc with h | h <;> omega
    have RG := Lib.hid (show repG g l = .error er by rw [RG.out, hc])
    clear hs hc hm1 HC
    refine leaves_cons (f := 66) (args := #[.pointer (some ⟨w.heap.size + 1 + 1 + 1, 0, none⟩)]) (by simp) (by simp [go_sem]) ?_
    refine (catch_panic ⟨w.heap.size + 1 + 1 + 1, 0, none⟩ .nilIface [] w1 E1.out.cell E1.out.free er).mono ?_
    rintro e u' w2 ⟨rfl, rfl, rfl⟩
    have E2 := E1.out.put (.iface 29 (.int .i64 er))
    have V2 := V1.out.other (c := w.heap.size + 1 + 1 + 1) (by omega) 0 (.iface 29 (.int .i64 er))
    have B2 := Lib.hid (B1.out.setCell (p := ⟨w.heap.size + 1 + 1 + 1, 0, none⟩) (show w.heap.size ≤ w.heap.size + 1 + 1 + 1 by omega) (.iface 29 (.int .i64 er)))
    generalize w1.setCell ⟨w.heap.size + 1 + 1 + 1, 0, none⟩ (.iface 29 (.int .i64 er)) = W2 at E2 V2 B2 ⊢
    have e2 := E2.cell
    obtain ⟨z0, z1, z2, _⟩ := V2.facts
    refine ⟨.tuple #[.agg #[.bool false, .int .i64 0, .slice none 0 0], .iface 29 (.int .i64 er)], by simp [results, Tryz.results38, go_sem, z0, z1, z2, e2], ?_⟩
    rw [RG.out]
    refine ⟨none, 0, ?_, ?_, NFr.none_ _, B2.out⟩
    · show Ending.returned _ = Ending.returned (.tuple #[tval (.node false 0 []) none 0, errOf er])
      rw [errOf_no hne]
      rfl
    · rw [HNM.out]; exact zero_tree
  · obtain ⟨hXl, _, _, _, L1, lc1, hl1, _, _⟩ := hi1
    have p0 := hl1.cell
    have E1 := Lib.hid (show EB (w.heap.size + 1 + 1 + 1) .nilIface w1 from (hm1.block _ HB.out.2.2.2.1.lt (hX _ (by omega))).trans HB.out.2.2.2.1)
    have V1 := Lib.hid (V3.mv HB.out.2.2.1 hm1 (hX _ (by omega)))
    have B1 := Lib.hid (HB.out.2.2.2.2.1.trans (Mv.below hm1 (fun b hb => by show w.heap.size ≤ b; have : b = w.heap.size + 1 := hb; omega) (by have := HB.out.2.2.2.2.2; omega)))
    have RG := Lib.hid (show repG g l = if s' = [] then .ok t else .error 3 by rw [RG.out, hc])
    have HT := Lib.hid (And.intro ht1 hn1)
    have hXl := Lib.hid hXl
    obtain ⟨z0, z1, z2, y0, y1, y2⟩ := V1.out.facts
    have x0 := E1.out.cell
    have x1 := E1.out.free
    clear hs hc hm1 HC hl1 ht1 hn1
    have HS := Lib.hid (fun y0 y1 y2 z W h => seven w1 V1.out E1.out (show w.heap.size + 1 + 1 ≠ w.heap.size + 1 + 1 + 1 by omega) (.bool t.list) (.int .i64 t.num) (.slice A1 t.items.length c1) y0 y1 y2 z W h)
    by_cases hs' : s' = []
    · have RG := Lib.hid (show repG g l = .ok t by rw [RG.out, if_pos hs'])
      subst hs'
      go_wp2_with fail
      have S9 := HS.out (.bool t.list) (.int .i64 t.num) (.slice A1 t.items.length c1) .nilIface _ rfl
      clear HS z0 z1 z2 y0 y1 y2 x0 x1 p0
      generalize ((((((w1.setCell ⟨w.heap.size + 1 + 1, 0, none⟩ (.bool t.list)).setCell ⟨w.heap.size + 1 + 1, 1, none⟩ (.int .i64 t.num)).setCell ⟨w.heap.size + 1 + 1, 2, none⟩ (.slice A1 t.items.length c1)).setCell ⟨w.heap.size + 1 + 1, 0, none⟩ (.bool t.list)).setCell ⟨w.heap.size + 1 + 1, 1, none⟩ (.int .i64 t.num)).setCell ⟨w.heap.size + 1 + 1, 2, none⟩ (.slice A1 t.items.length c1)).setCell ⟨w.heap.size + 1 + 1 + 1, 0, none⟩ .nilIface = W9 at S9 ⊢
      refine leaves_cons (f := 66) (args := #[.pointer (some ⟨w.heap.size + 1 + 1 + 1, 0, none⟩)]) (by simp) (by simp [go_sem]) ?_
      refine (catch_idle ⟨w.heap.size + 1 + 1 + 1, 0, none⟩ W9).mono ?_
      rintro e u' w2 ⟨rfl, rfl, rfl⟩
      obtain ⟨v9, e9, k9, z9, b9, n9⟩ := S9
      have e2 := e9.cell
      obtain ⟨z0, z1, z2, _⟩ := v9.facts
      have hz := HB.out.2.2.2.2.2
      refine ⟨.tuple #[tval t A1 c1, .nilIface], by simp [results, Tryz.results38, go_sem, z0, z1, z2, e2], ?_⟩
      rw [RG.out]
      exact ⟨A1, c1, rfl, HT.out.1.keep fun b ⟨h1, h2, _⟩ => ⟨⟨by omega, by omega⟩, fun o => World.cell?_of_block (k9 b (by omega) (by omega))⟩, n9 _ HT.out.2, B1.out.trans (b9 _ (by omega) (by omega))⟩
    · have RG := Lib.hid (show repG g l = .error 3 by rw [RG.out, if_neg hs'])
      have hp : decide (0 < (s'.length : Int)) = true := by rw [decide_eq_true_eq]; have := List.length_pos_iff.2 hs'; omega
      have hp2 : decide (0 < s'.length) = true := by rw [decide_eq_true_eq]; exact List.length_pos_iff.2 hs'
      go_wp2_with fail
      have S9 := HS.out (.bool false) (.int .i64 0) (.slice none 0 0) (.iface 29 (.int .i64 3)) _ rfl
      clear HS z0 z1 z2 y0 y1 y2 x0 x1 p0
      generalize ((((((w1.setCell ⟨w.heap.size + 1 + 1, 0, none⟩ (.bool t.list)).setCell ⟨w.heap.size + 1 + 1, 1, none⟩ (.int .i64 t.num)).setCell ⟨w.heap.size + 1 + 1, 2, none⟩ (.slice A1 t.items.length c1)).setCell ⟨w.heap.size + 1 + 1, 0, none⟩ (.bool false)).setCell ⟨w.heap.size + 1 + 1, 1, none⟩ (.int .i64 0)).setCell ⟨w.heap.size + 1 + 1, 2, none⟩ (.slice none 0 0)).setCell ⟨w.heap.size + 1 + 1 + 1, 0, none⟩ (.iface 29 (.int .i64 3)) = W9 at S9 ⊢
      refine leaves_cons (f := 66) (args := #[.pointer (some ⟨w.heap.size + 1 + 1 + 1, 0, none⟩)]) (by simp) (by simp [go_sem]) ?_
      refine (catch_idle ⟨w.heap.size + 1 + 1 + 1, 0, none⟩ W9).mono ?_
      rintro e u' w2 ⟨rfl, rfl, rfl⟩
      obtain ⟨v9, e9, k9, z9, b9, n9⟩ := S9
      have e2 := e9.cell
      obtain ⟨z0, z1, z2, _⟩ := v9.facts
      refine ⟨.tuple #[.agg #[.bool false, .int .i64 0, .slice none 0 0], .iface 29 (.int .i64 3)], by simp [results, Tryz.results38, go_sem, z0, z1, z2, e2], ?_⟩
      rw [RG.out]
      exact ⟨none, 0, rfl, by rw [HNM.out]; exact zero_tree, NFr.none_ _, B1.out.trans (b9 _ (by omega) (by omega))⟩

/-- the two boxes at Replay's start -/
theorem two_boxes2 (w : World) (x0 x1 x2 x3 y0 y1 y2 : Value) : G4 w.heap.size x0 x1 x2 x3 ((w.alloc (.cells #[x0, x1, x2, x3] 24)).alloc (.cells #[y0, y1, y2] 47)) ∧
    V3 (w.heap.size + 1) y0 y1 y2 ((w.alloc (.cells #[x0, x1, x2, x3] 24)).alloc (.cells #[y0, y1, y2] 47)) ∧
    Below w.heap.size w ((w.alloc (.cells #[x0, x1, x2, x3] 24)).alloc (.cells #[y0, y1, y2] 47)) ∧
    ((w.alloc (.cells #[x0, x1, x2, x3] 24)).alloc (.cells #[y0, y1, y2] 47)).heap.size = w.heap.size + 2 := two_boxes w x0 x1 x2 x3 y0 y1 y2
/-- the result's store -/
theorem RpOut.lay {n : Nat} {r : Except Int Tr} {w w2 w3 W : World} {A : Option Addr} {c rb : Nat} {y0 y1 y2 : Value} {e : Ending} (he : e = .returned (.tuple #[tval (trOf r) A c, errOf (errI r)])) (ht : TAt w3 (fun b => w2.heap.size ≤ b ∧ b < w3.heap.size) n (tval (trOf r) A c) (trOf r)) (hn : NFr A w3) (hb : Below w.heap.size w w3) (hs : rb < w2.heap.size) (hlo : w.heap.size ≤ rb)
    (hv : V3 rb y0 y1 y2 w3) (z0 z1 z2 : Value) (hW : W = ((w3.setCell ⟨rb, 0, none⟩ z0).setCell ⟨rb, 1, none⟩ z1).setCell ⟨rb, 2, none⟩ z2) : V3 rb z0 z1 z2 W ∧ RpOut n r w e W := by
  obtain ⟨v9, k9, s9, b9, n9⟩ := three_put w3 hv z0 z1 z2 W hW
  exact ⟨v9, A, c, he, ht.keep fun b ⟨h1, h2⟩ => ⟨⟨by omega, by omega⟩, fun o => World.cell?_of_block (k9 b (by omega))⟩, n9 _ hn, hb.trans (b9 _ hlo)⟩

set_option maxHeartbeats 2000000 in
set_option maxRecDepth 100000 in
theorem replay_prog {n : Nat} {g : Gn} {v : Value} {L : Option Addr} {l : List Int} {lc : Nat} (w : World) (h : GAt w (GBel w.heap.size) n v g) (hat : At w w.heap.size L l) (hcap : l.length ≤ lc) (hl : l.length ≤ 4294967296) (hsz : g.size ≤ 4294967296) :
    Calls Tryz.prog 14 #[v, .slice L l.length lc] w (RpOut n (repV g l) w) := by
  obtain ⟨m, A, c, hnm, hv⟩ : ∃ m A c, n = m + 1 ∧ v = gv g A c := by obtain ⟨m, A, c, e, _, hv, _⟩ := h.open_; exact ⟨m, A, c, e, hv⟩
  subst hv
  have FB := two_boxes w (.int .i64 g.kind) (.int .i64 g.a) (.int .i64 g.b) (.slice A g.subs.length c) (.bool false) (.int .i64 0) (.slice none 0 0)
  have C1 := gcheck _ (h.below FB.2.2.1) FB.2.2.1.size hsz
  have HT := Lib.hid (And.intro h (And.intro hat (And.intro hcap hl)))
  have HB := Lib.hid FB
  have HNM := Lib.hid hnm
  clear h hat hcap hl hsz FB hnm
  by_cases hz : genV g = 0
  · have HR := Lib.hid (And.intro (gen_right hz).1 (small30 hz))
    have RV := Lib.hid (show repV g l = repG g l by unfold repV; rw [if_pos hz])
    rw [hz, errOf_ok] at C1
    have C1 := Lib.hid C1
    clear hz
    go_enter Tryz.func14, Tryz.ntmps14
    go_wp2_with fail
    generalize (w.alloc (.cells #[.int .i64 g.kind, .int .i64 g.a, .int .i64 g.b, .slice A g.subs.length c] 24)).alloc (.cells #[.bool false, .int .i64 0, .slice none 0 0] 47) = W at *
    refine C1.out.mono ?_
    rintro e w2 ⟨rfl, hb2⟩
    have B2 := Lib.hid (below_trans HB.out.2.2.1 hb2)
    obtain ⟨k0, k1, k2, k3⟩ := (HB.out.1.below hb2).facts
    have V2 := Lib.hid (HB.out.2.1.below hb2)
    have C2 := Lib.hid (replay_ok w2 ((HT.out.1.below B2.out).more B2.out.size) HR.out.1 HR.out.2 ((HT.out.2.1.below B2.out).more B2.out.size) HT.out.2.2.1 HT.out.2.2.2)
    clear hb2 C1
    go_wp2_with fail
    refine C2.out.mono ?_
    rintro e w3 ⟨A3, c3, rfl, ht3, hn3, hb3⟩
    have V3' := Lib.hid (V2.out.below hb3)
    obtain ⟨z0, z1, z2, y0, y1, y2⟩ := V3'.out.facts
    have HL := Lib.hid (fun z0 z1 z2 (W : World) h => RpOut.lay (W := W) (e := .returned (.tuple #[tval (trOf (repG g l)) A3 c3, errOf (errI (repG g l))])) rfl ht3 hn3 (below_trans B2.out hb3) V2.out.lt (by omega) V3'.out z0 z1 z2 h)
    obtain ⟨r, hrr⟩ : ∃ r, r = repG g l := ⟨_, rfl⟩
    have RV := Lib.hid (RV.out.trans hrr.symm)
    rw [← hrr] at HL ⊢
    clear ht3 hn3 hb3 C2 hrr
    go_wp2_with fail
    have HL := HL.out (.bool (trOf r).list) (.int .i64 (trOf r).num) (.slice A3 (trOf r).items.length c3) _ rfl
    generalize ((w3.setCell ⟨w.heap.size + 1, 0, none⟩ (.bool (trOf r).list)).setCell ⟨w.heap.size + 1, 1, none⟩ (.int .i64 (trOf r).num)).setCell ⟨w.heap.size + 1, 2, none⟩ (.slice A3 (trOf r).items.length c3) = W9 at HL ⊢
    obtain ⟨f0, f1, f2, _⟩ := HL.1.facts
    refine bodyPost_ret (v := .tuple #[tval (trOf r) A3 c3, errOf (errI r)]) (by simp [results, Tryz.results14, go_sem, f0, f1, f2]) rfl ?_
    rw [RV.out]
    exact HL.2
  · have RE := Lib.hid (errOf_no hz)
    have RV := Lib.hid (show repV g l = .error (genV g) by unfold repV; rw [if_neg hz])
    rw [errOf_no hz] at C1
    generalize genV g = q at C1 RE RV
    have C1 := Lib.hid C1
    clear hz
    go_enter Tryz.func14, Tryz.ntmps14
    go_wp2_with fail
    generalize (w.alloc (.cells #[.int .i64 g.kind, .int .i64 g.a, .int .i64 g.b, .slice A g.subs.length c] 24)).alloc (.cells #[.bool false, .int .i64 0, .slice none 0 0] 47) = W at *
    refine C1.out.mono ?_
    rintro e w3 ⟨rfl, hb2⟩
    have B2 := Lib.hid (below_trans HB.out.2.2.1 hb2)
    have V3' := Lib.hid (HB.out.2.1.below hb2)
    obtain ⟨z0, z1, z2, y0, y1, y2⟩ := V3'.out.facts
    have HL := Lib.hid (fun z0 z1 z2 (W : World) h => RpOut.lay (W := W) (n := n) (r := .error q) (A := none) (c := 0) (w2 := w3) (e := .returned (.tuple #[tval (trOf (.error q)) none 0, errOf (errI (.error q))])) rfl (by rw [HNM.out]; exact zero_tree) (NFr.none_ _) B2.out V3'.out.lt (by omega) V3'.out z0 z1 z2 h)
    clear hb2 C1
    go_wp2_with fail
    have HL := HL.out (.bool false) (.int .i64 0) (.slice none 0 0) _ rfl
    generalize ((w3.setCell ⟨w.heap.size + 1, 0, none⟩ (.bool false)).setCell ⟨w.heap.size + 1, 1, none⟩ (.int .i64 0)).setCell ⟨w.heap.size + 1, 2, none⟩ (.slice none 0 0) = W9 at HL ⊢
    obtain ⟨f0, f1, f2, _⟩ := HL.1.facts
    refine bodyPost_ret (v := .tuple #[tval (trOf (.error q)) none 0, errOf (errI (.error q))]) (by
      show _ = Result.ok (Value.tuple #[.agg #[.bool false, .int .i64 0, .slice none 0 0], errOf q]) _
      rw [RE.out]
      simp [results, Tryz.results14, go_sem, f0, f1, f2]) rfl ?_
    rw [RV.out]
    exact HL.2
end Go.Proofs.YtabkihellcflhaaGreatDoor.Gens
