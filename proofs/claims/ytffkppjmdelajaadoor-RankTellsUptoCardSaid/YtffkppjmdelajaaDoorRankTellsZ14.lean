/- RankTells, part 14 of the proof: The program's Replay. Conditions: the sizes. · The program's Count of a right generator. Condition: the size. · The statements' own 'just', 'coin' and 'made'. · The statements' own 'coin' and 'made'. · errors.As at the target '*api.Errno', and with it plain.Told: the number of a nil error is 0, of an Errno its own. After the guide's worked example for a pointer target. Condition: the library's variable errors.errorType holds the handle of the type 'error'. · What a row's list gives of the library's variable errors.errorType. · An item of a value, read at a later world. No program but the types. -/
import Derived.Test.YtffkppjmdelajaaDoorRankTellsZ13
import Derived.Test.YtffkppjmdelajaaDoorRankTellsZ12
import Derived.Test.YtffkppjmdelajaaDoorRankTellsZ11
import Derived.Test.YtffkppjmdelajaaDoorRankTellsZ4
import Derived.Lib.MinMax
import Derived.Test.YtffkppjmdelajaaDoorProg
import Derived.WalkKit
import Derived.LaidEql
import Derived.Stop.Asserts
import Derived.RowKitTokens
import Derived.Test.YtffkppjmdelajaaDoorRows
import Derived.LaidHandle
import Derived.Below
import Derived.Test.YtffkppjmdelajaaDoorRankTellsZ2
import Derived.Test.YtffkppjmdelajaaDoorRankTellsZ1
import Derived.Deep.QuietTactic
import Derived.Outline
/- The program's Replay. Conditions: the sizes. -/
namespace Go.Proofs.YtffkppjmdelajaaDoor.Gens
open Go.RowKit Lists Ints Vals
set_option linter.unusedVariables false

/-- the box of an error -/
def EB (p : Nat) (x : Value) (w : World) : Prop := w.heap[p]? = some (.cells #[x] 34 (0, 0))
theorem EB.cell {p : Nat} {x : Value} {w : World} (h : EB p x w) : w.cell? ⟨p, 0, none⟩ = some x := by rw [Lib.cell_of_heap h]; rfl
theorem EB.free {p : Nat} {x : Value} {w : World} (h : EB p x w) : w.frozen? ⟨p, 0, none⟩ = false := Lib.frozen_of_heap h 0
theorem EB.lt {p : Nat} {x : Value} {w : World} (h : EB p x w) : p < w.heap.size := (Array.getElem?_eq_some_iff.1 h).1
theorem EB.put {p : Nat} {x : Value} {w : World} (h : EB p x w) (y : Value) : EB p y (w.setCell ⟨p, 0, none⟩ y) := by
  unfold EB at h ⊢
  simp [World.setCell, Array.getElem?_modify, h]
/-- what Replay hands back -/
def RpOut (n : Nat) (r : Except Int Tr) (w : World) (e : Ending) (w' : World) : Prop :=
  ∃ (A : Option Addr) (c : Nat), e = .returned (.tuple #[tval (trOf r) A c, errOf (errI r)]) ∧ TAt w' (fun b => w.heap.size ≤ b ∧ b < w'.heap.size) n (tval (trOf r) A c) (trOf r) ∧ NFr A w' ∧ Below w.heap.size w w'
/-- the four boxes at its start -/
theorem four_boxes (w : World) (x0 x1 x2 x3 : Value) (L : Option Addr) (n c : Nat) :
    let W := (((w.alloc (.cells #[x0, x1, x2, x3] 24)).alloc (.cells #[.slice L n c] 25)).alloc (.cells #[.bool false, .int .i64 0, .slice none 0 0] 38)).alloc (.cells #[.nilIface] 34)
    G4 w.heap.size x0 x1 x2 x3 W ∧ LB (w.heap.size + 1) L n c W ∧ V3 (w.heap.size + 1 + 1) (.bool false) (.int .i64 0) (.slice none 0 0) W ∧ EB (w.heap.size + 1 + 1 + 1) .nilIface W ∧ Below w.heap.size w W ∧ W.heap.size = w.heap.size + 4 := by
  intro W
  have z1 : (w.alloc (.cells #[x0, x1, x2, x3] 24)).heap.size = w.heap.size + 1 := by simp
  have z2 : ((w.alloc (.cells #[x0, x1, x2, x3] 24)).alloc (.cells #[.slice L n c] 25)).heap.size = w.heap.size + 1 + 1 := by simp
  have z3 : (((w.alloc (.cells #[x0, x1, x2, x3] 24)).alloc (.cells #[.slice L n c] 25)).alloc (.cells #[.bool false, .int .i64 0, .slice none 0 0] 38)).heap.size = w.heap.size + 1 + 1 + 1 := by simp
  have n1 := new_obj w (.cells #[x0, x1, x2, x3] 24)
  have n2 := new_obj (w.alloc (.cells #[x0, x1, x2, x3] 24)) (.cells #[.slice L n c] 25)
  have n3 := new_obj ((w.alloc (.cells #[x0, x1, x2, x3] 24)).alloc (.cells #[.slice L n c] 25)) (.cells #[.bool false, .int .i64 0, .slice none 0 0] 38)
  have n4 := new_obj (((w.alloc (.cells #[x0, x1, x2, x3] 24)).alloc (.cells #[.slice L n c] 25)).alloc (.cells #[.bool false, .int .i64 0, .slice none 0 0] 38)) (.cells #[.nilIface] 34)
  rw [z1] at n2
  rw [z2] at n3
  rw [z3] at n4
  refine ⟨?_, ?_, ?_, n4, ?_, by show (World.alloc _ _).heap.size = _; simp⟩
  · exact (Below.heap_alloc _ _ _ (by omega)).trans ((Below.heap_alloc _ _ _ (by omega)).trans ((Below.heap_alloc _ _ _ (by omega)).trans n1))
  · exact (Below.heap_alloc _ _ _ (by omega)).trans ((Below.heap_alloc _ _ _ (by omega)).trans n2)
  · exact (Below.heap_alloc _ _ _ (by omega)).trans n3
  · exact ((((Below.refl _ _).alloc (Nat.le_refl _) _).alloc (by omega) _).alloc (by omega) _).alloc (by omega) _

theorem zero_tree {w : World} {S : Nat → Prop} {m : Nat} : TAt w S (m + 1) (tval (.node false 0 []) none 0) (.node false 0 []) := ⟨by decide, none, 0, rfl, fun hp => by simp [Tr.items] at hp⟩
theorem EB.other {p : Nat} {x : Value} {w : World} (h : EB p x w) {c : Nat} (hn : p ≠ c) (o : Nat) (v : Value) : EB p x (w.setCell ⟨c, o, none⟩ v) := (Below.heap_setCell w ⟨c, o, none⟩ v p hn).trans h
/-- three stores into one box -/
theorem three_put (w : World) {rb : Nat} {a0 a1 a2 : Value} (hv : V3 rb a0 a1 a2 w) (y0 y1 y2 : Value) (W : World) (hW : W = ((w.setCell ⟨rb, 0, none⟩ y0).setCell ⟨rb, 1, none⟩ y1).setCell ⟨rb, 2, none⟩ y2) :
    V3 rb y0 y1 y2 W ∧ (∀ b, b ≠ rb → W.heap[b]? = w.heap[b]?) ∧ W.heap.size = w.heap.size ∧ (∀ B, B ≤ rb → Below B w W) ∧ ∀ A, NFr A w → NFr A W := by
  subst hW
  refine ⟨hv.put y0 y1 y2, fun b h => ?_, by simp [World.setCell], fun B h => ?_, fun A h => NFr.set (NFr.set (NFr.set h))⟩
  · exact (Below.heap_setCell _ ⟨rb, 2, none⟩ _ b h).trans ((Below.heap_setCell _ ⟨rb, 1, none⟩ _ b h).trans (Below.heap_setCell _ ⟨rb, 0, none⟩ _ b h))
  · exact Below.setCell (p := ⟨rb, 2, none⟩) (Below.setCell (p := ⟨rb, 1, none⟩) (Below.setCell (p := ⟨rb, 0, none⟩) (Below.refl _ _) h _) h _) h _
/-- the seven stores at its end -/
theorem seven (w1 : World) {rb eb : Nat} {a0 a1 a2 e : Value} (hv : V3 rb a0 a1 a2 w1) (he : EB eb e w1) (hne : rb ≠ eb) (x0 x1 x2 y0 y1 y2 z : Value) (W : World)
    (hW : W = ((((((w1.setCell ⟨rb, 0, none⟩ x0).setCell ⟨rb, 1, none⟩ x1).setCell ⟨rb, 2, none⟩ x2).setCell ⟨rb, 0, none⟩ y0).setCell ⟨rb, 1, none⟩ y1).setCell ⟨rb, 2, none⟩ y2).setCell ⟨eb, 0, none⟩ z) :
    V3 rb y0 y1 y2 W ∧ EB eb z W ∧ (∀ b, b ≠ rb → b ≠ eb → W.heap[b]? = w1.heap[b]?) ∧ W.heap.size = w1.heap.size ∧ (∀ B, B ≤ rb → B ≤ eb → Below B w1 W) ∧ ∀ A, NFr A w1 → NFr A W := by
  obtain ⟨v2, k2, s2, b2, n2⟩ := three_put w1 hv x0 x1 x2 _ rfl
  generalize ((w1.setCell ⟨rb, 0, none⟩ x0).setCell ⟨rb, 1, none⟩ x1).setCell ⟨rb, 2, none⟩ x2 = w2 at *
  obtain ⟨v3, k3, s3, b3, n3⟩ := three_put w2 v2 y0 y1 y2 _ rfl
  generalize ((w2.setCell ⟨rb, 0, none⟩ y0).setCell ⟨rb, 1, none⟩ y1).setCell ⟨rb, 2, none⟩ y2 = w3 at *
  have e3 : EB eb e w3 := ((k3 eb hne.symm).trans (k2 eb hne.symm)).trans he
  subst hW
  exact ⟨v3.other hne 0 z, e3.put z, fun b h1 h2 => (Below.heap_setCell w3 ⟨eb, 0, none⟩ z b h2).trans ((k3 b h1).trans (k2 b h1)), by simp [World.setCell]; omega, fun B h1 h2 => ((b2 B h1).trans (b3 B h1)).setCell (p := ⟨eb, 0, none⟩) h2 z, fun A h => NFr.set (n3 A (n2 A h))⟩

set_option maxHeartbeats 2000000 in
set_option maxRecDepth 100000 in
theorem replay_ok {n : Nat} {g : Gn} {A : Option Addr} {c : Nat} {L : Option Addr} {l : List Int} {lc : Nat} (w : World) (hg : GAt w (GBel w.heap.size) n (gv g A c) g) (hr : Right g) (hsz : g.size ≤ 30) (hat : At w w.heap.size L l) (hcap : l.length ≤ lc) (hl : l.length ≤ 4294967296) :
    Calls Tryd.prog 52 #[gv g A c, .slice L l.length lc] w (RpOut n (repG g l) w) := by
  obtain ⟨m, hnm⟩ : ∃ m, n = m + 1 := by obtain ⟨m, _, _, h, _⟩ := hg.open_; exact ⟨m, h⟩
  have HNM := Lib.hid hnm
  clear hnm
  have FB := four_boxes w (.int .i64 g.kind) (.int .i64 g.a) (.int .i64 g.b) (.slice A g.subs.length c) L l.length lc
  have IS : IL w.heap.size (w.heap.size + 1) l (fun b => b = w.heap.size + 1) _ := ⟨fun b => Iff.rfl, by omega, hl, FB.2.2.2.2.1.size, L, lc, FB.2.1, hat.below FB.2.2.2.2.1, hcap⟩
  have HG := hg.below FB.2.2.2.2.1
  have HC := value_ok (src_read w.heap.size (w.heap.size + 1)) n g (gv g A c) l _ _ HG hr hsz IS (by intro h; rcases play_err g l _ h with h | h <;> omega)
  have RG := Lib.hid (show repG g l = match play readC g l with | .ok (_, v, r) => if r = [] then .ok v else .error 3 | .error e => .error e from rfl)
  have ER := Lib.hid (fun er (h : play readC g l = .error er) => play_err g l er h)
  have HB := Lib.hid FB
  clear hg hr hsz hat hcap hl FB IS HG
  generalize play readC g l = q at HC RG ER
  have HC := Lib.hid HC
  have hmf : ∀ (fn : Fn) (first cap : Array Value) (w : World), (Instr.makeFunc fn first cap).run Tryd.prog w = .ok (.func fn first cap) w := fun _ _ _ _ => rfl
  go_enter_defers Tryd.func52, Tryd.ntmps52
  go_wp2_with fail
  generalize (((w.alloc (.cells #[.int .i64 g.kind, .int .i64 g.a, .int .i64 g.b, .slice A g.subs.length c] 24)).alloc (.cells #[.slice L l.length lc] 25)).alloc (.cells #[.bool false, .int .i64 0, .slice none 0 0] 38)).alloc (.cells #[.nilIface] 34) = W at *
  refine HC.out.mono ?_
  intro e w1 hs
  have hX : ∀ q, q ≠ w.heap.size + 1 → ¬ (fun b => b = w.heap.size + 1) q := fun q h => h
  rcases hs.split with ⟨er, X', hc, rfl, hm1⟩ | ⟨cs, t, s', A1, c1, X1, hc, rfl, hi1, hm1, ht1, hn1⟩
  · have E1 := Lib.hid (show EB (w.heap.size + 1 + 1 + 1) .nilIface w1 from (hm1.block _ HB.out.2.2.2.1.lt (hX _ (by omega))).trans HB.out.2.2.2.1)
    have V1 := Lib.hid (V3.mv HB.out.2.2.1 hm1 (hX _ (by omega)))
    have B1 := Lib.hid (HB.out.2.2.2.2.1.trans (Mv.below hm1 (fun b hb => by show w.heap.size ≤ b; have : b = w.heap.size + 1 := hb; omega) (by have := HB.out.2.2.2.2.2; omega)))
    have hne : er ≠ 0 := by rcases ER.out er hc with h | h <;> omega
    have RG := Lib.hid (show repG g l = .error er by rw [RG.out, hc])
    clear hs hc hm1 HC
    refine leaves_cons (f := 74) (args := #[.pointer (some ⟨w.heap.size + 1 + 1 + 1, 0, none⟩)]) (by simp) (by simp [go_sem]) ?_
    refine (catch_panic ⟨w.heap.size + 1 + 1 + 1, 0, none⟩ .nilIface [] w1 E1.out.cell E1.out.free er).mono ?_
    rintro e u' w2 ⟨rfl, rfl, rfl⟩
    have E2 := E1.out.put (.iface 30 (.int .i64 er))
    have V2 := V1.out.other (c := w.heap.size + 1 + 1 + 1) (by omega) 0 (.iface 30 (.int .i64 er))
    have B2 := Lib.hid (B1.out.setCell (p := ⟨w.heap.size + 1 + 1 + 1, 0, none⟩) (show w.heap.size ≤ w.heap.size + 1 + 1 + 1 by omega) (.iface 30 (.int .i64 er)))
    generalize w1.setCell ⟨w.heap.size + 1 + 1 + 1, 0, none⟩ (.iface 30 (.int .i64 er)) = W2 at E2 V2 B2 ⊢
    have e2 := E2.cell
    obtain ⟨z0, z1, z2, _⟩ := V2.facts
    refine ⟨.tuple #[.agg #[.bool false, .int .i64 0, .slice none 0 0], .iface 30 (.int .i64 er)], by simp [results, Tryd.results52, go_sem, z0, z1, z2, e2], ?_⟩
    rw [RG.out]
    refine ⟨none, 0, ?_, ?_, NFr.none_ _, B2.out⟩
    · show Ending.returned _ = Ending.returned (.tuple #[tval (.node false 0 []) none 0, errOf er])
      rw [errOf_no hne]
      rfl
    · rw [HNM.out]; exact zero_tree
  · obtain ⟨hXl, _, _, _, L1, lc1, hl1, _, _⟩ := hi1
    have p0 := hl1.cell
    have E1 := Lib.hid (show EB (w.heap.size + 1 + 1 + 1) .nilIface w1 from (hm1.block _ HB.out.2.2.2.1.lt (hX _ (by omega))).trans HB.out.2.2.2.1)
    have V1 := Lib.hid (V3.mv HB.out.2.2.1 hm1 (hX _ (by omega)))
    have B1 := Lib.hid (HB.out.2.2.2.2.1.trans (Mv.below hm1 (fun b hb => by show w.heap.size ≤ b; have : b = w.heap.size + 1 := hb; omega) (by have := HB.out.2.2.2.2.2; omega)))
    have RG := Lib.hid (show repG g l = if s' = [] then .ok t else .error 3 by rw [RG.out, hc])
    have HT := Lib.hid (And.intro ht1 hn1)
    have hXl := Lib.hid hXl
    obtain ⟨z0, z1, z2, y0, y1, y2⟩ := V1.out.facts
    have x0 := E1.out.cell
    have x1 := E1.out.free
    clear hs hc hm1 HC hl1 ht1 hn1
    have HS := Lib.hid (fun y0 y1 y2 z W h => seven w1 V1.out E1.out (show w.heap.size + 1 + 1 ≠ w.heap.size + 1 + 1 + 1 by omega) (.bool t.list) (.int .i64 t.num) (.slice A1 t.items.length c1) y0 y1 y2 z W h)
    by_cases hs' : s' = []
    · have RG := Lib.hid (show repG g l = .ok t by rw [RG.out, if_pos hs'])
      subst hs'
      go_wp2_with fail
      have S9 := HS.out (.bool t.list) (.int .i64 t.num) (.slice A1 t.items.length c1) .nilIface _ rfl
      clear HS z0 z1 z2 y0 y1 y2 x0 x1 p0
      generalize ((((((w1.setCell ⟨w.heap.size + 1 + 1, 0, none⟩ (.bool t.list)).setCell ⟨w.heap.size + 1 + 1, 1, none⟩ (.int .i64 t.num)).setCell ⟨w.heap.size + 1 + 1, 2, none⟩ (.slice A1 t.items.length c1)).setCell ⟨w.heap.size + 1 + 1, 0, none⟩ (.bool t.list)).setCell ⟨w.heap.size + 1 + 1, 1, none⟩ (.int .i64 t.num)).setCell ⟨w.heap.size + 1 + 1, 2, none⟩ (.slice A1 t.items.length c1)).setCell ⟨w.heap.size + 1 + 1 + 1, 0, none⟩ .nilIface = W9 at S9 ⊢
      refine leaves_cons (f := 74) (args := #[.pointer (some ⟨w.heap.size + 1 + 1 + 1, 0, none⟩)]) (by simp) (by simp [go_sem]) ?_
      refine (catch_idle ⟨w.heap.size + 1 + 1 + 1, 0, none⟩ W9).mono ?_
      rintro e u' w2 ⟨rfl, rfl, rfl⟩
      obtain ⟨v9, e9, k9, z9, b9, n9⟩ := S9
      have e2 := e9.cell
      obtain ⟨z0, z1, z2, _⟩ := v9.facts
      have hz := HB.out.2.2.2.2.2
      refine ⟨.tuple #[tval t A1 c1, .nilIface], by simp [results, Tryd.results52, go_sem, z0, z1, z2, e2], ?_⟩
      rw [RG.out]
      exact ⟨A1, c1, rfl, HT.out.1.keep fun b ⟨h1, h2, _⟩ => ⟨⟨by omega, by omega⟩, fun o => World.cell?_of_block (k9 b (by omega) (by omega))⟩, n9 _ HT.out.2, B1.out.trans (b9 _ (by omega) (by omega))⟩
    · have RG := Lib.hid (show repG g l = .error 3 by rw [RG.out, if_neg hs'])
      have hp : decide (0 < (s'.length : Int)) = true := by rw [decide_eq_true_eq]; have := List.length_pos_iff.2 hs'; omega
      have hp2 : decide (0 < s'.length) = true := by rw [decide_eq_true_eq]; exact List.length_pos_iff.2 hs'
      go_wp2_with fail
      have S9 := HS.out (.bool false) (.int .i64 0) (.slice none 0 0) (.iface 30 (.int .i64 3)) _ rfl
      clear HS z0 z1 z2 y0 y1 y2 x0 x1 p0
      generalize ((((((w1.setCell ⟨w.heap.size + 1 + 1, 0, none⟩ (.bool t.list)).setCell ⟨w.heap.size + 1 + 1, 1, none⟩ (.int .i64 t.num)).setCell ⟨w.heap.size + 1 + 1, 2, none⟩ (.slice A1 t.items.length c1)).setCell ⟨w.heap.size + 1 + 1, 0, none⟩ (.bool false)).setCell ⟨w.heap.size + 1 + 1, 1, none⟩ (.int .i64 0)).setCell ⟨w.heap.size + 1 + 1, 2, none⟩ (.slice none 0 0)).setCell ⟨w.heap.size + 1 + 1 + 1, 0, none⟩ (.iface 30 (.int .i64 3)) = W9 at S9 ⊢
      refine leaves_cons (f := 74) (args := #[.pointer (some ⟨w.heap.size + 1 + 1 + 1, 0, none⟩)]) (by simp) (by simp [go_sem]) ?_
      refine (catch_idle ⟨w.heap.size + 1 + 1 + 1, 0, none⟩ W9).mono ?_
      rintro e u' w2 ⟨rfl, rfl, rfl⟩
      obtain ⟨v9, e9, k9, z9, b9, n9⟩ := S9
      have e2 := e9.cell
      obtain ⟨z0, z1, z2, _⟩ := v9.facts
      refine ⟨.tuple #[.agg #[.bool false, .int .i64 0, .slice none 0 0], .iface 30 (.int .i64 3)], by simp [results, Tryd.results52, go_sem, z0, z1, z2, e2], ?_⟩
      rw [RG.out]
      exact ⟨none, 0, rfl, by rw [HNM.out]; exact zero_tree, NFr.none_ _, B1.out.trans (b9 _ (by omega) (by omega))⟩

/-- the two boxes at Replay's start -/
theorem two_boxes2 (w : World) (x0 x1 x2 x3 y0 y1 y2 : Value) : G4 w.heap.size x0 x1 x2 x3 ((w.alloc (.cells #[x0, x1, x2, x3] 24)).alloc (.cells #[y0, y1, y2] 38)) ∧
    V3 (w.heap.size + 1) y0 y1 y2 ((w.alloc (.cells #[x0, x1, x2, x3] 24)).alloc (.cells #[y0, y1, y2] 38)) ∧
    Below w.heap.size w ((w.alloc (.cells #[x0, x1, x2, x3] 24)).alloc (.cells #[y0, y1, y2] 38)) ∧
    ((w.alloc (.cells #[x0, x1, x2, x3] 24)).alloc (.cells #[y0, y1, y2] 38)).heap.size = w.heap.size + 2 := two_boxes w x0 x1 x2 x3 y0 y1 y2
/-- the result's store -/
theorem RpOut.lay {n : Nat} {r : Except Int Tr} {w w2 w3 W : World} {A : Option Addr} {c rb : Nat} {y0 y1 y2 : Value} {e : Ending} (he : e = .returned (.tuple #[tval (trOf r) A c, errOf (errI r)])) (ht : TAt w3 (fun b => w2.heap.size ≤ b ∧ b < w3.heap.size) n (tval (trOf r) A c) (trOf r)) (hn : NFr A w3) (hb : Below w.heap.size w w3) (hs : rb < w2.heap.size) (hlo : w.heap.size ≤ rb)
    (hv : V3 rb y0 y1 y2 w3) (z0 z1 z2 : Value) (hW : W = ((w3.setCell ⟨rb, 0, none⟩ z0).setCell ⟨rb, 1, none⟩ z1).setCell ⟨rb, 2, none⟩ z2) : V3 rb z0 z1 z2 W ∧ RpOut n r w e W := by
  obtain ⟨v9, k9, s9, b9, n9⟩ := three_put w3 hv z0 z1 z2 W hW
  exact ⟨v9, A, c, he, ht.keep fun b ⟨h1, h2⟩ => ⟨⟨by omega, by omega⟩, fun o => World.cell?_of_block (k9 b (by omega))⟩, n9 _ hn, hb.trans (b9 _ hlo)⟩

set_option maxHeartbeats 2000000 in
set_option maxRecDepth 100000 in
theorem replay_prog {n : Nat} {g : Gn} {v : Value} {L : Option Addr} {l : List Int} {lc : Nat} (w : World) (h : GAt w (GBel w.heap.size) n v g) (hat : At w w.heap.size L l) (hcap : l.length ≤ lc) (hl : l.length ≤ 4294967296) (hsz : g.size ≤ 4294967296) :
    Calls Tryd.prog 20 #[v, .slice L l.length lc] w (RpOut n (repV g l) w) := by
  obtain ⟨m, A, c, hnm, hv⟩ : ∃ m A c, n = m + 1 ∧ v = gv g A c := by obtain ⟨m, A, c, e, _, hv, _⟩ := h.open_; exact ⟨m, A, c, e, hv⟩
  subst hv
  have FB := two_boxes w (.int .i64 g.kind) (.int .i64 g.a) (.int .i64 g.b) (.slice A g.subs.length c) (.bool false) (.int .i64 0) (.slice none 0 0)
  have C1 := gcheck _ (h.below FB.2.2.1) FB.2.2.1.size hsz
  have HT := Lib.hid (And.intro h (And.intro hat (And.intro hcap hl)))
  have HB := Lib.hid FB
  have HNM := Lib.hid hnm
  clear h hat hcap hl hsz FB hnm
  by_cases hz : genV g = 0
  · have HR := Lib.hid (And.intro (gen_right hz).1 (small30 hz))
    have RV := Lib.hid (show repV g l = repG g l by unfold repV; rw [if_pos hz])
    rw [hz, errOf_ok] at C1
    have C1 := Lib.hid C1
    clear hz
    go_enter Tryd.func20, Tryd.ntmps20
    go_wp2_with fail
    generalize (w.alloc (.cells #[.int .i64 g.kind, .int .i64 g.a, .int .i64 g.b, .slice A g.subs.length c] 24)).alloc (.cells #[.bool false, .int .i64 0, .slice none 0 0] 38) = W at *
    refine C1.out.mono ?_
    rintro e w2 ⟨rfl, hb2⟩
    have B2 := Lib.hid (below_trans HB.out.2.2.1 hb2)
    obtain ⟨k0, k1, k2, k3⟩ := (HB.out.1.below hb2).facts
    have V2 := Lib.hid (HB.out.2.1.below hb2)
    have C2 := Lib.hid (replay_ok w2 ((HT.out.1.below B2.out).more B2.out.size) HR.out.1 HR.out.2 ((HT.out.2.1.below B2.out).more B2.out.size) HT.out.2.2.1 HT.out.2.2.2)
    clear hb2 C1
    go_wp2_with fail
    refine C2.out.mono ?_
    rintro e w3 ⟨A3, c3, rfl, ht3, hn3, hb3⟩
    have V3' := Lib.hid (V2.out.below hb3)
    obtain ⟨z0, z1, z2, y0, y1, y2⟩ := V3'.out.facts
    have HL := Lib.hid (fun z0 z1 z2 (W : World) h => RpOut.lay (W := W) (e := .returned (.tuple #[tval (trOf (repG g l)) A3 c3, errOf (errI (repG g l))])) rfl ht3 hn3 (below_trans B2.out hb3) V2.out.lt (by omega) V3'.out z0 z1 z2 h)
    obtain ⟨r, hrr⟩ : ∃ r, r = repG g l := ⟨_, rfl⟩
    have RV := Lib.hid (RV.out.trans hrr.symm)
    rw [← hrr] at HL ⊢
    clear ht3 hn3 hb3 C2 hrr
    go_wp2_with fail
    have HL := HL.out (.bool (trOf r).list) (.int .i64 (trOf r).num) (.slice A3 (trOf r).items.length c3) _ rfl
    generalize ((w3.setCell ⟨w.heap.size + 1, 0, none⟩ (.bool (trOf r).list)).setCell ⟨w.heap.size + 1, 1, none⟩ (.int .i64 (trOf r).num)).setCell ⟨w.heap.size + 1, 2, none⟩ (.slice A3 (trOf r).items.length c3) = W9 at HL ⊢
    obtain ⟨f0, f1, f2, _⟩ := HL.1.facts
    refine bodyPost_ret (v := .tuple #[tval (trOf r) A3 c3, errOf (errI r)]) (by simp [results, Tryd.results20, go_sem, f0, f1, f2]) rfl ?_
    rw [RV.out]
    exact HL.2
  · have RE := Lib.hid (errOf_no hz)
    have RV := Lib.hid (show repV g l = .error (genV g) by unfold repV; rw [if_neg hz])
    rw [errOf_no hz] at C1
    generalize genV g = q at C1 RE RV
    have C1 := Lib.hid C1
    clear hz
    go_enter Tryd.func20, Tryd.ntmps20
    go_wp2_with fail
    generalize (w.alloc (.cells #[.int .i64 g.kind, .int .i64 g.a, .int .i64 g.b, .slice A g.subs.length c] 24)).alloc (.cells #[.bool false, .int .i64 0, .slice none 0 0] 38) = W at *
    refine C1.out.mono ?_
    rintro e w3 ⟨rfl, hb2⟩
    have B2 := Lib.hid (below_trans HB.out.2.2.1 hb2)
    have V3' := Lib.hid (HB.out.2.1.below hb2)
    obtain ⟨z0, z1, z2, y0, y1, y2⟩ := V3'.out.facts
    have HL := Lib.hid (fun z0 z1 z2 (W : World) h => RpOut.lay (W := W) (n := n) (r := .error q) (A := none) (c := 0) (w2 := w3) (e := .returned (.tuple #[tval (trOf (.error q)) none 0, errOf (errI (.error q))])) rfl (by rw [HNM.out]; exact zero_tree) (NFr.none_ _) B2.out V3'.out.lt (by omega) V3'.out z0 z1 z2 h)
    clear hb2 C1
    go_wp2_with fail
    have HL := HL.out (.bool false) (.int .i64 0) (.slice none 0 0) _ rfl
    generalize ((w3.setCell ⟨w.heap.size + 1, 0, none⟩ (.bool false)).setCell ⟨w.heap.size + 1, 1, none⟩ (.int .i64 0)).setCell ⟨w.heap.size + 1, 2, none⟩ (.slice none 0 0) = W9 at HL ⊢
    obtain ⟨f0, f1, f2, _⟩ := HL.1.facts
    refine bodyPost_ret (v := .tuple #[tval (trOf (.error q)) none 0, errOf (errI (.error q))]) (by
      show _ = Result.ok (Value.tuple #[.agg #[.bool false, .int .i64 0, .slice none 0 0], errOf q]) _
      rw [RE.out]
      simp [results, Tryd.results20, go_sem, f0, f1, f2]) rfl ?_
    rw [RV.out]
    exact HL.2
end Go.Proofs.YtffkppjmdelajaaDoor.Gens

/- The program's Count of a right generator. Condition: the size. -/
namespace Go.Proofs.YtffkppjmdelajaaDoor.Gens
open Go.RowKit Lists Ints Vals
set_option linter.unusedVariables false

theorem capped_any (x : Int) (w : World) : Calls Tryd.prog 73 #[.int .i64 x] w fun e w' => e = .returned (.int .i64 (min x 1048577)) ∧ w = w' := by
  go_enter Tryd.func73, Tryd.ntmps73
  go_wp2
  go_ret
  exact ⟨rfl, rfl⟩
theorem min_few (x : Int) : min x 1048577 = min 1048577 x := Int.min_comm _ _

set_option maxHeartbeats 8000000 in
set_option maxRecDepth 100000 in
theorem gcount_any : ∀ (n : Nat) (t : Gn) (v : Value) (B : Nat) (w : World), GAt w (GBel B) n v t → B ≤ w.heap.size → t.size ≤ 4294967296 → Right t →
    Calls Tryd.prog 51 #[v] w fun e w' => e = .returned (.int .i64 (countG t)) ∧ Below w.heap.size w w' := by
  intro n
  induction n with
  | zero => intro t v B w h; exact h.elim
  | succ n ih =>
    intro t v B w h hB hsz hg
    obtain ⟨m, A, c, e, hw, rfl, hit⟩ := h.open_
    obtain rfl : n = m := by omega
    have IH := Lib.hid ih
    have HIT := Lib.hid hit
    have HB := Lib.hid hB
    have HS := Lib.hid hsz
    have HG := Lib.hid hg
    have hln : t.subs.length ≤ 4294967296 := by have := glen_sizes t.subs; have := gsize_subs t; omega
    have H0 : Below w.heap.size w (w.alloc (gc t A c)) := (Below.refl _ _).alloc (Nat.le_refl _) _
    have H0 := Lib.hid H0
    have SB := Lib.hid (gsize_subs t)
    have CP := Lib.hid (fun (x : Int) (w : World) => capped_any x w)
    obtain ⟨w1, w2, w3⟩ := hw
    have IA := Lib.hid (i64_wf w2)
    have IB := Lib.hid (i64_wf w3)
    clear ih hit h hB hsz e w1 w2 w3 hg
    cases t with | node k a b subs =>
    simp only [Gn.a, Gn.b, Gn.subs] at *
    change Calls Tryd.prog 51 #[.agg #[.int .i64 k, .int .i64 a, .int .i64 b, .slice A subs.length c]] w _
    obtain ⟨m2, m5, m4, k1, k5⟩ := right_max HG.out
    have RS := Lib.hid (show ∀ x ∈ subs, Right x from HG.out.subs)
    obtain ⟨a1, a2⟩ := IA.out
    obtain ⟨b1, b2⟩ := IB.out
    rcases (show k = 1 ∨ k = 2 ∨ k = 3 ∨ k = 4 ∨ k = 5 by omega) with rfl | rfl | rfl | rfl | rfl
    · have EV := Lib.hid (show countG (.node 1 a b subs) = 1 by simp [countG])
      clear m2 m4 m5
      go_enter Tryd.func51, Tryd.ntmps51
      go_wp2_with fail
      go_ret
      exact ⟨ret_int EV.out.symm, H0.out⟩
    · have EV := Lib.hid (show countG (.node 2 a b subs) = b - a + 1 by simp [countG])
      obtain ⟨q1, q2⟩ := m2 rfl
      clear m2 m4 m5
      go_enter Tryd.func51, Tryd.ntmps51
      go_wp2_with fail
      go_ret
      exact ⟨ret_int EV.out.symm, H0.out⟩
    · have EV := Lib.hid (show countG (.node 3 a b subs) = countBoth subs 1 by simp [countG])
      clear m2 m4 m5
      go_enter Tryd.func51, Tryd.ntmps51
      go_wp2_with fail
      go_loopw [3, 27] (fun x i wr => ∃ (k : Nat) (o : Int), k ≤ subs.length ∧ i = .int .i64 k ∧ x = .int .i64 o ∧ Few o ∧ Hid (Below w.heap.size w wr) ∧ Hid (countG (.node 3 a b subs) = countBoth (subs.drop k) o)) (fun _ i _ => subs.length - (intOf i).toNat)
      case atStart => exact ⟨0, 1, Nat.zero_le _, rfl, rfl, ⟨by omega, by omega⟩, H0.out, (show countG (.node 3 a b subs) = countBoth (subs.drop 0) 1 from EV.out)⟩
      case round =>
        obtain ⟨k, o, hk, rfl, rfl, ho, HWW, hz⟩ := hrel
        by_cases hlt : k < subs.length
        · obtain ⟨ib, off, D, d, rfl, c0, c1, c2, c3, hti⟩ := sub_as HIT.out (HWW.out.mono HB.out) k hlt
          have hsi : (subs[k]'hlt).size ≤ 4294967296 := by have := gsize_mem subs _ (List.getElem_mem hlt); have h3 := HS.out; have h4 := SB.out; omega
          have hri : Right (subs[k]'hlt) := RS.out _ (List.getElem_mem hlt)
          have ba : Below wr.heap.size wr (wr.alloc (gc (subs[k]'hlt) D d)) := (Below.refl _ _).alloc (Nat.le_refl _) _
          have bsz : B ≤ wr.heap.size := Nat.le_trans HB.out HWW.out.size
          have C1 := IH.out (subs[k]'hlt) _ B _ (hti.below (ba.mono bsz)) (by have := HB.out; simp; omega) hsi hri
          have CF := count_few _ hri
          have DR := Lib.hid (both_drop subs k o hlt)
          have BA := Lib.hid (HWW.out.trans (ba.mono HWW.out.size))
          clear hti hsi hri ba bsz
          generalize countG (subs[k]'hlt) = q at C1 CF DR
          have HC1 := Lib.hid C1
          clear C1
          generalize subs[k]'hlt = y at HC1 c0 c1 c2 c3 BA
          have F2 := few_mul ho CF
          have FM := mul_fits ho CF
          obtain ⟨o1, o2⟩ := ho
          obtain ⟨q1, q2⟩ := CF
          obtain ⟨f1, f2⟩ := FM
          have F2 := Lib.hid F2
          go_wp2_with fail
          refine HC1.out.mono ?_
          rintro e w2 ⟨rfl, hb2⟩
          have B2 := Lib.hid (BA.out.trans (hb2.mono BA.out.size))
          clear hb2
          go_wp2_with (go_at_call 73; refine (CP.out _ _).mono ?_; rintro e w' ⟨rfl, rfl⟩)
          go_roundw
          case rel => exact ⟨k + 1, min 1048577 (o * q), hlt, by go_num, by rw [Int.min_comm], F2.out, B2.out, hz.out.trans DR.out⟩
          case measure => simp [intOf]; omega
        · have hr := Lib.hid (show countG (.node 3 a b subs) = o by
            rw [hz.out, List.drop_eq_nil_of_le (by omega), countBoth])
          go_wp2_with fail
          go_ret
          exact ⟨ret_int hr.out.symm, HWW.out⟩
    · obtain ⟨a3, a4, hl1⟩ := m4 rfl
      have hlt : 0 < subs.length := by omega
      have EV := Lib.hid (show countG (.node 4 a b subs) = manyN (countHead subs) (a + 1).toNat 0 1 by simp [countG])
      have HL1 := Lib.hid hl1
      clear m2 m4 m5 hl1
      have H0 := Lib.hid (show Below w.heap.size w (w.alloc (.cells #[.int .i64 4, .int .i64 a, .int .i64 b, .slice A subs.length c] 24)) from H0.out)
      obtain ⟨ib, off, D, d, rfl, c0, c1, c2, c3, hti⟩ := sub_as HIT.out (H0.out.mono HB.out) 0 hlt
      have hsi : (subs[0]'hlt).size ≤ 4294967296 := by have := gsize_mem subs _ (List.getElem_mem hlt); have h3 := HS.out; have h4 := SB.out; omega
      have hri : Right (subs[0]'hlt) := RS.out _ (List.getElem_mem hlt)
      have C1 := IH.out (subs[0]'hlt) _ B _ hti (Nat.le_trans HB.out H0.out.size) hsi hri
      have CF := count_few _ hri
      have HH := head_get subs hlt
      rw [HH] at EV
      clear hti hsi hri HH
      generalize countG (subs[0]'hlt) = q at C1 CF EV
      have HC1 := Lib.hid C1
      clear C1
      generalize subs[0]'hlt = y at HC1 c0 c1 c2 c3
      simp only [Nat.zero_mul, Nat.add_zero] at c0 c1 c2 c3
      have gl : decide (0 < subs.length) = true := by rw [decide_eq_true_eq]; exact hlt
      go_enter Tryd.func51, Tryd.ntmps51
      go_wp2_with fail
      refine HC1.out.mono ?_
      rintro e w2 ⟨rfl, hb2⟩
      have B2 := Lib.hid (on H0.out hb2)
      obtain ⟨_, cb1, _, _⟩ := gbox w w2 _ _ _ _ hb2
      clear hb2
      go_wp2_with fail
      go_loopw [6, 7, 48] (fun x p i wr => ∃ (k : Nat) (o u : Int), (k : Int) ≤ a + 1 ∧ i = .int .i64 k ∧ x = .int .i64 o ∧ p = .int .i64 u ∧ Few o ∧ Few u ∧ wr = w2 ∧ Hid (countG (.node 4 a b subs) = manyN q ((a + 1).toNat - k) o u)) (fun _ _ i _ => 7 - (intOf i).toNat)
      case atStart => exact ⟨0, 0, 1, by omega, rfl, rfl, rfl, ⟨by omega, by omega⟩, ⟨by omega, by omega⟩, rfl, EV.out⟩
      case round =>
        obtain ⟨k, o, u, hk, rfl, rfl, rfl, ho, hu, rfl, hz⟩ := hrel
        by_cases hlt : (k : Int) < a + 1
        · have F1 := few_add ho hu
          have F2 := few_mul hu CF
          have FM := mul_fits hu CF
          have hz2 := Lib.hid (show countG (.node 4 a b subs) = manyN q ((a + 1).toNat - (k + 1)) (min 1048577 (o + u)) (min 1048577 (u * q)) by
            rw [hz.out, show (a + 1).toNat - k = ((a + 1).toNat - (k + 1)) + 1 by omega, manyN])
          obtain ⟨o1, o2⟩ := ho
          obtain ⟨u1, u2⟩ := hu
          obtain ⟨q1, q2⟩ := CF
          obtain ⟨f1, f2⟩ := FM
          have F1 := Lib.hid F1
          have F2 := Lib.hid F2
          have gk : decide ((k : Int) < a + 1) = true := by rw [decide_eq_true_eq]; exact hlt
          go_wp2_with (go_at_call 73; refine (CP.out _ _).mono ?_; rintro e w' ⟨rfl, rfl⟩)
          go_roundw
          case rel => exact ⟨k + 1, min 1048577 (o + u), min 1048577 (u * q), by omega, by go_num, by rw [Int.min_comm], by rw [Int.min_comm], F1.out, F2.out, trivial, hz2.out⟩
          case measure => simp [intOf]; omega
        · have hr := Lib.hid (show countG (.node 4 a b subs) = o by
            rw [hz.out, show (a + 1).toNat - k = 0 by omega, manyN])
          have gk : decide ((k : Int) < a + 1) = false := by rw [decide_eq_false_iff_not]; exact hlt
          go_wp2_with fail
          go_ret
          exact ⟨ret_int hr.out.symm, B2.out⟩
    · have EV := Lib.hid (show countG (.node 5 a b subs) = countAny subs 0 by simp [countG])
      clear m2 m4 m5
      go_enter Tryd.func51, Tryd.ntmps51
      go_wp2_with fail
      go_loopw [9, 65] (fun x i wr => ∃ (k : Nat) (o : Int), k ≤ subs.length ∧ i = .int .i64 k ∧ x = .int .i64 o ∧ Few o ∧ Hid (Below w.heap.size w wr) ∧ Hid (countG (.node 5 a b subs) = countAny (subs.drop k) o)) (fun _ i _ => subs.length - (intOf i).toNat)
      case atStart => exact ⟨0, 0, Nat.zero_le _, rfl, rfl, ⟨by omega, by omega⟩, H0.out, (show countG (.node 5 a b subs) = countAny (subs.drop 0) 0 from EV.out)⟩
      case round =>
        obtain ⟨k, o, hk, rfl, rfl, ho, HWW, hz⟩ := hrel
        by_cases hlt : k < subs.length
        · obtain ⟨ib, off, D, d, rfl, c0, c1, c2, c3, hti⟩ := sub_as HIT.out (HWW.out.mono HB.out) k hlt
          have hsi : (subs[k]'hlt).size ≤ 4294967296 := by have := gsize_mem subs _ (List.getElem_mem hlt); have h3 := HS.out; have h4 := SB.out; omega
          have hri : Right (subs[k]'hlt) := RS.out _ (List.getElem_mem hlt)
          have ba : Below wr.heap.size wr (wr.alloc (gc (subs[k]'hlt) D d)) := (Below.refl _ _).alloc (Nat.le_refl _) _
          have bsz : B ≤ wr.heap.size := Nat.le_trans HB.out HWW.out.size
          have C1 := IH.out (subs[k]'hlt) _ B _ (hti.below (ba.mono bsz)) (by have := HB.out; simp; omega) hsi hri
          have CF := count_few _ hri
          have DR := Lib.hid (any_drop subs k o hlt)
          have BA := Lib.hid (HWW.out.trans (ba.mono HWW.out.size))
          clear hti hsi hri ba bsz
          generalize countG (subs[k]'hlt) = q at C1 CF DR
          have HC1 := Lib.hid C1
          clear C1
          generalize subs[k]'hlt = y at HC1 c0 c1 c2 c3 BA
          have F2 := few_add ho CF
          have FM := mul_fits ho CF
          obtain ⟨o1, o2⟩ := ho
          obtain ⟨q1, q2⟩ := CF
          obtain ⟨f1, f2⟩ := FM
          have F2 := Lib.hid F2
          go_wp2_with fail
          refine HC1.out.mono ?_
          rintro e w2 ⟨rfl, hb2⟩
          have B2 := Lib.hid (BA.out.trans (hb2.mono BA.out.size))
          clear hb2
          go_wp2_with (go_at_call 73; refine (CP.out _ _).mono ?_; rintro e w' ⟨rfl, rfl⟩)
          go_roundw
          case rel => exact ⟨k + 1, min 1048577 (o + q), hlt, by go_num, by rw [Int.min_comm], F2.out, B2.out, hz.out.trans DR.out⟩
          case measure => simp [intOf]; omega
        · have hr := Lib.hid (show countG (.node 5 a b subs) = o by
            rw [hz.out, List.drop_eq_nil_of_le (by omega), countAny])
          go_wp2_with fail
          go_ret
          exact ⟨ret_int hr.out.symm, HWW.out⟩

/-- what Count tells: the number, or an error -/
def countN (t : Gn) : Int := if genV t = 0 then (if 1048576 < countG t then 0 else countG t) else 0
def countE (t : Gn) : Int := if genV t = 0 then (if 1048576 < countG t then 4 else 0) else genV t

set_option maxHeartbeats 2000000 in
set_option maxRecDepth 100000 in
/-- the program's Count -/
theorem gcount {n : Nat} {t : Gn} {v : Value} {B : Nat} (w : World) (h : GAt w (GBel B) n v t) (hB : B ≤ w.heap.size) (hsz : t.size ≤ 4294967296) :
    Calls Tryd.prog 19 #[v] w fun e w' => e = .returned (.tuple #[.int .i64 (countN t), errOf (countE t)]) ∧ Below w.heap.size w w' := by
  obtain ⟨m, A, c, e, hw, rfl, _⟩ := h.open_
  have b1 : Below w.heap.size w (w.alloc (gc t A c)) := (Below.refl _ _).alloc (Nat.le_refl _) _
  have HH := Lib.hid (fun (W : World) (hb : Below (w.alloc (gc t A c)).heap.size (w.alloc (gc t A c)) W) => gbox w W _ _ _ _ hb)
  have C1 := gcheck (w.alloc (gc t A c)) (h.below (b1.mono hB)) (by simp; omega) hsz
  have C2 := Lib.hid (fun (W : World) (hb : Below w.heap.size w W) (hr : Right t) => gcount_any n t _ B W (h.below (hb.mono hB)) (Nat.le_trans hB hb.size) hsz hr)
  have EN := Lib.hid (show countN t = if genV t = 0 then (if 1048576 < countG t then 0 else countG t) else 0 from rfl)
  have EE := Lib.hid (show countE t = if genV t = 0 then (if 1048576 < countG t then 4 else 0) else genV t from rfl)
  have B1 := Lib.hid b1
  have RG := Lib.hid (fun (h : genV t = 0) => (gen_right h).1)
  clear h hB hsz e hw b1
  by_cases hz : genV t = 0
  · have C2 := Lib.hid (fun W hb => C2.out W hb (RG.out hz))
    have CF := count_few t (RG.out hz)
    rw [hz, errOf_ok] at C1
    have C1 := Lib.hid C1
    rw [if_pos hz] at EN EE
    clear hz RG
    generalize countG t = q at C2 EN EE CF
    obtain ⟨q1, q2⟩ := CF
    go_enter Tryd.func19, Tryd.ntmps19
    go_wp2_with fail
    refine C1.out.mono ?_
    rintro e w2 ⟨rfl, hb2⟩
    obtain ⟨k0, k1, k2, k3⟩ := HH.out w2 hb2
    have B2 := Lib.hid (on B1.out hb2)
    have C2 := Lib.hid (C2.out w2 B2.out)
    clear hb2
    go_wp2_with fail
    refine C2.out.mono ?_
    rintro e w3 ⟨rfl, hb3⟩
    have B3 := Lib.hid (on B2.out hb3)
    clear hb3
    by_cases hq : 1048576 < q
    · have g1 : decide (1048576 < q) = true := by rw [decide_eq_true_eq]; exact hq
      have EN := Lib.hid (show countN t = 0 by rw [EN.out, if_pos hq])
      have EE := Lib.hid (show countE t = 4 by rw [EE.out, if_pos hq])
      go_wp2_with fail
      go_ret2
      exact ⟨by rw [EN.out, EE.out]; rfl, B3.out⟩
    · have g1 : decide (1048576 < q) = false := by rw [decide_eq_false_iff_not]; exact hq
      have EN := Lib.hid (show countN t = q by rw [EN.out, if_neg hq])
      have EE := Lib.hid (show countE t = 0 by rw [EE.out, if_neg hq])
      go_wp2_with fail
      go_ret2
      exact ⟨by rw [EN.out, EE.out]; rfl, B3.out⟩
  · have RE := Lib.hid (errOf_no hz)
    rw [errOf_no hz] at C1
    rw [if_neg hz] at EN EE
    generalize genV t = q at C1 EE RE
    have C1 := Lib.hid C1
    clear hz C2 RG
    go_enter Tryd.func19, Tryd.ntmps19
    go_wp2_with fail
    refine C1.out.mono ?_
    rintro e w2 ⟨rfl, hb2⟩
    have B2 := Lib.hid (on B1.out hb2)
    clear hb2
    go_wp2_with fail
    go_ret2
    exact ⟨by rw [EN.out, EE.out, RE.out]; rfl, B2.out⟩
end Go.Proofs.YtffkppjmdelajaaDoor.Gens

/- The statements' own 'just', 'coin' and 'made'. -/
namespace Go.Proofs.YtffkppjmdelajaaDoor.Gens
open Go.RowKit Lists Ints Vals
set_option linter.unusedVariables false
theorem gat_leaf {w : World} {B : Nat} {k a b : Int} (hk : Wf k) (ha : Wf a) (hb : Wf b) : GAt w (GBel B) 1 (.agg #[.int .i64 k, .int .i64 a, .int .i64 b, .slice none 0 0]) (.node k a b []) :=
  ⟨⟨hk, ha, hb⟩, none, 0, rfl, Nat.le_refl _, fun hp => by simp [Gn.subs] at hp⟩
end Go.Proofs.YtffkppjmdelajaaDoor.Gens

/- The statements' own 'coin' and 'made'. -/
namespace Go.Proofs.YtffkppjmdelajaaDoor.Gens
open Go.RowKit Lists Ints Vals
set_option linter.unusedVariables false

theorem coin_ok (w : World) : Calls Tryd.prog 41 #[] w fun e w' => e = .returned (.agg #[.int .i64 2, .int .i64 3, .int .i64 4, .slice none 0 0]) ∧ Below w.heap.size w w' := by
  go_enter Tryd.func41, Tryd.ntmps41
  go_wp2_with fail
  refine bodyPost_ret (v := .agg #[.int .i64 2, .int .i64 3, .int .i64 4, .slice none 0 0]) (by simp [results, Tryd.results41, go_sem]) rfl ⟨rfl, ?_⟩
  repeat (first | exact Below.refl _ _ | refine Below.alloc ?_ (Nat.le_refl _) _ | refine Below.setCell ?_ (Nat.le_refl w.heap.size) _)

set_option maxHeartbeats 2000000 in
set_option maxRecDepth 100000 in
theorem made_ok (w : World) : Calls Tryd.prog 11 #[] w fun e w' => e = .returned (.bool true) ∧ Below w.heap.size w w' := by
  have CC := Lib.hid (coin_ok w)
  have RR := Lib.hid (fun (W : World) (hb : Below w.heap.size w W) (L : Option Addr) (lc : Nat) (ha : At W W.heap.size L [1]) (hc : 1 ≤ lc) => replay_prog (n := 1) (g := .node 2 3 4 []) (l := [1]) W (gat_leaf (by decide) (by decide) (by decide)) ha hc (by decide) (by decide))
  rw [show repV (.node 2 3 4 []) [1] = .ok (.node false 4 []) by rfl] at RR
  go_enter Tryd.func11, Tryd.ntmps11
  go_wp2_with fail
  refine CC.out.mono ?_
  rintro e w1 ⟨rfl, hb1⟩
  have B1 := Lib.hid hb1
  have A1 := Lib.hid (At.one_new w1 1)
  have B2 := Lib.hid (hb1.trans ((Below.refl w1.heap.size w1).alloc (Nat.le_refl _) (.cells #[.int .i64 1] 3) |>.mono hb1.size))
  clear hb1 CC
  go_wp2_with fail
  have z1 : (w1.alloc (.cells #[.int .i64 1] 3)).heap.size = w1.heap.size + 1 := by simp
  refine (RR.out (w1.alloc (.cells #[.int .i64 1] 3)) B2.out (some ⟨w1.heap.size, 0, none⟩) 1 (by rw [z1]; exact A1.out) (Nat.le_refl _)).mono ?_
  rintro e w3 ⟨A3, c3, rfl, ht, hn, hb3⟩
  have B3 := Lib.hid (below_trans B2.out hb3)
  clear RR ht hn hb3 z1
  simp only [trOf, errI, tval, Tr.list, Tr.num, Tr.items, List.length_nil, errOf_ok]
  go_wp2_with fail
  go_ret
  exact ⟨rfl, Below.alloc B3.out (by have := B3.out.size; omega) _⟩
end Go.Proofs.YtffkppjmdelajaaDoor.Gens

/- errors.As at the target '*api.Errno', and with it plain.Told: the number of a nil error is 0, of an Errno its own. After the guide's worked example for a pointer target. Condition: the library's variable errors.errorType holds the handle of the type 'error'. -/
namespace Go.Proofs.YtffkppjmdelajaaDoor.Told
open Go.RowKit Go.Extern.Stop Go.Stop Go.Extern

theorem as_nil (t : Value) (w : World) :
    Calls Tryd.prog 69 #[.nilIface, t] w fun e w' => e = .returned (.bool false) ∧ w = w' := by
  go_enter Tryd.func69, Tryd.ntmps69
  go_wp2
  go_ret
  exact ⟨rfl, rfl⟩

theorem valueOfP (t : Addr) (w : World) : (ReflectliteValue.unpack (.iface 105 (.pointer (some t)))).run Tryd.prog w
    = .ok (.agg #[.pointer (some ⟨2, 105, none⟩), .pointer (some ⟨w.heap.size, 0, none⟩), .int .u64 150]) (w.alloc (.cells #[.pointer (some t)] 105)) := by kernel_rfl
theorem typeP (a : Addr) (w : World) : (ReflectliteValue.methodAny (ReflectliteValue.valueError "reflectlite.Value.Type" 0) (fun t _ _ _ => ReflectliteType.toType t) #[.agg #[.pointer (some ⟨2, 105, none⟩), .pointer (some a), .int .u64 150]]).run Tryd.prog w
    = .ok (.iface 140 (.agg #[.pointer (some ⟨2, 105, none⟩)])) w := by kernel_rfl
theorem methodKind (h : Value) (w : World) : (Go.method 294 140 (.agg #[h]) "Kind").run Tryd.prog w = .ok (125, h) w := by kernel_rfl
theorem kindP (w : World) : ((ReflectliteType.abiMethod fun t => (fun a : Nat => Value.int IntKind.u8 (a : Int)) <$> Rtype.kind t) #[.pointer (some ⟨2, 105, none⟩)]).run Tryd.prog w = .ok (.int .u8 22) w := by kernel_rfl
theorem kindE (w : World) : ((ReflectliteType.abiMethod fun t => (fun a : Nat => Value.int IntKind.u8 (a : Int)) <$> Rtype.kind t) #[.pointer (some ⟨2, 30, none⟩)]).run Tryd.prog w = .ok (.int .u8 2) w := by kernel_rfl

theorem rlm (z : Sem Value) (f : TypeId → Addr → Nat → Nat → Sem Value) (v : Value) :
    ReflectliteValue.method z f #[v] = (do match ← ReflectliteValue.parts v with | none => z | some (t, a, fl) => f t a fl (fl % 32)) := rfl
theorem partsP (a : Addr) (w : World) : (ReflectliteValue.parts (.agg #[.pointer (some ⟨2, 105, none⟩), .pointer (some a), .int .u64 150])).run Tryd.prog w = .ok (some (105, a, 150)) w := by kernel_rfl
theorem isNilP (a p : Addr) (W : World) (ha : W.cell? a = some (.pointer (some p))) :
    (ReflectliteValue.method (ReflectliteValue.valueError "reflectlite.Value.IsNil" 0) ReflectliteValue.isNil #[.agg #[.pointer (some ⟨2, 105, none⟩), .pointer (some a), .int .u64 150]]).run Tryd.prog W = .ok (.bool false) W := by
  rw [rlm]
  simp only [Sem.run_bind, partsP, Result.andThen]
  simp [ReflectliteValue.isNil, loadVar, isAgg, underlying, Tryd.underlying105, ha, Result.andThen]

theorem methodElem (h : Value) (w : World) : (Go.method 294 140 (.agg #[h]) "Elem").run Tryd.prog w = .ok (135, .agg #[h]) w := by kernel_rfl
theorem methodImplements (h : Value) (w : World) : (Go.method 294 140 (.agg #[h]) "Implements").run Tryd.prog w = .ok (136, .agg #[h]) w := by kernel_rfl
theorem methodAssignableTo (h : Value) (w : World) : (Go.method 294 140 (.agg #[h]) "AssignableTo").run Tryd.prog w = .ok (133, .agg #[h]) w := by kernel_rfl
theorem elemT (w : World) : (ReflectliteType.method ReflectliteType.elem #[.agg #[.pointer (some ⟨2, 105, none⟩)]]).run Tryd.prog w = .ok (.iface 140 (.agg #[.pointer (some ⟨2, 30, none⟩)])) w := by kernel_rfl
theorem implementsE (w : World) : (ReflectliteType.relation "Implements" ReflectliteType.implements_ #[.agg #[.pointer (some ⟨2, 30, none⟩)], .iface 140 (.agg #[.pointer (some ⟨2, 34, none⟩)])]).run Tryd.prog w = .ok (.bool true) w := by kernel_rfl
theorem typeOfE (v : Value) (w : World) : (ReflectliteType.typeOf #[.iface 30 v]).run Tryd.prog w = .ok (.iface 140 (.agg #[.pointer (some ⟨2, 30, none⟩)])) w := by kernel_rfl
theorem assignableE (w : World) : (ReflectliteType.relation "AssignableTo" ReflectliteType.assignableTo #[.agg #[.pointer (some ⟨2, 30, none⟩)], .iface 140 (.agg #[.pointer (some ⟨2, 30, none⟩)])]).run Tryd.prog w = .ok (.bool true) w := by kernel_rfl
theorem valueOfE (k : Int) (w : World) : (ReflectliteValue.unpack (.iface 30 (.int .i64 k))).run Tryd.prog w
    = .ok (.agg #[.pointer (some ⟨2, 30, none⟩), .pointer (some ⟨w.heap.size, 0, none⟩), .int .u64 130]) (w.alloc (.cells #[.int .i64 k] 30)) := by kernel_rfl

theorem elemOfP (w : World) : (Rtype.elem? 105).run Tryd.prog w = .ok (some 30) w := by kernel_rfl
theorem mkE (p : Addr) (w : World) : (ReflectliteValue.mk 30 p ReflectliteValue.flagAddr).run Tryd.prog w = .ok (.agg #[.pointer (some ⟨2, 30, none⟩), .pointer (some p), .int .u64 386]) w := by kernel_rfl
theorem elemV (a p : Addr) (W : World) (ha : W.cell? a = some (.pointer (some p))) :
    (ReflectliteValue.method (ReflectliteValue.valueError "reflectlite.Value.Elem" 0) ReflectliteValue.elem #[.agg #[.pointer (some ⟨2, 105, none⟩), .pointer (some a), .int .u64 150]]).run Tryd.prog W
      = .ok (.agg #[.pointer (some ⟨2, 30, none⟩), .pointer (some p), .int .u64 386]) W := by
  rw [rlm]
  simp only [Sem.run_bind, partsP, Result.andThen]
  simp [ReflectliteValue.elem, loadVar, isAgg, underlying, Tryd.underlying105, ha, Result.andThen, elemOfP, mkE]
theorem rls (v x : Value) : ReflectliteValue.set #[v, x] = (do
    let (some (dst, a, fl), some (src, b, _)) := (← ReflectliteValue.parts v, ← ReflectliteValue.parts x)
      | unsupported (.noEntry "extern/(internal/reflectlite.Value).Set.zeroValue")
    if fl / ReflectliteValue.flagAddr % 2 == 0 then unsupported (.noEntry "extern/(internal/reflectlite.Value).Set.unaddressable")
    let val ← loadVar src b
    if ← Rtype.directlyAssignable dst src then storeVar dst a val
    else if ← Rtype.implements dst src then
      if (← Rtype.kind src) == 20 then
        match val with
        | .nilIface => unsupported (.noEntry "extern/reflectlite: a nil value of one interface type handed on as a value of another")
        | _ => storeVar dst a val
      else storeVar dst a (.iface src val)
    else panicString ("reflectlite.Set: value of type " ++ (← Rtype.spelt src) ++ " is not assignable to type " ++ (← Rtype.spelt dst))
    pure (.tuple #[])) := rfl
theorem partsEa (a : Addr) (w : World) : (ReflectliteValue.parts (.agg #[.pointer (some ⟨2, 30, none⟩), .pointer (some a), .int .u64 386])).run Tryd.prog w = .ok (some (30, a, 386)) w := by kernel_rfl
theorem partsE (a : Addr) (w : World) : (ReflectliteValue.parts (.agg #[.pointer (some ⟨2, 30, none⟩), .pointer (some a), .int .u64 130])).run Tryd.prog w = .ok (some (30, a, 130)) w := by kernel_rfl
theorem directE (w : World) : (Rtype.directlyAssignable 30 30).run Tryd.prog w = .ok true w := by kernel_rfl
theorem setE (ta b : Addr) (k : Int) (old : Value) (W : World) (hb : W.cell? b = some (.int .i64 k)) (ht : W.cell? ta = some old) (hf : W.frozen? ta = false) :
    (ReflectliteValue.set #[.agg #[.pointer (some ⟨2, 30, none⟩), .pointer (some ta), .int .u64 386], .agg #[.pointer (some ⟨2, 30, none⟩), .pointer (some b), .int .u64 130]]).run Tryd.prog W
      = .ok (.tuple #[]) (W.setCell ta (.int .i64 k)) := by
  rw [rls]
  simp only [Sem.run_bind, partsEa, partsE, Result.andThen]
  simp [ReflectliteValue.flagAddr, loadVar, isAgg, underlying, Tryd.underlying30, hb, Result.andThen, directE, storeVar, Value.cells, storeCells, Addr.add]
  rw [run_store Tryd.prog W ta _ _ (by rfl)]
  simp [ht, hf]

/-- What the library's variable holds. -/
def Handle (w : World) : Prop := w.cell? ⟨1, 0, none⟩ = some (.iface 140 (.agg #[.pointer (some ⟨2, 34, none⟩)]))

set_option maxHeartbeats 4000000 in
theorem as_hit (k : Int) (t : Addr) (old : Value) (w : World) (hg : w.cell? ⟨1, 0, none⟩ = some (.iface 140 (.agg #[.pointer (some ⟨2, 34, none⟩)]))) (ht0 : w.cell? t = some old) (hf0 : w.frozen? t = false) :
    Calls Tryd.prog 69 #[.iface 30 (.int .i64 k), .iface 105 (.pointer (some t))] w fun ev w' => ev = .returned (.bool true) ∧ ((((w.alloc (.cells #[.pointer (some t)] 105)).alloc (.cells #[.pointer (some ⟨2, 105, none⟩), .pointer (some ⟨w.heap.size, 0, none⟩), .int .u64 150] 128)).alloc (.cells #[.pointer (some ⟨2, 105, none⟩), .pointer (some ⟨w.heap.size, 0, none⟩), .int .u64 150] 128)).alloc (.cells #[.int .i64 k] 30)).setCell t (.int .i64 k) = w' := by
  have h6 := @run_callFunc_extern Tryd.prog 88 _ (fun args => ReflectliteValue.unpack (args.getD 0 (.tuple #[]))) Tryd.func88 (by kernel_rfl) (by kernel_rfl) (by kernel_rfl) (by kernel_rfl)
  have h7 := @run_callFunc_extern Tryd.prog 89 _ (ReflectliteValue.methodAny (ReflectliteValue.valueError "reflectlite.Value.Type" 0) (fun t _ _ _ => ReflectliteType.toType t)) Tryd.func89 (by kernel_rfl) (by kernel_rfl) (by kernel_rfl) (by kernel_rfl)
  have h8 := @run_callFunc_extern Tryd.prog 90 _ (ReflectliteValue.method (ReflectliteValue.valueError "reflectlite.Value.IsNil" 0) ReflectliteValue.isNil) Tryd.func90 (by kernel_rfl) (by kernel_rfl) (by kernel_rfl) (by kernel_rfl)
  have h27 := @run_callFunc_extern Tryd.prog 125 _ (ReflectliteType.abiMethod fun t => do pure (.int .u8 (← Rtype.kind t))) Tryd.func125 (by kernel_rfl) (by kernel_rfl) (by kernel_rfl) (by kernel_rfl)
  have h37 := @run_callFunc_extern Tryd.prog 135 _ (ReflectliteType.method ReflectliteType.elem) Tryd.func135 (by kernel_rfl) (by kernel_rfl) (by kernel_rfl) (by kernel_rfl)
  have h38 := @run_callFunc_extern Tryd.prog 136 _ (ReflectliteType.relation "Implements" ReflectliteType.implements_) Tryd.func136 (by kernel_rfl) (by kernel_rfl) (by kernel_rfl) (by kernel_rfl)
  have h10 := @run_callFunc_extern Tryd.prog 86 _ ReflectliteType.typeOf Tryd.func86 (by kernel_rfl) (by kernel_rfl) (by kernel_rfl) (by kernel_rfl)
  have h35 := @run_callFunc_extern Tryd.prog 133 _ (ReflectliteType.relation "AssignableTo" ReflectliteType.assignableTo) Tryd.func133 (by kernel_rfl) (by kernel_rfl) (by kernel_rfl) (by kernel_rfl)
  have h11 := @run_callFunc_extern Tryd.prog 101 _ (ReflectliteValue.method (ReflectliteValue.valueError "reflectlite.Value.Elem" 0) ReflectliteValue.elem) Tryd.func101 (by kernel_rfl) (by kernel_rfl) (by kernel_rfl) (by kernel_rfl)
  have h12 := @run_callFunc_extern Tryd.prog 102 _ ReflectliteValue.set Tryd.func102 (by kernel_rfl) (by kernel_rfl) (by kernel_rfl) (by kernel_rfl)
  have tO := typeOfE
  have mA := methodAssignableTo
  have a25 := assignableE
  have v25 := valueOfE
  have f6 := valueOfP
  have f7 := typeP
  have mK := methodKind
  have mE := methodElem
  have mI := methodImplements
  have k27 := kindP
  have k25 := kindE
  have e27 := elemT
  have i25 := implementsE
  have n8 := isNilP ⟨w.heap.size, 0, none⟩ t ((w.alloc (.cells #[.pointer (some t)] 105)).alloc (.cells #[.pointer (some ⟨2, 105, none⟩), .pointer (some ⟨w.heap.size, 0, none⟩), .int .u64 150] 128)) (by simp)
  have hlt : 1 < w.heap.size := World.block_lt_of_cell? _ _ hg
  have hg2 : ((w.alloc (.cells #[.pointer (some t)] 105)).alloc (.cells #[.pointer (some ⟨2, 105, none⟩), .pointer (some ⟨w.heap.size, 0, none⟩), .int .u64 150] 128)).cell? ⟨1, 0, none⟩ = some (.iface 140 (.agg #[.pointer (some ⟨2, 34, none⟩)])) := by
    rw [World.cell?_alloc_lt _ _ ⟨1, 0, none⟩ (by simp <;> omega), World.cell?_alloc_lt _ _ ⟨1, 0, none⟩ hlt]; exact hg
  have htl : t.block < w.heap.size := World.block_lt_of_cell? _ _ ht0
  have el := elemV ⟨w.heap.size, 0, none⟩ t (((w.alloc (.cells #[.pointer (some t)] 105)).alloc (.cells #[.pointer (some ⟨2, 105, none⟩), .pointer (some ⟨w.heap.size, 0, none⟩), .int .u64 150] 128)).alloc (.cells #[.pointer (some ⟨2, 105, none⟩), .pointer (some ⟨w.heap.size, 0, none⟩), .int .u64 150] 128)) (by rw [World.cell?_alloc_lt _ _ ⟨w.heap.size, 0, none⟩ (by simp; omega)]; simp)
  have st := setE t ⟨w.heap.size + 1 + 1 + 1, 0, none⟩ k old ((((w.alloc (.cells #[.pointer (some t)] 105)).alloc (.cells #[.pointer (some ⟨2, 105, none⟩), .pointer (some ⟨w.heap.size, 0, none⟩), .int .u64 150] 128)).alloc (.cells #[.pointer (some ⟨2, 105, none⟩), .pointer (some ⟨w.heap.size, 0, none⟩), .int .u64 150] 128)).alloc (.cells #[.int .i64 k] 30))
    (by rw [World.cell?_alloc_at _ _ _ _ (by simp)]; rfl)
    (by rw [World.cell?_alloc_lt _ _ t (by simp; omega), World.cell?_alloc_lt _ _ t (by simp; omega), World.cell?_alloc_lt _ _ t (by simp; omega), World.cell?_alloc_lt _ _ t htl]; exact ht0)
    (by rw [World.frozen?_alloc_old _ _ t (by simp; omega), World.frozen?_alloc_old _ _ t (by simp; omega), World.frozen?_alloc_old _ _ t (by simp; omega), World.frozen?_alloc_old _ _ t (Nat.ne_of_lt htl)]; exact hf0)
  go_enter Tryd.func69, Tryd.ntmps69
  go_wp2
  refine wp_loop_rounds 1 ?_
  rw [rounds_succ]
  go_wp2
  go_ret
  exact ⟨rfl, rfl⟩

theorem told_nil (w : World) : Calls Tryd.prog 44 #[.nilIface] w fun e w' => e = .returned (.int .i64 0) ∧ Below w.heap.size w w' := by
  go_enter Tryd.func44, Tryd.ntmps44
  go_wp2
  go_ret
  exact ⟨rfl, Below.refl _ _⟩

theorem told_errno (k : Int) (w : World) (hg : Handle w) : Calls Tryd.prog 44 #[.iface 30 (.int .i64 k)] w fun e w' => e = .returned (.int .i64 k) ∧ Below w.heap.size w w' := by
  have hlt : 1 < w.heap.size := World.block_lt_of_cell? _ _ hg
  have hgA : (w.alloc (.cells #[.int .i64 0] 30)).cell? ⟨1, 0, none⟩ = some (.iface 140 (.agg #[.pointer (some ⟨2, 34, none⟩)])) := by
    rw [World.cell?_alloc_lt _ _ ⟨1, 0, none⟩ hlt]; exact hg
  have htA : (w.alloc (.cells #[.int .i64 0] 30)).cell? ⟨w.heap.size, 0, none⟩ = some (.int .i64 0) := by simp
  have hfA : (w.alloc (.cells #[.int .i64 0] 30)).frozen? ⟨w.heap.size, 0, none⟩ = false := by simp
  clear hg
  go_enter Tryd.func44, Tryd.ntmps44
  go_wp2_with (go_at_call 69; refine (as_hit k _ (.int .i64 0) _ hgA htA hfA).mono ?_; rintro e w' ⟨rfl, rfl⟩)
  go_ret
  refine ⟨rfl, ?_⟩
  repeat (first | exact Below.refl _ _ | refine Below.drew ?_ | refine Below.alloc ?_ (by simp <;> omega) _ | refine Below.setCell ?_ (by simp) _)

theorem error_nil (e : Int) (w : World) : Calls Tryd.prog 13 #[.nilIface, .int .i64 e] w fun r w' => r = .returned (.bool (0 == e)) ∧ Below w.heap.size w w' := by
  go_enter Tryd.func13, Tryd.ntmps13
  go_wp2_with (go_at_call 44; refine (told_nil _).mono ?_; rintro e w1 ⟨rfl, hb⟩)
  go_ret
  exact ⟨rfl, hb⟩
theorem error_errno (k e : Int) (w : World) (hg : Handle w) : Calls Tryd.prog 13 #[.iface 30 (.int .i64 k), .int .i64 e] w fun r w' => r = .returned (.bool (k == e)) ∧ Below w.heap.size w w' := by
  go_enter Tryd.func13, Tryd.ntmps13
  go_wp2_with (go_at_call 44; refine (told_errno k _ hg).mono ?_; rintro e w1 ⟨rfl, hb⟩)
  go_ret
  exact ⟨rfl, hb⟩
end Go.Proofs.YtffkppjmdelajaaDoor.Told

/- What a row's list gives of the library's variable errors.errorType. -/
namespace Go.Proofs.YtffkppjmdelajaaDoor.Told
open Go.RowKit
theorem et : Tryd.prog.globalNamed "errors.errorType" = some 1 := by kernel_rfl
theorem rt : (Tryd.prog.cutTypes.find? (·.1 == "internal/reflectlite.rtype")).map (·.2) = some 140 := by kernel_rfl
theorem oneRow : ((List.range 194).filter fun t => Tryd.prog.rowNamed t [101, 114, 114, 111, 114]) = [34] := by kernel_rfl
theorem size : Tryd.prog.types.size = 194 := by kernel_rfl
theorem handle_of_met {W : World} (h : handlesMet Tryd.prog [("errors.errorType", Rows.laid_errors_errorType)] W) : Handle W := by
  obtain ⟨name, u, ty, e1, e2, e3, e4, e5⟩ := h _ (List.mem_singleton.2 rfl)
  have en : name = [101, 114, 114, 111, 114] := (Option.some.inj e1).symm
  subst en
  obtain rfl := Option.some.inj (rt.symm.trans e2)
  have hm : ty ∈ (List.range 194).filter fun t => Tryd.prog.rowNamed t [101, 114, 114, 111, 114] := List.mem_filter.2 ⟨List.mem_range.2 (by rw [← size]; exact e3), e4⟩
  rw [oneRow] at hm
  obtain rfl := List.mem_singleton.1 hm
  have hh : typeHandle Tryd.prog 34 = .pointer (some ⟨2, 34, none⟩) := by kernel_rfl
  rw [hh] at e5
  simpa [Handle] using World.var?_cell et e5 0
theorem Handle.below {w w' : World} (h : Handle w) (hb : Below w.heap.size w w') : Handle w' := by
  have hlt : 1 < w.heap.size := World.block_lt_of_cell? _ _ h
  exact (hb.cell (p := ⟨1, 0, none⟩) hlt).trans h
end Go.Proofs.YtffkppjmdelajaaDoor.Told

/- An item of a value, read at a later world. No program but the types. -/
namespace Go.Proofs.YtffkppjmdelajaaDoor.Vals
open Go.RowKit Lists Ints
set_option linter.unusedVariables false

/-- an item of a value, read at a later world -/
theorem item_at {w wr : World} {B n : Nat} {A : Option Addr} {l : List Tr}
    (hit : 0 < l.length → ∃ b off, A = some ⟨b, off, none⟩ ∧ Bel B b ∧ ∀ j (h : j < l.length), ∃ x0 x1 x2, w.cell? ⟨b, off + j * 3, none⟩ = some x0 ∧ w.cell? ⟨b, off + j * 3 + 1, none⟩ = some x1 ∧ w.cell? ⟨b, off + j * 3 + 2, none⟩ = some x2 ∧ TAt w (Bel B) n (.agg #[x0, x1, x2]) (l[j]'h))
    (hb : Below B w wr) (k : Nat) (h : k < l.length) : ∃ b off x0 x1 x2, A = some ⟨b, off, none⟩ ∧ wr.cell? ⟨b, off + k * 3, none⟩ = some x0 ∧ wr.cell? ⟨b, off + k * 3 + 1, none⟩ = some x1 ∧ wr.cell? ⟨b, off + k * 3 + 2, none⟩ = some x2 ∧ TAt wr (Bel B) n (.agg #[x0, x1, x2]) (l[k]'h) := by
  obtain ⟨b, off, e, hB, hc⟩ := hit (by omega)
  obtain ⟨x0, x1, x2, c0, c1, c2, ht⟩ := hc k h
  exact ⟨b, off, x0, x1, x2, e, (hb.cell (p := ⟨b, _, none⟩) hB).trans c0, (hb.cell (p := ⟨b, _, none⟩) hB).trans c1, (hb.cell (p := ⟨b, _, none⟩) hB).trans c2, ht.below hb⟩

/-- an item of a value, read at a later world, its parts in sight -/
theorem item_as {w wr : World} {B n : Nat} {A : Option Addr} {l : List Tr}
    (hit : 0 < l.length → ∃ b off, A = some ⟨b, off, none⟩ ∧ Bel B b ∧ ∀ j (h : j < l.length), ∃ x0 x1 x2, w.cell? ⟨b, off + j * 3, none⟩ = some x0 ∧ w.cell? ⟨b, off + j * 3 + 1, none⟩ = some x1 ∧ w.cell? ⟨b, off + j * 3 + 2, none⟩ = some x2 ∧ TAt w (Bel B) n (.agg #[x0, x1, x2]) (l[j]'h))
    (hb : Below B w wr) (k : Nat) (h : k < l.length) : ∃ b off D d, A = some ⟨b, off, none⟩ ∧ wr.cell? ⟨b, off + k * 3, none⟩ = some (.bool (l[k]'h).list) ∧ wr.cell? ⟨b, off + k * 3 + 1, none⟩ = some (.int .i64 (l[k]'h).num) ∧ wr.cell? ⟨b, off + k * 3 + 2, none⟩ = some (.slice D (l[k]'h).items.length d) ∧
      TAt wr (Bel B) n (.agg #[.bool (l[k]'h).list, .int .i64 (l[k]'h).num, .slice D (l[k]'h).items.length d]) (l[k]'h) := by
  obtain ⟨b, off, x0, x1, x2, e, c0, c1, c2, ht⟩ := item_at hit hb k h
  obtain ⟨_, D, d, _, _, ev, _⟩ := ht.open_
  simp only [Value.agg.injEq, Array.mk.injEq, List.cons.injEq, and_true] at ev
  obtain ⟨rfl, rfl, rfl⟩ := ev
  exact ⟨b, off, D, d, e, c0, c1, c2, ht⟩

end Go.Proofs.YtffkppjmdelajaaDoor.Vals
