/- Maps by quadruples: of numbers, of bools; what is asked, set, raised. -/
import Derived.Test.YtbajkbkfinineaaDoorPairG
import Derived.Test.YtbajkbkfinineaaDoorPairC
import Derived.Maps.OwnOps
import Derived.Maps.Views
import Derived.DeepKeys4
import Derived.MapViews
import Derived.WideKeyEntry
namespace Go.Proofs.YtbajkbkfinineaaDoor.Pair
open Go.RowKit Go.Maps Go.ChangeMaps Go.MapKept Go.WideElems
open Go.WideMaps (KeyLaw)
open Go.Maps (Keyed)
set_option linter.unusedVariables false

/-! the keys -/
theorem q_laid : laidOutB Tryd.prog = true := by kernel_rfl
theorem q_row : (46 : TypeId) < Tryd.prog.types.size := of_decide_eq_true (by kernel_rfl)
theorem q_keyType : Tryd.prog.keyType 46 = true := by kernel_rfl
theorem q_cells : Tryd.prog.cellsOf 46 = 4 := by kernel_rfl
theorem i_cells : Tryd.prog.cellsOf 3 = 1 := by kernel_rfl
theorem q_size : ∃ m, Tryd.prog.types.size = m + 1 := by
  have h := Nat.lt_of_le_of_lt (Nat.zero_le _) q_row
  generalize Tryd.prog.types.size = n at h ⊢
  exact ⟨n - 1, by omega⟩
theorem q_lawK : KeyLaw Tryd.prog 46 := deep_law_laid q_laid (m := 2) (by omega) q_row (by kernel_rfl) (by rw [Tryd.underlying46])
theorem q_law : Keyed Tryd.prog 46 := Keyed.of_law q_lawK
def keyV (q : Quad) : Value := .agg #[.int .i64 q.a, .int .i64 q.x, .int .i64 q.b, .int .i64 q.y]
def klit (q : Quad) : Lit := .string (keyBytes [.int .i64 q.a, .int .i64 q.x, .int .i64 q.b, .int .i64 q.y])
def Sm (q : Quad) : Prop := q.a < 1000 ∧ q.x < 1000 ∧ q.b < 1000 ∧ q.y < 1000
theorem wf_small {n : Nat} (h : n < 1000) : (Lit.int .i64 (n : Int)).wf = true := WalkArith.wf_i64 (by omega)
theorem key_of {q : Quad} (h : Sm q) : keyOf Tryd.prog 46 (keyV q) = some (klit q) := by
  obtain ⟨m, hm⟩ := q_size
  have hf : (keyV q).formed Tryd.prog 46 = true := by simp [keyV, Value.formed, Tryd.underlying46, q_cells]
  have e : Tryd.prog.keyLits (Tryd.prog.types.size + 1) 46 (keyV q).cells.toList = some [.int .i64 q.a, .int .i64 q.x, .int .i64 q.b, .int .i64 q.y] := by
    obtain ⟨h1, h2, h3, h4⟩ := h
    rw [hm]
    unfold Program.keyLits
    simp only [Tryd.underlying46, q_cells, i_cells, keyV, Value.cells]
    simp [List.range_succ, Program.keyLits, Tryd.underlying3, wf_small h1, wf_small h2, wf_small h3, wf_small h4]
  unfold keyOf
  simp only [Tryd.underlying46, q_keyType, hf, Bool.and_self, if_true, e, Option.map_some]
  rfl
theorem klit_inj {q p : Quad} (hq : Sm q) (hp : Sm p) (h : klit q = klit p) : q = p := by
  have e := q_law.inj (key_of hq) (by rw [h]; exact key_of hp)
  unfold keyV at e
  simp only [Value.agg.injEq, Array.mk.injEq, List.cons.injEq, Value.int.injEq, true_and, and_true] at e
  obtain ⟨a, x, b, y⟩ := q
  obtain ⟨a', x', b', y'⟩ := p
  simp only [Quad.mk.injEq]
  simp only at e
  omega

/-! block B is a map of numbers: f, by quadruples; n: how often it was written -/
def MAt (B n : Nat) (f : Quad → Int) (w : World) : Prop := ∃ D : DataW Unit, w.ownsMap Tryd.prog 46 (plainElem Tryd.prog 3) B n D ∧ IsMap D ∧ ∀ q, Sm q → D.atKey (klit q) (.lit (.int .i64 0)) = .lit (.int .i64 (f q))
def MBt (B n : Nat) (f : Quad → Bool) (w : World) : Prop := ∃ D : DataW Unit, w.ownsMap Tryd.prog 46 (plainElem Tryd.prog 4) B n D ∧ IsMap D ∧ ∀ q, Sm q → D.atKey (klit q) (.lit (.bool false)) = .lit (.bool (f q))
def upd {β : Type} (f : Quad → β) (q : Quad) (v : β) : Quad → β := fun p => if p = q then v else f p
theorem MAt.kept {B n : Nat} {f : Quad → Int} {w w' : World} {row : Option Nat} (h : MAt B n f w) (hg : w.grownBy w' row) (hne : some B ≠ row) : MAt B n f w' := by
  obtain ⟨D, h1, h2, h3⟩ := h
  exact ⟨D, h1.kept hg hne, h2, h3⟩
theorem MBt.kept {B n : Nat} {f : Quad → Bool} {w w' : World} {row : Option Nat} (h : MBt B n f w) (hg : w.grownBy w' row) (hne : some B ≠ row) : MBt B n f w' := by
  obtain ⟨D, h1, h2, h3⟩ := h
  exact ⟨D, h1.kept hg hne, h2, h3⟩
theorem MAt.lt {B n : Nat} {f : Quad → Int} {w : World} (h : MAt B n f w) : B < w.heap.size := by obtain ⟨D, h1, _⟩ := h; exact h1.lt
theorem MBt.lt {B n : Nat} {f : Quad → Bool} {w : World} (h : MBt B n f w) : B < w.heap.size := by obtain ⟨D, h1, _⟩ := h; exact h1.lt
theorem MAt.made (w : World) : MAt w.heap.size 0 (fun _ => 0) (w.alloc (.map #[] 0)) := ⟨.map [], World.ownsMap_made _ _ _ _, isMap_empty, fun q _ => WideAt.atKey_none _ (by simp)⟩
theorem MBt.made (w : World) : MBt w.heap.size 0 (fun _ => false) (w.alloc (.map #[] 0)) := ⟨.map [], World.ownsMap_made _ _ _ _, isMap_empty, fun q _ => WideAt.atKey_none _ (by simp)⟩
theorem zero_int (w : World) : (zeroValue 3).run Tryd.prog w = .ok (.int .i64 0) w := by kernel_rfl
theorem zero_bool (w : World) : (zeroValue 4).run Tryd.prog w = .ok (.bool false) w := by kernel_rfl
theorem MAt.look {B n : Nat} {f : Quad → Int} {w : World} (h : MAt B n f w) {q : Quad} (hq : Sm q) : (Instr.lookup 53 (.map (some B)) (keyV q) false).run Tryd.prog w = .ok (.int .i64 (f q)) w := by
  obtain ⟨D, h1, h2, h3⟩ := h
  obtain ⟨c, hrun, hc, _⟩ := h1.lookup_int q_law Tryd.underlying53 Tryd.underlying3 (zero_int w) (key_of hq)
  rw [h3 q hq] at hc
  simp only [DataW.lit.injEq, Lit.int.injEq, true_and] at hc
  rw [hrun, hc]
theorem plainElem_bool_inv {P : Program} {e : TypeId} (he : P.underlying e = some .bool) {v : Value} {z : DataW Unit × List MemPlace} (h : plainElem P e v = some z) : ∃ x, v = .bool x ∧ z = (.lit (.bool x), []) := by
  unfold plainElem at h
  rw [he] at h
  cases v <;> simp at h
  exact ⟨_, rfl, h.symm⟩
theorem MBt.look {B n : Nat} {f : Quad → Bool} {w : World} (h : MBt B n f w) {q : Quad} (hq : Sm q) : (Instr.lookup 47 (.map (some B)) (keyV q) false).run Tryd.prog w = .ok (.bool (f q)) w := by
  obtain ⟨D, h1, h2, h3⟩ := h
  obtain ⟨v, ps, hrun, hv⟩ := h1.lookup q_law Tryd.underlying47 (zero_bool w) (plainElem_bool Tryd.underlying4 false) (key_of hq)
  obtain ⟨c, rfl, hc⟩ := plainElem_bool_inv Tryd.underlying4 hv
  rw [h3 q hq] at hc
  simp only [Prod.mk.injEq, DataW.lit.injEq, Lit.bool.injEq] at hc
  rw [hrun, hc.1]
theorem isMap_put {D : DataW Unit} {k : Lit} {d : DataW Unit} (h : IsMap D) : IsMap (D.put k d) := h.put k d
theorem at_put {D : DataW Unit} (hm : IsMap D) {q p : Quad} (hq : Sm q) (hp : Sm p) (d z : DataW Unit) : (D.put (klit q) d).atKey (klit p) z = if p = q then d else D.atKey (klit p) z := by
  by_cases e : p = q
  · subst e
    rw [if_pos rfl]
    exact atKey_put_same hm (q_law.key (key_of hp)) d z
  · rw [if_neg e]
    exact atKey_put_other (fun h => e (klit_inj hp hq h)) d z
theorem MBt.put {B n : Nat} {f : Quad → Bool} {w : World} (h : MBt B n f w) (hn : n < maxLen) {q : Quad} (hq : Sm q) (v : Bool) : ∃ w', (Instr.mapUpdate 47 (.map (some B)) (keyV q) (.bool v)).run Tryd.prog w = .ok () w' ∧ MBt B (n + 1) (upd f q v) w' ∧ w.grownBy w' (some B) := by
  obtain ⟨D, h1, h2, h3⟩ := h
  obtain ⟨w', hr, r1, r2⟩ := h1.update q_law Tryd.underlying47 hn (key_of hq) (plainElem_bool Tryd.underlying4 v)
  refine ⟨w', hr, ⟨_, r1, isMap_put h2, fun p hp => ?_⟩, r2⟩
  rw [at_put h2 hq hp]
  unfold upd
  split
  · rfl
  · exact h3 p hp
theorem MAt.put {B n : Nat} {f : Quad → Int} {w : World} (h : MAt B n f w) (hn : n < maxLen) {q : Quad} (hq : Sm q) {v : Int} (hv : (Lit.int .i64 v).wf = true) : ∃ w', (Instr.mapUpdate 53 (.map (some B)) (keyV q) (.int .i64 v)).run Tryd.prog w = .ok () w' ∧ MAt B (n + 1) (upd f q v) w' ∧ w.grownBy w' (some B) := by
  obtain ⟨D, h1, h2, h3⟩ := h
  obtain ⟨w', hr, r1, r2⟩ := h1.update q_law Tryd.underlying53 hn (key_of hq) (plainElem_int Tryd.underlying3 hv)
  refine ⟨w', hr, ⟨_, r1, isMap_put h2, fun p hp => ?_⟩, r2⟩
  rw [at_put h2 hq hp]
  unfold upd
  split
  · rfl
  · exact h3 p hp

/-- the entry of a key that is not there yet, asked: nought -/
theorem look_pushed {w : World} {B clock : Nat} {es : Array MapEntry} {v : Value} {q : Quad} (hq : Sm q) (hks : ∀ e ∈ es.toList, ∃ l, keyOf Tryd.prog 46 e.key = some l) (hno : ∀ e ∈ es.toList, e.key ≠ keyV q) (hb : w.heap[B]? = some (.map (es.push ⟨keyV q, v, clock⟩) (clock + 1))) :
    (Instr.lookup 53 (.map (some B)) (keyV q) false).run Tryd.prog w = .ok v w := by
  rcases q_law.find w (key_of hq) (es.push ⟨keyV q, v, clock⟩).toList (fun e he => by
    rw [Array.toList_push, List.mem_append, List.mem_singleton] at he
    rcases he with he | rfl
    · exact hks e he
    · exact ⟨_, key_of hq⟩) with ⟨h1, h2⟩ | ⟨j, e0, h1, h2, h3⟩
  · exact absurd rfl (h2 ⟨keyV q, v, clock⟩ (by simp))
  · have he := List.mem_of_getElem? h2
    rw [Array.toList_push, List.mem_append, List.mem_singleton] at he
    have hv : e0.val = v := by
      rcases he with he | rfl
      · exact absurd h3 (hno e0 he)
      · rfl
    rw [Array.toList_push] at h1
    simp [Instr.lookup, run_underlying Tryd.underlying53, MapKept.run_getObj_map hb, q_law.check w _ (key_of hq), h1, hv, Result.andThen]
/-- what raises an entry: its place first, what it holds before or behind -/
theorem MAt.entry {B n : Nat} {f : Quad → Int} {w : World} (h : MAt B n f w) (hn : n < maxLen) {q : Quad} (hq : Sm q) :
    ∃ (st : Nat) (w1 : World), (Instr.mapEntry 53 (.map (some B)) (keyV q)).run Tryd.prog w = .ok (.tuple #[.int .i64 (f q), .int .i64 st]) w1 ∧ w.grownBy w1 (some B) ∧
      (Instr.lookup 53 (.map (some B)) (keyV q) false).run Tryd.prog w1 = .ok (.int .i64 (f q)) w1 ∧
      ∀ v : Int, (Lit.int .i64 v).wf = true → ∃ w2, (Instr.entryStore 53 (.map (some B)) (.int .i64 st) (.int .i64 v)).run Tryd.prog w1 = .ok () w2 ∧ MAt B (n + 1) (upd f q v) w2 ∧ w.grownBy w2 (some B) := by
  have hlook := h.look hq
  have hput := fun v hv => h.put hn hq (v := v) hv
  obtain ⟨D, ⟨es, clock, hb, F, _, _⟩, _, _⟩ := h
  obtain ⟨v0, st, es1, clock1, hr, hv0, hst⟩ := entry_then_store (w := w) q_lawK Tryd.underlying53 zero_int hb F (key_of hq)
  have hg1 : w.grownBy (setBlock w B (.map es1 clock1)) (some B) := ⟨rfl, rfl, rfl, by simp [setBlock], fun i _ hi => heap_setBlock_other hb _ (fun e => hi (by rw [e]))⟩
  have hb1 : (setBlock w B (.map es1 clock1)).heap[B]? = some (.map es1 clock1) := heap_setBlock_same hb _
  -- what the place holds is what is asked
  have hcase : v0 = .int .i64 (f q) ∧ (Instr.lookup 53 (.map (some B)) (keyV q) false).run Tryd.prog (setBlock w B (.map es1 clock1)) = .ok (.int .i64 (f q)) (setBlock w B (.map es1 clock1)) := by
    rcases q_law.find w (key_of hq) es.toList F.keys with ⟨h1, h2⟩ | ⟨j, e0, h1, h2, h3⟩
    · have hl : (Instr.lookup 53 (.map (some B)) (keyV q) false).run Tryd.prog w = .ok (.int .i64 0) w := by
        simp [Instr.lookup, run_underlying Tryd.underlying53, MapKept.run_getObj_map hb, q_law.check w _ (key_of hq), h1, Result.andThen]
      rw [hlook] at hl
      simp only [Result.ok.injEq, Value.int.injEq, true_and, and_true] at hl
      have hr2 : (Instr.mapEntry 53 (.map (some B)) (keyV q)).run Tryd.prog w = .ok (.tuple #[.int .i64 0, goInt clock]) (setBlock w B (.map (es.push ⟨keyV q, .int .i64 0, clock⟩) (clock + 1))) := by
        simp [Instr.mapEntry, run_underlying Tryd.underlying53, MapKept.run_getObj_map hb, q_law.check w false (key_of hq), h1, MapKept.run_setObj_map _ hb, Result.andThen, setBlock]
      rw [hr] at hr2
      simp only [Result.ok.injEq, Value.tuple.injEq, Array.mk.injEq, List.cons.injEq, and_true] at hr2
      obtain ⟨⟨e1, _⟩, e2⟩ := hr2
      refine ⟨by rw [e1, hl], ?_⟩
      have hbb := hb1
      rw [e2, heap_setBlock_same hb] at hbb
      rw [e2, hl]
      exact look_pushed hq F.keys h2 (heap_setBlock_same hb _)
    · have hj : es[j]? = some e0 := by simpa using h2
      have hl : (Instr.lookup 53 (.map (some B)) (keyV q) false).run Tryd.prog w = .ok e0.val w := by
        simp [Instr.lookup, run_underlying Tryd.underlying53, MapKept.run_getObj_map hb, q_law.check w _ (key_of hq), h1, Result.andThen]
      rw [hlook] at hl
      simp only [Result.ok.injEq, and_true] at hl
      have hsame : es.modify j (fun e => { e with key := keyV q }) = es := by
        apply Array.ext'
        rw [Array.toList_modify, modify_eq_set _ _ _ _ h2]
        have : ({ e0 with key := keyV q } : MapEntry) = e0 := by rw [← h3]
        rw [this]
        exact set_self _ _ _ h2
      have hr2 : (Instr.mapEntry 53 (.map (some B)) (keyV q)).run Tryd.prog w = .ok (.tuple #[e0.val, goInt e0.born]) (setBlock w B (.map es clock)) := by
        simp [Instr.mapEntry, run_underlying Tryd.underlying53, MapKept.run_getObj_map hb, q_law.check w false (key_of hq), h1, hj, h3, q_law.stays w (key_of hq), hsame, MapKept.run_setObj_map _ hb, Result.andThen, setBlock]
      rw [hr] at hr2
      simp only [Result.ok.injEq, Value.tuple.injEq, Array.mk.injEq, List.cons.injEq, and_true] at hr2
      obtain ⟨⟨e1, _⟩, e2⟩ := hr2
      refine ⟨by rw [e1, ← hl], ?_⟩
      have hsb : setBlock w B (.map es clock) = w := by
        unfold setBlock
        have : w.heap.setIfInBounds B (.map es clock) = w.heap := by
          apply Array.ext_getElem?
          intro i
          rw [Array.getElem?_setIfInBounds]
          split
          · rename_i e; subst e; split
            · exact hb.symm
            · rename_i hn; rw [Array.getElem?_eq_none (by omega)] at hb; cases hb
          · rfl
        rw [this]
      rw [e2, hsb]
      exact hlook
  obtain ⟨rfl, hl1⟩ := hcase
  refine ⟨st, _, hr, hg1, hl1, fun v hv => ?_⟩
  obtain ⟨es', clock', r1, r2⟩ := hst _ (.int .i64 v) hb1
  obtain ⟨w', p1, p2, p3⟩ := hput v hv
  rw [r2] at p1
  injection p1 with _ p1
  refine ⟨_, r1, ?_, ?_⟩
  · have e : setBlock (setBlock w B (.map es1 clock1)) B (.map es' clock') = setBlock w B (.map es' clock') := by
      unfold setBlock
      simp
    rw [e, p1]
    exact p2
  · have e : setBlock (setBlock w B (.map es1 clock1)) B (.map es' clock') = setBlock w B (.map es' clock') := by
      unfold setBlock
      simp
    rw [e, p1]
    exact p3
end Go.Proofs.YtbajkbkfinineaaDoor.Pair
