/- slices.Repeat of one bool, as often as there are tests; make of bools. Conditions: the sizes. -/
import Derived.Test.YtdmoigompmeacaaDoorCond3
import Derived.IntWalk
import Derived.Lib.Hide
import Derived.Deep.OwnRows
import Derived.Laws.CopyRow
import Derived.Laws.CopyOwn
import Derived.RegionTactic
namespace Go.Proofs.YtdmoigompmeacaaDoor.Cnd
open Go.RowKit Ints Bools
set_option linter.unusedVariables false

def Few (k : Nat) : Prop := k = 2 ∨ k = 4 ∨ k = 8 ∨ k = 16 ∨ k = 32 ∨ k = 64
theorem few_of {m : Nat} (h1 : 1 ≤ m) (h6 : m ≤ 6) : Few (2 ^ m) := by
  obtain rfl | rfl | rfl | rfl | rfl | rfl : m = 1 ∨ m = 2 ∨ m = 3 ∨ m = 4 ∨ m = 5 ∨ m = 6 := by omega
  all_goals (unfold Few; decide)
theorem Few.le {k : Nat} (h : Few k) : k ≤ 64 := by unfold Few at h; omega
set_option maxHeartbeats 4000000 in
set_option maxRecDepth 100000 in
theorem mul_few (k : Nat) (hk : Few k) (w : World) : Calls Tryd.prog 38 #[.int .u64 1, .int .u64 k] w fun e w' => e = .returned (.tuple #[.int .u64 0, .int .u64 k]) ∧ w = w' := by
  rcases hk with rfl | rfl | rfl | rfl | rfl | rfl
  all_goals
    go_enter Tryd.func38, Tryd.ntmps38
    go_wp2
    go_ret2
    exact ⟨rfl, rfl⟩
def vrep (x : Bool) (n : Nat) : List Value := List.replicate n (.bool x)
theorem vrep_add (x : Bool) (a b : Nat) : vrep x (a + b) = vrep x a ++ vrep x b := by unfold vrep; rw [List.replicate_append_replicate]
theorem vrep_len (x : Bool) (n : Nat) : (vrep x n).length = n := by unfold vrep; simp
theorem vrep_get {x : Bool} {n j : Nat} (h : j < n) : (vrep x n)[j]? = some (.bool x) := by unfold vrep; simp [h]
theorem vrep_mem {x : Bool} {n : Nat} {v : Value} (h : v ∈ vrep x n) : v = .bool x := List.eq_of_mem_replicate h
theorem vrep_step {x : Bool} {m k j : Nat} (h : m + j ≤ k) : (vrep x m ++ vrep false (k - m)).take m ++ vrep x j ++ (vrep x m ++ vrep false (k - m)).drop (m + (vrep x j).length) = vrep x (m + j) ++ vrep false (k - (m + j)) := by
  have e1 : (vrep x m ++ vrep false (k - m)).take m = vrep x m := by
    rw [List.take_append_of_le_length (by rw [vrep_len]; omega), List.take_of_length_le (by rw [vrep_len]; omega)]
  have e2 : (vrep x m ++ vrep false (k - m)).drop (m + (vrep x j).length) = vrep false (k - (m + j)) := by
    rw [vrep_len, show m + j = (vrep x m).length + j by rw [vrep_len], ← List.drop_drop, List.drop_left]
    rw [show k - m = j + (k - (m + j)) by omega, vrep_add, List.drop_append_of_le_length (by rw [vrep_len]; omega), List.drop_of_length_le (by rw [vrep_len]; omega), List.nil_append, vrep_len]
  rw [e1, e2, vrep_add]
/-- copy of elements of one cell -/
theorem run_copy1 {P : Program} (w : World) (dT sT ty elem : TypeId) (g o dLen dCap : Nat) (a : Addr) (sLen sCap : Nat) (cur : List Value) (t : TypeId) (cs : List Value) (m : Nat)
    (hu : P.underlying dT = some (.slice elem)) (hs : (P.info? elem).map (·.size) = some 1)
    (hg : w.heap[g]? = some (.cells cur.toArray t (0, 0))) (hm : m = Nat.min sLen dLen) (hn : cs.length = m)
    (hsrc : ∀ j v, cs[j]? = some v → w.cell? (a.add j) = some v) (hfit : o + cs.length ≤ cur.length) (h1 : ∀ v ∈ cs, v.oneCell' = true) :
    (Builtin.copy_ #[dT, sT] ty #[.slice (some ⟨g, o, none⟩) dLen dCap, .slice (some a) sLen sCap]).run P w =
      .ok (goInt m) (w.setRow g (cur.take o ++ cs ++ cur.drop (o + cs.length)).toArray) := by
  have hl := run_loadCells_list (P := P) w a cs hsrc
  have hst := run_storeCells_at P g o t cs 0 cur.toArray w hg (by simpa using hfit) h1
  cases hq : P.info? elem with
  | none => simp [hq] at hs
  | some i =>
    have hi : i.size = 1 := by simpa [hq] using hs
    simp [Builtin.copy_, run_underlying hu, Builtin.lenOf, Builtin.firstCells, sizeOf, typeInfo, hq, hi, ← hm, ← hn, hl, hst]
theorem vset_at (w : World) (g : Nat) (cur new : List Value) (t : TypeId) (h : w.heap[g]? = some (.cells cur.toArray t (0, 0))) : (w.setRow g new.toArray).heap[g]? = some (.cells new.toArray t (0, 0)) :=
  setRow_heap w g _ _ t _ h
theorem bool_size1 : (Tryd.prog.info? 4).map (·.size) = some 1 := by kernel_rfl
theorem made_rep (n : Nat) : madeCells #[.bool false] n = (vrep false n).toArray := by
  apply Array.ext'
  unfold madeCells vrep
  apply List.ext_getElem
  · simp
  · intro i h1 h2
    simp [Nat.mod_one]
theorem mk_row (k : Nat) (hk : k ≤ 64) (w : World) : (Instr.makeSlice 22 (.int .i64 k) (.int .i64 k)).run Tryd.prog w = .ok (.slice (some ⟨w.heap.size, 0, none⟩) k k) (w.alloc (.cells (vrep false k).toArray 4)) := by
  rw [← made_rep]
  exact run_make_row' (P := Tryd.prog) 22 4 (.bool false) 1 Tryd.underlying22 bool_info rfl .i64 .i64 k (by omega) (by omega) w
theorem vcell_row {w : World} {g : Nat} {cs : List Value} {t : TypeId} (h : w.heap[g]? = some (.cells cs.toArray t (0, 0))) (i : Nat) : w.cell? ⟨g, i, none⟩ = cs[i]? := by
  rw [Lib.cell_of_heap h]; simp
theorem vbel1 (w : World) (o : Obj) : Below w.heap.size w (w.alloc o) := (Below.refl _ _).alloc (Nat.le_refl _) _

/-- the bools z are all that block g holds -/
def RB (w : World) (g : Nat) (z : List Bool) : Prop := w.heap[g]? = some (.cells (z.map Value.bool).toArray 4 (0, 0))
theorem RB.lt {w : World} {g : Nat} {z : List Bool} (h : RB w g z) : g < w.heap.size := (Array.getElem?_eq_some_iff.1 h).1
theorem RB.lie {w : World} {g : Nat} {z : List Bool} (h : RB w g z) : Lie w g 0 z := fun j hj => by
  rw [Nat.zero_add, Lib.cell_of_heap h]
  simp [fOf, List.getD, hj]
theorem RB.free {w : World} {g : Nat} {z : List Bool} (h : RB w g z) (o : Nat) : w.frozen? ⟨g, o, none⟩ = false := Lib.frozen_of_heap h _
theorem RB.kept {w w' : World} {g : Nat} {z : List Bool} {row : Option Nat} (h : RB w g z) (hg : w.grownBy w' row) (hne : some g ≠ row) : RB w' g z := (hg.block g h.lt hne).trans h
theorem RB.put {w : World} {g : Nat} {z : List Bool} (h : RB w g z) (t : Nat) (v : Bool) : RB (w.setCell ⟨g, t, none⟩ (.bool v)) g (z.set t v) := by
  unfold RB at h ⊢
  simp [World.setCell, Array.getElem?_modify, h]

set_option maxHeartbeats 2000000 in
set_option maxRecDepth 100000 in
theorem repeat_bool {b off c : Nat} {x : Bool} (w : World) (hx : w.cell? ⟨b, off, none⟩ = some (.bool x)) (hb : b < w.heap.size) (k : Nat) (hk : Few k) :
    Calls Tryd.prog 32 #[.slice (some ⟨b, off, none⟩) 1 c, .int .i64 k] w fun e w' => e = .returned (.slice (some ⟨w.heap.size, 0, none⟩) k k) ∧ RB w' w.heap.size (List.replicate k x) ∧ Below w.heap.size w w' := by
  have MUL := Lib.hid (fun (w : World) => mul_few k hk w)
  have hmk := mk_row k hk.le w
  have NA := Lib.hid (new_box w (.cells (vrep false k).toArray 4))
  have BA := Lib.hid (vbel1 w (.cells (vrep false k).toArray 4))
  obtain ⟨m1, hm1⟩ : ∃ m1 : Nat, m1 = Nat.min 1 k := ⟨_, rfl⟩
  have hm1k : m1 ≤ k ∧ m1 ≤ 1 ∧ (m1 = 1 ∨ k = 0) := by rw [hm1]; simp only [Nat.min_def]; split <;> omega
  have M1 := Lib.hid (And.intro hm1 hm1k)
  clear hm1 hm1k
  have HX1 := Lib.hid (fun (wr : World) (hbw : Below w.heap.size w wr) j v (hv : (vrep x m1)[j]? = some v) => show wr.cell? ((⟨b, off, none⟩ : Addr).add j) = some v by
    have hj : j < m1 := by have := (List.getElem?_eq_some_iff.1 hv).1; rwa [vrep_len] at this
    obtain rfl : j = 0 := by have := M1.out.2.2.1; omega
    rw [vrep_get hj] at hv
    rw [Go.WideShapes.add_plain, ← hv]
    exact (hbw.cell (p := ⟨b, off, none⟩) hb).trans hx)
  have FIN := Lib.hid (fun (wr : World) (hg : wr.heap[w.heap.size]? = some (.cells (vrep x k ++ vrep false (k - k)).toArray 4 (0, 0))) => show RB wr w.heap.size (List.replicate k x) by
    rw [Nat.sub_self, show vrep false 0 = [] from rfl, List.append_nil] at hg
    unfold RB
    rw [hg]
    simp [vrep])
  have hcp := run_copy1 (P := Tryd.prog) (w.alloc (.cells (vrep false k).toArray 4)) 22 22 3 4 w.heap.size 0 k k ⟨b, off, none⟩ 1 c (vrep false k) 4 (vrep x m1) m1 Tryd.underlying22 bool_size1 NA.out M1.out.1 (vrep_len _ _) (HX1.out _ BA.out) (by rw [vrep_len, vrep_len]; have := M1.out.2.1; omega) (fun v hv => by rw [vrep_mem hv]; rfl)
  have hnew : (vrep false k).take 0 ++ vrep x m1 ++ (vrep false k).drop (0 + (vrep x m1).length) = vrep x m1 ++ vrep false (k - m1) := by
    simp [vrep]
  rw [hnew] at hcp
  have NB := Lib.hid (vset_at _ w.heap.size (vrep false k) (vrep x m1 ++ vrep false (k - m1)) 4 NA.out)
  have BB := Lib.hid (below_setRow (g := w.heap.size) BA.out (Nat.le_refl _) (vrep x m1 ++ vrep false (k - m1)).toArray)
  clear hnew hx
  have hk64 := hk.le
  have hki : (k : Int) ≤ 64 := by omega
  generalize hw2 : (w.alloc (.cells (vrep false k).toArray 4)).setRow w.heap.size (vrep x m1 ++ vrep false (k - m1)).toArray = w2 at *
  clear hw2
  go_enter Tryd.func32, Tryd.ntmps32
  go_wp2_with fail
  refine (MUL.out _).mono ?_
  rintro e w1 ⟨rfl, rfl⟩
  go_wp2_with fail
  clear hmk hcp
  go_loopw [8] (fun x' wr => ∃ m : Nat, x' = .int .i64 m ∧ m ≤ k ∧ Hid (1 ≤ m ∨ k = 0) ∧ Hid (wr.heap[w.heap.size]? = some (.cells (vrep x m ++ vrep false (k - m)).toArray 4 (0, 0))) ∧ Hid (Below w.heap.size w wr)) (fun x' _ => k - (intOf x').toNat)
  case atStart => exact ⟨m1, rfl, M1.out.2.1, (show 1 ≤ m1 ∨ k = 0 by have := M1.out.2.2.2; omega), NB.out, BB.out⟩
  case round =>
    obtain ⟨m, rfl, hmk, HP, HG, HWW⟩ := hrel
    by_cases hlt : m < k
    · obtain ⟨j, hj⟩ : ∃ j : Nat, j = Nat.min m (k - m) := ⟨_, rfl⟩
      have hjk : j ≤ m ∧ m + j ≤ k ∧ 1 ≤ j := by have := HP.out; rw [hj]; simp only [Nat.min_def]; split <;> omega
      have HJ := Lib.hid (And.intro hj hjk)
      obtain ⟨j1, j2, j3⟩ := hjk
      have jk5 : m + j ≤ 64 := by omega
      clear hj
      have hne : ¬ k = m := by omega
      have HGD := Lib.hid (show wr.drew.heap[w.heap.size]? = some (.cells (vrep x m ++ vrep false (k - m)).toArray 4 (0, 0)) from HG.out)
      have HWD := Lib.hid (show Below w.heap.size w wr.drew from HWW.out.drew)
      have hcp := run_copy1 (P := Tryd.prog) wr.drew 22 22 3 4 w.heap.size m (k - m) (k - m) ⟨w.heap.size, 0, none⟩ m k (vrep x m ++ vrep false (k - m)) 4 (vrep x j) j Tryd.underlying22 bool_size1 HGD.out HJ.out.1 (vrep_len _ _) (by
        intro i v hv
        rw [Go.WideShapes.add_plain, vcell_row HGD.out, Nat.zero_add, show m = j + (m - j) by omega, vrep_add, List.append_assoc, List.getElem?_append_left]
        · exact hv
        · exact (List.getElem?_eq_some_iff.1 hv).1) (by rw [List.length_append, vrep_len, vrep_len, vrep_len]; omega) (fun v hv => by rw [vrep_mem hv]; rfl)
      rw [vrep_step j2] at hcp
      have NC := Lib.hid (vset_at _ w.heap.size (vrep x m ++ vrep false (k - m)) (vrep x (m + j) ++ vrep false (k - (m + j))) 4 HGD.out)
      have BC := Lib.hid (below_setRow (g := w.heap.size) HWD.out (Nat.le_refl _) (vrep x (m + j) ++ vrep false (k - (m + j))).toArray)
      generalize hw3 : wr.drew.setRow w.heap.size (vrep x (m + j) ++ vrep false (k - (m + j))).toArray = w3 at *
      clear hw3
      go_wp2_with fail
      go_region
      all_goals (
        go_wp2_with fail
        go_roundw
        case rel => exact ⟨m + j, by go_num, j2, (show 1 ≤ m + j ∨ k = 0 from .inl (by omega)), NC.out, BC.out⟩
        case measure => simp [intOf]; omega)
    · have HE := Lib.hid (show m = k by omega)
      go_wp2_with fail
      go_ret
      have hg := HG.out
      rw [HE.out] at hg
      exact ⟨rfl, FIN.out _ hg, HWW.out⟩
end Go.Proofs.YtdmoigompmeacaaDoor.Cnd
