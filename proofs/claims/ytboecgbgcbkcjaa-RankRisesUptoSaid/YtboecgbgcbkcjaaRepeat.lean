/- slices.Repeat of one generator, few times. -/
import Derived.Test.YtboecgbgcbkcjaaRkList
import Derived.Laws.CopyOwn
import Derived.Deep.RegionLaw
namespace Go.Proofs.Ytboecgbgcbkcjaa.Gens
open Go.RowKit Lists Ints Vals
set_option linter.unusedVariables false

set_option maxHeartbeats 1000000 in
set_option maxRecDepth 100000 in
theorem mul_one_few (k : Nat) (hk : k ≤ 5) (w : World) : Calls Try.prog 36 #[.int .u64 1, .int .u64 k] w fun e w' => e = .returned (.tuple #[.int .u64 0, .int .u64 k]) ∧ w = w' := by
  have h : k = 0 ∨ k = 1 ∨ k = 2 ∨ k = 3 ∨ k = 4 ∨ k = 5 := by omega
  rcases h with rfl | rfl | rfl | rfl | rfl | rfl
  all_goals
    go_enter Try.func36, Try.ntmps36
    go_wp2
    go_ret2
    exact ⟨rfl, rfl⟩

/-! rows of four cells -/
abbrev zc : List Value := [.int .i64 0, .int .i64 0, .int .i64 0, .slice none 0 0]
def reps (X : List Value) (n : Nat) : List Value := (List.replicate n X).flatten
theorem reps_add (X : List Value) (a b : Nat) : reps X (a + b) = reps X a ++ reps X b := by
  unfold reps; rw [← List.replicate_append_replicate, List.flatten_append]
theorem reps_len {X : List Value} (h : X.length = 4) (n : Nat) : (reps X n).length = n * 4 := by
  unfold reps; simp [List.length_flatten, h]
theorem reps_get {X : List Value} (h : X.length = 4) {j n q : Nat} (hj : j < n) (hq : q < 4) : (reps X n)[j * 4 + q]? = X[q]? := by
  rw [show n = j + (1 + (n - j - 1)) by omega, reps_add, List.getElem?_append_right (by rw [reps_len h]; omega), reps_len h, reps_add, List.getElem?_append_left (by rw [reps_len h]; omega)]
  rw [show j * 4 + q - j * 4 = q by omega]
  simp [reps]
theorem reps_mem {X : List Value} {n : Nat} {v : Value} (h : v ∈ reps X n) : v ∈ X := by
  unfold reps at h
  obtain ⟨l, h1, h2⟩ := List.mem_flatten.1 h
  rwa [List.eq_of_mem_replicate h1] at h2
theorem reps_step {X Z : List Value} (hX : X.length = 4) (hZ : Z.length = 4) {m k j : Nat} (h : m + j ≤ k) :
    (reps X m ++ reps Z (k - m)).take (m * 4) ++ reps X j ++ (reps X m ++ reps Z (k - m)).drop (m * 4 + (reps X j).length) = reps X (m + j) ++ reps Z (k - (m + j)) := by
  have e1 : (reps X m ++ reps Z (k - m)).take (m * 4) = reps X m := by
    rw [List.take_append_of_le_length (by rw [reps_len hX]; omega), List.take_of_length_le (by rw [reps_len hX]; omega)]
  have e2 : (reps X m ++ reps Z (k - m)).drop (m * 4 + (reps X j).length) = reps Z (k - (m + j)) := by
    rw [reps_len hX, show m * 4 + j * 4 = (reps X m).length + j * 4 by rw [reps_len hX], ← List.drop_drop, List.drop_left]
    rw [show k - m = j + (k - (m + j)) by omega, reps_add, List.drop_append_of_le_length (by rw [reps_len hZ]; omega), List.drop_of_length_le (by rw [reps_len hZ]; omega), List.nil_append]
  rw [e1, e2, reps_add]

/-- copy of elements of four cells -/
theorem run_copy4 {P : Program} (w : World) (dT sT ty elem : TypeId) (g o dLen dCap : Nat) (a : Addr) (sLen sCap : Nat) (cur : List Value) (t : TypeId) (cs : List Value) (m : Nat)
    (hu : P.underlying dT = some (.slice elem)) (hs : (P.info? elem).map (·.size) = some 4)
    (hg : w.heap[g]? = some (.cells cur.toArray t (0, 0))) (hm : m = Nat.min sLen dLen) (hn : cs.length = m * 4)
    (hsrc : ∀ j v, cs[j]? = some v → w.cell? (a.add j) = some v) (hfit : o + cs.length ≤ cur.length) (h1 : ∀ v ∈ cs, v.oneCell' = true) :
    (Builtin.copy_ #[dT, sT] ty #[.slice (some ⟨g, o, none⟩) dLen dCap, .slice (some a) sLen sCap]).run P w =
      .ok (goInt m) (w.setRow g (cur.take o ++ cs ++ cur.drop (o + cs.length)).toArray) := by
  have hl := run_loadCells_list (P := P) w a cs hsrc
  have hst := run_storeCells_at P g o t cs 0 cur.toArray w hg (by simpa using hfit) h1
  cases hq : P.info? elem with
  | none => simp [hq] at hs
  | some i =>
    have hi : i.size = 4 := by simpa [hq] using hs
    simp [Builtin.copy_, run_underlying hu, Builtin.lenOf, Builtin.firstCells, sizeOf, typeInfo, hq, hi, ← hm, ← hn, hl, hst]

theorem setRow_at (w : World) (g : Nat) (cur new : List Value) (t : TypeId) (h : w.heap[g]? = some (.cells cur.toArray t (0, 0))) : (w.setRow g new.toArray).heap[g]? = some (.cells new.toArray t (0, 0)) :=
  setRow_heap w g _ _ t _ h

theorem gen_size4 : (Try.prog.info? 24).map (·.size) = some 4 := by kernel_rfl
set_option maxRecDepth 100000 in
theorem mk_0 : ∀ w, (Instr.makeSlice 22 (.int .i64 0) (.int .i64 0)).run Try.prog w = .ok (.slice (some ⟨w.heap.size, 0, none⟩) 0 0) (w.alloc (.cells (reps zc 0).toArray 24)) := fun _ => by kernel_rfl
set_option maxRecDepth 100000 in
theorem mk_1 : ∀ w, (Instr.makeSlice 22 (.int .i64 1) (.int .i64 1)).run Try.prog w = .ok (.slice (some ⟨w.heap.size, 0, none⟩) 1 1) (w.alloc (.cells (reps zc 1).toArray 24)) := fun _ => by kernel_rfl
set_option maxRecDepth 100000 in
theorem mk_2 : ∀ w, (Instr.makeSlice 22 (.int .i64 2) (.int .i64 2)).run Try.prog w = .ok (.slice (some ⟨w.heap.size, 0, none⟩) 2 2) (w.alloc (.cells (reps zc 2).toArray 24)) := fun _ => by kernel_rfl
set_option maxRecDepth 100000 in
theorem mk_3 : ∀ w, (Instr.makeSlice 22 (.int .i64 3) (.int .i64 3)).run Try.prog w = .ok (.slice (some ⟨w.heap.size, 0, none⟩) 3 3) (w.alloc (.cells (reps zc 3).toArray 24)) := fun _ => by kernel_rfl
set_option maxRecDepth 100000 in
theorem mk_4 : ∀ w, (Instr.makeSlice 22 (.int .i64 4) (.int .i64 4)).run Try.prog w = .ok (.slice (some ⟨w.heap.size, 0, none⟩) 4 4) (w.alloc (.cells (reps zc 4).toArray 24)) := fun _ => by kernel_rfl
set_option maxRecDepth 100000 in
theorem mk_5 : ∀ w, (Instr.makeSlice 22 (.int .i64 5) (.int .i64 5)).run Try.prog w = .ok (.slice (some ⟨w.heap.size, 0, none⟩) 5 5) (w.alloc (.cells (reps zc 5).toArray 24)) := fun _ => by kernel_rfl
theorem mk_few (k : Nat) (hk : k ≤ 5) (w : World) : (Instr.makeSlice 22 (.int .i64 k) (.int .i64 k)).run Try.prog w = .ok (.slice (some ⟨w.heap.size, 0, none⟩) k k) (w.alloc (.cells (reps zc k).toArray 24)) := by
  have h : k = 0 ∨ k = 1 ∨ k = 2 ∨ k = 3 ∨ k = 4 ∨ k = 5 := by omega
  rcases h with rfl | rfl | rfl | rfl | rfl | rfl
  · exact mk_0 w
  · exact mk_1 w
  · exact mk_2 w
  · exact mk_3 w
  · exact mk_4 w
  · exact mk_5 w
theorem cell_row {w : World} {g : Nat} {cs : List Value} {t : TypeId} (h : w.heap[g]? = some (.cells cs.toArray t (0, 0))) (i : Nat) : w.cell? ⟨g, i, none⟩ = cs[i]? := by
  rw [Lib.cell_of_heap h]; simp

set_option maxHeartbeats 2000000 in
set_option maxRecDepth 100000 in
theorem repeat_one {n : Nat} {y : Gn} {A : Option Addr} {c B : Nat} (w : World) (h : GsAt w B n A [y]) (hB : B ≤ w.heap.size) (k : Nat) (hk : k ≤ 5) :
    Calls Try.prog 32 #[.slice A 1 c, .int .i64 k] w fun e w' => ∃ A' c', e = .returned (.slice A' k c') ∧ k ≤ c' ∧ GsAt w' w'.heap.size n A' (List.replicate k y) ∧ Below w.heap.size w w' := by
  obtain ⟨b, off, D, d, rfl, s0, s1, s2, s3, ht⟩ := sub_as h (Below.refl _ _) 0 (by simp)
  obtain ⟨_, _, e1, hBb, _⟩ := h (by simp)
  obtain ⟨rfl, rfl⟩ : b = _ ∧ off = _ := by simpa using e1
  simp only [Nat.zero_mul, Nat.add_zero, List.getElem_cons_zero] at s0 s1 s2 s3 ht
  obtain ⟨X, hX⟩ : ∃ X : List Value, X = [.int .i64 y.kind, .int .i64 y.a, .int .i64 y.b, .slice D y.subs.length d] := ⟨_, rfl⟩
  have XL : X.length = 4 := by rw [hX]; rfl
  have X1 : ∀ v ∈ X, v.oneCell' = true := by
    rw [hX]; intro v hv
    simp only [List.mem_cons, List.not_mem_nil, or_false] at hv
    rcases hv with rfl | rfl | rfl | rfl <;> rfl
  have SRC : ∀ j v, X[j]? = some v → w.cell? ((⟨b, off, none⟩ : Addr).add j) = some v := by
    intro j v hv
    rw [Go.WideShapes.add_plain]
    rw [hX] at hv
    match j with
    | 0 => rw [← hv]; exact s0
    | 1 => rw [← hv]; exact s1
    | 2 => rw [← hv]; exact s2
    | 3 => rw [← hv]; exact s3
    | j + 4 => simp at hv
  have MUL := Lib.hid (fun (w : World) => mul_one_few k hk w)
  have hmk := mk_few k hk w
  have HX := Lib.hid (And.intro hX (And.intro XL (And.intro X1 SRC)))
  have HT := Lib.hid (And.intro ht hB)
  have hBb := Lib.hid (Nat.lt_of_lt_of_le hBb hB)
  clear s0 s1 s2 s3 ht h hB e1 XL X1 SRC
  have NA := Lib.hid (new_obj w (.cells (reps zc k).toArray 24))
  have BA := Lib.hid (bel1 w (.cells (reps zc k).toArray 24))
  clear hX
  obtain ⟨m1, hm1⟩ : ∃ m1 : Nat, m1 = Nat.min 1 k := ⟨_, rfl⟩
  have hm1k : m1 ≤ k ∧ m1 ≤ 1 ∧ (m1 = 1 ∨ k = 0) := by rw [hm1]; simp only [Nat.min_def]; split <;> omega
  have M1 := Lib.hid (And.intro hm1 hm1k)
  clear hm1 hm1k
  have HX1 := Lib.hid (fun (wr : World) (hb : Below w.heap.size w wr) j v (hv : (reps X m1)[j]? = some v) => show wr.cell? ((⟨b, off, none⟩ : Addr).add j) = some v by
    have hv : X[j]? = some v := by
      rcases M1.out.2.2.2 with h | h
      · rw [h] at hv; simpa [reps] using hv
      · have : m1 = 0 := by have := M1.out.2.1; omega
        rw [this] at hv; simp [reps] at hv
    rw [Go.WideShapes.add_plain]
    have := HX.out.2.2.2 j v hv
    rw [Go.WideShapes.add_plain] at this
    exact (hb.cell (p := ⟨b, _, none⟩) hBb.out).trans this)
  have FIN := Lib.hid (fun (wr : World) (hb : Below w.heap.size w wr) (hg : wr.heap[w.heap.size]? = some (.cells (reps X k ++ reps zc (k - k)).toArray 24 (0, 0))) => show GsAt wr wr.heap.size n (some ⟨w.heap.size, 0, none⟩) (List.replicate k y) from fun _ => by
    rw [Nat.sub_self, show reps zc 0 = [] from rfl, List.append_nil] at hg
    refine ⟨w.heap.size, 0, rfl, (Array.getElem?_eq_some_iff.1 hg).1, fun j hj => ?_⟩
    have hj : j < k := by simpa using hj
    have hc : ∀ q, q < 4 → wr.cell? ⟨w.heap.size, 0 + j * 4 + q, none⟩ = X[q]? := fun q hq => by
      rw [cell_row hg, show 0 + j * 4 + q = j * 4 + q by omega, reps_get HX.out.2.1 hj hq]
    refine ⟨.int .i64 y.kind, .int .i64 y.a, .int .i64 y.b, .slice D y.subs.length d, by have := hc 0 (by omega); rw [HX.out.1] at this; exact this, by have := hc 1 (by omega); rw [HX.out.1] at this; exact this, by have := hc 2 (by omega); rw [HX.out.1] at this; exact this, by have := hc 3 (by omega); rw [HX.out.1] at this; exact this, ?_⟩
    have := (HT.out.1.below (hb.mono HT.out.2)).more (Nat.le_trans HT.out.2 hb.size)
    simpa using this)
  have hcp := run_copy4 (P := Try.prog) (w.alloc (.cells (reps zc k).toArray 24)) 22 22 3 24 w.heap.size 0 k k ⟨b, off, none⟩ 1 c (reps zc k) 24 (reps X m1) m1 Try.underlying22 gen_size4 NA.out M1.out.1 (reps_len HX.out.2.1 _) (HX1.out _ BA.out) (by rw [reps_len HX.out.2.1, reps_len rfl]; have := M1.out.2.1; omega) (fun v hv => HX.out.2.2.1 v (reps_mem hv))
  have hnew : (reps zc k).take 0 ++ reps X m1 ++ (reps zc k).drop (0 + (reps X m1).length) = reps X m1 ++ reps zc (k - m1) := by
    have := reps_step (X := X) (Z := zc) HX.out.2.1 rfl (m := 0) (k := k) (j := m1) (by have := M1.out.2.1; omega)
    simpa [reps] using this
  rw [hnew] at hcp
  have NB := Lib.hid (setRow_at _ w.heap.size (reps zc k) (reps X m1 ++ reps zc (k - m1)) 24 NA.out)
  have BB := Lib.hid (below_setRow (g := w.heap.size) BA.out (Nat.le_refl _) (reps X m1 ++ reps zc (k - m1)).toArray)
  clear hnew
  generalize hw2 : (w.alloc (.cells (reps zc k).toArray 24)).setRow w.heap.size (reps X m1 ++ reps zc (k - m1)).toArray = w2 at *
  clear hw2
  go_enter Try.func32, Try.ntmps32
  go_wp2_with fail
  refine (MUL.out _).mono ?_
  rintro e w1 ⟨rfl, rfl⟩
  go_wp2_with fail
  clear hmk hcp
  go_loopw [8] (fun x wr => ∃ m : Nat, x = .int .i64 m ∧ m ≤ k ∧ Hid (1 ≤ m ∨ k = 0) ∧ Hid (wr.heap[w.heap.size]? = some (.cells (reps X m ++ reps zc (k - m)).toArray 24 (0, 0))) ∧ Hid (Below w.heap.size w wr)) (fun x _ => k - (intOf x).toNat)
  case atStart => exact ⟨m1, rfl, M1.out.2.1, (show 1 ≤ m1 ∨ k = 0 by have := M1.out.2.2.2; omega), NB.out, BB.out⟩
  case round =>
    obtain ⟨m, rfl, hmk, HP, HG, HWW⟩ := hrel
    by_cases hlt : m < k
    · obtain ⟨j, hj⟩ : ∃ j : Nat, j = Nat.min m (k - m) := ⟨_, rfl⟩
      have hjk : j ≤ m ∧ m + j ≤ k ∧ 1 ≤ j := by have := HP.out; rw [hj]; simp only [Nat.min_def]; split <;> omega
      have HJ := Lib.hid (And.intro hj hjk)
      obtain ⟨j1, j2, j3⟩ := hjk
      have jk5 : m + j ≤ 5 := by omega
      clear hj
      have hne : ¬ k = m := by omega
      have HGD := Lib.hid (show wr.drew.heap[w.heap.size]? = some (.cells (reps X m ++ reps zc (k - m)).toArray 24 (0, 0)) from HG.out)
      have HWD := Lib.hid (show Below w.heap.size w wr.drew from HWW.out.drew)
      have hcp := run_copy4 (P := Try.prog) wr.drew 22 22 3 24 w.heap.size (m * 4) (k - m) (k - m) ⟨w.heap.size, 0, none⟩ m k (reps X m ++ reps zc (k - m)) 24 (reps X j) j Try.underlying22 gen_size4 HGD.out HJ.out.1 (reps_len HX.out.2.1 _) (by
        intro i v hv
        rw [Go.WideShapes.add_plain, cell_row HGD.out, Nat.zero_add, show m = j + (m - j) by omega, reps_add, List.append_assoc, List.getElem?_append_left]
        · exact hv
        · exact (List.getElem?_eq_some_iff.1 hv).1) (by rw [List.length_append, reps_len HX.out.2.1, reps_len HX.out.2.1, reps_len rfl]; omega) (fun v hv => HX.out.2.2.1 v (reps_mem hv))
      rw [reps_step HX.out.2.1 rfl j2] at hcp
      have NC := Lib.hid (setRow_at _ w.heap.size (reps X m ++ reps zc (k - m)) (reps X (m + j) ++ reps zc (k - (m + j))) 24 HGD.out)
      have BC := Lib.hid (below_setRow (g := w.heap.size) HWD.out (Nat.le_refl _) (reps X (m + j) ++ reps zc (k - (m + j))).toArray)
      generalize hw3 : wr.drew.setRow w.heap.size (reps X (m + j) ++ reps zc (k - (m + j))).toArray = w3 at *
      clear hw3
      go_wp2_with fail
      go_region

      all_goals (
        go_wp2_with fail
        go_roundw
        case rel => exact ⟨m + j, by go_num, j2, (show 1 ≤ m + j ∨ k = 0 from .inl (by omega)), NC.out, BC.out⟩
        case measure => simp [intOf]; omega)
    · have HE := Lib.hid (show m = k by omega)
      go_wp2_with fail
      go_ret
      have hg := HG.out
      rw [HE.out] at hg
      exact ⟨_, k, rfl, Nat.le_refl _, FIN.out _ HWW.out hg, HWW.out⟩
end Go.Proofs.Ytboecgbgcbkcjaa.Gens
