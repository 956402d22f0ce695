/- TopFails, part 47 of the proof: Numbers of tapes: lists of generators in memory, count, following. Conditions: the sizes. -/
import Derived.Test.YtabkihellcflhaaGreatDoorTopFailsZ45
import Derived.Test.YtabkihellcflhaaGreatDoorTopFailsZ46
import Derived.Test.YtabkihellcflhaaGreatDoorTopFailsZ32
import Derived.Test.YtabkihellcflhaaGreatDoorTopFailsZ11
import Derived.Laws.CopyOwn
import Derived.Deep.RegionLaw
/- Numbers of tapes: lists of generators in memory, count, following. Conditions: the sizes. -/
/- Lists of generators in memory; the program's count and countOfAll. Conditions: the sizes. -/
namespace Go.Proofs.YtabkihellcflhaaGreatDoor.Gens
open Go.RowKit Lists Ints Vals
set_option linter.unusedVariables false

/-- in blocks below B: generators, side by side -/
def GsAt (w : World) (B n : Nat) (A : Option Addr) (l : List Gn) : Prop :=
  0 < l.length → ∃ b off, A = some ⟨b, off, none⟩ ∧ GBel B b ∧ ∀ j (h : j < l.length), ∃ x0 x1 x2 x3, w.cell? ⟨b, off + j * 4, none⟩ = some x0 ∧ w.cell? ⟨b, off + j * 4 + 1, none⟩ = some x1 ∧ w.cell? ⟨b, off + j * 4 + 2, none⟩ = some x2 ∧ w.cell? ⟨b, off + j * 4 + 3, none⟩ = some x3 ∧ GAt w (GBel B) n (.agg #[x0, x1, x2, x3]) (l[j]'h)
theorem GsAt.nil {w : World} {B n : Nat} {A : Option Addr} : GsAt w B n A [] := fun h => by simp at h
theorem GsAt.below {w w' : World} {B n : Nat} {A : Option Addr} {l : List Gn} (h : GsAt w B n A l) (hb : Below B w w') : GsAt w' B n A l := fun hp => by
  obtain ⟨b, off, e, hB, hc⟩ := h hp
  refine ⟨b, off, e, hB, fun j hj => ?_⟩
  obtain ⟨x0, x1, x2, x3, c0, c1, c2, c3, ht⟩ := hc j hj
  exact ⟨x0, x1, x2, x3, (hb.cell (p := ⟨b, _, none⟩) hB).trans c0, (hb.cell (p := ⟨b, _, none⟩) hB).trans c1, (hb.cell (p := ⟨b, _, none⟩) hB).trans c2, (hb.cell (p := ⟨b, _, none⟩) hB).trans c3, ht.below hb⟩
theorem GsAt.more {w : World} {B B' n : Nat} {A : Option Addr} {l : List Gn} (h : GsAt w B n A l) (hB : B ≤ B') : GsAt w B' n A l := fun hp => by
  obtain ⟨b, off, e, hb, hc⟩ := h hp
  refine ⟨b, off, e, Nat.lt_of_lt_of_le hb hB, fun j hj => ?_⟩
  obtain ⟨x0, x1, x2, x3, c0, c1, c2, c3, ht⟩ := hc j hj
  exact ⟨x0, x1, x2, x3, c0, c1, c2, c3, ht.more hB⟩
theorem GsAt.later {w w' : World} {n : Nat} {A : Option Addr} {l : List Gn} (h : GsAt w w.heap.size n A l) (hb : Below w.heap.size w w') : GsAt w' w'.heap.size n A l := (h.below hb).more hb.size
theorem GsAt.drop {w : World} {B n b off : Nat} {l : List Gn} (h : GsAt w B n (some ⟨b, off, none⟩) l) (k : Nat) : GsAt w B n (some ⟨b, off + k * 4, none⟩) (l.drop k) := fun hp => by
  have hk : k < l.length := by simp at hp; omega
  obtain ⟨b', off', e, hB, hc⟩ := h (by omega)
  obtain ⟨rfl, rfl⟩ : b = b' ∧ off = off' := by simpa using e
  refine ⟨b, off + k * 4, rfl, hB, fun j hj => ?_⟩
  have hj' : k + j < l.length := by simp at hj; omega
  obtain ⟨x0, x1, x2, x3, c0, c1, c2, c3, ht⟩ := hc (k + j) hj'
  have e : off + (k + j) * 4 = off + k * 4 + j * 4 := by omega
  rw [e] at c0 c1 c2 c3
  exact ⟨x0, x1, x2, x3, c0, c1, c2, c3, by simpa using ht⟩
theorem GsAt.take {w : World} {B n : Nat} {A : Option Addr} {l : List Gn} (h : GsAt w B n A l) (k : Nat) : GsAt w B n A (l.take k) := fun hp => by
  obtain ⟨b, off, e, hB, hc⟩ := h (by simp at hp; omega)
  refine ⟨b, off, e, hB, fun j hj => ?_⟩
  obtain ⟨x0, x1, x2, x3, c0, c1, c2, c3, ht⟩ := hc j (by simp at hj; omega)
  exact ⟨x0, x1, x2, x3, c0, c1, c2, c3, by simpa using ht⟩

/-! small and right -/
mutual
theorem large_lower : ∀ (g : Gn) (d : Nat), (largeG g (d + 1)).2 = false → (largeG g d).2 = false
  | .node k a b subs, d, h => by
    simp only [largeG] at h ⊢
    split at h
    · cases h
    · rename_i h6
      rw [if_neg (by omega)]
      exact larges_lower subs (d + 1) 1 h
theorem larges_lower : ∀ (l : List Gn) (d n : Nat), (largeGs l (d + 1) n).2 = false → (largeGs l d n).2 = false
  | [], d, n, h => by simpa [largeGs] using h
  | g :: r, d, n, h => by
    simp only [largeGs] at h ⊢
    split at h
    · cases h
    · rename_i hc
      have h1 : (largeG g (d + 1)).2 = false := by
        cases hb : (largeG g (d + 1)).2 with
        | false => rfl
        | true => exact absurd (.inl hb) hc
      have h2 := large_lower g d h1
      have e1 := large_size g (d + 1) h1
      have e2 := large_size g d h2
      rw [← e1] at h hc
      rw [← e2, h2]
      rw [if_neg (by simp; have := fun hx => hc (.inr hx); omega)]
      exact larges_lower r d _ h
end
def Fine (g : Gn) : Prop := Right g ∧ (largeG g 0).2 = false
theorem fine_of {g : Gn} (h : genV g = 0) : Fine g := gen_right h
theorem Fine.gen {g : Gn} (h : Fine g) : genV g = 0 := by unfold genV; rw [if_neg (by rw [h.2]; decide)]; exact h.1
theorem Fine.subs {g : Gn} (h : Fine g) : ∀ x ∈ g.subs, Fine x := fun x hx => by
  refine ⟨h.1.subs x hx, large_lower x 0 ?_⟩
  have h2 := h.2
  cases g with | node k a b s =>
  obtain ⟨d, _, hd⟩ := large_sub (d := 6) h2 (by omega)
  exact hd x hx
theorem Fine.size {g : Gn} (h : Fine g) : g.size ≤ 30 := small_size h.2

/-! how many, together -/
def cn (l : List Gn) : Nat := (allE (l.map enG)).cnt
theorem cn_nil : cn [] = 1 := rfl
theorem cn_cons (g : Gn) (r : List Gn) : cn (g :: r) = (enG g).cnt * cn r := rfl
theorem cn_app : ∀ (l m : List Gn), cn (l ++ m) = cn l * cn m
  | [], m => by rw [cn_nil, Nat.one_mul]; rfl
  | g :: r, m => by rw [List.cons_append, cn_cons, cn_cons, cn_app r m, Nat.mul_assoc]
theorem cn_pos {l : List Gn} (h : ∀ x ∈ l, Fine x) : 1 ≤ cn l := (good_list l (fun x hx => (h x hx).1) (fun x hx => good_gen x (h x hx).1)).pos
theorem en_pos {g : Gn} (h : Fine g) : 1 ≤ (enG g).cnt := (good_gen g h.1).pos
theorem cn_step (l : List Gn) (k : Nat) (h : k < l.length) : cn (l.take (k + 1)) = cn (l.take k) * (enG (l[k]'h)).cnt := by
  rw [List.take_succ_eq_append_getElem h, cn_app, cn_cons, cn_nil, Nat.mul_one]
theorem cn_split (l : List Gn) (k : Nat) : cn l = cn (l.take k) * cn (l.drop k) := by rw [← cn_app, List.take_append_drop]
theorem cn_drop (l : List Gn) (k : Nat) (h : k < l.length) : cn (l.drop k) = (enG (l[k]'h)).cnt * cn (l.drop (k + 1)) := by
  rw [List.drop_eq_getElem_cons h, cn_cons]
theorem cn_le {l : List Gn} (h : ∀ x ∈ l, Fine x) (k : Nat) : cn (l.take k) ≤ cn l ∧ cn (l.drop k) ≤ cn l := by
  have h1 : 1 ≤ cn (l.take k) := cn_pos fun x hx => h x (List.mem_of_mem_take hx)
  have h2 : 1 ≤ cn (l.drop k) := cn_pos fun x hx => h x (List.mem_of_mem_drop hx)
  rw [cn_split l k]
  constructor
  · exact Nat.le_mul_of_pos_right _ h2
  · exact Nat.le_mul_of_pos_left _ h1
theorem cn_mem {l : List Gn} (h : ∀ x ∈ l, Fine x) (k : Nat) (hk : k < l.length) : (enG (l[k]'hk)).cnt ≤ cn l := by
  have h1 := (cn_le h k).2
  have h2 : 1 ≤ cn (l.drop (k + 1)) := cn_pos fun x hx => h x (List.mem_of_mem_drop hx)
  rw [cn_drop l k hk] at h1
  exact Nat.le_trans (Nat.le_mul_of_pos_right _ h2) h1

set_option maxHeartbeats 1000000 in
set_option maxRecDepth 100000 in
/-- the number of a part -/
theorem rcount {n : Nat} {t : Gn} {v : Value} {B : Nat} (w : World) (h : GAt w (GBel B) n v t) (hB : B ≤ w.heap.size) (hf : Fine t) (hc : (enG t).cnt ≤ 1048576) :
    Calls Tryz.prog 103 #[v] w fun e w' => e = .returned (.int .i64 ((enG t).cnt : Nat)) ∧ Below w.heap.size w w' := by
  obtain ⟨m, A, c, e, hw, rfl, _⟩ := h.open_
  have b1 := bel1 w (gc t A c)
  have h1 := h.below (b1.mono hB)
  have z1 : (w.alloc (gc t A c)).heap.size = w.heap.size + 1 := by simp
  have C := gcount (w.alloc (gc t A c)) h1 (by omega) (by have := hf.size; omega)
  have e1 : countG t = (enG t).cnt := by rw [count_cap t hf.1]; omega
  rw [show countN t = (enG t).cnt by unfold countN; rw [if_pos hf.gen, e1, if_neg (by omega)], show countE t = 0 by unfold countE; rw [if_pos hf.gen, e1, if_neg (by omega)], errOf_ok] at C
  have C := Lib.hid C
  have B1 := Lib.hid b1
  clear h hB hf hc e hw b1 h1 z1 e1
  generalize (enG t).cnt = q at *
  go_enter Tryz.func103, Tryz.ntmps103
  go_wp2_with fail
  refine C.out.mono ?_
  rintro e w2 ⟨rfl, hb2⟩
  have B2 := Lib.hid (below_trans B1.out hb2)
  clear hb2
  go_wp2_with fail
  go_ret
  exact ⟨rfl, B2.out⟩

set_option maxHeartbeats 2000000 in
set_option maxRecDepth 100000 in
/-- the number of parts, together -/
theorem rcount_all {n : Nat} {l : List Gn} {A : Option Addr} {c B : Nat} (w : World) (h : GsAt w B n A l) (hB : B ≤ w.heap.size) (hl : l.length ≤ 4294967296) (hf : ∀ x ∈ l, Fine x) (hc : cn l ≤ 1048576) :
    Calls Tryz.prog 77 #[.slice A l.length c] w fun e w' => e = .returned (.int .i64 (cn l : Nat)) ∧ Below w.heap.size w w' := by
  have HIT := Lib.hid h
  have HB := Lib.hid hB
  have HF := Lib.hid hf
  have HC := Lib.hid hc
  clear h hB hf hc
  go_enter Tryz.func77, Tryz.ntmps77
  go_wp2_with fail
  go_loopw [3, 8] (fun x i wr => ∃ (k o : Nat), k ≤ l.length ∧ i = .int .i64 k ∧ x = .int .i64 o ∧ Hid (o = cn (l.take k)) ∧ Hid (Below w.heap.size w wr)) (fun _ i _ => l.length - (intOf i).toNat)
  case atStart => exact ⟨0, 1, Nat.zero_le _, rfl, rfl, (rfl : 1 = cn []), Below.refl _ _⟩
  case round =>
    obtain ⟨k, o, hk, rfl, rfl, HO, HWW⟩ := hrel
    by_cases hlt : k < l.length
    · obtain ⟨ib, off, D, d, rfl, c0, c1, c2, c3, hti⟩ := sub_as HIT.out (HWW.out.mono HB.out) k hlt
      have hfi : Fine (l[k]'hlt) := HF.out _ (List.getElem_mem hlt)
      have ba := bel1 wr (gc (l[k]'hlt) D d)
      have bsz : B ≤ wr.heap.size := Nat.le_trans HB.out HWW.out.size
      have hci := cn_mem HF.out k hlt
      have C1 := rcount (wr.alloc (gc (l[k]'hlt) D d)) (hti.below (ba.mono bsz)) (by simp; omega) hfi (by have := HC.out; omega)
      have hst := cn_step l k hlt
      have hle := (cn_le HF.out (k + 1)).1
      rw [← HO.out] at hst
      rw [hst] at hle
      have hm : o * (enG (l[k]'hlt)).cnt ≤ 1048576 := by have := HC.out; omega
      have hm1 : o ≤ 1048576 := Nat.le_trans (Nat.le_mul_of_pos_right _ (en_pos hfi)) hm
      have hm2 : (enG (l[k]'hlt)).cnt ≤ 1048576 := by have := HC.out; omega
      have hm3 : (o : Int) * ((enG (l[k]'hlt)).cnt : Nat) = ((o * (enG (l[k]'hlt)).cnt : Nat) : Int) := (Int.natCast_mul _ _).symm
      have ST := Lib.hid hst
      have BA := Lib.hid (HWW.out.trans (ba.mono HWW.out.size))
      clear hti hfi ba bsz hci hst hle HO
      generalize (enG (l[k]'hlt)).cnt = q at *
      have M3 := Lib.hid hm3
      have hm4 : (0 : Int) ≤ (o : Int) * (q : Int) := by rw [hm3]; omega
      have hm5 : (o : Int) * (q : Int) ≤ 1048576 := by rw [hm3]; omega
      have HC1 := Lib.hid C1
      clear C1 hm3
      generalize l[k]'hlt = y at HC1 c0 c1 c2 c3 BA
      go_wp2_with fail
      refine HC1.out.mono ?_
      rintro e w2 ⟨rfl, hb2⟩
      have B2 := Lib.hid (BA.out.trans (hb2.mono BA.out.size))
      clear hb2
      go_wp2_with fail
      go_roundw
      case rel => exact ⟨k + 1, o * q, hlt, by go_num, by rw [M3.out], ST.out.symm, B2.out⟩
      case measure => simp [intOf]; omega
    · have hr := Lib.hid (show o = cn l by rw [HO.out, List.take_of_length_le (by omega)])
      go_wp2_with fail
      go_ret
      exact ⟨ret_int (by rw [hr.out]), HWW.out⟩
end Go.Proofs.YtabkihellcflhaaGreatDoor.Gens

/- slices.Repeat of one generator, few times. -/
namespace Go.Proofs.YtabkihellcflhaaGreatDoor.Gens
open Go.RowKit Lists Ints Vals
set_option linter.unusedVariables false

set_option maxHeartbeats 1000000 in
set_option maxRecDepth 100000 in
theorem mul_one_few (k : Nat) (hk : k ≤ 5) (w : World) : Calls Tryz.prog 118 #[.int .u64 1, .int .u64 k] w fun e w' => e = .returned (.tuple #[.int .u64 0, .int .u64 k]) ∧ w = w' := by
  have h : k = 0 ∨ k = 1 ∨ k = 2 ∨ k = 3 ∨ k = 4 ∨ k = 5 := by omega
  rcases h with rfl | rfl | rfl | rfl | rfl | rfl
  all_goals
    go_enter Tryz.func118, Tryz.ntmps118
    go_wp2
    go_ret2
    exact ⟨rfl, rfl⟩

/-! rows of four cells -/
abbrev zc : List Value := [.int .i64 0, .int .i64 0, .int .i64 0, .slice none 0 0]
def reps (X : List Value) (n : Nat) : List Value := (List.replicate n X).flatten
theorem reps_add (X : List Value) (a b : Nat) : reps X (a + b) = reps X a ++ reps X b := by
  unfold reps; rw [← List.replicate_append_replicate, List.flatten_append]
theorem reps_len {X : List Value} (h : X.length = 4) (n : Nat) : (reps X n).length = n * 4 := by
  unfold reps; simp [List.length_flatten, h]
theorem reps_get {X : List Value} (h : X.length = 4) {j n q : Nat} (hj : j < n) (hq : q < 4) : (reps X n)[j * 4 + q]? = X[q]? := by
  rw [show n = j + (1 + (n - j - 1)) by omega, reps_add, List.getElem?_append_right (by rw [reps_len h]; omega), reps_len h, reps_add, List.getElem?_append_left (by rw [reps_len h]; omega)]
  rw [show j * 4 + q - j * 4 = q by omega]
  simp [reps]
theorem reps_mem {X : List Value} {n : Nat} {v : Value} (h : v ∈ reps X n) : v ∈ X := by
  unfold reps at h
  obtain ⟨l, h1, h2⟩ := List.mem_flatten.1 h
  rwa [List.eq_of_mem_replicate h1] at h2
theorem reps_step {X Z : List Value} (hX : X.length = 4) (hZ : Z.length = 4) {m k j : Nat} (h : m + j ≤ k) :
    (reps X m ++ reps Z (k - m)).take (m * 4) ++ reps X j ++ (reps X m ++ reps Z (k - m)).drop (m * 4 + (reps X j).length) = reps X (m + j) ++ reps Z (k - (m + j)) := by
  have e1 : (reps X m ++ reps Z (k - m)).take (m * 4) = reps X m := by
    rw [List.take_append_of_le_length (by rw [reps_len hX]; omega), List.take_of_length_le (by rw [reps_len hX]; omega)]
  have e2 : (reps X m ++ reps Z (k - m)).drop (m * 4 + (reps X j).length) = reps Z (k - (m + j)) := by
    rw [reps_len hX, show m * 4 + j * 4 = (reps X m).length + j * 4 by rw [reps_len hX], ← List.drop_drop, List.drop_left]
    rw [show k - m = j + (k - (m + j)) by omega, reps_add, List.drop_append_of_le_length (by rw [reps_len hZ]; omega), List.drop_of_length_le (by rw [reps_len hZ]; omega), List.nil_append]
  rw [e1, e2, reps_add]

/-- copy of elements of four cells -/
theorem run_copy4 {P : Program} (w : World) (dT sT ty elem : TypeId) (g o dLen dCap : Nat) (a : Addr) (sLen sCap : Nat) (cur : List Value) (t : TypeId) (cs : List Value) (m : Nat)
    (hu : P.underlying dT = some (.slice elem)) (hs : (P.info? elem).map (·.size) = some 4)
    (hg : w.heap[g]? = some (.cells cur.toArray t (0, 0))) (hm : m = Nat.min sLen dLen) (hn : cs.length = m * 4)
    (hsrc : ∀ j v, cs[j]? = some v → w.cell? (a.add j) = some v) (hfit : o + cs.length ≤ cur.length) (h1 : ∀ v ∈ cs, v.oneCell' = true) :
    (Builtin.copy_ #[dT, sT] ty #[.slice (some ⟨g, o, none⟩) dLen dCap, .slice (some a) sLen sCap]).run P w =
      .ok (goInt m) (w.setRow g (cur.take o ++ cs ++ cur.drop (o + cs.length)).toArray) := by
  have hl := run_loadCells_list (P := P) w a cs hsrc
  have hst := run_storeCells_at P g o t cs 0 cur.toArray w hg (by simpa using hfit) h1
  cases hq : P.info? elem with
  | none => simp [hq] at hs
  | some i =>
    have hi : i.size = 4 := by simpa [hq] using hs
    simp [Builtin.copy_, run_underlying hu, Builtin.lenOf, Builtin.firstCells, sizeOf, typeInfo, hq, hi, ← hm, ← hn, hl, hst]

theorem setRow_at (w : World) (g : Nat) (cur new : List Value) (t : TypeId) (h : w.heap[g]? = some (.cells cur.toArray t (0, 0))) : (w.setRow g new.toArray).heap[g]? = some (.cells new.toArray t (0, 0)) :=
  setRow_heap w g _ _ t _ h

theorem gen_size4 : (Tryz.prog.info? 24).map (·.size) = some 4 := by kernel_rfl
set_option maxRecDepth 100000 in
theorem mk_0 : ∀ w, (Instr.makeSlice 22 (.int .i64 0) (.int .i64 0)).run Tryz.prog w = .ok (.slice (some ⟨w.heap.size, 0, none⟩) 0 0) (w.alloc (.cells (reps zc 0).toArray 24)) := fun _ => by kernel_rfl
set_option maxRecDepth 100000 in
theorem mk_1 : ∀ w, (Instr.makeSlice 22 (.int .i64 1) (.int .i64 1)).run Tryz.prog w = .ok (.slice (some ⟨w.heap.size, 0, none⟩) 1 1) (w.alloc (.cells (reps zc 1).toArray 24)) := fun _ => by kernel_rfl
set_option maxRecDepth 100000 in
theorem mk_2 : ∀ w, (Instr.makeSlice 22 (.int .i64 2) (.int .i64 2)).run Tryz.prog w = .ok (.slice (some ⟨w.heap.size, 0, none⟩) 2 2) (w.alloc (.cells (reps zc 2).toArray 24)) := fun _ => by kernel_rfl
set_option maxRecDepth 100000 in
theorem mk_3 : ∀ w, (Instr.makeSlice 22 (.int .i64 3) (.int .i64 3)).run Tryz.prog w = .ok (.slice (some ⟨w.heap.size, 0, none⟩) 3 3) (w.alloc (.cells (reps zc 3).toArray 24)) := fun _ => by kernel_rfl
set_option maxRecDepth 100000 in
theorem mk_4 : ∀ w, (Instr.makeSlice 22 (.int .i64 4) (.int .i64 4)).run Tryz.prog w = .ok (.slice (some ⟨w.heap.size, 0, none⟩) 4 4) (w.alloc (.cells (reps zc 4).toArray 24)) := fun _ => by kernel_rfl
set_option maxRecDepth 100000 in
theorem mk_5 : ∀ w, (Instr.makeSlice 22 (.int .i64 5) (.int .i64 5)).run Tryz.prog w = .ok (.slice (some ⟨w.heap.size, 0, none⟩) 5 5) (w.alloc (.cells (reps zc 5).toArray 24)) := fun _ => by kernel_rfl
theorem mk_few (k : Nat) (hk : k ≤ 5) (w : World) : (Instr.makeSlice 22 (.int .i64 k) (.int .i64 k)).run Tryz.prog w = .ok (.slice (some ⟨w.heap.size, 0, none⟩) k k) (w.alloc (.cells (reps zc k).toArray 24)) := by
  have h : k = 0 ∨ k = 1 ∨ k = 2 ∨ k = 3 ∨ k = 4 ∨ k = 5 := by omega
  rcases h with rfl | rfl | rfl | rfl | rfl | rfl
  · exact mk_0 w
  · exact mk_1 w
  · exact mk_2 w
  · exact mk_3 w
  · exact mk_4 w
  · exact mk_5 w
theorem cell_row {w : World} {g : Nat} {cs : List Value} {t : TypeId} (h : w.heap[g]? = some (.cells cs.toArray t (0, 0))) (i : Nat) : w.cell? ⟨g, i, none⟩ = cs[i]? := by
  rw [Lib.cell_of_heap h]; simp

set_option maxHeartbeats 2000000 in
set_option maxRecDepth 100000 in
theorem repeat_one {n : Nat} {y : Gn} {A : Option Addr} {c B : Nat} (w : World) (h : GsAt w B n A [y]) (hB : B ≤ w.heap.size) (k : Nat) (hk : k ≤ 5) :
    Calls Tryz.prog 104 #[.slice A 1 c, .int .i64 k] w fun e w' => ∃ A' c', e = .returned (.slice A' k c') ∧ k ≤ c' ∧ GsAt w' w'.heap.size n A' (List.replicate k y) ∧ Below w.heap.size w w' := by
  obtain ⟨b, off, D, d, rfl, s0, s1, s2, s3, ht⟩ := sub_as h (Below.refl _ _) 0 (by simp)
  obtain ⟨_, _, e1, hBb, _⟩ := h (by simp)
  obtain ⟨rfl, rfl⟩ : b = _ ∧ off = _ := by simpa using e1
  simp only [Nat.zero_mul, Nat.add_zero, List.getElem_cons_zero] at s0 s1 s2 s3 ht
  obtain ⟨X, hX⟩ : ∃ X : List Value, X = [.int .i64 y.kind, .int .i64 y.a, .int .i64 y.b, .slice D y.subs.length d] := ⟨_, rfl⟩
  have XL : X.length = 4 := by rw [hX]; rfl
  have X1 : ∀ v ∈ X, v.oneCell' = true := by
    rw [hX]; intro v hv
    simp only [List.mem_cons, List.not_mem_nil, or_false] at hv
    rcases hv with rfl | rfl | rfl | rfl <;> rfl
  have SRC : ∀ j v, X[j]? = some v → w.cell? ((⟨b, off, none⟩ : Addr).add j) = some v := by
    intro j v hv
    rw [Go.WideShapes.add_plain]
    rw [hX] at hv
    match j with
    | 0 => rw [← hv]; exact s0
    | 1 => rw [← hv]; exact s1
    | 2 => rw [← hv]; exact s2
    | 3 => rw [← hv]; exact s3
    | j + 4 => simp at hv
  have MUL := Lib.hid (fun (w : World) => mul_one_few k hk w)
  have hmk := mk_few k hk w
  have HX := Lib.hid (And.intro hX (And.intro XL (And.intro X1 SRC)))
  have HT := Lib.hid (And.intro ht hB)
  have hBb := Lib.hid (Nat.lt_of_lt_of_le hBb hB)
  clear s0 s1 s2 s3 ht h hB e1 XL X1 SRC
  have NA := Lib.hid (new_obj w (.cells (reps zc k).toArray 24))
  have BA := Lib.hid (bel1 w (.cells (reps zc k).toArray 24))
  clear hX
  obtain ⟨m1, hm1⟩ : ∃ m1 : Nat, m1 = Nat.min 1 k := ⟨_, rfl⟩
  have hm1k : m1 ≤ k ∧ m1 ≤ 1 ∧ (m1 = 1 ∨ k = 0) := by rw [hm1]; simp only [Nat.min_def]; split <;> omega
  have M1 := Lib.hid (And.intro hm1 hm1k)
  clear hm1 hm1k
  have HX1 := Lib.hid (fun (wr : World) (hb : Below w.heap.size w wr) j v (hv : (reps X m1)[j]? = some v) => show wr.cell? ((⟨b, off, none⟩ : Addr).add j) = some v by
    have hv : X[j]? = some v := by
      rcases M1.out.2.2.2 with h | h
      · rw [h] at hv; simpa [reps] using hv
      · have : m1 = 0 := by have := M1.out.2.1; omega
        rw [this] at hv; simp [reps] at hv
    rw [Go.WideShapes.add_plain]
    have := HX.out.2.2.2 j v hv
    rw [Go.WideShapes.add_plain] at this
    exact (hb.cell (p := ⟨b, _, none⟩) hBb.out).trans this)
  have FIN := Lib.hid (fun (wr : World) (hb : Below w.heap.size w wr) (hg : wr.heap[w.heap.size]? = some (.cells (reps X k ++ reps zc (k - k)).toArray 24 (0, 0))) => show GsAt wr wr.heap.size n (some ⟨w.heap.size, 0, none⟩) (List.replicate k y) from fun _ => by
    rw [Nat.sub_self, show reps zc 0 = [] from rfl, List.append_nil] at hg
    refine ⟨w.heap.size, 0, rfl, (Array.getElem?_eq_some_iff.1 hg).1, fun j hj => ?_⟩
    have hj : j < k := by simpa using hj
    have hc : ∀ q, q < 4 → wr.cell? ⟨w.heap.size, 0 + j * 4 + q, none⟩ = X[q]? := fun q hq => by
      rw [cell_row hg, show 0 + j * 4 + q = j * 4 + q by omega, reps_get HX.out.2.1 hj hq]
    refine ⟨.int .i64 y.kind, .int .i64 y.a, .int .i64 y.b, .slice D y.subs.length d, by have := hc 0 (by omega); rw [HX.out.1] at this; exact this, by have := hc 1 (by omega); rw [HX.out.1] at this; exact this, by have := hc 2 (by omega); rw [HX.out.1] at this; exact this, by have := hc 3 (by omega); rw [HX.out.1] at this; exact this, ?_⟩
    have := (HT.out.1.below (hb.mono HT.out.2)).more (Nat.le_trans HT.out.2 hb.size)
    simpa using this)
  have hcp := run_copy4 (P := Tryz.prog) (w.alloc (.cells (reps zc k).toArray 24)) 22 22 3 24 w.heap.size 0 k k ⟨b, off, none⟩ 1 c (reps zc k) 24 (reps X m1) m1 Tryz.underlying22 gen_size4 NA.out M1.out.1 (reps_len HX.out.2.1 _) (HX1.out _ BA.out) (by rw [reps_len HX.out.2.1, reps_len rfl]; have := M1.out.2.1; omega) (fun v hv => HX.out.2.2.1 v (reps_mem hv))
  have hnew : (reps zc k).take 0 ++ reps X m1 ++ (reps zc k).drop (0 + (reps X m1).length) = reps X m1 ++ reps zc (k - m1) := by
    have := reps_step (X := X) (Z := zc) HX.out.2.1 rfl (m := 0) (k := k) (j := m1) (by have := M1.out.2.1; omega)
    simpa [reps] using this
  rw [hnew] at hcp
  have NB := Lib.hid (setRow_at _ w.heap.size (reps zc k) (reps X m1 ++ reps zc (k - m1)) 24 NA.out)
  have BB := Lib.hid (below_setRow (g := w.heap.size) BA.out (Nat.le_refl _) (reps X m1 ++ reps zc (k - m1)).toArray)
  clear hnew
  generalize hw2 : (w.alloc (.cells (reps zc k).toArray 24)).setRow w.heap.size (reps X m1 ++ reps zc (k - m1)).toArray = w2 at *
  clear hw2
  go_enter Tryz.func104, Tryz.ntmps104
  go_wp2_with fail
  refine (MUL.out _).mono ?_
  rintro e w1 ⟨rfl, rfl⟩
  go_wp2_with fail
  clear hmk hcp
  go_loopw [8] (fun x wr => ∃ m : Nat, x = .int .i64 m ∧ m ≤ k ∧ Hid (1 ≤ m ∨ k = 0) ∧ Hid (wr.heap[w.heap.size]? = some (.cells (reps X m ++ reps zc (k - m)).toArray 24 (0, 0))) ∧ Hid (Below w.heap.size w wr)) (fun x _ => k - (intOf x).toNat)
  case atStart => exact ⟨m1, rfl, M1.out.2.1, (show 1 ≤ m1 ∨ k = 0 by have := M1.out.2.2.2; omega), NB.out, BB.out⟩
  case round =>
    obtain ⟨m, rfl, hmk, HP, HG, HWW⟩ := hrel
    by_cases hlt : m < k
    · obtain ⟨j, hj⟩ : ∃ j : Nat, j = Nat.min m (k - m) := ⟨_, rfl⟩
      have hjk : j ≤ m ∧ m + j ≤ k ∧ 1 ≤ j := by have := HP.out; rw [hj]; simp only [Nat.min_def]; split <;> omega
      have HJ := Lib.hid (And.intro hj hjk)
      obtain ⟨j1, j2, j3⟩ := hjk
      have jk5 : m + j ≤ 5 := by omega
      clear hj
      have hne : ¬ k = m := by omega
      have HGD := Lib.hid (show wr.drew.heap[w.heap.size]? = some (.cells (reps X m ++ reps zc (k - m)).toArray 24 (0, 0)) from HG.out)
      have HWD := Lib.hid (show Below w.heap.size w wr.drew from HWW.out.drew)
      have hcp := run_copy4 (P := Tryz.prog) wr.drew 22 22 3 24 w.heap.size (m * 4) (k - m) (k - m) ⟨w.heap.size, 0, none⟩ m k (reps X m ++ reps zc (k - m)) 24 (reps X j) j Tryz.underlying22 gen_size4 HGD.out HJ.out.1 (reps_len HX.out.2.1 _) (by
        intro i v hv
        rw [Go.WideShapes.add_plain, cell_row HGD.out, Nat.zero_add, show m = j + (m - j) by omega, reps_add, List.append_assoc, List.getElem?_append_left]
        · exact hv
        · exact (List.getElem?_eq_some_iff.1 hv).1) (by rw [List.length_append, reps_len HX.out.2.1, reps_len HX.out.2.1, reps_len rfl]; omega) (fun v hv => HX.out.2.2.1 v (reps_mem hv))
      rw [reps_step HX.out.2.1 rfl j2] at hcp
      have NC := Lib.hid (setRow_at _ w.heap.size (reps X m ++ reps zc (k - m)) (reps X (m + j) ++ reps zc (k - (m + j))) 24 HGD.out)
      have BC := Lib.hid (below_setRow (g := w.heap.size) HWD.out (Nat.le_refl _) (reps X (m + j) ++ reps zc (k - (m + j))).toArray)
      generalize hw3 : wr.drew.setRow w.heap.size (reps X (m + j) ++ reps zc (k - (m + j))).toArray = w3 at *
      clear hw3
      go_wp2_with fail
      go_region

      all_goals (
        go_wp2_with fail
        go_roundw
        case rel => exact ⟨m + j, by go_num, j2, (show 1 ≤ m + j ∨ k = 0 from .inl (by omega)), NC.out, BC.out⟩
        case measure => simp [intOf]; omega)
    · have HE := Lib.hid (show m = k by omega)
      go_wp2_with fail
      go_ret
      have hg := HG.out
      rw [HE.out] at hg
      exact ⟨_, k, rfl, Nat.le_refl _, FIN.out _ HWW.out hg, HWW.out⟩
end Go.Proofs.YtabkihellcflhaaGreatDoor.Gens

/- The program's following: the parts behind a first choice. -/
namespace Go.Proofs.YtabkihellcflhaaGreatDoor.Gens
open Go.RowKit Lists Ints Vals
set_option linter.unusedVariables false

def FPost (w : World) (n : Nat) (l : List Gn) (e : Ending) (w' : World) : Prop := ∃ (A' : Option Addr) (c' : Nat), e = .returned (.slice A' l.length c') ∧ l.length ≤ c' ∧ GsAt w' w'.heap.size n A' l ∧ Below w.heap.size w w'
theorem gsAt_sub {w : World} {B n b off : Nat} {l : List Gn} (h : GsAt w B n (some ⟨b, off, none⟩) l) (j : Nat) : GsAt w B n (some ⟨b, off + j * 4, none⟩) ((l.drop j).take 1) := (h.drop j).take 1

set_option maxHeartbeats 2000000 in
set_option maxRecDepth 100000 in
theorem following_ok {n : Nat} {k a b : Int} {subs : List Gn} {A : Option Addr} {c B : Nat} (w : World) (h : GAt w (GBel B) (n + 1) (.agg #[.int .i64 k, .int .i64 a, .int .i64 b, .slice A subs.length c]) (.node k a b subs)) (hB : B ≤ w.heap.size) (hf : Fine (.node k a b subs)) (hk : k = 4 ∨ k = 5) (j : Nat) (hj : j < (branches (.node k a b subs)).length) :
    Calls Tryz.prog 78 #[.agg #[.int .i64 k, .int .i64 a, .int .i64 b, .slice A subs.length c], .int .i64 j] w (FPost w n (follow (.node k a b subs) j)) := by
  have hcap : subs.length ≤ c := GAt.cap_ (t := .node k a b subs) h
  obtain ⟨m, A', c', e, _, ev, hit⟩ := h.open_
  obtain rfl : n = m := by omega
  obtain ⟨rfl, rfl⟩ : A = A' ∧ c = c' := by
    simp only [gv, Value.agg.injEq, Array.mk.injEq, List.cons.injEq, and_true, Value.slice.injEq] at ev
    exact ⟨ev.2.2.2.1, ev.2.2.2.2.2⟩
  have b1 := bel1 w (.cells #[.int .i64 k, .int .i64 a, .int .i64 b, .slice A subs.length c] 24)
  have g1 : GsAt (w.alloc (.cells #[.int .i64 k, .int .i64 a, .int .i64 b, .slice A subs.length c] 24)) B n A subs := GsAt.below hit (b1.mono hB)
  have hlen := branch_len hf.1 hk
  rw [hlen] at hj
  have hm := right_max hf.1
  have HF := Lib.hid hf
  have HB := Lib.hid (And.intro hB b1)
  simp only [Gn.kind, Gn.a, Gn.subs] at hj
  clear hlen hf e ev hit h hB b1
  rcases hk with rfl | rfl
  · obtain ⟨m0, m5, hl⟩ := hm.2.2.1 rfl
    match subs, hl, g1 with
    | [y], _, g1 =>
      have hj5 : j ≤ 5 := by simp only [if_true] at hj; omega
      have RP := repeat_one (A := A) (c := c) _ g1 (by have := HB.out.1; simp; omega) j hj5
      have RP := Lib.hid RP
      have HE := Lib.hid (show follow (.node 4 a b [y]) j = List.replicate j y from rfl)
      clear g1 hm hj
      go_enter Tryz.func78, Tryz.ntmps78
      go_wp2_with fail
      refine RP.out.mono ?_
      rintro e w2 ⟨A2, c2, rfl, hc2, hg2, hb2⟩
      have B2 := Lib.hid (below_trans HB.out.2 hb2)
      have G2 := Lib.hid (And.intro hc2 hg2)
      clear hc2 hg2 hb2
      go_wp2_with fail
      go_ret
      exact ⟨A2, c2, by rw [HE.out, List.length_replicate]; rfl, by rw [HE.out, List.length_replicate]; exact G2.out.1, by rw [HE.out]; exact G2.out.2, B2.out⟩
  · simp only [show ¬ (5 : Int) = 4 by omega, if_false] at hj
    obtain ⟨ib, off, rfl, _⟩ := g1 (by omega)
    have G1 := Lib.hid (gsAt_sub g1 j)
    have hne : ¬ c = j := by omega
    have hj30 : j ≤ 30 := by have := HF.out.size; rw [gsize_subs] at this; have := glen_sizes subs; simp only [Gn.subs] at *; omega
    have hw2 : ((j : Int) + 1).toNat - j = 1 := by omega
    have HE := Lib.hid (show follow (.node 5 a b subs) j = (subs.drop j).take 1 from rfl)
    have HL := Lib.hid (show ((subs.drop j).take 1).length = 1 by simp; omega)
    clear g1 hm
    go_enter Tryz.func78, Tryz.ntmps78
    go_wp2_with fail
    go_ret
    exact ⟨some ⟨ib, off + j * 4, none⟩, c - j, by rw [HE.out, HL.out]; rfl, by rw [HE.out, HL.out]; omega, by rw [HE.out]; exact G1.out.more (by have := HB.out.1; simp; omega), HB.out.2⟩
end Go.Proofs.YtabkihellcflhaaGreatDoor.Gens

/- The program's nth, nthOfAll: the tape of a number. Conditions: there is one. -/
namespace Go.Proofs.YtabkihellcflhaaGreatDoor.Gens
open Go.RowKit Lists Ints Vals
set_option linter.unusedVariables false

theorem own_one {w : World} {b : Nat} {x : Int} (h : w.heap[b]? = some (.cells #[.int .i64 x] 3 (0, 0))) : Own w b (some ⟨b, 0, none⟩) 1 [x] :=
  ⟨rfl, .inr ⟨b, 1, #[.int .i64 x], rfl, Nat.le_refl _, h, Nat.le_refl _, by decide, rfl, rfl⟩⟩
theorem own_base {w : World} {base base' c : Nat} {A : Option Addr} {z : List Int} (h : Own w base A c z) (hb : base' ≤ base) : Own w base' A c z := by
  refine ⟨h.1, ?_⟩
  rcases h.2 with h0 | ⟨g, cap, cur, he, hb', h1⟩
  · exact .inl h0
  · exact .inr ⟨g, cap, cur, he, Nat.le_trans hb hb', h1⟩
/-- a tape of its own -/
def NPost (w : World) (z : List Int) (e : Ending) (w' : World) : Prop := ∃ (A : Option Addr) (c : Nat), e = .returned (.slice A z.length c) ∧ Own w' w.heap.size A c z ∧ Below w.heap.size w w'
theorem nth_len {t : Gn} (hf : Fine t) {i : Nat} (hi : i < (enG t).cnt) : ((enG t).nth i).length ≤ 1399680 := by
  obtain ⟨v, h⟩ := (good_gen t hf.1).tape i hi
  exact Nat.le_trans (play_long read_bounded t hf.1 _ _ _ _ h) (small_long hf.2)
theorem all_nth (g : Gn) (r : List Gn) (i : Nat) : (allE ((g :: r).map enG)).nth i = (enG g).nth (i / cn r) ++ (allE (r.map enG)).nth (i % cn r) := rfl
theorem tdiv_nat (a b : Nat) : (a : Int).tdiv (b : Int) = ((a / b : Nat) : Int) := rfl
theorem tmod_nat (a b : Nat) : (a : Int).tmod (b : Int) = ((a % b : Nat) : Int) := rfl

theorem branch_cnt {t : Gn} (hf : Fine t) (hk : t.kind = 4 ∨ t.kind = 5) (j : Nat) (hj : j < (branches t).length) : ((branches t)[j]'hj).cnt = cn (follow t j) ∧ ∀ i, ((branches t)[j]'hj).nth i = (allE ((follow t j).map enG)).nth i := by
  rw [branch_get hf.1 hk j hj]; exact ⟨rfl, fun _ => rfl⟩
theorem follow_fine {t : Gn} (hf : Fine t) (hk : t.kind = 4 ∨ t.kind = 5) (j : Nat) : ∀ x ∈ follow t j, Fine x := fun x hx => hf.subs x (follow_right hf.1 hk j x hx)
theorem follow_len {t : Gn} (hf : Fine t) (hk : t.kind = 4 ∨ t.kind = 5) (j : Nat) (hj : j < (branches t).length) : (follow t j).length ≤ 30 ∧ j ≤ 1048576 := by
  rw [branch_len hf.1 hk] at hj
  have h1 := hf.size
  have hm := right_max (k := t.kind) (a := t.a) (b := t.b) (subs := t.subs) (by cases t; exact hf.1)
  have h2 := glen_sizes t.subs
  rw [gsize_subs] at h1
  unfold follow
  rcases hk with hk | hk
  · obtain ⟨m0, m5, _⟩ := hm.2.2.1 hk
    rw [if_pos hk] at hj ⊢
    rw [List.length_replicate]
    omega
  · rw [if_neg (by omega)] at hj ⊢
    have : ((t.subs.drop j).take 1).length ≤ 1 := List.length_take_le _ _
    omega
/-- what is left of the branches -/
theorem choose_drop {L : List En} {c i : Nat} (h : i < chooseC (L.drop c)) : ∃ hc : c < L.length, chooseC (L.drop c) = (L[c]'hc).cnt + chooseC (L.drop (c + 1)) ∧ chooseN c (L.drop c) i = if i < (L[c]'hc).cnt then (c : Int) :: (L[c]'hc).nth i else chooseN (c + 1) (L.drop (c + 1)) (i - (L[c]'hc).cnt) := by
  have hc : c < L.length := by
    rcases Nat.lt_or_ge c L.length with h1 | h1
    · exact h1
    · rw [List.drop_eq_nil_of_le h1] at h; simp [chooseC] at h
  refine ⟨hc, ?_, ?_⟩
  · rw [List.drop_eq_getElem_cons hc, chooseC]
  · rw [List.drop_eq_getElem_cons hc, chooseN]
theorem chooseC_drop (l : List En) (j : Nat) : chooseC (l.drop j) ≤ chooseC l := by
  have := chooseC_app (l.take j) (l.drop j)
  rw [List.take_append_drop] at this
  omega
end Go.Proofs.YtabkihellcflhaaGreatDoor.Gens
