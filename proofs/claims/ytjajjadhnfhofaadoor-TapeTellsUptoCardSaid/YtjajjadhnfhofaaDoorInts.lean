/- Contracts: slices of numbers (nil, empty or not) as lists; tape.Less, slices.Compare, the statements' own Ints. Conditions: none but that the slices' cells are known. -/
import Derived.Test.YtjajjadhnfhofaaDoorList
import Derived.WalkKit
import Derived.Deep.RegionWith
import Derived.Deep.QuietTactic
import Derived.BigQuiet
import Derived.Lib.Hide
import Derived.IntWalk
import Derived.ProofKit
import Derived.OpenShut
import Derived.ChangeOld
import Derived.Below
import Derived.Deep.Draws
namespace Go.Proofs.YtjajjadhnfhofaaDoor.Ints
open Go.RowKit Go.WideShapes Go.ChangeShapes Lists

/-- The slice at A holds the numbers l, below block B. -/
def At (w : World) (B : Nat) (A : Option Addr) (l : List Int) : Prop :=
  0 < l.length → ∃ b off, A = some ⟨b, off, none⟩ ∧ b < B ∧ ∀ j, j < l.length → w.cell? ⟨b, off + j, none⟩ = some (.int .i64 (l.getD j 0))

section
variable {w w' : World} {B : Nat} {A : Option Addr} {l : List Int}
theorem At.nil : At w B A [] := fun h => by simp at h
theorem At.keep (h : At w B A l) (hk : ∀ b o, b < B → w'.cell? ⟨b, o, none⟩ = w.cell? ⟨b, o, none⟩) : At w' B A l := fun hp => by
  obtain ⟨b, off, e, hb, hc⟩ := h hp
  exact ⟨b, off, e, hb, fun j hj => (hk b _ hb).trans (hc j hj)⟩
theorem At.more {B' : Nat} (h : At w B A l) (hB : B ≤ B') : At w B' A l := fun hp => by
  obtain ⟨b, off, e, hb, hc⟩ := h hp
  exact ⟨b, off, e, by omega, hc⟩
theorem At.below (h : At w B A l) (hb : Below B w w') : At w' B A l := h.keep fun b o hp => hb.cell (p := ⟨b, o, none⟩) hp
theorem At.drewN (h : At w B A l) (k : Nat) : At (w.drewN k) B A l := h
theorem At.drew (h : At w B A l) : At w.drew B A l := h
theorem At.alloc (h : At w B A l) (hB : B ≤ w.heap.size) (o : Obj) : At (w.alloc o) B A l := h.keep fun b p hp => World.cell?_alloc_lt w o ⟨b, p, none⟩ (by show b < _; omega)
theorem At.grown {row : Option Nat} (h : At w B A l) (hg : w.grownBy w' row) (hB : B ≤ w.heap.size) (hr : ∀ g, row = some g → B ≤ g) : At w' B A l :=
  h.below ((Below.refl _ _).grown hg hB hr)
theorem At.own {base E c : Nat} (h : w.ownsRow base E 1 (.slice A l.length c) l.length (l.map (Value.int .i64))) : At w w.heap.size A l := fun hp => by
  rcases h.2 with ⟨he, h0⟩ | ⟨g, cap, cur, he, _, hh, _, _, _, ht⟩
  · omega
  · have hA : A = some ⟨g, 0, none⟩ := by injection he
    refine ⟨g, 0, hA, ?_, fun j hj => ?_⟩
    · exact (Array.getElem?_eq_some_iff.1 hh).1
    · have hj' : cur.toList[j]? = some (.int .i64 (l.getD j 0)) := by
        have h1 : (cur.toList.take (l.length * 1))[j]? = some (.int .i64 (l.getD j 0)) := by
          rw [ht, List.getElem?_map, List.getElem?_eq_getElem hj]
          simp [List.getD, List.getElem?_eq_getElem hj]
        rw [List.getElem?_take] at h1
        split at h1
        · exact h1
        · cases h1
      rw [cell_of_row w g (0 + j) cur E (0, 0) hh]
      simpa [Array.getElem?_toList] using hj'
end

/-! A slice of numbers that came in. -/
set_option maxRecDepth 100000 in
theorem cellsInt : Tryd.prog.cellsOf 3 = 1 := by kernel_rfl
theorem bulk_lits {H : Type} (k : IntKind) (zs : List Int) : Rows.uptoBulkAll (lits (H := H) k zs) = zs.length := by
  induction zs with
  | nil => rfl
  | cons z zs ih =>
    show Rows.uptoBulk (DataW.lit (Lit.int k z)) + Rows.uptoBulkAll (lits (H := H) k zs) = _
    rw [ih]
    simp only [Rows.uptoBulk, List.length_cons]
    omega
set_option maxRecDepth 100000 in
theorem open_list {H : Type} {enc : TypeId × Value → H} {w : World} {base : Nat} {r : Reach} {b0 : Nat} {spare : Nat → Bool} {held : Bool} {v : Value} {d : DataW H} {ps : List MemPlace}
    (hval : Value.okWide Tryd.prog w r b0 22 v) (hd : DataW.Trod enc Tryd.prog w base spare held 22 v d ps) :
    ∃ (A : Option Addr) (l : List Int) (c : Nat), v = .slice A l.length c ∧ At w w.heap.size A l ∧ l.length + 1 ≤ Rows.uptoBulk d ∧ (∀ n ∈ l, (Lit.int .i64 n).wf = true) := by
  obtain ⟨a0, len, cap, rfl⟩ := okWide_slice Tryd.underlying22 hval
  obtain ⟨fuel, hf⟩ := hd
  rcases open_ints Tryd.underlying22 Tryd.underlying3 cellsInt hf with ⟨hcs, hx⟩ | ⟨a, len', cap', zs, hcs, _, hl, hm, hz, hx, hcell, hwz⟩
  · simp [Value.cells] at hcs
    obtain ⟨rfl, rfl, rfl⟩ := hcs
    simp only [Prod.mk.injEq] at hx
    obtain ⟨rfl, rfl⟩ := hx
    exact ⟨none, [], 0, rfl, At.nil, by simp [Rows.uptoBulk], by simp⟩
  · simp [Value.cells] at hcs
    obtain ⟨rfl, rfl, rfl⟩ := hcs
    simp only [Prod.mk.injEq] at hx
    obtain ⟨rfl, rfl⟩ := hx
    have hlen : (zs.take len).length = len := by
      rw [List.length_take]
      split at hz <;> omega
    refine ⟨some a, zs.take len, cap, by rw [hlen], fun hp => ?_, ?_, fun n hn => hwz n (List.mem_of_mem_take hn)⟩
    · rw [hlen] at hp
      obtain ⟨b, off, rfl, hc⟩ := ints_at hcell (by split at hz <;> omega)
      have hc0 := hc 0 (by split at hz <;> omega)
      refine ⟨b, off, rfl, ?_, fun j hj => ?_⟩
      · rcases Nat.lt_or_ge b w.heap.size with h | h
        · exact h
        · simp [World.cell?, Array.getElem?_eq_none h] at hc0
      · rw [hlen] at hj
        rw [hc j (by split at hz <;> omega)]
        simp [List.getD, hj]
    · simp only [Rows.uptoBulk, bulk_lits, hlen]
      omega

/-! cmp.Compare -/
def cmpI (x y : Int) : Int := if x < y then -1 else if y < x then 1 else 0
theorem isNaN_any (x : Int) (w : World) : Calls Tryd.prog 38 #[.int .i64 x] w fun e w' => e = .returned (.bool false) ∧ w = w' := by
  go_enter Tryd.func38, Tryd.ntmps38
  go_wp2
  go_ret
  exact ⟨rfl, rfl⟩
theorem compare_any (x y : Int) (w : World) : Calls Tryd.prog 28 #[.int .i64 x, .int .i64 y] w fun e w' => e = .returned (.int .i64 (cmpI x y)) ∧ w = w' := by
  rcases Int.lt_trichotomy x y with h | h | h
  · have e : cmpI x y = -1 := by unfold cmpI; rw [if_pos h]
    rw [e]; clear e
    go_enter Tryd.func28, Tryd.ntmps28
    go_wp2_with (go_at_call 38; refine (isNaN_any _ _).mono ?_; rintro e w' ⟨rfl, rfl⟩)
    go_ret
    exact ⟨rfl, rfl⟩
  · subst h
    have e : cmpI x x = 0 := by unfold cmpI; simp
    rw [e]; clear e
    go_enter Tryd.func28, Tryd.ntmps28
    go_wp2_with (go_at_call 38; refine (isNaN_any _ _).mono ?_; rintro e w' ⟨rfl, rfl⟩)
    go_ret
    exact ⟨rfl, rfl⟩
  · have e : cmpI x y = 1 := by unfold cmpI; rw [if_neg (by omega), if_pos h]
    have h' : ¬ x < y := by omega
    rw [e]; clear e
    go_enter Tryd.func28, Tryd.ntmps28
    go_wp2_with (go_at_call 38; refine (isNaN_any _ _).mono ?_; rintro e w' ⟨rfl, rfl⟩)
    go_ret
    exact ⟨rfl, rfl⟩
theorem ret_int {k : IntKind} {a b : Int} (h : a = b) : Ending.returned (.int k a) = .returned (.int k b) := by rw [h]

theorem ret_b {a b : Bool} (h : a = b) : Ending.returned (.bool a) = .returned (.bool b) := by rw [h]

/-! slices.Compare -/
theorem compares (l m : List Int) (A B : Option Addr) (c d N : Nat) (hl : l.length ≤ maxLen) (hm : m.length ≤ maxLen) (w : World) (ha : At w N A l) (hb : At w N B m) :
    Calls Tryd.prog 20 #[.slice A l.length c, .slice B m.length d] w fun e w' => e = .returned (.int .i64 (cmpL l m)) ∧ w = w' := by
  unfold maxLen at hl hm
  have HA := Lib.hid ha
  have HB := Lib.hid hb
  clear ha hb
  go_enter Tryd.func20, Tryd.ntmps20
  go_wp2
  go_loop [11] (fun i => ∃ k : Nat, k ≤ l.length ∧ k ≤ m.length ∧ i = .int .i64 k ∧ Hid (cmpL (l.drop k) (m.drop k) = cmpL l m)) (fun i => l.length - (intOf i).toNat)
  case atStart => exact ⟨0, Nat.zero_le _, Nat.zero_le _, rfl, rfl⟩
  case round =>
    obtain ⟨k, hk, hk2, rfl, hc⟩ := hrel
    by_cases h1 : k < l.length
    · obtain ⟨b, off, rfl, _, hcell⟩ := HA.out (by omega)
      have c1 := hcell k h1
      clear hcell
      by_cases h2 : k < m.length
      · obtain ⟨b2, off2, rfl, _, hcell2⟩ := HB.out (by omega)
        have c2 := hcell2 k h2
        clear hcell2
        have hs := Lib.hid (cmpL_step l m k h1 h2)
        generalize l.getD k 0 = x at c1 hs
        generalize m.getD k 0 = y at c2 hs
        rcases Int.lt_trichotomy x y with h | h | h
        · have e : cmpI x y = -1 := by unfold cmpI; rw [if_pos h]
          have hv : cmpL l m = -1 := by rw [← hc.out, hs.out, if_pos h]
          have hv := Lib.hid hv
          have cc := fun w => e ▸ compare_any x y w
          clear e
          go_wp2_with (go_at_call 28; refine (cc _).mono ?_; rintro e w' ⟨rfl, rfl⟩)
          go_ret
          exact ⟨ret_int hv.out.symm, rfl⟩
        · subst h
          have e : cmpI x x = 0 := by unfold cmpI; simp
          have hv : cmpL (l.drop (k + 1)) (m.drop (k + 1)) = cmpL l m := by rw [← hc.out, hs.out, if_neg (by omega), if_neg (by omega)]
          have hv := Lib.hid hv
          have cc := fun w => e ▸ compare_any x x w
          clear e
          go_wp2_with (go_at_call 28; refine (cc _).mono ?_; rintro e w' ⟨rfl, rfl⟩)
          go_round
          case rel => exact ⟨k + 1, by omega, by omega, by go_num, hv.out⟩
          case measure => simp [intOf]; omega
        · have e : cmpI x y = 1 := by unfold cmpI; rw [if_neg (by omega), if_pos h]
          have hv : cmpL l m = 1 := by rw [← hc.out, hs.out, if_neg (by omega), if_pos h]
          have hv := Lib.hid hv
          have cc := fun w => e ▸ compare_any x y w
          clear e
          go_wp2_with (go_at_call 28; refine (cc _).mono ?_; rintro e w' ⟨rfl, rfl⟩)
          go_ret
          exact ⟨ret_int hv.out.symm, rfl⟩
      · have hv := Lib.hid (show cmpL l m = 1 by rw [← hc.out, cmpL_out l m k h1 (by omega)])
        have h2' : m.length ≤ k := by omega
        go_wp2
        go_ret
        exact ⟨ret_int hv.out.symm, rfl⟩
    · by_cases h2 : k < m.length
      · have hv := Lib.hid (show cmpL l m = -1 by rw [← hc.out, cmpL_less l m k (by omega) h2])
        have h3 : l.length < m.length := by omega
        go_wp2
        go_ret
        exact ⟨ret_int hv.out.symm, rfl⟩
      · have hv := Lib.hid (show cmpL l m = 0 by rw [← hc.out, cmpL_done l m k (by omega) (by omega)])
        have h3 : ¬ l.length < m.length := by omega
        go_wp2
        go_ret
        exact ⟨ret_int hv.out.symm, rfl⟩

/-! tape.Less -/
theorem less_any (l m : List Int) (A B : Option Addr) (c d N : Nat) (hl : l.length ≤ maxLen) (hm : m.length ≤ maxLen) (w : World) (ha : At w N A l) (hb : At w N B m) :
    Calls Tryd.prog 12 #[.slice A l.length c, .slice B m.length d] w fun e w' => e = .returned (.bool (lessL l m)) ∧ w = w' := by
  have HA := Lib.hid ha
  have HB := Lib.hid hb
  have HL := Lib.hid hl
  have HM := Lib.hid hm
  clear ha hb hl hm
  by_cases e : l.length = m.length
  · have hv0 := Lib.hid (show lessL l m = decide (cmpL l m < 0) by unfold lessL; rw [if_pos e])
    have cc := fun w' ha hb => compares l m A B c d N HL.out HM.out w' ha hb
    generalize cmpL l m = x at hv0 cc
    have ht : (((l.length : Nat) : Int) != ((m.length : Nat) : Int)) = false := by rw [bne_eq_false_iff_eq]; omega
    have E := Lib.hid e
    clear e
    by_cases hx : x < 0
    · have hv := Lib.hid (show lessL l m = true by rw [hv0.out, decide_eq_true hx])
      go_enter Tryd.func12, Tryd.ntmps12
      go_wp2_with (go_at_call 20; refine (cc _ HA.out HB.out).mono ?_; rintro e w' ⟨rfl, rfl⟩)
      go_ret
      exact ⟨ret_b hv.out.symm, rfl⟩
    · go_enter Tryd.func12, Tryd.ntmps12
      go_wp2_with (go_at_call 20; refine (cc _ HA.out HB.out).mono ?_; rintro e w' ⟨rfl, rfl⟩)
      go_ret
      exact ⟨ret_b hv0.out.symm, rfl⟩
  · have ht : (((l.length : Nat) : Int) != ((m.length : Nat) : Int)) = true := by rw [bne_iff_ne]; omega
    by_cases h : l.length < m.length
    · have hv := Lib.hid (show lessL l m = true by unfold lessL; rw [if_neg e, decide_eq_true h])
      clear e
      go_enter Tryd.func12, Tryd.ntmps12
      go_wp2
      go_ret
      exact ⟨ret_b hv.out.symm, rfl⟩
    · have hv := Lib.hid (show lessL l m = false by unfold lessL; rw [if_neg e, decide_eq_false h])
      clear e
      go_enter Tryd.func12, Tryd.ntmps12
      go_wp2
      go_ret
      exact ⟨ret_b hv.out.symm, rfl⟩

/-! assayersame.Ints: it draws its order -/
theorem same_any (l m : List Int) (A B : Option Addr) (c d N : Nat) (hl : l.length ≤ maxLen) (hm : m.length ≤ maxLen) (w : World) (ha : At w N A l) (hb : At w N B m) :
    Calls Tryd.prog 11 #[.slice A l.length c, .slice B m.length d] w fun e w' => e = .returned (.bool (decide (l = m))) ∧ ∃ n, w' = w.drewN n := by
  unfold maxLen at hl hm
  have HA := Lib.hid ha
  have HB := Lib.hid hb
  clear ha hb
  by_cases e : l.length = m.length
  · have ht : (((l.length : Nat) : Int) != ((m.length : Nat) : Int)) = false := by rw [bne_eq_false_iff_eq]; omega
    have hml : m.length ≤ l.length := by omega
    have hlm : l.length ≤ m.length := by omega
    have E := Lib.hid e
    clear e
    go_enter Tryd.func11, Tryd.ntmps11
    go_wp2
    go_loopw [5] (fun i wr => ∃ k n : Nat, k ≤ l.length ∧ i = .int .i64 k ∧ wr = w.drewN n ∧ Hid (l.take k = m.take k)) (fun i _ => l.length - (intOf i).toNat)
    case atStart => exact ⟨0, 0, Nat.zero_le _, rfl, rfl, rfl⟩
    case round =>
      obtain ⟨k, n, hk, rfl, rfl, ht2⟩ := hrel
      by_cases h1 : k < l.length
      · have h2 : k < m.length := by omega
        obtain ⟨b, off, rfl, _, hcell⟩ := HA.out (by omega)
        have c1 := hcell k h1
        clear hcell
        obtain ⟨b2, off2, rfl, _, hcell2⟩ := HB.out (by omega)
        have c2 := hcell2 k h2
        clear hcell2
        have t1 := Lib.hid (take_getD l k h1)
        have t2 := Lib.hid (take_getD m k h2)
        generalize hx : l.getD k 0 = x at c1 t1
        generalize hy : m.getD k 0 = y at c2 t2
        have HX := Lib.hid hx
        have HY := Lib.hid hy
        clear hx hy
        by_cases h : x = y
        · subst h
          have hv := Lib.hid (show l.take (k + 1) = m.take (k + 1) by rw [t1.out, t2.out, ht2.out])
          have h1' : (k : Int) < l.length := by omega
          have h2' : (k : Int) < m.length := by omega
          go_wp2
          go_quiet (fail)
          go_wp2
          go_roundw
          case rel => exact ⟨k + 1, _, by omega, by go_num, rfl, hv.out⟩
          case measure => simp [intOf]; omega
        · have hv := Lib.hid (show decide (l = m) = false by
            rw [decide_eq_false]; intro z; subst z; exact h (HX.out.symm.trans HY.out))
          have ht3 : (x != y) = true := by rw [bne_iff_ne]; exact h
          clear h
          go_wp2
          go_quiet (fail)
          go_wp2
          go_ret
          exact ⟨ret_b hv.out.symm, _, World.drewN_drewN _ _ _⟩
      · have hv := Lib.hid (show decide (l = m) = true by
          rw [decide_eq_true_eq, ← List.take_of_length_le (show l.length ≤ k by omega), ht2.out, List.take_of_length_le (by omega)])
        go_wp2
        go_ret
        exact ⟨ret_b hv.out.symm, _, rfl⟩
  · have ht : (((l.length : Nat) : Int) != ((m.length : Nat) : Int)) = true := by rw [bne_iff_ne]; omega
    have hv := Lib.hid (show decide (l = m) = false by rw [decide_eq_false]; intro z; subst z; exact e rfl)
    clear e
    go_enter Tryd.func11, Tryd.ntmps11
    go_wp2
    go_ret
    exact ⟨ret_b hv.out.symm, 0, rfl⟩
end Go.Proofs.YtjajjadhnfhofaaDoor.Ints
