/- The program's Parts: pieces that follow one another. Conditions: none. -/
import Derived.Test.YteaicmjihckbjaaEdges
import Derived.Test.YteaicmjihckbjaaPartsF
import Derived.Laws.MakeOwn
import Derived.BigQuiet
import Derived.Deep.MidRow
import Derived.Deep.Upon
namespace Go.Proofs.Yteaicmjihckbjaa.Bnd
open Go.RowKit Ints Vals Arr
set_option linter.unusedVariables false

/-- i pieces are made in block g -/
structure PSt (w0 : World) (g : Nat) (low : Int) (m N i : Nat) (w : World) : Prop where
  done : ∀ t, t < i → w.cell? ⟨g, t * 2, none⟩ = some (.int .i64 (fromI low m N t)) ∧ w.cell? ⟨g, t * 2 + 1, none⟩ = some (.int .i64 (toI low m N t))
  all : ∀ o, o < N * 2 → (w.cell? ⟨g, o, none⟩).isSome = true
  free : ∀ o, w.frozen? ⟨g, o, none⟩ = false
  ge : w0.heap.size ≤ g ∧ g < w.heap.size
  below : Below w0.heap.size w0 w
theorem setCells_grown2 (w : World) (g o : Nat) (vs : List Value) : w.grownBy (w.setCells g o vs) (some g) := by
  refine ⟨World.os_setCells w g o vs, ?_, World.output_setCells w g o vs, ?_, fun b hb hx => World.heap_setCells_other w g o vs hb (fun e => hx (by rw [e]))⟩
  · induction vs generalizing o w with
    | nil => rfl
    | cons v r ih => exact (ih (w := w.setCell ⟨g, o, none⟩ v) (o := o + 1)).trans rfl
  · induction vs generalizing o w with
    | nil => exact Nat.le_refl _
    | cons v r ih => exact Nat.le_trans (show w.heap.size ≤ (w.setCell ⟨g, o, none⟩ v).heap.size by simp [World.setCell]) (ih (w := w.setCell ⟨g, o, none⟩ v) (o := o + 1))
theorem PSt.put {w0 w : World} {g m N i : Nat} {low : Int} (h : PSt w0 g low m N i w) (hi : i < N) {f t : Int} (hf : f = fromI low m N i) (ht : t = toI low m N i) : PSt w0 g low m N (i + 1) (w.setCells g (i * 2) [.int .i64 f, .int .i64 t]) := by
  subst hf ht
  have hout : ∀ o, (o < i * 2 ∨ i * 2 + 2 ≤ o) → (w.setCells g (i * 2) [.int .i64 (fromI low m N i), .int .i64 (toI low m N i)]).cell? ⟨g, o, none⟩ = w.cell? ⟨g, o, none⟩ := fun o ho =>
    World.cell?_setCells_out g _ _ w ⟨g, o, none⟩ (fun _ _ => ho)
  have hin : ∀ q (hq : q < 2), (w.setCells g (i * 2) [.int .i64 (fromI low m N i), .int .i64 (toI low m N i)]).cell? ⟨g, i * 2 + q, none⟩ = some ([Value.int .i64 (fromI low m N i), .int .i64 (toI low m N i)][q]'hq) := fun q hq =>
    World.cell?_setCells_in g [.int .i64 (fromI low m N i), .int .i64 (toI low m N i)] _ w (fun k hk => h.all _ (by have : k < 2 := hk; omega)) q hq
  have hg := setCells_grown2 w g (i * 2) [.int .i64 (fromI low m N i), .int .i64 (toI low m N i)]
  refine ⟨fun t ht => ?_, fun o ho => ?_, fun o => ?_, ⟨h.ge.1, Nat.lt_of_lt_of_le h.ge.2 hg.size⟩, h.below.grown hg h.below.size (fun k hk => by injection hk with hk; rw [← hk]; exact h.ge.1)⟩
  · by_cases e : t = i
    · subst e
      exact ⟨hin 0 (by omega), hin 1 (by omega)⟩
    · obtain ⟨d0, d1⟩ := h.done t (by omega)
      exact ⟨(hout _ (.inl (by omega))).trans d0, (hout _ (.inl (by omega))).trans d1⟩
  · exact World.isSome_setCells g _ _ w _ (h.all o ho)
  · rw [World.frozen?_setCells]; exact h.free o
theorem PSt.start {w0 w : World} {m N : Nat} {low : Int} {cs : Array Value} (hb : Below w0.heap.size w0 w) (hz : w.heap.size = w0.heap.size) (hc : cs.size = N * 2) : PSt w0 w0.heap.size low m N 0 (w.alloc (.cells cs 32)) := by
  have h := new5 w (.cells cs 32)
  rw [hz] at h
  refine ⟨fun t ht => by omega, fun o ho => ?_, fun o => Lib.frozen_of_heap h o, ⟨Nat.le_refl _, (Array.getElem?_eq_some_iff.1 h).1⟩, hb.alloc (by omega) _⟩
  rw [Lib.cell_of_heap h, Array.getElem?_eq_getElem (by omega)]
  rfl
theorem PSt.at_ {w0 w : World} {g m N : Nat} {low : Int} (h : PSt w0 g low m N N w) : AtE 2 two w (fun b => w0.heap.size ≤ b ∧ b < w.heap.size) (some ⟨g, 0, none⟩) (pcL low m N) := fun hp => by
  refine ⟨g, 0, rfl, h.ge, fun j hj q hq => ?_⟩
  rw [pc_get]
  rw [pc_len] at hj
  obtain ⟨d0, d1⟩ := h.done j hj
  obtain rfl | rfl : q = 0 ∨ q = 1 := by omega
  · rw [Nat.zero_add, Nat.add_zero]; exact d0
  · rw [Nat.zero_add]; exact d1
theorem to_is (low : Int) (m N i : Nat) : toI low m N i = fromI low m N i + ((m / N : Nat) : Int) - 1 + (if i < m % N then 1 else 0) := by
  have := piece_size low m N i
  unfold sizeN at this
  split at this <;> split <;> omega
theorem from_in {low high : Int} {m N i : Nat} (hm : (m : Int) = high - low + 1) (hN : 0 < N) (hi : i ≤ N) : low ≤ fromI low m N i ∧ fromI low m N i ≤ high + 1 := by
  unfold fromI
  have h1 := start_mono m N hi
  rw [start_end hN] at h1
  omega
theorem mk_ok (N : Nat) (hN : N ≤ 1000) : ∃ cs : Array Value, cs.size = N * 2 ∧ ∀ w, (Instr.makeSlice 29 (.int .i64 (N : Int)) (.int .i64 (N : Int))).run Try.prog w = .ok (.slice (some ⟨w.heap.size, 0, none⟩) N N) (w.alloc (.cells cs 32)) := by
  have hI : (Try.prog.info? 32).map (fun i => (i.zero, i.size, i.bytes)) = some (some (.agg #[.int .i64 0, .int .i64 0]), 2, 16) := by kernel_rfl
  obtain ⟨i0, hi, hzz, hsz, hby⟩ := info_parts hI
  refine ⟨madeCells (Value.agg #[.int .i64 0, .int .i64 0]).cells (N * 2), size_madeCells _ _, fun w => ?_⟩
  have h := run_make (P := Try.prog) w 29 32 i0 _ (by kernel_rfl) hi hzz .i64 .i64 (N : Int) (N : Int) (by omega) (by omega) (by rw [hby]; omega) (by omega)
  rw [Int.toNat_natCast, hsz] at h
  exact h

set_option maxHeartbeats 4000000 in
set_option maxRecDepth 100000 in
theorem parts_prog (low high n : Int) (w : World) : Calls Try.prog 8 #[.int .i64 low, .int .i64 high, .int .i64 n] w (PaPost (paV low high n) (paE low high n) w) := by
  have R := Lib.hid (range_ok low high)
  by_cases hr : RightB low high
  · have hr1 : -1073741824 ≤ low ∧ low ≤ high ∧ high ≤ 1073741824 := ⟨hr.2.1, hr.1, hr.2.2⟩
    rw [decide_eq_true hr] at R
    by_cases h1 : n < 1
    · have hp : ¬ PartB low high n := fun h => by have := h.2.1; omega
      have ev : paV low high n = [] := if_neg hp
      have eq : paE low high n = 1 := if_neg hp
      rw [ev, eq]
      clear hr ev eq hp
      go_enter Try.func8, Try.ntmps8
      go_wp2_with fail
      refine (R.out _).mono ?_
      rintro e w1 ⟨rfl, rfl⟩
      clear R
      go_wp2_with fail
      go_ret2
      exact ⟨none, 0, rfl, fun h => by simp at h, Below.refl _ _⟩
    · by_cases h2 : n > min (high - low + 1) 1000
      · have hp : ¬ PartB low high n := fun h => by have := h.2.2; omega
        have ev : paV low high n = [] := if_neg hp
        have eq : paE low high n = 1 := if_neg hp
        rw [ev, eq]
        clear hr ev eq hp
        go_enter Try.func8, Try.ntmps8
        go_wp2_with fail
        refine (R.out _).mono ?_
        rintro e w1 ⟨rfl, rfl⟩
        clear R
        go_wp2_with fail
        go_ret2
        exact ⟨none, 0, rfl, fun h => by simp at h, Below.refl _ _⟩
      · have hp : PartB low high n := ⟨hr, by omega, by omega, by omega⟩
        have eq : paE low high n = 0 := if_pos hp
        obtain ⟨m, N, rfl, hm, hN1, hNm, hN2, _, ev⟩ := pa_ok eq
        rw [ev, eq]
        have q1 : (high - low + 1) / (N : Int) = ((m / N : Nat) : Int) := by rw [← hm]; rfl
        have q2 : (high - low + 1) % (N : Int) = ((m % N : Nat) : Int) := by rw [← hm]; rfl
        have hq := Nat.div_le_self m N
        have hl := Nat.mod_lt m (show N > 0 by omega)
        have TI := Lib.hid (fun i => to_is low m N i)
        have FI := Lib.hid (fun i (hi : i ≤ N) => from_in (i := i) hm (by omega) hi)
        have FN := Lib.hid (fun i => from_next low m N i)
        have Q1 := Lib.hid q1
        have Q2 := Lib.hid q2
        obtain ⟨cs, hcs, hmk⟩ := mk_ok N hN2
        have CS := Lib.hid hcs
        have hn0 : ¬ (N : Int) = 0 := by omega
        clear ev eq hp hcs q1 q2
        generalize m / N = Q at *
        generalize m % N = L at *
        have hq2 : (0 : Int) ≤ (Q : Int) ∧ (Q : Int) ≤ 2147483649 := by omega
        have hl2 : (0 : Int) ≤ (L : Int) ∧ (L : Int) ≤ 1000 := by omega
        clear hr hm hNm hq hl
        go_enter Try.func8, Try.ntmps8
        go_wp2_with fail
        refine (R.out _).mono ?_
        rintro e w1 ⟨rfl, rfl⟩
        clear R
        go_wp2_with fail
        go_quiet (fail)
        rw [Q1.out, Q2.out]
        have f0 := from_zero low m N
        have hN3 : (N : Int) ≤ 1000 := by omega
        clear Q1 Q2 h2
        go_wp2_with fail
        have S0 := Lib.hid (PSt.start (low := low) (m := m) (N := N) (w0 := w1) (w := w1.drewN nq) ⟨rfl, rfl, rfl, Nat.le_refl _, fun _ _ => rfl⟩ rfl CS.out)
        generalize (w1.drewN nq).alloc (.cells cs 32) = W at *
        clear hmk CS
        go_loopw [11, 49] (fun fv iv wr => ∃ i : Nat, i ≤ N ∧ iv = .int .i64 i ∧ fv = .int .i64 (fromI low m N i) ∧ Hid (PSt w1 w1.heap.size low m N i wr)) (fun _ iv _ => N - (intOf iv).toNat)
        case atStart => exact ⟨0, Nat.zero_le _, rfl, by rw [f0], S0.out⟩
        case round =>
          clear S0 f0
          obtain ⟨i, hi, rfl, rfl, hs⟩ := hrel
          by_cases hlt : i < N
          · have hii : (i : Int) < N := by omega
            have fb := FI.out i hi
            have SP := Lib.hid (fun (W : World) (t : Int) (ht : t = toI low m N i) (hh : PSt w1 w1.heap.size low m N i W) => hh.put hlt rfl ht)
            have ti := TI.out i
            have fn := FN.out i
            generalize hf : fromI low m N i = f at *
            clear hf
            obtain ⟨u0, hu0⟩ := Option.isSome_iff_exists.1 (hs.out.all (i * 2) (by omega))
            obtain ⟨u1, hu1⟩ := Option.isSome_iff_exists.1 (hs.out.all (i * 2 + 1) (by omega))
            have fr := hs.out.free
            have TT := Lib.hid ti
            have FT := Lib.hid fn
            clear ti fn FI FN TI
            by_cases hL : i < L
            · have hl3 : (i : Int) < L := by omega
              have e1 : f + (Q : Int) = toI low m N i := by rw [TT.out, if_pos hL]; omega
              have E1 := Lib.hid e1
              have E2 := Lib.hid (show f + (Q : Int) + 1 = fromI low m N (i + 1) by rw [FT.out, e1])
              clear TT FT e1
              go_wp2_with fail
              go_roundw
              case rel => exact ⟨i + 1, hlt, by go_num, by rw [E2.out], Lib.hid (SP.out wr _ E1.out hs.out)⟩
              case measure => simp [intOf]; omega
            · have hl3 : ¬ (i : Int) < L := by omega
              have e1 : f + (Q : Int) - 1 = toI low m N i := by rw [TT.out, if_neg hL]; omega
              have E1 := Lib.hid e1
              have E2 := Lib.hid (show f + (Q : Int) = fromI low m N (i + 1) by rw [FT.out, ← e1]; omega)
              clear TT FT e1
              go_wp2_with fail
              go_roundw
              case rel => exact ⟨i + 1, hlt, by go_num, by first | rw [E2.out] | (rw [← E2.out]; congr 1; omega), Lib.hid (SP.out wr _ E1.out hs.out)⟩
              case measure => simp [intOf]; omega
          · obtain rfl : i = N := by omega
            have AT := Lib.hid hs.out.at_
            have BL := Lib.hid hs.out.below
            go_wp2_with fail
            go_ret2
            refine ⟨_, i, by rw [pc_len, errOf_ok]; rfl, AT.out, BL.out⟩
  · have hp : ¬ PartB low high n := fun h => hr h.1
    have ev : paV low high n = [] := if_neg hp
    have eq : paE low high n = 1 := if_neg hp
    rw [decide_eq_false hr] at R
    rw [ev, eq]
    clear hr ev eq hp
    go_enter Try.func8, Try.ntmps8
    go_wp2_with fail
    refine (R.out _).mono ?_
    rintro e w1 ⟨rfl, rfl⟩
    clear R
    go_wp2_with fail
    go_ret2
    exact ⟨none, 0, rfl, fun h => by simp at h, Below.refl _ _⟩
end Go.Proofs.Yteaicmjihckbjaa.Bnd
