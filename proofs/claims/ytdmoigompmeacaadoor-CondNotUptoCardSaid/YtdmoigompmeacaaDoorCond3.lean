/- The program's covers, Matters, Pair. Conditions: none. -/
import Derived.Test.YtdmoigompmeacaaDoorCond2
import Derived.Lib.Builder
namespace Go.Proofs.YtdmoigompmeacaaDoor.Cnd
open Go.RowKit Ints Vals Bools
set_option linter.unusedVariables false

theorem new_box (w : World) (o : Obj) : (w.alloc o).heap[w.heap.size]? = some o := by
  show (w.heap.push o)[w.heap.size]? = _
  simp
theorem box_cell {w : World} {b : Nat} {v : Value} {T : TypeId} (h : w.heap[b]? = some (.cells #[v] T (0, 0))) : w.cell? ⟨b, 0, none⟩ = some v := by rw [Lib.cell_of_heap h]; rfl
/-- the bools z lie at ⟨b, off⟩ -/
def Lie (w : World) (b off : Nat) (z : List Bool) : Prop := ∀ j, j < z.length → w.cell? ⟨b, off + j, none⟩ = some (.bool (fOf z j))
theorem Lie.lt {w : World} {b off : Nat} {z : List Bool} (h : Lie w b off z) (hz : 0 < z.length) : b < w.heap.size := World.block_lt_of_cell? w ⟨b, off + 0, none⟩ (h 0 hz)
theorem Lie.grown {w w' : World} {b off : Nat} {z : List Bool} {row : Option Nat} (h : Lie w b off z) (hg : w.grownBy w' row) (hne : some b ≠ row) : Lie w' b off z := fun j hj => hg.cell (h j hj) hne
theorem Lie.drewN {w : World} {b off : Nat} {z : List Bool} (h : Lie w b off z) (n : Nat) : Lie (w.drewN n) b off z := h
theorem grown_drewN (w : World) (n : Nat) : w.grownBy (w.drewN n) none := ⟨rfl, rfl, rfl, Nat.le_refl _, fun _ _ _ => rfl⟩

set_option maxHeartbeats 4000000 in
set_option maxRecDepth 100000 in
theorem covers_ok {m : Nat} (hm : 1 ≤ m) (h6 : m ≤ 6) {l z : List Bool} (hl : l.length = 2 ^ m) (hz : z.length = l.length) (b off c g o c2 : Nat) (w : World) (hf : Lie w b off l) (hg : Lie w g o z) :
    Calls Tryd.prog 26 #[.int .i64 m, .slice (some ⟨b, off, none⟩) l.length c, .slice (some ⟨g, o, none⟩) z.length c2] w fun e w' => e = .returned (.bool (covB m (fOf l) (fOf z))) ∧ w.grownBy w' none := by
  obtain ⟨V, HV⟩ : ∃ V, Hid (V = covB m (fOf l) (fOf z)) := ⟨_, Lib.hid rfl⟩
  rw [← HV.out]
  have hp := pow_small hm h6
  have hl64 : l.length ≤ 64 := by rw [hl]; exact hp.2
  have hl0 : 0 < l.length := by rw [hl]; omega
  have G1 := World.grownBy_alloc w (.cells #[.slice (some ⟨g, o, none⟩) z.length c2] 22) none
  have F1 := hf.grown G1 (by simp)
  have Z1 := hg.grown G1 (by simp)
  have B1 := box_cell (new_box w (.cells #[.slice (some ⟨g, o, none⟩) z.length c2] 22))
  have M1 : Mk w.heap.size z (w.alloc (.cells #[.slice (some ⟨g, o, none⟩) z.length c2] 22)) := ⟨g, o, c2, B1, Z1⟩
  have CA := Lib.hid (fun (i : Nat) (hi : i < m) (n : Nat) => first_ok hi h6 hl b off c ((w.alloc (.cells #[.slice (some ⟨g, o, none⟩) z.length c2] 22)).drewN n) (any_adm _ _) (F1.drewN n))
  have CM := Lib.hid (fun (i : Nat) (hi : i < m) (n : Nat) => first_ok hi h6 hl b off c ((w.alloc (.cells #[.slice (some ⟨g, o, none⟩) z.length c2] 22)).drewN n) (marked_adm hz.symm (by omega) ⟨M1.slot⟩) (F1.drewN n))
  have LK := Lib.hid (fun i => show lackB m (fOf l) (fOf z) i = (decide (firstP l.length (fOf l) anyB i ≠ -1) && decide (firstP l.length (fOf l) (fOf z) i = -1)) by rw [hl]; rfl)
  have HG := Lib.hid G1
  clear hp hl hf hg F1 Z1 B1 M1 G1 hl0 hz
  have hmi : (m : Int) ≤ 6 := by omega
  go_enter Tryd.func26, Tryd.ntmps26
  go_wp2_with fail
  generalize w.alloc (.cells #[.slice (some ⟨g, o, none⟩) z.length c2] 22) = w1 at *
  go_loopw [11] (fun iv wr => ∃ i : Nat, i ≤ m ∧ iv = .int .i64 i ∧ Hid (∀ u, u < i → lackB m (fOf l) (fOf z) u = false) ∧ Hid (∃ n, wr = w1.drewN n)) (fun iv _ => m - (intOf iv).toNat)
  case atStart => exact ⟨0, Nat.zero_le _, rfl, Lib.hid (fun u h => by omega), Lib.hid ⟨0, rfl⟩⟩
  case round =>
    obtain ⟨i, hi, rfl, hb, hw⟩ := hrel
    by_cases hlt : i < m
    · have hii : (i : Int) < m := by omega
      have NX := Lib.hid (show lackB m (fOf l) (fOf z) i = false → ∀ u, u < i + 1 → lackB m (fOf l) (fOf z) u = false from fun hp u hu => by
        by_cases e : u = i
        · subst e; exact hp
        · exact hb.out u (by omega))
      have NO := Lib.hid (show lackB m (fOf l) (fOf z) i = true → V = false from fun hp => by rw [HV.out]; exact covB_lack hlt hp)
      have C1 := Lib.hid (by obtain ⟨n, e⟩ := hw.out; have := CA.out i hlt n; rw [← e] at this; exact this)
      have C2 := Lib.hid (fun k => by obtain ⟨n, e⟩ := hw.out; have := CM.out i hlt (n + k); rw [← drew_two, ← e] at this; exact this)
      have DN := Lib.hid (fun k => show ∃ n, wr.drewN k = w1.drewN n by obtain ⟨n, e⟩ := hw.out; exact ⟨n + k, by rw [e, drew_two]⟩)
      rw [LK.out i] at NX NO
      clear hb hw
      generalize firstP l.length (fOf l) anyB i = v1 at *
      generalize firstP l.length (fOf l) (fOf z) i = v2 at *
      by_cases e1 : v1 = -1
      · subst e1
        have NY := Lib.hid (NX.out (by simp))
        clear NX NO C2
        go_wp2_with fail
        refine C1.out.mono ?_
        rintro e w2 ⟨rfl, n2, rfl⟩
        have D2 := Lib.hid (DN.out n2)
        clear C1 DN
        go_wp2_with fail
        go_roundw
        case rel => exact ⟨i + 1, by omega, by go_num, NY.out, D2.out⟩
        case measure => simp [intOf]; omega
      · have n1 : (v1 == -1) = false := by rw [beq_eq_false_iff_ne]; exact e1
        have n1' : (v1 != -1) = true := by simp [e1]
        by_cases e2 : v2 = -1
        · subst e2
          obtain rfl := NO.out (by simp [e1])
          clear NX NO
          go_wp2_with fail
          refine C1.out.mono ?_
          rintro e w2 ⟨rfl, n2, rfl⟩
          have D2 := Lib.hid (C2.out n2)
          have DE := Lib.hid (DN.out n2)
          clear C1 C2 DN
          generalize wr.drewN n2 = w2 at *
          go_wp2_with fail
          refine D2.out.mono ?_
          rintro e w3 ⟨rfl, n3, rfl⟩
          have D3 := Lib.hid (show w.grownBy (w2.drewN n3) none by obtain ⟨q, e⟩ := DE.out; rw [e]; exact (HG.out.trans (grown_drewN _ _)).trans (grown_drewN _ _))
          clear D2 DE
          go_wp2_with fail
          go_ret
          exact ⟨rfl, D3.out⟩
        · have n2 : (v2 == -1) = false := by rw [beq_eq_false_iff_ne]; exact e2
          have NY := Lib.hid (NX.out (by simp [e2]))
          clear NX NO
          go_wp2_with fail
          refine C1.out.mono ?_
          rintro e w2 ⟨rfl, n2, rfl⟩
          have D2 := Lib.hid (C2.out n2)
          have DE := Lib.hid (DN.out n2)
          clear C1 C2 DN
          generalize wr.drewN n2 = w2 at *
          go_wp2_with fail
          refine D2.out.mono ?_
          rintro e w3 ⟨rfl, n3, rfl⟩
          have D3 := Lib.hid (show ∃ n, w2.drewN n3 = w1.drewN n by obtain ⟨q, e⟩ := DE.out; exact ⟨q + n3, by rw [e, drew_two]⟩)
          clear D2 DE
          go_wp2_with fail
          go_roundw
          case rel => exact ⟨i + 1, by omega, by go_num, NY.out, D3.out⟩
          case measure => simp [intOf]; omega
    · have NV := Lib.hid (show V = true by rw [HV.out]; exact covB_full fun u hu => hb.out u (by omega))
      have D3 := Lib.hid (show w.grownBy wr none by obtain ⟨q, e⟩ := hw.out; rw [e]; exact HG.out.trans (grown_drewN _ _))
      clear hb hw
      go_wp2_with fail
      go_ret
      exact ⟨by rw [NV.out]; rfl, D3.out⟩

theorem lie_at {w : World} {B : Nat} {A : Option Addr} {l : List Bool} (h : AtB w B A l) (h0 : 0 < l.length) : ∃ b off, A = some ⟨b, off, none⟩ ∧ b < B ∧ Lie w b off l := by
  obtain ⟨b, off, e, hb, hc⟩ := h h0
  exact ⟨b, off, e, hb, hc⟩
/-- the first pair, of a right decision and condition -/
theorem par_ok {n i : Int} {l : List Bool} (h : matE n l i = 0) : ∃ m j : Nat, n = m ∧ i = j ∧ 1 ≤ m ∧ m ≤ 6 ∧ j < m ∧ l.length = 2 ^ m ∧ parL n l i = firstP l.length (fOf l) anyB j := by
  unfold matE at h
  by_cases hc : condE n l = 0
  · rw [if_pos hc] at h
    obtain ⟨m, rfl, h1, h2, h3⟩ := cond_ok hc
    by_cases hi : 0 ≤ i ∧ i < m
    · refine ⟨m, i.toNat, rfl, by omega, h1, h2, by omega, h3, ?_⟩
      unfold parL matE
      rw [if_pos hc, if_pos hi, if_pos rfl]
    · rw [if_neg hi] at h; cases h
  · rw [if_neg hc] at h; exact absurd h hc
theorem par_no {n i : Int} {l : List Bool} (h : ¬ matE n l i = 0) : parL n l i = -1 := if_neg h
theorem own_size (w : World) : Below w.heap.size w w := Below.refl _ _

set_option maxHeartbeats 4000000 in
set_option maxRecDepth 100000 in
theorem matters_prog (n i : Int) (A : Option Addr) (c : Nat) (l : List Bool) (w : World) (hl : l.length ≤ 4294967296) (hA : AtB w w.heap.size A l) :
    Calls Tryd.prog 11 #[.int .i64 n, .slice A l.length c, .int .i64 i] w (MaPost (matV n l i) (matE n l i) w) := by
  have CC := Lib.hid (condition_ok n i A c l w hl)
  unfold MaPost matV
  by_cases hq : matE n l i = 0
  · obtain ⟨m, j, rfl, rfl, h1, h6, hj, hl2, hp⟩ := par_ok hq
    obtain ⟨b, off, rfl, _, hlie⟩ := lie_at hA (by have := pow_small h1 h6; omega)
    have C1 := Lib.hid (first_ok hj h6 hl2 b off c w (any_adm _ _) hlie)
    rw [hp]
    rw [hq] at CC ⊢
    rw [errOf_ok] at CC ⊢
    clear hq hp hl2 hlie hA
    generalize firstP l.length (fOf l) anyB j = v at *
    by_cases hv : v = -1
    · subst hv
      go_enter Tryd.func11, Tryd.ntmps11
      go_wp2_with fail
      refine CC.out.mono ?_
      rintro e w1 ⟨rfl, rfl⟩
      go_wp2_with fail
      refine C1.out.mono ?_
      rintro e w2 ⟨rfl, k, rfl⟩
      go_wp2_with fail
      go_ret2
      exact ⟨rfl, below_drewN _ _⟩
    · have n1 : (v == -1) = false := by rw [beq_eq_false_iff_ne]; exact hv
      have n2 : (v != -1) = true := by simp [hv]
      rw [decide_eq_true hv]
      go_enter Tryd.func11, Tryd.ntmps11
      go_wp2_with fail
      refine CC.out.mono ?_
      rintro e w1 ⟨rfl, rfl⟩
      go_wp2_with fail
      refine C1.out.mono ?_
      rintro e w2 ⟨rfl, k, rfl⟩
      go_wp2_with fail
      go_ret2
      exact ⟨rfl, below_drewN _ _⟩
  · rw [par_no hq]
    rw [errOf_no hq] at CC ⊢
    generalize matE n l i = q at *
    clear hA
    go_enter Tryd.func11, Tryd.ntmps11
    go_wp2_with fail
    refine CC.out.mono ?_
    rintro e w1 ⟨rfl, rfl⟩
    go_wp2_with fail
    go_ret2
    exact ⟨rfl, Below.refl _ _⟩
end Go.Proofs.YtdmoigompmeacaaDoor.Cnd
