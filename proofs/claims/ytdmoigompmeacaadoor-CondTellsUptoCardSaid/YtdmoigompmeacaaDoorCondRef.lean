/- The document's CondFault, So, PairOf. Conditions: none. -/
import Derived.Test.YtdmoigompmeacaaDoorCondN
import Derived.Test.YtdmoigompmeacaaDoorCondS
import Derived.Test.YtdmoigompmeacaaDoorIn
namespace Go.Proofs.YtdmoigompmeacaaDoor.Cnd
open Go.RowKit Ints Vals Bools
set_option linter.unusedVariables false

set_option maxHeartbeats 1000000 in
set_option maxRecDepth 100000 in
theorem fault_ok (n : Int) (A : Option Addr) (c : Nat) (l : List Bool) (w : World) (hl : l.length ≤ 4294967296) : Calls Tryd.prog 7 #[.int .i64 n, .slice A l.length c] w fun e w' => e = .returned (.int .i64 (condE n l)) ∧ w' = w := by
  obtain ⟨m, hm⟩ : ∃ m, m = l.length := ⟨_, rfl⟩
  obtain ⟨q, hq⟩ : ∃ q, q = condE n l := ⟨_, rfl⟩
  unfold condE at hq
  rw [← hm] at hq hl ⊢
  rw [show condE n l = q by rw [hq]; unfold condE; rw [hm]]
  clear hm
  by_cases h1 : n < 1
  · rw [if_neg (by omega)] at hq
    subst hq
    go_enter Tryd.func7, Tryd.ntmps7
    go_wp2_with fail
    go_ret
    exact ⟨rfl, rfl⟩
  · by_cases h2 : 6 < n
    · rw [if_neg (by omega)] at hq
      subst hq
      go_enter Tryd.func7, Tryd.ntmps7
      go_wp2_with fail
      go_ret
      exact ⟨rfl, rfl⟩
    · rw [if_pos (by omega)] at hq
      obtain rfl | rfl | rfl | rfl | rfl | rfl : n = 1 ∨ n = 2 ∨ n = 3 ∨ n = 4 ∨ n = 5 ∨ n = 6 := by omega
      all_goals (
        clear h1 h2
        simp only [show ((1 : Int).toNat) = 1 from rfl, show ((2 : Int).toNat) = 2 from rfl, show ((3 : Int).toNat) = 3 from rfl, show ((4 : Int).toNat) = 4 from rfl, show ((5 : Int).toNat) = 5 from rfl, show ((6 : Int).toNat) = 6 from rfl, Nat.reducePow] at hq
        split at hq
        · next h => (subst h; subst hq; go_enter Tryd.func7, Tryd.ntmps7; go_wp2_with fail; go_ret; exact ⟨rfl, rfl⟩)
        · next h => (subst hq; go_enter Tryd.func7, Tryd.ntmps7; go_wp2_with fail; go_ret; exact ⟨rfl, rfl⟩))
theorem so_val (t i : Nat) : (((t : Int) / 2 ^ i).tmod 2 == 1) = t.testBit i := by
  have e : (t : Int) / 2 ^ i = ((t / 2 ^ i : Nat) : Int) := by simp
  rw [e, Int.tmod_eq_emod_of_nonneg (Int.natCast_nonneg _), Nat.testBit_eq_decide_div_mod_eq]
  generalize t / 2 ^ i = a
  by_cases h : a % 2 = 1
  · rw [decide_eq_true h]
    have : ((a : Nat) : Int) % 2 = 1 := by omega
    rw [this]; rfl
  · rw [decide_eq_false h]
    have : ((a : Nat) : Int) % 2 = 0 := by omega
    rw [this]; rfl
set_option maxHeartbeats 1000000 in
set_option maxRecDepth 100000 in
theorem so_ok {t i : Nat} (ht : t < 64) (hi : i < 6) (w : World) : Calls Tryd.prog 21 #[.int .i64 t, .int .i64 i] w fun e w' => e = .returned (.bool (t.testBit i)) ∧ w' = w := by
  have hti : (t : Int) < 64 := by omega
  have hii : (i : Int) < 6 := by omega
  rw [← so_val t i]
  go_enter Tryd.func21, Tryd.ntmps21
  go_wp2_with fail
  go_ret
  exact ⟨rfl, rfl⟩

set_option maxHeartbeats 4000000 in
set_option maxRecDepth 100000 in
theorem pairof_ok {m i : Nat} (hi : i < m) (hm : m ≤ 6) {l : List Bool} (hl : l.length = 2 ^ m) (b off c : Nat) (w : World) (hc : Lie w b off l) :
    Calls Tryd.prog 10 #[.slice (some ⟨b, off, none⟩) l.length c, .int .i64 i] w fun e w' => e = .returned (.int .i64 (firstP l.length (fOf l) anyB i)) ∧ ∃ n, w' = w.drewN n := by
  have HC := Lib.hid hc
  have hl64 : l.length ≤ 64 := by rw [hl]; exact (pow_small (by omega) hm).2
  have HL := Lib.hid hl
  obtain ⟨V, HV⟩ : ∃ V, Hid (V = firstP l.length (fOf l) anyB i) := ⟨_, Lib.hid rfl⟩
  rw [← HV.out]
  have SH := Lib.hid (shl_bit i (by omega))
  have i6 : i < 6 := by omega
  have SO := Lib.hid (fun (t : Nat) (ht : t < 64) (W : World) => so_ok ht i6 W)
  have hii : (i : Int) < 6 := by omega
  obtain ⟨bt, hbt⟩ : ∃ bt : Nat, bt = 2 ^ i := ⟨_, rfl⟩
  have W1 : wrap64 ((2 : Int) ^ i) = (bt : Int) := by rw [SH.out.1, hbt]
  have hbt32 : bt ≤ 32 := by rw [hbt]; exact SH.out.2
  have BT := Lib.hid hbt
  clear hc hl hbt SH
  go_enter Tryd.func10, Tryd.ntmps10
  go_wp2_with fail
  go_loopw [5] (fun iv wr => ∃ t n : Nat, t ≤ l.length ∧ iv = .int .i64 t ∧ Hid (∀ u, u < t → pairT (fOf l) anyB i u = false) ∧ Hid (wr = w.drewN n)) (fun iv _ => l.length - (intOf iv).toNat)
  case atStart => exact ⟨0, 0, Nat.zero_le _, rfl, Lib.hid (fun u h => by omega), Lib.hid rfl⟩
  case round =>
    obtain ⟨t, n, ht, rfl, hb, hw⟩ := hrel
    have DW := Lib.hid (fun k => show wr.drewN k = w.drewN (n + k) by rw [hw.out, drew_two])
    by_cases hlt : t < l.length
    · have NX := Lib.hid (show pairT (fOf l) anyB i t = false → ∀ u, u < t + 1 → pairT (fOf l) anyB i u = false from fun hp u hu => by
        by_cases e : u = t
        · subst e; exact hp
        · exact hb.out u (by omega))
      have FD := Lib.hid (show pairT (fOf l) anyB i t = true → (t : Int) = V from fun hp => by rw [HV.out, firstP_some hlt hp hb.out])
      have S1 := Lib.hid (fun k => SO.out t (by omega) (wr.drewN k))
      have hti : (t : Int) < l.length := by omega
      have c1 : wr.cell? ⟨b, off + t, none⟩ = some (.bool (fOf l t)) := by rw [hw.out]; exact HC.out t hlt
      have hwo := Lib.hid hw.out
      clear hb hw
      cases hs : t.testBit i with
      | true =>
        have NY := Lib.hid (NX.out (by unfold pairT; rw [or_same hs]; simp))
        rw [hs] at S1
        clear NX FD hs
        go_wp2_with fail
        go_quiet ((go_at_call 21; exact Calls.quiet_of_same (S1.out _)))
        go_wp2_with fail
        go_roundw
        case rel => exact ⟨t + 1, _, by omega, by go_num, NY.out, Lib.hid (DW.out _)⟩
        case measure => simp [intOf]; omega
      | false =>
        have TO : t + bt < l.length := by rw [BT.out, HL.out]; rw [HL.out] at hlt; exact add_small hi hlt hs
        have PT := Lib.hid (show pairT (fOf l) anyB i t = (fOf l t != fOf l (t + bt)) by unfold pairT; rw [or_add hs, ← BT.out]; simp [anyB])
        have c2 : wr.cell? ⟨b, off + (t + bt), none⟩ = some (.bool (fOf l (t + bt))) := by rw [hwo.out]; exact HC.out _ TO
        rw [hs] at S1
        clear hs
        have AB : IntKind.i64.wrap ((t : Int) + (bt : Int)) = (t : Int) + (bt : Int) := IntWalk.i64_in _ (by omega)
        have AC : (((t : Int) + (bt : Int)).toNat) = t + bt := by omega
        have AD : (t : Int) + (bt : Int) < l.length := by omega
        have AE : (0 : Int) ≤ (t : Int) + (bt : Int) := by omega
        generalize pairT (fOf l) anyB i t = pt at *
        generalize fOf l t = v1 at *
        generalize fOf l (t + bt) = v2 at *
        cases v1 <;> cases v2
        case false.false =>
          have NY := Lib.hid (NX.out (by rw [PT.out]; rfl))
          clear PT NX FD
          go_wp2_with fail
          go_quiet ((go_at_call 21; exact Calls.quiet_of_same (S1.out _)))
          go_wp2_with fail
          go_roundw
          case rel => exact ⟨t + 1, _, by omega, by go_num, NY.out, Lib.hid (DW.out _)⟩
          case measure => simp [intOf]; omega
        case true.true =>
          have NY := Lib.hid (NX.out (by rw [PT.out]; rfl))
          clear PT NX FD
          go_wp2_with fail
          go_quiet ((go_at_call 21; exact Calls.quiet_of_same (S1.out _)))
          go_wp2_with fail
          go_roundw
          case rel => exact ⟨t + 1, _, by omega, by go_num, NY.out, Lib.hid (DW.out _)⟩
          case measure => simp [intOf]; omega
        all_goals (
          have FV := Lib.hid (FD.out (by rw [PT.out]; rfl))
          clear PT NX FD
          go_wp2_with fail
          go_quiet ((go_at_call 21; exact Calls.quiet_of_same (S1.out _)))
          go_wp2_with fail
          go_ret
          exact ⟨by rw [← FV.out]; rfl, _, DW.out _⟩)
    · have NV := Lib.hid (show V = -1 by rw [HV.out]; exact firstP_none fun u hu => hb.out u (by omega))
      clear hb
      go_wp2_with fail
      go_ret
      exact ⟨by rw [NV.out]; rfl, n, hw.out⟩

/-! CoversOf: the mathematics -/
/-- the tests ahead of place k have a pair for condition i -/
def metK (F : Nat → Bool) (ts : List Int) (i k : Nat) : Bool := (ts.take k).any fun x => !(x.toNat.testBit i) && (F x.toNat != F (x.toNat + 2 ^ i)) && ts.contains ((x.toNat + 2 ^ i : Nat) : Int)
theorem met_step (F : Nat → Bool) (ts : List Int) (i k : Nat) (h : k < ts.length) {t : Nat} (ht : ts.getD k 0 = t) : metK F ts i (k + 1) = (metK F ts i k || (!(t.testBit i) && (F t != F (t + 2 ^ i)) && ts.contains ((t + 2 ^ i : Nat) : Int))) := by
  have hx : ts[k] = (t : Int) := by rw [← ht]; simp [List.getD, h]
  unfold metK
  rw [List.take_succ_eq_append_getElem h, List.any_append, hx]
  simp
theorem met_all {m i : Nat} {l : List Bool} {ts : List Int} (hi : i < m) (hl : l.length = 2 ^ m) (hin : ∀ t ∈ ts, 0 ≤ t ∧ t < l.length) : (decide (firstP l.length (fOf l) anyB i < 0) || metK (fOf l) ts i ts.length) = !lackB m (fOf l) (hasL ts) i := by
  unfold lackB metK
  rw [List.take_length, hl]
  have hb := firstP_bound (2 ^ m) (fOf l) anyB i
  by_cases h1 : firstP (2 ^ m) (fOf l) anyB i = -1
  · rw [h1]; simp
  · rw [decide_eq_false (show ¬ firstP (2 ^ m) (fOf l) anyB i < 0 by omega), decide_eq_true h1, Bool.true_and, Bool.false_or]
    by_cases h2 : firstP (2 ^ m) (fOf l) (hasL ts) i = -1
    · rw [decide_eq_true h2, Bool.not_true, List.any_eq_false]
      intro x hx hp
      simp only [Bool.and_eq_true, Bool.not_eq_true', bne_iff_ne] at hp
      obtain ⟨⟨p1, p2⟩, p3⟩ := hp
      have hx2 := hin x hx
      refine absurd h2 (firstP_ne.2 ⟨x.toNat, by omega, ⟨p1, p2⟩, ?_, p3⟩)
      unfold hasL
      rw [Int.toNat_of_nonneg hx2.1, List.contains_iff_mem]
      exact hx
    · rw [decide_eq_false h2, Bool.not_false, List.any_eq_true]
      obtain ⟨t, ht, hp, q1, q2⟩ := firstP_ne.1 h2
      unfold hasL at q1
      rw [List.contains_iff_mem] at q1
      refine ⟨(t : Int), q1, ?_⟩
      rw [Int.toNat_natCast]
      simp only [Bool.and_eq_true, Bool.not_eq_true', bne_iff_ne]
      exact ⟨⟨hp.1, hp.2⟩, q2⟩
/-- both results are among tests that have the pairs -/
theorem both_ok {m : Nat} {l : List Bool} {ts : List Int} (hl : l.length = 2 ^ m) (hin : ∀ t ∈ ts, 0 ≤ t ∧ t < l.length) (hc : covB m (fOf l) (hasL ts) = true) (h1 : ∃ t, t < l.length ∧ fOf l t = true) (h2 : ∃ t, t < l.length ∧ fOf l t = false) :
    (∃ k, k < ts.length ∧ fOf l (ts.getD k 0).toNat = true) ∧ ∃ k, k < ts.length ∧ fOf l (ts.getD k 0).toNat = false := by
  have hT : ∀ t ∈ ts.map Int.toNat, t < 2 ^ m := fun t ht => by
    obtain ⟨x, hx, rfl⟩ := List.mem_map.1 ht
    have := hin x hx
    omega
  have hC := (covP_covers (F := fOf l) (H := hasL ts) (T := ts.map Int.toNat) (fun t _ => by
    unfold hasL
    rw [List.contains_iff_mem, List.mem_map]
    constructor
    · intro hm
      exact ⟨(t : Int), hm, Int.toNat_natCast t⟩
    · rintro ⟨x, hx, rfl⟩
      have := hin x hx
      rwa [Int.toNat_of_nonneg this.1]) hT).1 (covB_iff.1 hc)
  rw [hl] at h1 h2
  have hk : ∀ v, (∃ t ∈ ts.map Int.toNat, fOf l t = v) → ∃ k, k < ts.length ∧ fOf l (ts.getD k 0).toNat = v := fun v ⟨t, ht, hv⟩ => by
    obtain ⟨x, hx, rfl⟩ := List.mem_map.1 ht
    obtain ⟨k, hk, rfl⟩ := List.mem_iff_getElem.1 hx
    exact ⟨k, hk, by simpa [List.getD, hk] using hv⟩
  obtain ⟨q1, q2⟩ := hC.both ⟨h1, h2⟩
  exact ⟨hk true q1, hk false q2⟩
end Go.Proofs.YtdmoigompmeacaaDoor.Cnd
