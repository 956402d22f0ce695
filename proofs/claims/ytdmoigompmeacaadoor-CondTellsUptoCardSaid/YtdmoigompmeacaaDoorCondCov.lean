/- The document's CoversOf, of right tests. Conditions: the sizes. -/
import Derived.Test.YtdmoigompmeacaaDoorCondRef
namespace Go.Proofs.YtdmoigompmeacaaDoor.Cnd
open Go.RowKit Ints Vals Bools Dd
set_option linter.unusedVariables false

theorem or_b (a b : Bool) (h : b = false) : (a || b) = a := by rw [h]; simp

set_option maxHeartbeats 8000000 in
set_option maxRecDepth 100000 in
theorem covof_ok {m : Nat} (hm : 1 ≤ m) (h6 : m ≤ 6) {l : List Bool} (hl : l.length = 2 ^ m) (b off c : Nat) (ts : List Int) (A2 : Option Addr) (c2 : Nat) (hin : ∀ t ∈ ts, 0 ≤ t ∧ t < l.length) (hts : ts.length ≤ 4294967296) (w : World) (hc : Lie w b off l) (hB : At w w.heap.size A2 ts) :
    Calls Tryd.prog 13 #[.int .i64 m, .slice (some ⟨b, off, none⟩) l.length c, .slice A2 ts.length c2] w fun e w' => e = .returned (.bool (covB m (fOf l) (hasL ts))) ∧ ∃ n, w' = w.drewN n := by
  obtain ⟨V, HV⟩ : ∃ V, Hid (V = covB m (fOf l) (hasL ts)) := ⟨_, Lib.hid rfl⟩
  rw [← HV.out]
  have hl64 : l.length ≤ 64 := by rw [hl]; exact (pow_small hm h6).2
  have PO := Lib.hid (fun (i : Nat) (hi : i < m) (n : Nat) => pairof_ok hi h6 hl b off c (w.drewN n) (hc.drewN n))
  have SO := Lib.hid (fun (t i : Nat) (ht : t < 64) (hi : i < m) (W : World) => so_ok ht (show i < 6 by omega) W)
  have IN := Lib.hid (fun (x : Int) (n : Nat) => in_any ts A2 c2 w.heap.size x (by simp only [maxLen]; omega) (w.drewN n) hB)
  have HC := Lib.hid hc
  have HB := Lib.hid hB
  have HI := Lib.hid (fun k (hk : k < ts.length) => show 0 ≤ ts.getD k 0 ∧ ts.getD k 0 < l.length by
    have := hin ts[k] (List.getElem_mem hk)
    rwa [List.getD_eq_getElem?_getD, List.getElem?_eq_getElem hk])
  have MA := Lib.hid (fun i (hi : i < m) => met_all hi hl hin)
  have BO := Lib.hid (both_ok hl hin)
  have SM := Lib.hid (fun i t (hi : i < m) (ht : t < l.length) (h : t.testBit i = false) => show t + 2 ^ i < l.length by rw [hl] at ht ⊢; exact add_small hi ht h)
  have tsi : (ts.length : Int) ≤ 4294967296 := by omega
  have mi : (m : Int) ≤ 6 := by omega
  clear hl hc hB hin
  go_enter Tryd.func13, Tryd.ntmps13
  go_wp2_with fail
  go_loopw [7] (fun iv wr => ∃ i : Nat, i ≤ m ∧ iv = .int .i64 i ∧ Hid (∀ u, u < i → lackB m (fOf l) (hasL ts) u = false) ∧ Hid (∃ n, wr = w.drewN n)) (fun iv _ => m - (intOf iv).toNat)
  case atStart => exact ⟨0, Nat.zero_le _, rfl, Lib.hid (fun u h => by omega), Lib.hid ⟨0, rfl⟩⟩
  case round =>
    obtain ⟨i, hi, rfl, hb, hw⟩ := hrel
    by_cases hlt : i < m
    · have hii : (i : Int) < m := by omega
      have NX := Lib.hid (show lackB m (fOf l) (hasL ts) i = false → ∀ u, u < i + 1 → lackB m (fOf l) (hasL ts) u = false from fun hp u hu => by
        by_cases e : u = i
        · subst e; exact hp
        · exact hb.out u (by omega))
      have NO := Lib.hid (show lackB m (fOf l) (hasL ts) i = true → V = false from fun hp => by rw [HV.out]; exact covB_lack hlt hp)
      have C1 := Lib.hid (by obtain ⟨n, e⟩ := hw.out; have := PO.out i hlt n; rw [← e] at this; exact this)
      have DN := Lib.hid (fun k => show ∃ n, wr.drewN k = w.drewN n by obtain ⟨n, e⟩ := hw.out; exact ⟨n + k, by rw [e, drew_two]⟩)
      have ME := Lib.hid (MA.out i hlt)
      have SH := Lib.hid (shl_bit i (by omega))
      clear hb hw
      generalize lackB m (fOf l) (hasL ts) i = lk at *
      generalize firstP l.length (fOf l) anyB i = p at *
      go_wp2_with fail
      ((with_reducible refine C1.out.mono ?_))
      rintro e w2 ⟨rfl, n2, rfl⟩
      have D2 := Lib.hid (DN.out n2)
      clear C1 DN
      go_wp2_with fail
      generalize wr.drewN n2 = w2 at *
      go_loopw [8, 9] (fun mv kv wq => ∃ (k : Nat) (bb : Bool), k ≤ ts.length ∧ kv = .int .i64 k ∧ mv = .bool bb ∧ Hid (bb = (decide (p < 0) || metK (fOf l) ts i k)) ∧ Hid (∃ n, wq = w.drewN n)) (fun _ kv _ => ts.length - (intOf kv).toNat)
      case atStart => exact ⟨0, _, Nat.zero_le _, rfl, rfl, Lib.hid (by simp [metK]), D2.out⟩
      case round =>
        clear D2
        obtain ⟨k, bb, hk, rfl, rfl, hbb, hw⟩ := hrel
        have DN := Lib.hid (fun k => show ∃ n, wr.drewN k = w.drewN n by obtain ⟨n, e⟩ := hw.out; exact ⟨n + k, by rw [e, drew_two]⟩)
        by_cases hkt : k < ts.length
        · have hki : (k : Int) < ts.length := by omega
          obtain ⟨b2, o2, hA2, _, hc2⟩ := HB.out (by omega)
          have c1 : wr.cell? ⟨b2, o2 + k, none⟩ = some (.int .i64 (ts.getD k 0)) := by obtain ⟨n, e⟩ := hw.out; rw [e]; exact hc2 k hkt
          obtain ⟨t, htx⟩ : ∃ t : Nat, ts.getD k 0 = t := ⟨(ts.getD k 0).toNat, by have := (HI.out k hkt).1; omega⟩
          have htl : t < l.length := by have := (HI.out k hkt).2; omega
          have MS := Lib.hid (met_step (fOf l) ts i k hkt htx)
          have S1 := SO.out t i (by omega) hlt wr
          have IX := Lib.hid (fun n => show Calls Tryd.prog 25 #[.slice A2 ts.length c2, .int .i64 ((t + 2 ^ i : Nat) : Int)] (wr.drewN n) fun e w' => e = .returned (.bool (ts.contains ((t + 2 ^ i : Nat) : Int))) ∧ w' = wr.drewN n by
            obtain ⟨q, e⟩ := DN.out n
            rw [e]
            exact IN.out _ q)
          have TL := Lib.hid (fun h => SM.out i t hlt htl h)
          have HW := Lib.hid hw.out
          rw [htx] at c1
          subst hA2
          clear hc2 htx hw
          have hti : (t : Int) < l.length := by omega
          cases hs : t.testBit i with
          | true =>
            rw [hs] at S1 MS
            have S1 := Lib.hid S1
            have ST := Lib.hid (show bb = (decide (p < 0) || metK (fOf l) ts i (k + 1)) by rw [MS.out, hbb.out]; simp)
            clear hs IX TL MS hbb
            go_wp2_with fail
            ((with_reducible refine S1.out.mono ?_))
            rintro e w5 ⟨rfl, rfl⟩
            clear S1
            go_wp2_with fail
            go_roundw
            case rel => exact ⟨k + 1, bb, by omega, by go_num, rfl, ST.out, HW.out⟩
            case measure => simp [intOf]; omega
          | false =>
            have TO := TL.out hs
            rw [hs] at S1 MS
            have S1 := Lib.hid S1
            obtain ⟨bt, hbt⟩ : ∃ bt : Nat, bt = 2 ^ i := ⟨_, rfl⟩
            have W1 : wrap64 ((2 : Int) ^ i) = (bt : Int) := by rw [SH.out.1, hbt]
            have hbt32 : bt ≤ 32 := by rw [hbt]; exact SH.out.2
            rw [← hbt] at MS IX TO
            have d1 : wr.cell? ⟨b, off + t, none⟩ = some (.bool (fOf l t)) := by obtain ⟨n, e⟩ := HW.out; rw [e]; exact HC.out t htl
            have d2 : wr.cell? ⟨b, off + (t + bt), none⟩ = some (.bool (fOf l (t + bt))) := by obtain ⟨n, e⟩ := HW.out; rw [e]; exact HC.out _ TO
            clear hs TL hbt
            have AB : IntKind.i64.wrap ((t : Int) + (bt : Int)) = (t : Int) + (bt : Int) := IntWalk.i64_in _ (by omega)
            have AC : (((t : Int) + (bt : Int)).toNat) = t + bt := by omega
            have AD : (t : Int) + (bt : Int) < l.length := by omega
            have AE : (0 : Int) ≤ (t : Int) + (bt : Int) := by omega
            rw [show ((t + bt : Nat) : Int) = (t : Int) + (bt : Int) by omega] at IX MS
            generalize ts.contains ((t : Int) + (bt : Int)) = r at *
            generalize fOf l t = v1 at *
            generalize fOf l (t + bt) = v2 at *
            have ST := Lib.hid (show (bb || ((v1 != v2) && r)) = (decide (p < 0) || metK (fOf l) ts i (k + 1)) by rw [MS.out, hbb.out]; simp [Bool.or_assoc])
            clear MS hbb
            cases bb
            case true =>
              rw [Bool.true_or] at ST
              clear IX
              go_wp2_with fail
              ((with_reducible refine S1.out.mono ?_))
              rintro e w5 ⟨rfl, rfl⟩
              clear S1
              go_wp2_with fail
              go_quiet (fail)
              go_wp2_with fail
              go_roundw
              case rel => exact ⟨k + 1, true, by omega, by go_num, rfl, ST.out, DN.out _⟩
              case measure => simp [intOf]; omega
            case false =>
              rw [Bool.false_or] at ST
              cases v1 <;> cases v2
              case false.false =>
                have ST := Lib.hid (show false = _ from ST.out)
                clear IX
                go_wp2_with fail
                ((with_reducible refine S1.out.mono ?_))
                rintro e w5 ⟨rfl, rfl⟩
                clear S1
                go_wp2_with fail
                go_quiet (fail)
                go_wp2_with fail
                go_roundw
                case rel => exact ⟨k + 1, false, by omega, by go_num, rfl, ST.out, DN.out _⟩
                case measure => simp [intOf]; omega
              case true.true =>
                have ST := Lib.hid (show false = _ from ST.out)
                clear IX
                go_wp2_with fail
                ((with_reducible refine S1.out.mono ?_))
                rintro e w5 ⟨rfl, rfl⟩
                clear S1
                go_wp2_with fail
                go_quiet (fail)
                go_wp2_with fail
                go_roundw
                case rel => exact ⟨k + 1, false, by omega, by go_num, rfl, ST.out, DN.out _⟩
                case measure => simp [intOf]; omega
              all_goals (
                have ST := Lib.hid (show r = _ from ST.out)
                go_wp2_with fail
                ((with_reducible refine S1.out.mono ?_))
                rintro e w5 ⟨rfl, rfl⟩
                clear S1
                go_wp2_with fail
                go_quiet ((go_at_call 25; exact Calls.quiet_of_same (IX.out _)))
                go_wp2_with fail
                go_roundw
                case rel => exact ⟨k + 1, r, by omega, by go_num, rfl, ST.out, DN.out _⟩
                case measure => simp [intOf]; omega)
        · obtain rfl : k = ts.length := by omega
          have BE := Lib.hid (show bb = !lk by rw [hbb.out]; exact ME.out)
          have HW := Lib.hid hw.out
          clear hbb hw ME
          cases lk with
          | true =>
            obtain rfl := BE.out
            have VF := Lib.hid (NO.out rfl)
            clear NX NO BE
            go_wp2_with fail
            go_ret
            exact ⟨by rw [VF.out]; rfl, HW.out⟩
          | false =>
            obtain rfl := BE.out
            have NY := Lib.hid (NX.out rfl)
            clear NX NO BE
            go_wp2_with fail
            go_roundw
            case rel => exact ⟨i + 1, by omega, by go_num, NY.out, HW.out⟩
            case measure => simp [intOf]; omega
    · have HV2 := Lib.hid (show V = true by rw [HV.out]; exact covB_full fun u hu => hb.out u (by omega))
      have HW := Lib.hid hw.out
      have BT := Lib.hid (BO.out (by rw [← HV.out]; exact HV2.out))
      clear hb hw PO SO IN MA BO SM
      go_wp2_with fail
      go_loopw [12, 13, 14] (fun yv nv tv wq => ∃ (t : Nat) (y n : Bool), t ≤ l.length ∧ tv = .int .i64 t ∧ yv = .bool y ∧ nv = .bool n ∧ Hid (y = true → ∃ u, u < l.length ∧ fOf l u = true) ∧ Hid (n = true → ∃ u, u < l.length ∧ fOf l u = false) ∧ Hid (∃ n, wq = w.drewN n)) (fun _ _ tv _ => l.length - (intOf tv).toNat)
      case atStart => exact ⟨0, false, false, Nat.zero_le _, rfl, rfl, rfl, Lib.hid (fun h => by cases h), Lib.hid (fun h => by cases h), HW.out⟩
      case round =>
        clear HW
        obtain ⟨t, y, n, ht, rfl, rfl, rfl, hy, hn, hw⟩ := hrel
        by_cases htl : t < l.length
        · have hti : (t : Int) < l.length := by omega
          have d1 : wr.cell? ⟨b, off + t, none⟩ = some (.bool (fOf l t)) := by obtain ⟨n, e⟩ := hw.out; rw [e]; exact HC.out t htl
          have Y2 := Lib.hid (show (y || fOf l t) = true → ∃ u, u < l.length ∧ fOf l u = true from fun h => by
            cases hyy : y with
            | true => exact hy.out hyy
            | false => rw [hyy, Bool.false_or] at h; exact ⟨t, htl, h⟩)
          have N2 := Lib.hid (show (n || !fOf l t) = true → ∃ u, u < l.length ∧ fOf l u = false from fun h => by
            cases hnn : n with
            | true => exact hn.out hnn
            | false => rw [hnn, Bool.false_or] at h; exact ⟨t, htl, by simpa using h⟩)
          clear hy hn
          generalize fOf l t = v at *
          cases y <;> cases n
          all_goals (
            go_wp2_with fail
            go_roundw
            case rel => exact ⟨t + 1, _, _, by omega, by go_num, rfl, rfl, Y2.out, N2.out, hw.out⟩
            case measure => simp [intOf]; omega)
        · have HW := Lib.hid hw.out
          clear hw
          have BQ := Lib.hid (show (y && n) = true → (∃ k, k < ts.length ∧ fOf l (ts.getD k 0).toNat = true) ∧ ∃ k, k < ts.length ∧ fOf l (ts.getD k 0).toNat = false from fun h => by
            rw [Bool.and_eq_true] at h
            exact BT.out (hy.out h.1) (hn.out h.2))
          clear hy hn BT
          go_wp2_with fail
          go_loopw [15, 16, 17] (fun yv nv kv wq => ∃ (k : Nat) (y2 n2 : Bool), k ≤ ts.length ∧ kv = .int .i64 k ∧ yv = .bool y2 ∧ nv = .bool n2 ∧ Hid (∀ j, j < k → fOf l (ts.getD j 0).toNat = true → y2 = true) ∧ Hid (∀ j, j < k → fOf l (ts.getD j 0).toNat = false → n2 = true) ∧ Hid (∃ n, wq = w.drewN n)) (fun _ _ kv _ => ts.length - (intOf kv).toNat)
          case atStart => exact ⟨0, false, false, Nat.zero_le _, rfl, rfl, rfl, Lib.hid (fun j h => by omega), Lib.hid (fun j h => by omega), HW.out⟩
          case round =>
            clear HW
            obtain ⟨k, y2, n2, hk, rfl, rfl, rfl, hy, hn, hw⟩ := hrel
            by_cases hkt : k < ts.length
            · have hki : (k : Int) < ts.length := by omega
              obtain ⟨b2, o2, hA2, _, hc2⟩ := HB.out (by omega)
              have c1 : wr.cell? ⟨b2, o2 + k, none⟩ = some (.int .i64 (ts.getD k 0)) := by obtain ⟨n, e⟩ := hw.out; rw [e]; exact hc2 k hkt
              obtain ⟨t, htx⟩ : ∃ t : Nat, ts.getD k 0 = t := ⟨(ts.getD k 0).toNat, by have := (HI.out k hkt).1; omega⟩
              have htl2 : t < l.length := by have := (HI.out k hkt).2; omega
              have hti : (t : Int) < l.length := by omega
              have d1 : wr.cell? ⟨b, off + t, none⟩ = some (.bool (fOf l t)) := by obtain ⟨n, e⟩ := hw.out; rw [e]; exact HC.out t htl2
              have Y2 := Lib.hid (show ∀ j, j < k + 1 → fOf l (ts.getD j 0).toNat = true → (y2 || fOf l t) = true from fun j hj h => by
                by_cases e : j = k
                · subst e; rw [htx, Int.toNat_natCast] at h; rw [h, Bool.or_true]
                · rw [hy.out j (by omega) h, Bool.true_or])
              have N2 := Lib.hid (show ∀ j, j < k + 1 → fOf l (ts.getD j 0).toNat = false → (n2 || !fOf l t) = true from fun j hj h => by
                by_cases e : j = k
                · subst e; rw [htx, Int.toNat_natCast] at h; rw [h]; simp
                · rw [hn.out j (by omega) h, Bool.true_or])
              rw [htx] at c1
              subst hA2
              clear hc2 htx hy hn
              generalize fOf l t = v at *
              cases y2 <;> cases n2
              all_goals (
                go_wp2_with fail
                go_roundw
                case rel => exact ⟨k + 1, _, _, by omega, by go_num, rfl, rfl, Y2.out, N2.out, hw.out⟩
                case measure => simp [intOf]; omega)
            · obtain rfl : k = ts.length := by omega
              have HQ := Lib.hid (show (y && n) = true → y2 = true ∧ n2 = true from fun h => by
                obtain ⟨⟨k1, q1, q2⟩, ⟨k2, q3, q4⟩⟩ := BQ.out h
                exact ⟨hy.out k1 q1 q2, hn.out k2 q3 q4⟩)
              have HW := Lib.hid hw.out
              have EQ := Lib.hid (show (!(y && n) || (y2 && n2)) = true by
                cases hyn : (y && n) with
                | false => rfl
                | true => obtain ⟨e1, e2⟩ := HQ.out hyn; rw [e1, e2]; rfl)
              clear hy hn hw BQ HQ
              cases y <;> cases n <;> cases y2 <;> cases n2
              all_goals (first
                | (exact absurd EQ.out (by decide))
                | (go_wp2_with fail
                   go_ret
                   exact ⟨by rw [HV2.out]; rfl, HW.out⟩))
end Go.Proofs.YtdmoigompmeacaaDoor.Cnd
