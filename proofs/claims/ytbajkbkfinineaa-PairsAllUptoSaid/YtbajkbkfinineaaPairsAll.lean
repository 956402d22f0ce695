/- PairsAll: the walk. Conditions: the sizes. -/
import Derived.Test.YtbajkbkfinineaaPairsMore
import Derived.Test.YtbajkbkfinineaaCutRow
import Derived.Deep.RegionHeld3
namespace Go.Proofs.Ytbajkbkfinineaa.PairsAllLaw
open Go.RowKit Ints Lists Vals Arr Pair Gens PairsMoreLaw
set_option linter.unusedVariables false

set_option maxRecDepth 100000 in
theorem slice_fromR (b off m lc i : Nat) (hi : i < m) (hm : m ≤ lc) (w : World) :
    (Instr.slice 23 (.slice (some ⟨b, off, none⟩) m lc) (some (.int .i64 ((i : Int) + 1))) none none).run Try.prog w = .ok (.slice (tailAt b off lc i) (m - (i + 1)) (lc - (i + 1))) w := by
  obtain ⟨i0, h1, h2, h3, h4⟩ := info_parts rows_info
  have e1 : ((0 : Int) ≤ (i : Int) + 1 ∧ (i : Int) + 1 ≤ (m : Int)) := by omega
  have e2 : ((i : Int) + 1).toNat = i + 1 := by omega
  unfold tailAt
  by_cases hc : lc = i + 1 <;> simp [Instr.slice, Instr.sliceBounds, Instr.sliceBound, run_underlying Try.underlying23, sizeOf, typeInfo, h1, h3, asIntOf, e1, e2, hc, Addr.add, go_sem]
theorem rows_ahead {w : World} {So Si : Nat → Prop} {A : Option Addr} {zs : List (List Int)} (h : RowsP w So Si A zs) (k : Nat) : RowsP w So Si A (zs.take k) := fun hp => by
  rw [List.length_take] at hp
  obtain ⟨b, off, e, hb, hc⟩ := h (by omega)
  refine ⟨b, off, e, hb, fun j hj => ?_⟩
  rw [List.length_take] at hj
  have := hc j (by omega)
  rw [List.getElem_take]
  exact this
theorem rows_behind {w : World} {So Si : Nat → Prop} {b off lc i : Nat} {zs : List (List Int)} (h : RowsP w So Si (some ⟨b, off, none⟩) zs) (hc : zs.length ≤ lc) : RowsP w So Si (tailAt b off lc i) (zs.drop (i + 1)) := fun hp => by
  rw [List.length_drop] at hp
  obtain ⟨b', off', e, hb, hcell⟩ := h (by omega)
  injection e with e
  injection e with e1 e2
  subst e1; subst e2
  unfold tailAt
  rw [if_neg (by omega)]
  refine ⟨b, off + (i + 1), rfl, hb, fun j hj => ?_⟩
  rw [List.length_drop] at hj
  have := hcell (i + 1 + j) (by omega)
  rw [List.getElem_drop, show off + (i + 1) + j = off + (i + 1 + j) by omega]
  exact this
/-- rows that were there, for an append onto a row that is new -/
theorem rows_for {w W : World} {A A' : Option Addr} {zs : List (List Int)} (h : RowsAt w w.heap.size A zs) (hb : Below w.heap.size w W) (hA : ∀ g, rowOf A' = some g → w.heap.size ≤ g) : RowsP W (fun _ => True) (fun b => 0 ≤ b ∧ b < W.heap.size ∧ rowOf A' ≠ some b) A zs :=
  RowsP.keep h (fun b hS => ⟨trivial, fun o => hb.cell (p := ⟨b, o, none⟩) hS⟩) (fun b hS => ⟨⟨Nat.zero_le _, Nat.lt_of_lt_of_le hS hb.size, fun e => by have := hA b e; have hS : b < w.heap.size := hS; omega⟩, fun o => hb.cell (p := ⟨b, o, none⟩) hS⟩)
theorem allB_le {levels : List Int} (h : ∀ x ∈ levels, 1 ≤ x ∧ x ≤ 5) (a : Nat) : ∀ b, allB levels a b ≤ 25 * b
  | 0 => Nat.le_refl _
  | b + 1 => by
    have := allB_le h a b
    have h1 := lv_le h a
    have h2 := lv_le h b
    have := Nat.mul_le_mul h1 h2
    show allB levels a b + lv levels a * lv levels b ≤ _
    omega
theorem allA_le {levels : List Int} (h : ∀ x ∈ levels, 1 ≤ x ∧ x ≤ 5) : ∀ a, a ≤ 12 → allA levels a ≤ 300 * a
  | 0, _ => Nat.le_refl _
  | a + 1, ha => by
    have := allA_le h a (by omega)
    have := allB_le h a a
    show allA levels a + allB levels a a ≤ _
    omega
theorem row_some {b g : Nat} (h : rowOf (some ⟨b, 0, none⟩ : Option Addr) = some g) : b = g := by simpa [rowOf] using h
theorem oer_new (w : World) : OwnRows (w.alloc (.cells #[] 22)).drew 0 (some ⟨w.heap.size, 0, none⟩) 0 [] := rows_empty (heap_new2 w _)

set_option maxHeartbeats 8000000 in
set_option maxRecDepth 100000 in
theorem walk (levels : List Int) (L : Option Addr) (lc : Nat) (hbulk : levels.length ≤ 1048576) (w : World) (hl : At w w.heap.size L levels) (hcap : levels.length ≤ lc) :
    Calls Try.prog 3 #[.slice L levels.length lc] w fun e w' => e = .returned (.bool true) ∧ Below w.heap.size w w' := by
  have RF := Lib.hid (fun (W : World) => rows_fact W)
  have R1 := rows_prog w hl (by omega) hcap
  unfold RwPost at R1
  have R1 := Lib.hid R1
  have MS := Lib.hid (fun (W : World) (hb : Below w.heap.size w W) (rs : List (List Int)) (B : Option Addr) (bc : Nat) (hB : RowsAt W W.heap.size B rs) (h1 : rs.length ≤ 4294967296) (h2 : rs.length ≤ bc) (h3 : ∀ r ∈ rs, r.length ≤ 4294967296) => show Calls Try.prog 7 #[.slice L levels.length lc, .slice B rs.length bc] W fun e w' => ∃ (A : Option Addr) (c : Nat), e = .returned (.tuple #[.slice A (misV levels rs).length c, errOf (misE levels rs)]) ∧ Below W.heap.size W w' from (missing_prog W ((hl.below hb).more hb.size) (by omega) hcap hB h1 h2 h3).mono fun _ _ ⟨A, c, h1, _, h3⟩ => ⟨A, c, h1, h3⟩)
  have HL := Lib.hid (fun (W : World) (hb : Below w.heap.size w W) => show At W w.heap.size L levels from hl.below hb)
  have OK := Lib.hid (rows_ok (levels := levels))
  have NO := Lib.hid (rows_no (levels := levels))
  have LV := Lib.hid (lev_ok (levels := levels))
  clear hl hcap hbulk
  go_enter Try.func3, Try.ntmps3
  go_wp2_with fail
  ((with_reducible refine R1.out.mono ?_))
  rintro e w1 ⟨A1, c1, rfl, ho1, hb1⟩
  have B1 := Lib.hid hb1
  have C2 := Lib.hid (RF.out w1)
  have O1 := Lib.hid ho1
  clear hb1 ho1 R1 RF
  generalize rowsV levels = z at *
  go_wp2_with fail
  ((with_reducible refine C2.out.mono ?_))
  rintro e w2 ⟨A2, c2, rfl, hb2⟩
  have B2 := Lib.hid (below_trans B1.out hb2)
  have O2 := Lib.hid (O1.out.below hb2)
  clear hb2 C2 B1 O1
  by_cases h0 : levE levels = 0
  · have ZO := Lib.hid (OK.out h0)
    have LO := Lib.hid (LV.out h0)
    have GE := Lib.hid (fun (rs : List (List Int)) (hrs : ∀ r ∈ rs, r ∈ z) => show misE levels rs = 0 by
      unfold misE
      rw [if_pos h0, if_pos]
      rw [List.all_eq_true]
      intro r hr
      obtain ⟨h1, h2⟩ := ZO.out.right r (hrs r hr)
      unfold rowB
      rw [Bool.and_eq_true, decide_eq_true_eq, List.all_eq_true]
      exact ⟨h1, fun i hi => decide_eq_true (h2 i (by simpa using hi))⟩)
    have ZL := Lib.hid (show z.length ≤ 4294967296 ∧ ∀ r ∈ z, r.length ≤ 4294967296 by
      have h1 := rows_most ZO.out
      have h2 := allA_le LO.out.2 levels.length LO.out.1
      have h3 := LO.out.1
      refine ⟨by omega, fun r hr => ?_⟩
      have := (ZO.out.right r hr).1
      omega)
    have M0 := MS.out w2 B2.out z A1 c1 O2.out.at_ ZL.out.1 O2.out.cap_ ZL.out.2
    rw [GE.out z (fun r hr => hr), show misV levels z = [] by unfold misV; rw [if_pos (GE.out z (fun r hr => hr))]; exact ZO.out.all] at M0
    have M0 := Lib.hid M0
    rw [h0, errOf_ok]
    clear h0 OK NO LV
    go_wp2_with fail
    ((with_reducible refine M0.out.mono ?_))
    rintro e w3 ⟨A3, c3, rfl, hb3⟩
    have B3 := Lib.hid (below_trans B2.out hb3)
    have O3 := Lib.hid (O2.out.below hb3)
    rw [errOf_ok]
    clear hb3 M0 B2 O2
    go_wp2_with fail
    go_loopw [9] (fun iv wr => ∃ k : Nat, k ≤ z.length ∧ iv = .int .i64 k ∧ Hid (Below w3.heap.size w3 wr)) (fun iv _ => z.length - (intOf iv).toNat)
    case atStart => exact ⟨0, Nat.zero_le _, rfl, Below.refl _ _⟩
    case round =>
      obtain ⟨k, hk, rfl, hbb⟩ := hrel
      have BW := Lib.hid (below_trans B3.out hbb.out)
      by_cases hlt : k < z.length
      · have OR := Lib.hid (O3.out.below hbb.out)
        obtain ⟨zb, zo, rfl, hzb, _⟩ := OR.out.at_ (by omega)
        have hcap := OR.out.cap_
        have HS := fun W => slice_fromR zb zo z.length c1 k hlt hcap W
        have TK := Lib.hid (show (z.take k).length = k by rw [List.length_take]; omega)
        have TD := Lib.hid (show (z.drop (k + 1)).length = z.length - (k + 1) by rw [List.length_drop])
        have HT := Lib.hid (fun (W : World) (A' : Option Addr) (hb : Below wr.heap.size wr W) (hA : ∀ g, rowOf A' = some g → wr.heap.size ≤ g) => rows_ahead (rows_for OR.out.at_ hb hA) k)
        have HD := Lib.hid (fun (W : World) (A' : Option Addr) (hb : Below wr.heap.size wr W) (hA : ∀ g, rowOf A' = some g → wr.heap.size ≤ g) => rows_behind (i := k) (rows_for OR.out.at_ hb hA) hcap)
        have LE := Lib.hid (List.eraseIdx_eq_take_drop_succ z k)
        have ME := Lib.hid (GE.out (z.eraseIdx k) (fun r hr => List.mem_of_mem_eraseIdx hr))
        have MV := Lib.hid (show 0 < (misV levels (z.eraseIdx k)).length by
          unfold misV
          rw [if_pos ME.out]
          exact List.length_pos_iff.2 (ZO.out.least k hlt))
        generalize tailAt zb zo c1 k = TA at *
        have s0 : IntKind.i64.wrap ((k : Int) + 1) = (k : Int) + 1 := IntWalk.i64_in _ (by have := ZL.out.1; omega)
        have s1 : (0 : Int) ≤ (k : Int) + 1 := by omega
        have s3 : (0 : Int) ≤ (k : Int) := by omega
        have s4 : (k : Int) ≤ (c1 : Int) := by omega
        have s5 : (k : Int) + 1 ≤ (z.length : Int) := by omega
        have s6 : (z.length : Int) ≤ (c1 : Int) := by omega
        have N0 := Lib.hid (fun g (hg : rowOf (some ⟨wr.heap.size, 0, none⟩ : Option Addr) = some g) => Nat.le_of_eq (row_some hg))
        go_wp2_with fail
        go_region_held3 (fun w' => True) (trivial) (first
          | (refine step_append_rows (by rfl) (.tmp 59) (.tmp 62) (by rfl) 0 0 (some ⟨wr.heap.size, 0, none⟩) [] (oer_new wr) (some ⟨zb, zo, none⟩) c1 (z.take k) (HT.out _ _ (bel_new _ _) N0.out) (by rfl) (by rw [TK.out]; rfl) ?_ ?_ ?_
             · rw [TK.out]; have := ZL.out.1; simp; omega
             · exact Nat.zero_le _
             intro A5 c5 w5 z5 hz5 own5 g5 r5
             have BX5 := Lib.hid (Below.grown (bel_new wr _) g5 (Nat.le_of_lt (lt_new wr _)) N0.out)
             have O5 := Lib.hid own5
             have N5 := Lib.hid (show ∀ g, rowOf A5 = some g → wr.heap.size ≤ g from fun g hg => by
               rcases r5 with h | h
               · rw [hg] at h; exact N0.out g h.symm
               · rw [hg] at h; injection h with h; have := lt_new wr (.cells #[] 22); omega)
             have L5 := Lib.hid (show z5.length ≤ 4294967296 by rw [hz5.out]; have := ZL.out.1; simp; omega)
             clear own5 g5 r5)
          | (refine step_append_rows (by rfl) (.tmp 63) (.tmp 67) (by rfl) 0 c5 A5 z5 O5.out TA (c1 - (k + 1)) (z.drop (k + 1)) (HD.out _ _ BX5.out N5.out) (by rfl) (by rw [TD.out]; rfl) ?_ ?_ ?_
             · rw [TD.out]; have := L5.out; have := ZL.out.1; omega
             · exact Nat.zero_le _
             intro A6 c6 w6 z6 hz6 own6 g6 r6
             have BX6 := Lib.hid (BX5.out.grown g6 BX5.out.size N5.out)
             have O6 := Lib.hid own6
             have HE6 := Lib.hid (show z6 = z.eraseIdx k by rw [hz6.out, hz5.out, LE.out]; rfl)
             have C6 := Lib.hid (show Calls Try.prog 7 #[.slice L levels.length lc, .slice A6 z6.length c6] w6 fun e w' => ∃ (A : Option Addr) (c : Nat), e = .returned (.tuple #[.slice A (misV levels (z.eraseIdx k)).length c, .nilIface]) ∧ Below w6.heap.size w6 w' by
               have := MS.out w6 (below_trans BW.out BX6.out) z6 A6 c6 O6.out.at_ (by rw [HE6.out, List.length_eraseIdx]; have := ZL.out.1; split <;> omega) O6.out.cap_ (by rw [HE6.out]; exact fun r hr => ZL.out.2 r (List.mem_of_mem_eraseIdx hr))
               rw [HE6.out] at this ⊢
               rw [ME.out, errOf_ok] at this
               exact this)
             clear own6 g6 r6)
          | (with_reducible refine C6.out.mono ?_
             rintro e w7 ⟨A7, c7, rfl, hb7⟩
             have BX7 := Lib.hid (below_trans BX6.out hb7)
             clear hb7))
        have mv := MV.out
        clear MV ME LE HT HD TK TD HS N0 s0 s1 s3 s4 s5 s6
        generalize (misV levels (z.eraseIdx k)).length = nm at *
        have hki : (k : Int) < z.length := by omega
        have zi : (z.length : Int) ≤ 4294967296 := by have := ZL.out.1; omega
        have nz : ((nm : Int) == 0) = false := by rw [beq_eq_false_iff_ne]; omega
        have BY := Lib.hid (hbb.out.trans (BX7.out.mono hbb.out.size))
        go_wp2_with fail
        go_roundw
        case rel => exact ⟨k + 1, by omega, by go_num, BY.out⟩
        case measure => simp [intOf]; omega
      · have zi : (z.length : Int) ≤ 4294967296 := by have := ZL.out.1; omega
        have n12 : (levels.length : Int) ≤ 12 := by have := LO.out.1; omega
        clear hbb
        go_wp2_with fail
        go_loopw [12, 13, 14] (fun mv sv iv wq => ∃ (a d : Nat) (mo : Int), a ≤ levels.length ∧ iv = .int .i64 a ∧ sv = .int .i64 (allA levels a) ∧ mv = .int .i64 mo ∧ 0 ≤ mo ∧ mo ≤ z.length ∧ wq = wr.drewN d) (fun _ _ iv _ => levels.length - (intOf iv).toNat)
        case atStart => exact ⟨0, 0, 0, Nat.zero_le _, rfl, rfl, rfl, by omega, by omega, rfl⟩
        case round =>
          obtain ⟨a, d, mo, ha, rfl, rfl, rfl, hm0, hm1, rfl⟩ := hrel
          by_cases hlt2 : a < levels.length
          · have hai : (a : Int) < levels.length := by omega
            have AS := Lib.hid (show allA levels (a + 1) = allA levels a + allB levels a a from rfl)
            have AB := Lib.hid (fun b => show allB levels a (b + 1) = allB levels a b + lv levels a * lv levels b from rfl)
            have A3 := Lib.hid (allA_le LO.out.2 a (by have := LO.out.1; omega))
            have LA := lv_small LO.out.2 hlt2
            go_wp2_with fail
            go_loopw [12, 13, 15] (fun mv sv iv wq => ∃ (b d : Nat) (mo : Int), b ≤ a ∧ iv = .int .i64 b ∧ sv = .int .i64 ((allA levels a : Int) + (allB levels a b : Int)) ∧ mv = .int .i64 mo ∧ 0 ≤ mo ∧ mo ≤ z.length ∧ wq = wr.drewN d) (fun _ _ iv _ => a - (intOf iv).toNat)
            case atStart => exact ⟨0, d, mo, Nat.zero_le _, rfl, by show _ = Value.int .i64 ((allA levels a : Int) + ((0 : Nat) : Int)); simp, rfl, hm0, hm1, rfl⟩
            case round =>
              obtain ⟨b, d, mo, hb, rfl, rfl, rfl, hm0, hm1, rfl⟩ := hrel
              by_cases hlb : b < a
              · have LB := lv_small LO.out.2 (show b < levels.length by omega)
                obtain ⟨lb, lo, rfl, hlw, lcell⟩ := (HL.out wr BW.out) (by omega)
                have ca := lcell a hlt2
                have cb := lcell b (by omega)
                have PL := rows_least ZO.out hlb hlt2
                have B4 := allB_le LO.out.2 a b
                have A4 := A3.out
                have a12 := LO.out.1
                have EA := LA.2.2
                have EB := LB.2.2
                clear lcell
                generalize levels.getD a 0 = la at *
                generalize levels.getD b 0 = lbv at *
                have hp1 : la * lbv ≤ 25 ∧ 0 ≤ la * lbv ∧ la * lbv ≤ z.length := by
                  have h1 : la * lbv = ((lv levels b * lv levels a : Nat) : Int) := by rw [Int.natCast_mul, EA, EB, Int.mul_comm]
                  have h2 := Nat.mul_le_mul LB.2.1 LA.2.1
                  omega
                have hs : (allA levels a : Int) + (allB levels a b : Int) ≤ 4000 := by omega
                have v1 : IntKind.i64.wrap (la * lbv) = la * lbv := IntWalk.i64_in _ (by omega)
                have v2 : IntKind.i64.wrap ((allA levels a : Int) + (allB levels a b : Int) + la * lbv) = (allA levels a : Int) + (allB levels a b : Int) + la * lbv := IntWalk.i64_in _ (by omega)
                have ES := Lib.hid (show (allA levels a : Int) + (allB levels a (b + 1) : Int) = (allA levels a : Int) + (allB levels a b : Int) + la * lbv by
                  rw [AB.out b, Int.natCast_add, Int.natCast_mul, EA, EB]; omega)
                have HP := Lib.hid hp1
                clear EA EB LB PL B4 A4 a12
                have hai2 : (a : Int) < levels.length := by omega
                have hbi2 : (b : Int) < levels.length := by omega
                have hbi3 : (b : Int) < a := by omega
                go_wp2_with fail
                go_region
                obtain ⟨mo2, hmo⟩ : ∃ mo2, mo2 = if mo < la * lbv then la * lbv else mo := ⟨_, rfl⟩
                have hmb : 0 ≤ mo2 ∧ mo2 ≤ z.length := by
                  rw [hmo]
                  have := HP.out
                  split <;> omega
                rw [← hmo]
                clear hmo
                go_wp2_with fail
                go_quiet (fail)
                go_wp2_with fail
                go_roundw
                case rel => exact ⟨b + 1, _, mo2, by omega, by go_num, by rw [ES.out], rfl, hmb.1, hmb.2, rfl⟩
                case measure => simp [intOf]; omega
              · obtain rfl : b = a := by omega
                have b12 := LO.out.1
                go_wp2_with fail
                go_roundw
                case rel => exact ⟨b + 1, d, mo, by omega, by go_num, by rw [AS.out]; simp, rfl, hm0, hm1, rfl⟩
                case measure => simp [intOf]; omega
          · obtain rfl : a = levels.length := by omega
            have RM := rows_most ZO.out
            have AL := allA_le LO.out.2 levels.length LO.out.1
            have h12 := LO.out.1
            have r1 : (z.length : Int) ≤ allA levels levels.length := by omega
            go_wp2_with fail
            go_ret
            exact ⟨ret_b (by simp), below_trans BW.out (below_drewN wr d)⟩
  · have hz := NO.out h0
    rw [errOf_no h0]
    subst hz
    clear OK NO LV
    generalize levE levels = q at *
    go_wp2_with fail
    go_ret
    exact ⟨ret_b (by simp), B2.out⟩
end Go.Proofs.Ytbajkbkfinineaa.PairsAllLaw
