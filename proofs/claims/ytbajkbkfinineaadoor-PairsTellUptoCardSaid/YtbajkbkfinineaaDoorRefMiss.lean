/- The document's own MissingOf (chapter 12). Conditions: the sizes. -/
import Derived.Test.YtbajkbkfinineaaDoorRefPair
import Derived.Test.YtbajkbkfinineaaDoorFourN
namespace Go.Proofs.YtbajkbkfinineaaDoor.Pair
open Go.RowKit Ints Lists Vals Arr
set_option linter.unusedVariables false

set_option maxHeartbeats 16000000 in
set_option maxRecDepth 100000 in
theorem missingof_any (levels : List Int) (rows : List (List Int)) (L R : Option Addr) (lc rc : Nat) (h0 : levE levels = 0) (hrow : ∀ r ∈ rows, r.length = levels.length) (hrn : rows.length ≤ 4294967296) (w : World) (hl : At w w.heap.size L levels) (hR : RowsAt w w.heap.size R rows) :
    Calls Tryd.prog 9 #[.slice L levels.length lc, .slice R rows.length rc] w fun e w' => ∃ (A : Option Addr) (c : Nat), e = .returned (.slice A (missL levels rows).length c) ∧ AtE 4 four w' (fun b => w.heap.size ≤ b ∧ b < w'.heap.size) A (missL levels rows) ∧ Below w.heap.size w w' := by
  obtain ⟨hn, hlv⟩ := lev_ok h0
  have LO := Lib.hid (And.intro hn hlv)
  have RO := Lib.hid hrow
  have HL := Lib.hid (fun (W : World) (hb : Below w.heap.size w W) => show At W w.heap.size L levels from hl.below hb)
  have HR := Lib.hid (fun (W : World) (hb : Below w.heap.size w W) => show RowsAt W w.heap.size R rows from RowsP.below hR hb)
  have n12 : (levels.length : Int) ≤ 12 := by omega
  have rni : (rows.length : Int) ≤ 4294967296 := by omega
  clear hl hR h0 hn hlv hrow hrn
  go_enter Tryd.func9, Tryd.ntmps9
  go_wp2_with fail
  go_loopw [5, 6] (fun v iv wr => ∃ (a : Nat) (A : Option Addr) (c : Nat) (z : List Quad), a ≤ levels.length ∧ iv = .int .i64 a ∧ v = .slice A z.length c ∧ Hid (z = pA levels rows a) ∧ Hid (OwnE 4 four 46 wr w.heap.size A c z) ∧ Hid (Below w.heap.size w wr)) (fun _ iv _ => levels.length - (intOf iv).toNat)
  case atStart => exact ⟨0, none, 0, [], Nat.zero_le _, rfl, rfl, Lib.hid (pA_zero _ _).symm, OwnE.none_, Below.refl _ _⟩
  case round =>
    obtain ⟨a, A, c, z, ha, rfl, rfl, hz, ho, hbb⟩ := hrel
    by_cases hla : a < levels.length
    · have LA := Lib.hid (lv_small LO.out.2 hla)
      have hai : (a : Int) < levels.length := by omega
      have Z2 := Lib.hid (show z = pX levels rows a 0 by rw [pX_zero]; exact hz.out)
      have lai : ((lv levels a : Nat) : Int) ≤ 5 := by have := LA.out; omega
      go_wp2_with fail
      go_loopw [5, 7] (fun v iv wr => ∃ (x : Nat) (A : Option Addr) (c : Nat) (z : List Quad), x ≤ lv levels a ∧ iv = .int .i64 x ∧ v = .slice A z.length c ∧ Hid (z = pX levels rows a x) ∧ Hid (OwnE 4 four 46 wr w.heap.size A c z) ∧ Hid (Below w.heap.size w wr)) (fun _ iv _ => lv levels a - (intOf iv).toNat)
      case atStart => exact ⟨0, A, c, z, Nat.zero_le _, rfl, rfl, Z2.out, ho.out, hbb.out⟩
      case round =>
        clear hz ho hbb Z2
        obtain ⟨x, A, c, z, hx, rfl, rfl, hz, ho, hbb⟩ := hrel
        obtain ⟨lb, lo, rfl, hlw, lcell⟩ := (HL.out wr hbb.out) (by omega)
        have ca := lcell a hla
        rw [← LA.out.2.2] at ca
        clear lcell
        by_cases hlx : x < lv levels a
        · have hxi : (x : Int) < lv levels a := by omega
          have Z3 := Lib.hid (show z = pB levels rows a x (a + 1) by rw [pB_zero]; exact hz.out)
          go_wp2_with fail
          go_loopw [5, 8] (fun v iv wr => ∃ (b : Nat) (A : Option Addr) (c : Nat) (z : List Quad), a + 1 ≤ b ∧ b ≤ levels.length ∧ iv = .int .i64 b ∧ v = .slice A z.length c ∧ Hid (z = pB levels rows a x b) ∧ Hid (OwnE 4 four 46 wr w.heap.size A c z) ∧ Hid (Below w.heap.size w wr)) (fun _ iv _ => levels.length - (intOf iv).toNat)
          case atStart => exact ⟨a + 1, A, c, z, Nat.le_refl _, hla, by simp, rfl, Z3.out, ho.out, hbb.out⟩
          case round =>
            clear hz ho hbb Z3 ca
            obtain ⟨b, A, c, z, hab, hb, rfl, rfl, hz, ho, hbb⟩ := hrel
            by_cases hlb : b < levels.length
            · have LB := Lib.hid (lv_small LO.out.2 hlb)
              have hbi : (b : Int) < levels.length := by omega
              have Z4 := Lib.hid (show z = pY levels rows a x b 0 by rw [pY_zero]; exact hz.out)
              have lbi : ((lv levels b : Nat) : Int) ≤ 5 := by have := LB.out; omega
              go_wp2_with fail
              go_loopw [5, 9] (fun v iv wr => ∃ (y : Nat) (A : Option Addr) (c : Nat) (z : List Quad), y ≤ lv levels b ∧ iv = .int .i64 y ∧ v = .slice A z.length c ∧ Hid (z = pY levels rows a x b y) ∧ Hid (OwnE 4 four 46 wr w.heap.size A c z) ∧ Hid (Below w.heap.size w wr)) (fun _ iv _ => lv levels b - (intOf iv).toNat)
              case atStart => exact ⟨0, A, c, z, Nat.zero_le _, rfl, rfl, Z4.out, ho.out, hbb.out⟩
              case round =>
                clear hz ho hbb Z4
                obtain ⟨y, A, c, z, hy, rfl, rfl, hz, ho, hbb⟩ := hrel
                obtain ⟨lb', lo', le', hlw', lcell⟩ := (HL.out wr hbb.out) (by omega)
                injection le' with le'
                injection le' with le1 le2
                subst le1
                subst le2
                have cb := lcell b hlb
                rw [← LB.out.2.2] at cb
                clear lcell
                by_cases hly : y < lv levels b
                · have hyi : (y : Int) < lv levels b := by omega
                  have KE := Lib.hid (hasK_end rows ⟨a, x, b, y⟩)
                  go_wp2_with fail
                  go_loopw [10, 11] (fun hv iv wq => ∃ i : Nat, i ≤ rows.length ∧ iv = .int .i64 i ∧ hv = .bool (hasK rows ⟨a, x, b, y⟩ i) ∧ wq = wr) (fun _ iv _ => rows.length - (intOf iv).toNat)
                  case atStart => exact ⟨0, Nat.zero_le _, rfl, rfl, rfl⟩
                  case round =>
                    obtain ⟨i, hi, rfl, rfl, rfl⟩ := hrel
                    by_cases hli : i < rows.length
                    · have KS := Lib.hid (hasK_step rows ⟨a, x, b, y⟩ i hli)
                      obtain ⟨rb, ro, rfl, _, rcell⟩ := (HR.out wr hbb.out) (by omega)
                      obtain ⟨D, d, r0, _, rD⟩ := rcell i hli
                      have RL := RO.out rows[i] (List.getElem_mem hli)
                      obtain ⟨db, dof, rfl, _, dcell⟩ := rD (by omega)
                      have da := dcell a (by omega)
                      have dbb := dcell b (by omega)
                      have MQ := Lib.hid (show metQ ⟨a, x, b, y⟩ rows[i] = (rows[i].getD a 0 == (x : Int) && rows[i].getD b 0 == (y : Int)) from rfl)
                      rw [MQ.out] at KS
                      rw [RL] at r0
                      clear MQ rcell dcell rD
                      generalize rows[i].getD a 0 = u at *
                      generalize rows[i].getD b 0 = v at *
                      generalize hasK rows ⟨a, x, b, y⟩ i = hk at *
                      have hii : (i : Int) < rows.length := by omega
                      have hal : (a : Int) < levels.length := hai
                      cases hk with
                      | true =>
                        have KT := Lib.hid (show hasK rows ⟨a, x, b, y⟩ (i + 1) = true by rw [KS.out]; rfl)
                        go_wp2_with fail
                        go_roundw
                        case rel => exact ⟨i + 1, by omega, by go_num, by rw [KT.out], trivial⟩
                        case measure => simp [intOf]; omega
                      | false =>
                        rw [Bool.false_or] at KS
                        by_cases hu : u = (x : Int)
                        · have hu1 : (u == (x : Int)) = true := by rw [beq_iff_eq]; exact hu
                          rw [hu1, Bool.true_and] at KS
                          by_cases hv : v = (y : Int)
                          · have hv1 : (v == (y : Int)) = true := by rw [beq_iff_eq]; exact hv
                            have KT := Lib.hid (show hasK rows ⟨a, x, b, y⟩ (i + 1) = true by rw [KS.out, hv1])
                            subst hu
                            subst hv
                            go_wp2_with fail
                            go_roundw
                            case rel => exact ⟨i + 1, by omega, by go_num, by rw [KT.out], trivial⟩
                            case measure => simp [intOf]; omega
                          · have hv1 : (v == (y : Int)) = false := by rw [beq_eq_false_iff_ne]; exact hv
                            have KT := Lib.hid (show hasK rows ⟨a, x, b, y⟩ (i + 1) = false by rw [KS.out, hv1])
                            subst hu
                            go_wp2_with fail
                            go_roundw
                            case rel => exact ⟨i + 1, by omega, by go_num, by rw [KT.out], trivial⟩
                            case measure => simp [intOf]; omega
                        · have hu1 : (u == (x : Int)) = false := by rw [beq_eq_false_iff_ne]; exact hu
                          have KT := Lib.hid (show hasK rows ⟨a, x, b, y⟩ (i + 1) = false by rw [KS.out, hu1]; rfl)
                          go_wp2_with fail
                          go_roundw
                          case rel => exact ⟨i + 1, by omega, by go_num, by rw [KT.out], trivial⟩
                          case measure => simp [intOf]; omega
                    · obtain rfl : i = rows.length := by omega
                      have PS := pY_step levels rows a x b y
                      rw [KE.out]
                      cases hq : hasQ rows ⟨a, x, b, y⟩ with
                      | true =>
                        rw [hq, if_pos rfl, List.append_nil] at PS
                        have Z5 := Lib.hid (show z = pY levels rows a x b (y + 1) by rw [PS]; exact hz.out)
                        clear hq PS
                        go_wp2_with fail
                        go_roundw
                        case rel => exact ⟨y + 1, A, c, z, by omega, by go_num, rfl, Z5.out, ho.out, hbb.out⟩
                        case measure => simp [intOf]; omega
                      | false =>
                        rw [hq, if_neg (by decide)] at PS
                        have Z5 := Lib.hid (show pY levels rows a x b (y + 1) = z ++ [⟨a, x, b, y⟩] by rw [PS, hz.out])
                        have ZL := Lib.hid (show z.length ≤ 4000 by rw [hz.out]; exact pY_le LO.out.1 LO.out.2 rows (by omega) (by omega) (by omega) (by omega))
                        have BN := Lib.hid (belf wr (.cells #[.int .i64 a, .int .i64 x, .int .i64 b, .int .i64 y] 46))
                        have ON := Lib.hid (ho.out.below BN.out)
                        have B4 := Lib.hid (hbb.out.trans (BN.out.mono hbb.out.size))
                        have FN := Lib.hid (four_new wr ⟨a, x, b, y⟩)
                        clear hq PS
                        go_wp2_with (
                          at_builtin
                          refine wpList_append_arr even_four (T := 31) (E := 46) Tryd.underlying31 four_info rfl rfl (.tmp 73) (.tmp 79) rfl w.heap.size c A z ON.out wr.heap.size 0 1 ⟨a, x, b, y⟩ FN.out rfl rfl (by have := ZL.out; omega) B4.out.size ?_
                          intro A5 c5 w5 z5 hz5 own5 g5 r5
                          have O5 := Lib.hid own5
                          have H5 := Lib.hid (show z5 = pY levels rows a x b (y + 1) by rw [hz5.out, Z5.out])
                          have B5 := Lib.hid (B4.out.grown g5 B4.out.size (fun g hg => (ON.out.ge g hg).1))
                          clear own5 g5 r5)
                        go_roundw
                        case rel => exact ⟨y + 1, A5, c5, z5, by omega, by go_num, rfl, H5.out, O5.out, B5.out⟩
                        case measure => simp [intOf]; omega
                · obtain rfl : y = lv levels b := by omega
                  have Z5 := Lib.hid (show z = pB levels rows a x (b + 1) by rw [hz.out, pY_end _ _ _ _ _ hab])
                  go_wp2_with fail
                  go_roundw
                  case rel => exact ⟨b + 1, A, c, z, by omega, by omega, by go_num, rfl, Z5.out, ho.out, hbb.out⟩
                  case measure => simp [intOf]; omega
            · obtain rfl : b = levels.length := by omega
              have Z5 := Lib.hid (show z = pX levels rows a (x + 1) by rw [hz.out, pB_end])
              go_wp2_with fail
              go_roundw
              case rel => exact ⟨x + 1, A, c, z, by omega, by go_num, rfl, Z5.out, ho.out, hbb.out⟩
              case measure => simp [intOf]; omega
        · obtain rfl : x = lv levels a := by omega
          have Z5 := Lib.hid (show z = pA levels rows (a + 1) by rw [hz.out, pX_end])
          go_wp2_with fail
          go_roundw
          case rel => exact ⟨a + 1, A, c, z, by omega, by go_num, rfl, Z5.out, ho.out, hbb.out⟩
          case measure => simp [intOf]; omega
    · obtain rfl : a = levels.length := by omega
      obtain rfl : z = missL levels rows := by rw [hz.out, pA_end]
      go_wp2_with fail
      go_ret
      exact ⟨A, c, rfl, ho.out.at_ even_four, hbb.out⟩
end Go.Proofs.YtbajkbkfinineaaDoor.Pair
