/- The program's allPairs. Conditions: the sizes. -/
import Derived.Test.YtbajkbkfinineaaDoorFourN
namespace Go.Proofs.YtbajkbkfinineaaDoor.Pair
open Go.RowKit Ints Lists Vals Arr
set_option linter.unusedVariables false

set_option maxHeartbeats 16000000 in
set_option maxRecDepth 100000 in
theorem all_pairs (levels : List Int) (L : Option Addr) (lc : Nat) (h0 : levE levels = 0) (w : World) (hl : At w w.heap.size L levels) :
    Calls Tryd.prog 24 #[.slice L levels.length lc] w fun e w' => ∃ (A : Option Addr) (c : Nat), e = .returned (.slice A (missL levels []).length c) ∧ OwnE 4 four 46 w' w.heap.size A c (missL levels []) ∧ Below w.heap.size w w' := by
  obtain ⟨hn, hlv⟩ := lev_ok h0
  have LO := Lib.hid (And.intro hn hlv)
  have HL := Lib.hid (fun (W : World) (hb : Below w.heap.size w W) => show At W w.heap.size L levels from hl.below hb)
  have n12 : (levels.length : Int) ≤ 12 := by omega
  clear hl h0 hn hlv
  go_enter Tryd.func24, Tryd.ntmps24
  go_wp2_with fail
  go_loopw [3, 10] (fun v iv wr => ∃ (a : Nat) (A : Option Addr) (c : Nat) (z : List Quad), a ≤ levels.length ∧ iv = .int .i64 a ∧ v = .slice A z.length c ∧ Hid (z = pA levels [] a) ∧ Hid (OwnE 4 four 46 wr w.heap.size A c z) ∧ Hid (Below w.heap.size w wr)) (fun _ iv _ => levels.length - (intOf iv).toNat)
  case atStart => exact ⟨0, none, 0, [], Nat.zero_le _, rfl, rfl, Lib.hid (pA_zero _ _).symm, OwnE.none_, Below.refl _ _⟩
  case round =>
    obtain ⟨a, A, c, z, ha, rfl, rfl, hz, ho, hbb⟩ := hrel
    by_cases hla : a < levels.length
    · have LA := Lib.hid (lv_small LO.out.2 hla)
      have hai : (a : Int) < levels.length := by omega
      have Z2 := Lib.hid (show z = pX levels [] a 0 by rw [pX_zero]; exact hz.out)
      have lai : ((lv levels a : Nat) : Int) ≤ 5 := by have := LA.out; omega
      obtain ⟨lb, lo, rfl, hlw, lcell⟩ := (HL.out wr hbb.out) (by omega)
      have ca := lcell a hla
      rw [← LA.out.2.2] at ca
      clear lcell
      go_wp2_with fail
      go_loopw [3, 17] (fun v iv wr => ∃ (x : Nat) (A : Option Addr) (c : Nat) (z : List Quad), x ≤ lv levels a ∧ iv = .int .i64 x ∧ v = .slice A z.length c ∧ Hid (z = pX levels [] a x) ∧ Hid (OwnE 4 four 46 wr w.heap.size A c z) ∧ Hid (Below w.heap.size w wr)) (fun _ iv _ => lv levels a - (intOf iv).toNat)
      case atStart => exact ⟨0, A, c, z, Nat.zero_le _, rfl, rfl, Z2.out, ho.out, hbb.out⟩
      case round =>
        clear hz ho hbb Z2 ca
        obtain ⟨x, A, c, z, hx, rfl, rfl, hz, ho, hbb⟩ := hrel
        by_cases hlx : x < lv levels a
        · have hxi : (x : Int) < lv levels a := by omega
          have Z3 := Lib.hid (show z = pB levels [] a x (a + 1) by rw [pB_zero]; exact hz.out)
          go_wp2_with fail
          go_loopw [3, 6] (fun v iv wr => ∃ (b : Nat) (A : Option Addr) (c : Nat) (z : List Quad), a + 1 ≤ b ∧ b ≤ levels.length ∧ iv = .int .i64 b ∧ v = .slice A z.length c ∧ Hid (z = pB levels [] a x b) ∧ Hid (OwnE 4 four 46 wr w.heap.size A c z) ∧ Hid (Below w.heap.size w wr)) (fun _ iv _ => levels.length - (intOf iv).toNat)
          case atStart => exact ⟨a + 1, A, c, z, Nat.le_refl _, hla, by simp, rfl, Z3.out, ho.out, hbb.out⟩
          case round =>
            clear hz ho hbb Z3
            obtain ⟨b, A, c, z, hab, hb, rfl, rfl, hz, ho, hbb⟩ := hrel
            by_cases hlb : b < levels.length
            · have LB := Lib.hid (lv_small LO.out.2 hlb)
              have hbi : (b : Int) < levels.length := by omega
              have Z4 := Lib.hid (show z = pY levels [] a x b 0 by rw [pY_zero]; exact hz.out)
              have lbi : ((lv levels b : Nat) : Int) ≤ 5 := by have := LB.out; omega
              obtain ⟨lb', lo', le', hlw', lcell⟩ := (HL.out wr hbb.out) (by omega)
              injection le' with le'
              injection le' with le1 le2
              subst le1
              subst le2
              have cb := lcell b hlb
              rw [← LB.out.2.2] at cb
              clear lcell
              go_wp2_with fail
              go_loopw [3, 32] (fun v iv wr => ∃ (y : Nat) (A : Option Addr) (c : Nat) (z : List Quad), y ≤ lv levels b ∧ iv = .int .i64 y ∧ v = .slice A z.length c ∧ Hid (z = pY levels [] a x b y) ∧ Hid (OwnE 4 four 46 wr w.heap.size A c z) ∧ Hid (Below w.heap.size w wr)) (fun _ iv _ => lv levels b - (intOf iv).toNat)
              case atStart => exact ⟨0, A, c, z, Nat.zero_le _, rfl, rfl, Z4.out, ho.out, hbb.out⟩
              case round =>
                clear hz ho hbb Z4 cb
                obtain ⟨y, A, c, z, hy, rfl, rfl, hz, ho, hbb⟩ := hrel
                by_cases hly : y < lv levels b
                · have hyi : (y : Int) < lv levels b := by omega
                  have PS := pY_step levels [] a x b y
                  rw [show hasQ [] (⟨a, x, b, y⟩ : Quad) = false from rfl, if_neg (by decide)] at PS
                  have Z5 := Lib.hid (show pY levels [] a x b (y + 1) = z ++ [⟨a, x, b, y⟩] by rw [PS, hz.out])
                  have ZL := Lib.hid (show z.length ≤ 4000 by rw [hz.out]; exact pY_le LO.out.1 LO.out.2 [] (by omega) (by omega) (by omega) (by omega))
                  have BN := Lib.hid (belf wr (.cells #[.int .i64 a, .int .i64 x, .int .i64 b, .int .i64 y] 46))
                  have ON := Lib.hid (ho.out.below BN.out)
                  have B4 := Lib.hid (hbb.out.trans (BN.out.mono hbb.out.size))
                  have FN := Lib.hid (four_new wr ⟨a, x, b, y⟩)
                  clear PS
                  go_wp2_with (
                    at_builtin
                    refine wpList_append_arr even_four (T := 31) (E := 46) Tryd.underlying31 four_info rfl rfl (.tmp 35) (.tmp 41) rfl w.heap.size c A z ON.out wr.heap.size 0 1 ⟨a, x, b, y⟩ FN.out rfl rfl (by have := ZL.out; omega) B4.out.size ?_
                    intro A5 c5 w5 z5 hz5 own5 g5 r5
                    have O5 := Lib.hid own5
                    have H5 := Lib.hid (show z5 = pY levels [] a x b (y + 1) by rw [hz5.out, Z5.out])
                    have B5 := Lib.hid (B4.out.grown g5 B4.out.size (fun g hg => (ON.out.ge g hg).1))
                    clear own5 g5 r5)
                  go_roundw
                  case rel => exact ⟨y + 1, A5, c5, z5, by omega, by go_num, rfl, H5.out, O5.out, B5.out⟩
                  case measure => simp [intOf]; omega
                · obtain rfl : y = lv levels b := by omega
                  have Z5 := Lib.hid (show z = pB levels [] a x (b + 1) by rw [hz.out, pY_end _ _ _ _ _ hab])
                  go_wp2_with fail
                  go_roundw
                  case rel => exact ⟨b + 1, A, c, z, by omega, by omega, by go_num, rfl, Z5.out, ho.out, hbb.out⟩
                  case measure => simp [intOf]; omega
            · obtain rfl : b = levels.length := by omega
              have Z5 := Lib.hid (show z = pX levels [] a (x + 1) by rw [hz.out, pB_end])
              go_wp2_with fail
              go_roundw
              case rel => exact ⟨x + 1, A, c, z, by omega, by go_num, rfl, Z5.out, ho.out, hbb.out⟩
              case measure => simp [intOf]; omega
        · obtain rfl : x = lv levels a := by omega
          have Z5 := Lib.hid (show z = pA levels [] (a + 1) by rw [hz.out, pX_end])
          go_wp2_with fail
          go_roundw
          case rel => exact ⟨a + 1, A, c, z, by omega, by go_num, rfl, Z5.out, ho.out, hbb.out⟩
          case measure => simp [intOf]; omega
    · obtain rfl : a = levels.length := by omega
      obtain rfl : z = missL levels [] := by rw [hz.out, pA_end]
      go_wp2_with fail
      go_ret
      exact ⟨A, c, rfl, ho.out, hbb.out⟩
end Go.Proofs.YtbajkbkfinineaaDoor.Pair
