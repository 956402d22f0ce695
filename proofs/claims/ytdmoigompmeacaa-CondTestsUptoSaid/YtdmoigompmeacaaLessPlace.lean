/- A list without a place (package assayerref2). Conditions: the sizes. -/
import Derived.Test.YtdmoigompmeacaaCutN
import Derived.Test.YtdmoigompmeacaaGrowS
import Derived.Test.YtdmoigompmeacaaList
import Derived.Deep.RegionHeld3
namespace Go.Proofs.Ytdmoigompmeacaa.Dd
open Go.RowKit Lists Ints Gens
set_option linter.unusedVariables false

set_option maxHeartbeats 4000000 in
set_option maxRecDepth 100000 in
theorem place_ok {L : Option Addr} {l : List Int} {lc N : Nat} (w : World) (hat : At w N L l) (hN : N ≤ w.heap.size) (hln : l.length ≤ 4294967296) (hcap : l.length ≤ lc) (i : Nat) (hi : i < l.length) :
    Calls Try.prog 9 #[.slice L l.length lc, .int .i64 i] w fun e w' => ∃ (A : Option Addr) (c : Nat), e = .returned (.slice A (l.eraseIdx i).length c) ∧ Own w' w.heap.size A c (l.eraseIdx i) ∧ Below w.heap.size w w' := by
  obtain ⟨lb, lo, rfl, hlb, hlc⟩ := hat (by omega)
  have HA := Lib.hid (fun (W : World) (hb : Below w.heap.size w W) => show At W N (some ⟨lb, lo, none⟩) l from hat.below (hb.mono hN))
  have HT := Lib.hid (fun (W : World) (hb : Below w.heap.size w W) => tail_at (i := i) (HA.out W hb) hcap)
  have HS := fun W => slice_from lb lo l.length lc i hi hcap W
  have TK := Lib.hid (show (l.take i).length = i by rw [List.length_take]; omega)
  have TD := Lib.hid (show (l.drop (i + 1)).length = l.length - (i + 1) by rw [List.length_drop])
  have LE := Lib.hid (List.eraseIdx_eq_take_drop_succ l i)
  clear hat hlc
  generalize tailAt lb lo lc i = TA at *
  have s0 : IntKind.i64.wrap ((i : Int) + 1) = (i : Int) + 1 := IntWalk.i64_in _ (by omega)
  have s1 : (0 : Int) ≤ (i : Int) + 1 := by omega
  have s3 : (0 : Int) ≤ (i : Int) := by omega
  have s4 : (i : Int) ≤ (lc : Int) := by omega
  have s5 : (i : Int) + 1 ≤ (l.length : Int) := by omega
  have s6 : (l.length : Int) ≤ (lc : Int) := by omega
  go_enter Try.func9, Try.ntmps9
  go_wp2_with fail
  go_region_held3 (fun w' => True) (trivial) (first
    | (refine step_append_ints (by rfl) (.tmp 5) (.tmp 8) (by rfl) w.heap.size 0 (some ⟨w.heap.size, 0, none⟩) [] (oe_new w) N (some ⟨lb, lo, none⟩) lc (l.take i) (rs_take (HA.out _ (bel_new _ _)) i) (by rfl) (by rw [TK.out]; rfl) ?_ ?_ ?_
       · rw [TK.out]; simp; omega
       · show w.heap.size ≤ (World.alloc _ _).heap.size; simp
       intro A5 c5 w5 z5 hz5 own5 g5 r5
       have BX5 := Lib.hid (Below.grown (bel_new w _) g5 (Nat.le_of_lt (lt_new w _)) (by intro k hk; simp [rowOf] at hk; omega))
       have O5 := Lib.hid own5
       have Z5 := BX5.out.size
       have L5 := Lib.hid (show z5.length ≤ 4294967296 by rw [hz5.out]; simp; omega)
       clear own5 g5 r5)
    | (refine step_append_ints (by rfl) (.tmp 9) (.tmp 13) (by rfl) w.heap.size c5 A5 z5 O5.out N TA (lc - (i + 1)) (l.drop (i + 1)) (HT.out _ BX5.out) (by rfl) (by rw [TD.out]; rfl) ?_ ?_ ?_
       · rw [TD.out]; have := L5.out; omega
       · exact Z5
       intro A6 c6 w6 z6 hz6 own6 g6 r6
       have BX6 := Lib.hid (BX5.out.grown g6 Z5 O5.out.ge)
       have O6 := Lib.hid own6
       have Z6 := BX6.out.size
       have HE6 := Lib.hid (show z6 = l.eraseIdx i by rw [hz6.out, hz5.out, LE.out]; rfl)
       clear own6 g6 r6))
  obtain rfl := HE6.out
  clear HS s0 s1 s4 s5 s6
  go_wp2_with fail
  go_ret
  exact ⟨A6, c6, rfl, O6.out, BX6.out⟩
end Go.Proofs.Ytdmoigompmeacaa.Dd
