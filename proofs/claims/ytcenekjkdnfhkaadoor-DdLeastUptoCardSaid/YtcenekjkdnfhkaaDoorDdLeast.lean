/- DdLeast: the walk. Conditions: the sizes; the library's variable that errors.As reads. -/
import Derived.Test.YtcenekjkdnfhkaaDoorDdFails
import Derived.Test.YtcenekjkdnfhkaaDoorLessPlace
import Derived.Test.YtcenekjkdnfhkaaDoorPieced
import Derived.Test.YtcenekjkdnfhkaaDoorErrOk
namespace Go.Proofs.YtcenekjkdnfhkaaDoor.DdLeastLaw
open Go.RowKit Rng Ints Lists Vals Dd Owns
set_option linter.unusedVariables false

theorem two_ok (w : World) (A : Option Addr) (c : Nat) (l : List Int) (hl : At w w.heap.size A l) (hm : l.length ≤ maxLen) : Calls Tryd.prog 7 #[.slice A l.length c] w fun e w' => e = .returned (.bool (l.contains 2)) ∧ w' = w := by
  have IN := Lib.hid (in_any l A c w.heap.size 2 hm w hl)
  clear hl hm
  go_enter Tryd.func7, Tryd.ntmps7
  go_wp2_with fail
  ((with_reducible refine IN.out.mono ?_))
  rintro e w1 ⟨rfl, rfl⟩
  go_wp2_with fail
  go_ret
  exact ⟨ret_b (by simp), rfl⟩

set_option maxHeartbeats 4000000 in
set_option maxRecDepth 100000 in
theorem walk (l : List Int) (L : Option Addr) (lc : Nat) (how : Int) (need : List Int) (N : Option Addr) (nc : Nat) (limit : Int) (hbulk : l.length + need.length ≤ 1048576) (w : World) (hl : At w w.heap.size L l) (hcap : l.length ≤ lc) (wh : (Lit.int .i64 how).wf = true) (hn : At w w.heap.size N need) (hnc : need.length ≤ nc) (wm : (Lit.int .i64 limit).wf = true) (hh : Told.Handle w) :
    Calls Tryd.prog 3 #[.slice L l.length lc, .int .i64 how, .slice N need.length nc, .int .i64 limit] w fun e w' => e = .returned (.bool true) ∧ Below w.heap.size w w' := by
  have FO := Lib.hid (fault_ok how limit N need nc w hn)
  have FA := Lib.hid (fun (W : World) (A : Option Addr) (c : Nat) (m : List Int) (hF : FtB w.heap.size how N need nc limit W) (hA : At W W.heap.size A m) (hm : m.length ≤ 4294967296) => fault1_any w.heap.size how limit N A need m nc c hm (by omega) W hF hA)
  have FW := Lib.hid (fun (W : World) (hs : w.heap.size + 1 + 1 < W.heap.size) => fault_fail w.heap.size how limit N need nc W.heap.size (by omega) hs)
  have HL := Lib.hid (fun (W : World) (hb : Below w.heap.size w W) => show At W W.heap.size L l from (hl.below hb).more hb.size)
  have TT := Lib.hid (fun (W : World) => two_told 7 (fun args w => rfl) two_ok W)
  have ER := Lib.hid (fun (f : Int) (W : World) (hb : Below w.heap.size w W) => err_ok f W (hh.below hb))
  have LN := Lib.hid (show l.length ≤ 4294967296 ∧ l.length ≤ maxLen ∧ l.length ≤ 1048576 by simp only [maxLen]; omega)
  have CP := Lib.hid hcap
  clear hl hcap hn hnc hh hbulk wh wm
  generalize hP : faultP how need limit = P at *
  have EF := Lib.hid (minE_full (P := P) (l := l))
  have EN := Lib.hid (minE_none (P := P) (l := l))
  have EI := Lib.hid (minE_is (P := P) (l := l))
  have MO := Lib.hid (min_ok (P := P) (l := l))
  have MN := Lib.hid (min_no (P := P) (l := l))
  go_enter Tryd.func3, Tryd.ntmps3
  go_wp2_with fail
  ((with_reducible refine FO.out.mono ?_))
  rintro e w1 ⟨rfl, hF, hs1, hb1⟩
  have M1 := min_prog w1 (FW.out w1 hs1) hF (HL.out w1 hb1) CP.out LN.out.1
  unfold MnPost at M1
  have M1 := Lib.hid M1
  have F1 := Lib.hid hF
  have B1 := Lib.hid hb1
  have S1 := Lib.hid hs1
  clear hF hb1 hs1 FO FW
  go_wp2_with fail
  ((with_reducible refine M1.out.mono ?_))
  rintro e w2 ⟨A2, c2, rfl, ho2, hb2⟩
  have O2 := Lib.hid ho2
  have F2 := Lib.hid (F1.out.below S1.out hb2)
  have S2 := Lib.hid (Nat.lt_of_lt_of_le S1.out hb2.size)
  have B2 := Lib.hid (below_trans B1.out hb2)
  clear ho2 hb2 M1 F1
  generalize minV P l = z at *
  generalize minE P l = q at *
  have T2 := Lib.hid (TT.out w2)
  clear TT
  go_wp2_with fail
  ((with_reducible refine T2.out.mono ?_))
  rintro e w3 ⟨g, c3, rfl, hg, hb3⟩
  have O3 := Lib.hid (O2.out.below hb3)
  have F3 := Lib.hid (F2.out.below S2.out hb3)
  have S3 := Lib.hid (Nat.lt_of_lt_of_le S2.out hb3.size)
  have B3 := Lib.hid (below_trans B2.out hb3)
  clear hb3 T2 O2 F2 S2 B2
  by_cases h12 : 12 < l.length
  · have hq := EF.out h12
    subst hq
    have hz := MN.out (by decide)
    subst hz
    have E4 := Lib.hid (ER.out 4 w3 B3.out)
    clear EF EN EI MO MN
    go_wp2_with fail
    ((with_reducible refine E4.out.mono ?_))
    rintro e w4 ⟨rfl, hb4⟩
    have B4 := Lib.hid (below_trans B3.out hb4)
    clear hb4
    go_wp2_with fail
    go_ret
    exact ⟨ret_b (by simp), B4.out⟩
  · have L12 : ¬ (12 : Int) < l.length := by omega
    have C3 := FA.out w3 L lc l F3.out (HL.out w3 B3.out) LN.out.1
    cases hPl : P l with
    | false =>
      have hq := EN.out h12 hPl
      subst hq
      have hz := MN.out (by decide)
      subst hz
      rw [hPl] at C3
      have C3 := Lib.hid C3
      have E4 := Lib.hid (fun (W : World) (hb : Below w.heap.size w W) => ER.out 2 W hb)
      clear EF EN EI MO MN
      go_wp2_with fail
      ((with_reducible refine C3.out.mono ?_))
      rintro e w4 ⟨rfl, rfl⟩
      go_wp2_with fail
      ((with_reducible refine (E4.out w4 B3.out).mono ?_))
      rintro e w5 ⟨rfl, hb5⟩
      have B5 := Lib.hid (below_trans B3.out hb5)
      clear hb5
      go_wp2_with fail
      go_ret
      exact ⟨ret_b (by simp), B5.out⟩
    | true =>
      have hq := EI.out h12 hPl
      subst hq
      have MZ := Lib.hid (MO.out rfl)
      have ZL := Lib.hid (show z.length ≤ 4294967296 ∧ z.length ≤ maxLen ∧ (z.length : Int) ≤ 1048576 by have := MZ.out.sub.length_le; simp only [maxLen]; omega)
      rw [hPl] at C3
      have C3 := Lib.hid C3
      have D3 := Lib.hid (show Calls Tryd.prog 16 (#[.slice A2 z.length c2] ++ fcap w.heap.size) w3 fun e w' => e = .returned (.bool true) ∧ w' = w3 by
        have := FA.out w3 A2 c2 z F3.out O3.out.at_ ZL.out.1
        rw [MZ.out.ok] at this
        exact this)
      have P3 := Lib.hid (pieced_below z l A2 L c2 lc w3.heap.size ZL.out.2.1 LN.out.2.1 w3 O3.out.at_ (HL.out w3 B3.out) MZ.out.sub)
      rw [errOf_ok]
      clear EF EN EI MO MN
      go_wp2_with fail
      ((with_reducible refine C3.out.mono ?_))
      rintro e w4 ⟨rfl, rfl⟩
      go_wp2_with fail
      ((with_reducible refine D3.out.mono ?_))
      rintro e w5 ⟨rfl, rfl⟩
      go_wp2_with fail
      ((with_reducible refine P3.out.mono ?_))
      rintro e w6 ⟨rfl, hb6⟩
      have B6 := Lib.hid (below_trans B3.out hb6)
      have O6 := Lib.hid (O3.out.below hb6)
      have F6 := Lib.hid (F3.out.below S3.out hb6)
      have S6 := Lib.hid (Nat.lt_of_lt_of_le S3.out hb6.size)
      clear hb6 C3 D3 P3 O3 F3 S3 B3
      go_wp2_with fail
      go_loopw [16] (fun i wr => ∃ k : Nat, k ≤ z.length ∧ i = .int .i64 k ∧ Hid (Below w6.heap.size w6 wr)) (fun i _ => z.length - (intOf i).toNat)
      case atStart => exact ⟨0, Nat.zero_le _, rfl, Below.refl _ _⟩
      case round =>
        obtain ⟨k, hk, rfl, hbb⟩ := hrel
        have B7 := Lib.hid (below_trans B6.out hbb.out)
        by_cases hlt : k < z.length
        · have O7 := Lib.hid (O6.out.below hbb.out)
          have F7 := Lib.hid (F6.out.below S6.out hbb.out)
          have S7 := Lib.hid (Nat.lt_of_lt_of_le S6.out hbb.out.size)
          have PC := Lib.hid (place_ok wr O7.out.at_ (Nat.le_refl _) ZL.out.1 O7.out.cap_ k hlt)
          have LK := Lib.hid (MZ.out.least k hlt)
          have LE := Lib.hid (show (z.eraseIdx k).length ≤ 4294967296 by have := ZL.out.1; rw [List.length_eraseIdx]; split <;> omega)
          have h1' : (k : Int) < z.length := by omega
          have zb := ZL.out.2.2
          go_wp2_with fail
          ((with_reducible refine PC.out.mono ?_))
          rintro e w8 ⟨A8, c8, rfl, ho8, hb8⟩
          have B8 := Lib.hid (below_trans hbb.out hb8)
          have C8 := FA.out w8 A8 c8 _ (F7.out.below S7.out hb8) ho8.at_ LE.out
          rw [LK.out] at C8
          have C8 := Lib.hid C8
          clear hb8 ho8 PC O7 F7 S7 B7
          go_wp2_with fail
          ((with_reducible refine C8.out.mono ?_))
          rintro e w9 ⟨rfl, rfl⟩
          go_wp2_with fail
          go_roundw
          case rel => exact ⟨k + 1, by omega, by go_num, B8.out⟩
          case measure => simp [intOf]; omega
        · go_wp2_with fail
          go_ret
          exact ⟨ret_b (by simp), B7.out⟩
end Go.Proofs.YtcenekjkdnfhkaaDoor.DdLeastLaw
