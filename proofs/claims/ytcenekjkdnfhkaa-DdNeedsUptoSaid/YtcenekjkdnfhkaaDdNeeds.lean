/- DdNeeds: the walk. Conditions: the sizes. -/
import Derived.Test.YtcenekjkdnfhkaaDdFails
import Derived.Test.YtcenekjkdnfhkaaCutRow
import Derived.BigQuiet
namespace Go.Proofs.Ytcenekjkdnfhkaa.DdNeedsLaw
open Go.RowKit Rng Ints Lists Vals Dd
set_option linter.unusedVariables false

theorem two_ok (w : World) (A : Option Addr) (c : Nat) (l : List Int) (hl : At w w.heap.size A l) (hm : l.length ≤ maxLen) : Calls Try.prog 7 #[.slice A l.length c] w fun e w' => e = .returned (.bool (l.contains 2)) ∧ w' = w := by
  have IN := Lib.hid (in_any l A c w.heap.size 2 hm w hl)
  clear hl hm
  go_enter Try.func7, Try.ntmps7
  go_wp2_with fail
  ((with_reducible refine IN.out.mono ?_))
  rintro e w1 ⟨rfl, rfl⟩
  go_wp2_with fail
  go_ret
  exact ⟨ret_b (by simp), rfl⟩
theorem bel_drewN (w : World) (n B : Nat) : Below B w (w.drewN n) := ⟨rfl, rfl, rfl, Nat.le_refl _, fun _ _ => rfl⟩

set_option maxHeartbeats 4000000 in
set_option maxRecDepth 100000 in
theorem walk (l : List Int) (L : Option Addr) (lc : Nat) (need : List Int) (N : Option Addr) (nc : Nat) (hbulk : l.length + need.length ≤ 1048576) (w : World) (hl : At w w.heap.size L l) (hcap : l.length ≤ lc) (hn : At w w.heap.size N need) (hnc : need.length ≤ nc) :
    Calls Try.prog 3 #[.slice L l.length lc, .slice N need.length nc] w fun e w' => e = .returned (.bool true) ∧ Below w.heap.size w w' := by
  have FO := Lib.hid (fault_ok 1 0 N need nc w hn)
  have FW := Lib.hid (fun (W : World) (hs : w.heap.size + 1 + 1 < W.heap.size) => fault_fail w.heap.size 1 0 N need nc W.heap.size (by omega) hs)
  have HL := Lib.hid (fun (W : World) (hb : Below w.heap.size w W) => show At W W.heap.size L l from (hl.below hb).more hb.size)
  have IT := Lib.hid (fun (W : World) (hb : Below w.heap.size w W) (i : Nat) (hi : i < l.length) (x : Int) => show Calls Try.prog 8 #[.slice L i lc, .int .i64 x] W fun e w' => e = .returned (.bool ((l.take i).contains x)) ∧ w' = W by
    have h1 : (l.take i).length = i := by rw [List.length_take]; omega
    have := in_any (l.take i) L lc W.heap.size x (by rw [h1]; simp only [maxLen]; omega) W (Gens.rs_take (HL.out W hb) i)
    rw [h1] at this
    exact this)
  have IN := Lib.hid (fun (W : World) (hb : Below w.heap.size w W) (x : Int) => in_any need N nc W.heap.size x (by simp only [maxLen]; omega) W ((hn.below hb).more hb.size))
  have TT := Lib.hid (fun (W : World) => two_told 7 (fun args w => rfl) two_ok W)
  have LN := Lib.hid (show l.length ≤ 4294967296 ∧ l.length ≤ maxLen ∧ (l.length : Int) ≤ 1048576 by simp only [maxLen]; omega)
  have CP := Lib.hid hcap
  have MO := Lib.hid (min_ok (P := faultP 1 need 0) (l := l))
  have MN := Lib.hid (min_no (P := faultP 1 need 0) (l := l))
  clear hl hcap hn hnc hbulk
  go_enter Try.func3, Try.ntmps3
  go_wp2_with fail
  ((with_reducible refine FO.out.mono ?_))
  rintro e w1 ⟨rfl, hF, hs1, hb1⟩
  have M1 := min_prog w1 (FW.out w1 hs1) hF (HL.out w1 hb1) CP.out LN.out.1
  unfold MnPost at M1
  have M1 := Lib.hid M1
  have B1 := Lib.hid hb1
  clear hF hb1 hs1 FO FW
  go_wp2_with fail
  ((with_reducible refine M1.out.mono ?_))
  rintro e w2 ⟨A2, c2, rfl, ho2, hb2⟩
  have O2 := Lib.hid ho2
  have B2 := Lib.hid (below_trans B1.out hb2)
  clear ho2 hb2 M1
  generalize minV (faultP 1 need 0) l = z at *
  have T2 := Lib.hid (TT.out w2)
  clear TT
  go_wp2_with fail
  ((with_reducible refine T2.out.mono ?_))
  rintro e w3 ⟨g, c3, rfl, hg, hb3⟩
  have O3 := Lib.hid (O2.out.below hb3)
  have B3 := Lib.hid (below_trans B2.out hb3)
  clear hb3 T2 O2 B2
  by_cases h0 : minE (faultP 1 need 0) l = 0
  · have MZ := Lib.hid (MO.out h0)
    rw [h0, errOf_ok]
    clear h0 MO MN
    go_wp2_with fail
    go_loopw [9, 10] (fun mv iv wr => ∃ k : Nat, k ≤ l.length ∧ iv = .int .i64 k ∧ mv = .int .i64 (manyK need l k) ∧ Hid (Below w3.heap.size w3 wr) ∧ Hid ((l.take k).Nodup)) (fun _ iv _ => l.length - (intOf iv).toNat)
    case atStart => exact ⟨0, Nat.zero_le _, rfl, rfl, Below.refl _ _, Lib.hid (by simp)⟩
    case round =>
      obtain ⟨k, hk, rfl, rfl, hbb, hnd⟩ := hrel
      have lb := LN.out.2.2
      by_cases hlt : k < l.length
      · have B7 := Lib.hid (below_trans B3.out hbb.out)
        obtain ⟨b, off, rfl, hbs, hcell⟩ := (HL.out wr B7.out) (by omega)
        have c1 := hcell k hlt
        clear hcell
        have C1 := Lib.hid (fun (n : Nat) => IT.out (wr.drewN n) (B7.out.trans (bel_drewN wr n _)) k hlt (l.getD k 0))
        have C2 := Lib.hid (fun (n : Nat) => IN.out (wr.drewN n) (B7.out.trans (bel_drewN wr n _)) (l.getD k 0))
        have C3 := Lib.hid (fun (n : Nat) => in_any z A2 c2 (wr.drewN n).heap.size (l.getD k 0) (by have := MZ.out.sub.length_le; have := LN.out.2.1; omega) (wr.drewN n) ((O3.out.below hbb.out).below (bel_drewN wr n _)).at_)
        have NI := Lib.hid (fun (h : need.contains (l.getD k 0) = true) => needs_in MZ.out (l.getD k 0) h)
        have MS := Lib.hid (many_step need l k hlt)
        have ML := many_le need l k
        have ND := Lib.hid (fun (h : (l.take k).contains (l.getD k 0) = false) => nodup_step l k hlt hnd.out h)
        generalize l.getD k 0 = x at *
        generalize (l.take k).contains x = r1 at *
        have s3 : (0 : Int) ≤ (k : Int) := by omega
        have s4 : (k : Int) ≤ (lc : Int) := by have := CP.out; omega
        have h1' : (k : Int) < l.length := by omega
        cases r1 with
        | true =>
          clear C2 C3 NI MS ND
          go_wp2_with fail
          go_quiet ((go_at_call 8; exact Calls.quiet_of_same (C1.out _)))
          go_wp2_with fail
          go_ret
          exact ⟨rfl, B7.out.trans (bel_drewN wr _ _)⟩
        | false =>
          have ND2 := Lib.hid (ND.out rfl)
          clear ND
          cases hr2 : need.contains x with
          | false =>
            rw [hr2] at C2 MS
            have MS2 := Lib.hid (show manyK need l (k + 1) = manyK need l k from by rw [MS.out]; simp)
            clear C3 NI MS hr2
            go_wp2_with fail
            go_quiet ((go_at_call 8; exact Calls.quiet_of_same (C1.out _)))
            go_wp2_with fail
            ((with_reducible refine (C2.out _).mono ?_))
            rintro e w9 ⟨rfl, rfl⟩
            go_wp2_with fail
            go_roundw
            case rel => exact ⟨k + 1, by omega, by go_num, by rw [MS2.out], hbb.out.trans (bel_drewN wr _ _), ND2.out⟩
            case measure => simp [intOf]; omega
          | true =>
            have NI2 := Lib.hid (NI.out hr2)
            rw [hr2] at C2 MS
            rw [NI2.out] at C3
            have MS2 := Lib.hid (show manyK need l (k + 1) = manyK need l k + 1 from by rw [MS.out]; simp)
            clear NI MS hr2 NI2
            go_wp2_with fail
            go_quiet ((go_at_call 8; exact Calls.quiet_of_same (C1.out _)))
            go_wp2_with fail
            ((with_reducible refine (C2.out _).mono ?_))
            rintro e w9 ⟨rfl, rfl⟩
            go_wp2_with fail
            ((with_reducible refine (C3.out _).mono ?_))
            rintro e w10 ⟨rfl, rfl⟩
            go_wp2_with fail
            go_roundw
            case rel => exact ⟨k + 1, by omega, by go_num, by rw [MS2.out]; go_num, hbb.out.trans (bel_drewN wr _ _), ND2.out⟩
            case measure => simp [intOf]; omega
      · have B7 := Lib.hid (below_trans B3.out hbb.out)
        obtain rfl : k = l.length := by omega
        have NA := Lib.hid (needs_all hnd.out MZ.out)
        go_wp2_with fail
        go_ret
        exact ⟨ret_b (by rw [NA.out]; simp), B7.out⟩
  · have hz := MN.out h0
    subst hz
    rw [errOf_no h0]
    clear MO MN h0
    generalize minE (faultP 1 need 0) l = q at *
    go_wp2_with fail
    go_ret
    exact ⟨ret_b (by simp), B3.out⟩
end Go.Proofs.Ytcenekjkdnfhkaa.DdNeedsLaw
