/- RoseOwn, part 41 of the proof: The program's candidates. Conditions: the sizes. -/
import Derived.Test.YtplladlodgfloaaDoorRoseOwnZ40
/- The program's candidates. Conditions: the sizes. -/
namespace Go.Proofs.YtplladlodgfloaaDoor.Gens
open Go.RowKit Lists Ints Vals
set_option linter.unusedVariables false

/-- lists of lists handed back -/
def RsPost (z : List (List Int)) (w : World) (e : Ending) (w' : World) : Prop := ∃ (A : Option Addr) (c : Nat), e = .returned (.slice A z.length c) ∧ OwnRowsD w' w.heap.size A c z ∧ Below w.heap.size w w'
theorem set_len_le (l : List Int) (i : Nat) (x : Int) {n : Nat} (h : l.length ≤ n) : (l.set i x).length ≤ n := by simpa using h
theorem cst_start (w : World) (t : Gn) (GA : Option Addr) (gcap : Nat) (L : Option Addr) (ln lc : Nat) : CSt w t GA gcap L ln lc [] none 0 (((w.alloc (gc t GA gcap)).alloc (.cells #[.slice L ln lc] 25)).alloc (.cells #[.slice none 0 0] 29)) := by
  have z1 : (w.alloc (gc t GA gcap)).heap.size = w.heap.size + 1 := by simp
  have z2 : ((w.alloc (gc t GA gcap)).alloc (.cells #[.slice L ln lc] 25)).heap.size = w.heap.size + 1 + 1 := by simp
  have n1 := new_obj w (gc t GA gcap)
  have n2 := new_obj (w.alloc (gc t GA gcap)) (.cells #[.slice L ln lc] 25)
  have n3 := new_obj ((w.alloc (gc t GA gcap)).alloc (.cells #[.slice L ln lc] 25)) (.cells #[.slice none 0 0] 29)
  rw [z1] at n2
  rw [z2] at n3
  refine ⟨(((Below.refl _ _).alloc (Nat.le_refl _) _).alloc (by omega) _).alloc (by omega) _, ?_, ?_, n3, OwnRowsD.zero⟩
  · exact (Below.heap_alloc _ _ _ (by omega)).trans ((Below.heap_alloc _ _ _ (by omega)).trans n1)
  · exact (Below.heap_alloc _ _ _ (by omega)).trans n2

set_option maxHeartbeats 4000000 in
set_option maxRecDepth 100000 in
theorem cand_ok {t : Gn} {GA : Option Addr} {gcap n : Nat} {L : Option Addr} {l : List Int} {lc : Nat} (w : World) (hg : GAt w (GBel w.heap.size) n (gv t GA gcap) t) (h0 : genV t = 0) (hl : At w w.heap.size L l) (hcap : l.length ≤ lc) (hln : l.length ≤ 1399680) (hv : ∀ x ∈ l, 0 ≤ x ∧ x ≤ 1000) :
    Calls Tryd.prog 25 #[gv t GA gcap, .slice L l.length lc] w (RsPost (roseL t l) w) := by
  have hln2 : l.length ≤ 4294967296 := by omega
  have S0 := Lib.hid (cst_start w t GA gcap L l.length lc)
  have AD := Lib.hid (fun (z : List (List Int)) (A : Option Addr) (c : Nat) (x : List Int) (X : Option Addr) (xc xl : Nat) (e : x.length = xl) (W : World) (h : CSt w t GA gcap L l.length lc z A c W) (hx : At W W.heap.size X x) (hxc : x.length ≤ xc) (hxl : x.length ≤ 4294967296) (hz : z.length ≤ 1099511627776) => show Calls Tryd.prog 31 #[.slice X xl xc, .pointer (some ⟨w.heap.size, 0, none⟩), .pointer (some ⟨w.heap.size + 1, 0, none⟩), .pointer (some ⟨w.heap.size + 1 + 1, 0, none⟩)] W (AddPost w t GA gcap L l lc z x) by subst e; exact add_ok (n := n) (x := x) (X := X) (xc := xc) W h hg h0 hl hln2 hx hxc hxl hz)
  have WI := Lib.hid (fun (W : World) (hb : Below w.heap.size w W) => with_ok (lc := lc) (N := w.heap.size) W (hl.below hb) hb.size hln2)
  have WO := Lib.hid (fun (W : World) (hb : Below w.heap.size w W) => without_ok (lc := lc) (N := w.heap.size) W (hl.below hb) hb.size hcap hln2)
  have HV := Lib.hid (fun i (hi : i < l.length) => show 0 ≤ l.getD i 0 ∧ l.getD i 0 ≤ 1000 by simp only [List.getD, List.getElem?_eq_getElem hi, Option.getD_some]; exact hv _ (List.getElem_mem hi))
  have ZL := Lib.hid (fun k => lessTo_len t l k)
  have HL := Lib.hid hl
  clear hg hl h0 hv hln2
  go_enter Tryd.func25, Tryd.ntmps25
  have f0 := S0.out.l.cell
  go_wp2_with fail
  go_loopw [12] (fun i wr => ∃ (j : Nat) (A : Option Addr) (c : Nat) (z : List (List Int)), j ≤ l.length ∧ i = .int .i64 j ∧ Hid (z = lessTo t l j) ∧ Hid (CSt w t GA gcap L l.length lc z A c wr)) (fun i _ => l.length - (intOf i).toNat)
  case atStart => exact ⟨0, none, 0, [], Nat.zero_le _, rfl, rfl, S0.out⟩
  case round =>
    clear f0 S0
    obtain ⟨j, A, c, z, hj, rfl, hz, hS⟩ := hrel
    by_cases hlt : j < l.length
    · obtain ⟨lb, lo, rfl, hlb, hlc⟩ := HL.out (by omega)
      have e0 := (hS.out.bel.cell (p := ⟨lb, lo + j, none⟩) hlb).trans (hlc j hlt)
      have f0 := hS.out.l.cell
      have ZB := Lib.hid (show z.length ≤ 5598720 by rw [hz.out]; have := ZL.out j; omega)
      clear hlc hlb
      obtain ⟨v0, v1⟩ := HV.out j hlt
      have hln2 : l.length ≤ 4294967296 := by omega
      by_cases hp : 0 < l.getD j 0
      · have LA := Lib.hid (lessAt_four t l j hp)
        have LS := Lib.hid (lessTo_succ t l j)
        generalize hvv : l.getD j 0 = v at *
        clear hvv
        have C1 := Lib.hid (WI.out wr hS.out.bel j hlt (0))
        go_wp2_with fail
        ((with_reducible refine C1.out.mono ?_))
        rintro e u1 ⟨X1, d1, rfl, own1, hb1⟩
        have T1 := Lib.hid (hS.out.later hb1)
        have D1 := Lib.hid (AD.out z A c (l.set j 0) X1 d1 _ (List.length_set) u1 T1.out own1.at_ own1.cap_ (set_len_le l j _ hln2) (by have := ZB.out; omega))
        clear own1 hb1 C1 f0 hS
        go_wp2_with fail
        ((with_reducible refine D1.out.mono ?_))
        rintro e y1 ⟨A1, c1, z1, rfl, hz1, hS1⟩
        have S1 := Lib.hid hS1
        have ZB1 := Lib.hid (show z1.length ≤ 5598720 + 1 by rw [hz1.out, List.length_append]; have := ZB.out; have := kept_len t l (l.set j 0); omega)
        clear hS1 D1 T1
        have f1 := S1.out.l.cell
        have C2 := Lib.hid (WI.out y1 S1.out.bel j hlt (v / 2))
        go_wp2_with fail
        ((with_reducible refine C2.out.mono ?_))
        rintro e u2 ⟨X2, d2, rfl, own2, hb2⟩
        have T2 := Lib.hid (S1.out.later hb2)
        have D2 := Lib.hid (AD.out z1 A1 c1 (l.set j (v / 2)) X2 d2 _ (List.length_set) u2 T2.out own2.at_ own2.cap_ (set_len_le l j _ hln2) (by have := ZB1.out; omega))
        clear own2 hb2 C2 f1 S1
        go_wp2_with fail
        ((with_reducible refine D2.out.mono ?_))
        rintro e y2 ⟨A2, c2, z2, rfl, hz2, hS2⟩
        have S2 := Lib.hid hS2
        have ZB2 := Lib.hid (show z2.length ≤ 5598720 + 2 by rw [hz2.out, List.length_append]; have := ZB1.out; have := kept_len t l (l.set j (v / 2)); omega)
        clear hS2 D2 T2
        have f2 := S2.out.l.cell
        have C3 := Lib.hid (WI.out y2 S2.out.bel j hlt (v - 1))
        go_wp2_with fail
        ((with_reducible refine C3.out.mono ?_))
        rintro e u3 ⟨X3, d3, rfl, own3, hb3⟩
        have T3 := Lib.hid (S2.out.later hb3)
        have D3 := Lib.hid (AD.out z2 A2 c2 (l.set j (v - 1)) X3 d3 _ (List.length_set) u3 T3.out own3.at_ own3.cap_ (set_len_le l j _ hln2) (by have := ZB2.out; omega))
        clear own3 hb3 C3 f2 S2
        go_wp2_with fail
        ((with_reducible refine D3.out.mono ?_))
        rintro e y3 ⟨A3, c3, z3, rfl, hz3, hS3⟩
        have S3 := Lib.hid hS3
        have ZB3 := Lib.hid (show z3.length ≤ 5598720 + 3 by rw [hz3.out, List.length_append]; have := ZB2.out; have := kept_len t l (l.set j (v - 1)); omega)
        clear hS3 D3 T3
        have f3 := S3.out.l.cell
        have C4 := Lib.hid (WO.out y3 S3.out.bel j hlt)
        go_wp2_with fail
        ((with_reducible refine C4.out.mono ?_))
        rintro e u4 ⟨X4, d4, rfl, own4, hb4⟩
        have T4 := Lib.hid (S3.out.later hb4)
        have D4 := Lib.hid (AD.out z3 A3 c3 (lackL l j) X4 d4 _ rfl u4 T4.out own4.at_ own4.cap_ (Nat.le_trans (lack_len l j) hln2) (by have := ZB3.out; omega))
        clear own4 hb4 C4 f3 S3
        go_wp2_with fail
        ((with_reducible refine D4.out.mono ?_))
        rintro e y4 ⟨A4, c4, z4, rfl, hz4, hS4⟩
        have S4 := Lib.hid hS4
        have ZB4 := Lib.hid (show z4.length ≤ 5598720 + 4 by rw [hz4.out, List.length_append]; have := ZB3.out; have := kept_len t l (lackL l j); omega)
        clear hS4 D4 T4
        have f4 := S4.out.l.cell
        have EZ := Lib.hid (show z4 = lessTo t l (j + 1) by rw [hz4.out, hz3.out, hz2.out, hz1.out, hz.out, LS.out, LA.out]; simp only [List.append_assoc])
        clear f4
        go_wp2_with fail
        go_roundw
        case rel => exact ⟨j + 1, A4, c4, z4, by omega, by go_num, EZ.out, S4.out⟩
        case measure => simp [intOf]; omega
      · have LA := Lib.hid (lessAt_one t l j hp)
        have LS := Lib.hid (lessTo_succ t l j)
        generalize hvv : l.getD j 0 = v at *
        clear hvv
        have C1 := Lib.hid (WO.out wr hS.out.bel j hlt)
        go_wp2_with fail
        ((with_reducible refine C1.out.mono ?_))
        rintro e u1 ⟨X1, d1, rfl, own1, hb1⟩
        have T1 := Lib.hid (hS.out.later hb1)
        have D1 := Lib.hid (AD.out z A c (lackL l j) X1 d1 _ rfl u1 T1.out own1.at_ own1.cap_ (Nat.le_trans (lack_len l j) hln2) (by have := ZB.out; omega))
        clear own1 hb1 C1 f0 hS
        go_wp2_with fail
        ((with_reducible refine D1.out.mono ?_))
        rintro e y1 ⟨A1, c1, z1, rfl, hz1, hS1⟩
        have S1 := Lib.hid hS1
        have ZB1 := Lib.hid (show z1.length ≤ 5598720 + 1 by rw [hz1.out, List.length_append]; have := ZB.out; have := kept_len t l (lackL l j); omega)
        clear hS1 D1 T1
        have f1 := S1.out.l.cell
        have EZ := Lib.hid (show z1 = lessTo t l (j + 1) by rw [hz1.out, hz.out, LS.out, LA.out])
        clear f1
        go_wp2_with fail
        go_roundw
        case rel => exact ⟨j + 1, A1, c1, z1, by omega, by go_num, EZ.out, S1.out⟩
        case measure => simp [intOf]; omega
    · have EV := Lib.hid (show z = roseL t l by rw [hz.out, show j = l.length by omega]; rfl)
      have f0 := hS.out.r.cell
      go_wp2_with fail
      go_ret
      exact ⟨A, c, (by rw [← EV.out]; rfl), (by rw [← EV.out]; exact hS.out.own.less (by omega)), hS.out.bel⟩
end Go.Proofs.YtplladlodgfloaaDoor.Gens
