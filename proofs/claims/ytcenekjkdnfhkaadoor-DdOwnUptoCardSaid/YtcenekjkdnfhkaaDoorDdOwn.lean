/- DdOwn: the walk. Conditions: the sizes; the library's variable that errors.As reads. -/
import Derived.Test.YtcenekjkdnfhkaaDoorDdFails
import Derived.Test.YtcenekjkdnfhkaaDoorSame
import Derived.Test.YtcenekjkdnfhkaaDoorToldSame
import Derived.Test.YtcenekjkdnfhkaaDoorGrowS
namespace Go.Proofs.YtcenekjkdnfhkaaDoor.DdOwnLaw
open Go.RowKit Rng Ints Lists Vals Dd Owns
set_option linter.unusedVariables false

theorem two_ok (w : World) (A : Option Addr) (c : Nat) (l : List Int) (hl : At w w.heap.size A l) (hm : l.length ≤ maxLen) : Calls Tryd.prog 13 #[.slice A l.length c] w fun e w' => e = .returned (.bool (l.contains 2)) ∧ w' = w := by
  have IN := Lib.hid (in_any l A c w.heap.size 2 hm w hl)
  clear hl hm
  go_enter Tryd.func13, Tryd.ntmps13
  go_wp2_with fail
  ((with_reducible refine IN.out.mono ?_))
  rintro e w1 ⟨rfl, rfl⟩
  go_wp2_with fail
  go_ret
  exact ⟨ret_b (by simp), rfl⟩
theorem store_fun (W : World) (k : Nat) (cap : Array Value) : (store ⟨W.heap.size, 0, none⟩ (.func (.func k) #[] cap)).run Tryd.prog (W.alloc (.cells #[.nilFunc] 23)) = .ok () (W.alloc (.cells #[.func (.func k) #[] cap] 23)) := by
  rw [run_store Tryd.prog _ _ _ _ (by rfl)]
  simp [go_sem]
/-- a box of a function value -/
def FB (p k : Nat) (cap : Array Value) (w : World) : Prop := w.heap[p]? = some (.cells #[dfv k cap] 23 (0, 0))
theorem FB.cell {p k : Nat} {cap : Array Value} {w : World} (h : FB p k cap w) : w.cell? ⟨p, 0, none⟩ = some (dfv k cap) := by rw [Lib.cell_of_heap h]; rfl
theorem FB.lt {p k : Nat} {cap : Array Value} {w : World} (h : FB p k cap w) : p < w.heap.size := (Array.getElem?_eq_some_iff.1 h).1
/-- the boxes: x at px, what fails at p, the function value at pf -/
structure OwB (px p pf : Nat) (x how : Int) (N : Option Addr) (need : List Int) (nc : Nat) (limit : Int) (w : World) : Prop where
  x : IB px x w
  f : FtB p how N need nc limit w
  v : FB pf 16 (fcap p) w
theorem OwB.below {px p pf B : Nat} {x how limit : Int} {N : Option Addr} {need : List Int} {nc : Nat} {w w' : World} (h : OwB px p pf x how N need nc limit w) (h1 : px < B) (h2 : p + 1 + 1 < B) (h3 : pf < B) (hb : Below B w w') : OwB px p pf x how N need nc limit w' :=
  ⟨h.x.below h1 hb, h.f.below h2 hb, (hb.block pf h3).trans h.v⟩
theorem row_put {w : World} {g k n : Nat} {t : TypeId} {v : Value} (h : ∃ cur : Array Value, cur.size = n ∧ w.heap[g]? = some (.cells cur t (0, 0))) : ∃ cur : Array Value, cur.size = n ∧ (w.setCell ⟨g, k, none⟩ v).heap[g]? = some (.cells cur t (0, 0)) := by
  obtain ⟨cur, hs, h⟩ := h
  exact ⟨cur.setIfInBounds k v, by simpa using hs, by simp [World.setCell, Array.getElem?_modify, h]⟩
theorem gr_put {w wr : World} {g : Nat} (h : w.grownBy wr (some g)) (k : Nat) (v : Value) : w.grownBy (wr.setCell ⟨g, k, none⟩ v) (some g) :=
  ⟨h.os, h.tape, h.output, by show _ ≤ (World.setCell _ _ _).heap.size; simp [World.setCell]; exact h.size, fun b hb hne => (Below.heap_setCell wr ⟨g, k, none⟩ v b (fun e => hne (by rw [e]))).trans (h.block b hb hne)⟩

set_option maxHeartbeats 4000000 in
set_option maxRecDepth 100000 in
theorem own1_ok {px p pf B : Nat} {x how limit : Int} {N A : Option Addr} {need l : List Int} {nc c : Nat} (w : World) (h : OwB px p pf x how N need nc limit w) (h1 : px < B) (ho : Own w B A c l) (hl : l.length ≤ 4294967296) (hn : need.length ≤ 4294967296) :
    Calls Tryd.prog 12 #[.slice A l.length c, .pointer (some ⟨pf, 0, none⟩), .pointer (some ⟨px, 0, none⟩)] w fun e w' => e = .returned (.bool (faultP how need limit l)) ∧ w.grownBy w' (rowOf A) := by
  have F1 := Lib.hid (fault1_any p how limit N A need l nc c hl hn w h.f ho.at_)
  have HX := Lib.hid (fun (wr : World) (hg : w.grownBy wr (rowOf A)) => show wr.cell? ⟨px, 0, none⟩ = some (.int .i64 x) from by
    have : IB px x wr := (hg.block px h.x.lt (fun e => by have := ho.ge px e.symm; omega)).trans h.x
    exact this.cell)
  have HR := Lib.hid (show 0 < l.length → ∃ g, A = some ⟨g, 0, none⟩ ∧ ∃ n, l.length ≤ n ∧ ∃ cur : Array Value, cur.size = n ∧ w.heap[g]? = some (.cells cur 3 (0, 0)) from fun hp => by
    rcases ho.2 with ⟨he, h0⟩ | ⟨g, cap, cur, he, _, hh, hnc, _, hcs, _⟩
    · omega
    · injection he with he _ _
      exact ⟨g, he, cap, hnc, cur, by omega, hh⟩)
  have v0 := h.v.cell
  clear h h1 ho hn
  generalize faultP how need limit l = r at *
  go_enter Tryd.func12, Tryd.ntmps12
  go_wp2_with fail
  ((with_reducible refine F1.out.mono ?_))
  rintro e w1 ⟨rfl, rfl⟩
  clear F1
  go_wp2_with fail
  go_loopw [6] (fun i wr => ∃ k : Nat, k ≤ l.length ∧ i = .int .i64 k ∧ Hid (w1.grownBy wr (rowOf A)) ∧ Hid (0 < l.length → ∃ g, A = some ⟨g, 0, none⟩ ∧ ∃ n, l.length ≤ n ∧ ∃ cur : Array Value, cur.size = n ∧ wr.heap[g]? = some (.cells cur 3 (0, 0)))) (fun i _ => l.length - (intOf i).toNat)
  case atStart => exact ⟨0, Nat.zero_le _, rfl, World.grownBy.refl w1 _, HR.out⟩
  case round =>
    obtain ⟨k, hk, rfl, HG, HC⟩ := hrel
    have x0 := HX.out wr HG.out
    by_cases hlt : k < l.length
    · obtain ⟨g, rfl, n, hzn, hrow⟩ := HC.out (by omega)
      obtain ⟨cur, hs, hh⟩ := hrow
      obtain ⟨old, c0⟩ : ∃ old, wr.cell? ⟨g, k, none⟩ = some old := ⟨cur[k]'(by omega), by rw [Lib.cell_of_heap hh]; simp⟩
      have f0 : wr.frozen? ⟨g, k, none⟩ = false := Lib.frozen_of_heap hh k
      have HC2 := Lib.hid (fun (_ : 0 < l.length) => show ∃ g', (some ⟨g, 0, none⟩ : Option Addr) = some ⟨g', 0, none⟩ ∧ ∃ n, l.length ≤ n ∧ ∃ cur : Array Value, cur.size = n ∧ (wr.setCell ⟨g, k, none⟩ (.int .i64 x)).heap[g']? = some (.cells cur 3 (0, 0)) from ⟨g, rfl, n, hzn, row_put ⟨cur, hs, hh⟩⟩)
      have HG2 := Lib.hid (show w1.grownBy (wr.setCell ⟨g, k, none⟩ (.int .i64 x)) (rowOf (some ⟨g, 0, none⟩)) from gr_put HG.out k _)
      clear hs hh
      go_wp2_with fail
      go_roundw
      case rel => exact ⟨k + 1, hlt, by go_num, HG2.out, HC2.out⟩
      case measure => simp [intOf]; omega
    · go_wp2_with fail
      go_ret
      exact ⟨rfl, HG.out⟩
theorem own_fail (px p pf B : Nat) (x how limit : Int) (N : Option Addr) (need : List Int) (nc : Nat) (hn : need.length ≤ 4294967296) (h1 : px < B) (h2 : p + 1 + 1 < B) (h3 : pf < B) :
    FailF 12 #[.pointer (some ⟨pf, 0, none⟩), .pointer (some ⟨px, 0, none⟩)] B (faultP how need limit) (OwB px p pf x how N need nc limit) := by
  refine ⟨fun args w => rfl, fun w w' h hb => h.below h1 h2 h3 hb, fun w A c l hI hB ho hl => ?_⟩
  exact own1_ok w hI h1 ho (by omega) hn

set_option maxHeartbeats 4000000 in
set_option maxRecDepth 100000 in
theorem walk (l : List Int) (L : Option Addr) (lc : Nat) (how : Int) (need : List Int) (N : Option Addr) (nc : Nat) (limit x : Int) (hbulk : l.length + need.length ≤ 1048576) (w : World) (hl : At w w.heap.size L l) (hcap : l.length ≤ lc) (wh : (Lit.int .i64 how).wf = true) (hn : At w w.heap.size N need) (hnc : need.length ≤ nc) (wm : (Lit.int .i64 limit).wf = true) (wx : (Lit.int .i64 x).wf = true) (hh : Told.Handle w) :
    Calls Tryd.prog 4 #[.slice L l.length lc, .int .i64 how, .slice N need.length nc, .int .i64 limit, .int .i64 x] w fun e w' => e = .returned (.bool true) ∧ Below w.heap.size w w' := by
  have b0 := belw w (.cells #[.int .i64 x] 3)
  have n0 : IB w.heap.size x (w.alloc (.cells #[.int .i64 x] 3)) := heap_new2 w _
  have FO := Lib.hid (fun (W : World) (hb : Below w.heap.size w W) => fault_ok how limit N need nc W ((hn.below hb).more hb.size))
  have HL := Lib.hid (fun (W : World) (hb : Below w.heap.size w W) => show At W W.heap.size L l from (hl.below hb).more hb.size)
  have TT := Lib.hid (fun (W : World) => two_told 13 (fun args w => rfl) two_ok W)
  have LN := Lib.hid (show l.length ≤ 4294967296 ∧ l.length ≤ maxLen ∧ (l.length : Int) ≤ 1048576 ∧ ([] : List Int).length + l.length ≤ 17592186044416 by simp only [maxLen, List.length_nil]; omega)
  have FF := Lib.hid (fun (p B : Nat) (h : p + 1 + 1 < B) => fault_fail p how limit N need nc B (by omega) h)
  have OF := Lib.hid (fun (px p pf B : Nat) (h1 : px < B) (h2 : p + 1 + 1 < B) (h3 : pf < B) => own_fail px p pf B x how limit N need nc (by omega) h1 h2 h3)
  have ML := Lib.hid (show (minV (faultP how need limit) l).length ≤ maxLen by
    by_cases h : minE (faultP how need limit) l = 0
    · have := (min_ok h).sub.length_le; simp only [maxLen]; omega
    · rw [min_no h]; simp [maxLen])
  have TS := Lib.hid (fun (W : World) (hb : Below w.heap.size w W) => told_same (minE (faultP how need limit) l) W (hh.below hb))
  have CP := Lib.hid hcap
  have B0 := Lib.hid b0
  have N0 := Lib.hid n0
  clear hl hcap hn hnc hh hbulk wh wm wx b0 n0
  go_enter Tryd.func4, Tryd.ntmps4
  go_wp2_with fail
  have S0 := Lib.hid (show (w.alloc (.cells #[.int .i64 x] 3)).heap.size = w.heap.size + 1 by simp)
  generalize w.alloc (.cells #[.int .i64 x] 3) = W0 at *
  ((with_reducible refine (FO.out W0 B0.out).mono ?_))
  rintro e w1 ⟨rfl, hF, hs1, hb1⟩
  have b2 := belw w1 (.cells #[.func (.func 16) #[] (fcap W0.heap.size)] 23)
  have n2 : FB w1.heap.size 16 (fcap W0.heap.size) (w1.alloc (.cells #[.func (.func 16) #[] (fcap W0.heap.size)] 23)) := heap_new2 w1 _
  have O2 := Lib.hid (show OwB w.heap.size W0.heap.size w1.heap.size x how N need nc limit (w1.alloc (.cells #[.func (.func 16) #[] (fcap W0.heap.size)] 23)) from ⟨(N0.out.below (by have := S0.out; omega) hb1).below (by have := S0.out; omega) b2, hF.below hs1 b2, n2⟩)
  have Q2 := Lib.hid (show w.heap.size < w1.heap.size ∧ W0.heap.size + 1 + 1 < w1.heap.size ∧ w1.heap.size < (w1.alloc (.cells #[.func (.func 16) #[] (fcap W0.heap.size)] 23)).heap.size from ⟨by have := S0.out; omega, hs1, by simp⟩)
  have B2 := Lib.hid (below_trans (below_trans B0.out hb1) b2)
  clear hF hb1 hs1 b2 n2 FO N0 B0
  unfold dfv
  have HST := store_fun w1 16 (fcap W0.heap.size)
  have HE := Lib.hid (show Own ((w1.alloc (.cells #[.func (.func 16) #[] (fcap W0.heap.size)] 23)).alloc (.cells #[] 3)) (w1.heap.size + 1) (some ⟨w1.heap.size + 1, 0, none⟩) 0 [] from Own.empty (by
    have := heap_new2 (w1.alloc (.cells #[.func (.func 16) #[] (fcap W0.heap.size)] 23)) (.cells #[] 3)
    simpa using this))
  have BE := Lib.hid (show Below (w1.heap.size + 1) (w1.alloc (.cells #[.func (.func 16) #[] (fcap W0.heap.size)] 23)) ((w1.alloc (.cells #[.func (.func 16) #[] (fcap W0.heap.size)] 23)).alloc (.cells #[] 3)) by
    have := belw (w1.alloc (.cells #[.func (.func 16) #[] (fcap W0.heap.size)] 23)) (.cells #[] 3)
    simpa using this)
  have Z2 := Lib.hid (show (w1.alloc (.cells #[.func (.func 16) #[] (fcap W0.heap.size)] 23)).heap.size = w1.heap.size + 1 by simp)
  have LA := Lib.hid (HL.out _ (B2.out.trans (BE.out.mono (by have := B2.out.size; have := Z2.out; omega))))
  go_wp2_with (
    at_builtin
    refine wpList_append_ints rfl (.tmp 26) (.tmp 27) rfl (w1.heap.size + 1) 0 (some ⟨w1.heap.size + 1, 0, none⟩) [] HE.out _ L lc l LA.out rfl rfl LN.out.2.2.2 (by have := BE.out.size; have := Z2.out; omega) ?_
    intro A5 c5 w5 z5 hz5 own5 g5 r5
    obtain rfl : z5 = l := hz5.out
    have E5 := Lib.hid (BE.out.grown g5 (by have := BE.out.size; have := Z2.out; omega) (by intro k hk; simp [rowOf] at hk; omega))
    have O5 := Lib.hid own5
    clear own5 g5 r5)
  have B5 := Lib.hid (B2.out.trans (E5.out.mono (by have := B2.out.size; have := Z2.out; omega)))
  have I5 := Lib.hid (O2.out.below (by have := Q2.out; omega) (by have := Q2.out; omega) (by omega) E5.out)
  have Q5 := Lib.hid (show w.heap.size < w5.heap.size ∧ W0.heap.size + 1 + 1 < w5.heap.size ∧ w1.heap.size < w5.heap.size by have := Q2.out; have := E5.out.size; omega)
  have M5 := min_prog w5 (OF.out w.heap.size W0.heap.size w1.heap.size w5.heap.size Q5.out.1 Q5.out.2.1 Q5.out.2.2) I5.out O5.out.at_ O5.out.cap_ LN.out.1
  unfold MnPost at M5
  have M5 := Lib.hid M5
  clear HST HE BE Z2 LA O2 Q2 B2 E5
  generalize w1.heap.size = pf at *
  generalize W0.heap.size = p at *
  ((with_reducible refine M5.out.mono ?_))
  rintro e w6 ⟨A6, c6, rfl, ho6, hb6⟩
  have B6 := Lib.hid (below_trans B5.out hb6)
  have I6 := Lib.hid (I5.out.below Q5.out.1 Q5.out.2.1 Q5.out.2.2 hb6)
  have Q6 := Lib.hid (show p + 1 + 1 < w6.heap.size by have := Q5.out; have := hb6.size; omega)
  have O6 := Lib.hid (O5.out.below hb6)
  have R6 := Lib.hid ho6
  have N6 := min_prog w6 (FF.out p w6.heap.size Q6.out) I6.out.f (HL.out w6 B6.out) CP.out LN.out.1
  unfold MnPost at N6
  have N6 := Lib.hid N6
  have v6 := I6.out.v.cell
  clear hb6 ho6 M5 I5 Q5 O5 B5
  generalize minV (faultP how need limit) z5 = z at *
  go_wp2_with fail
  ((with_reducible refine N6.out.mono ?_))
  rintro e w7 ⟨A7, c7, rfl, ho7, hb7⟩
  have B7 := Lib.hid (below_trans B6.out hb7)
  have O7 := Lib.hid (O6.out.below hb7)
  have R7 := Lib.hid (R6.out.below hb7)
  have T7 := Lib.hid ho7
  clear hb7 ho7 N6 v6 I6 Q6 O6 R6 B6
  have T8 := Lib.hid (TT.out w7)
  clear TT
  go_wp2_with fail
  ((with_reducible refine T8.out.mono ?_))
  rintro e w8 ⟨g, c8, rfl, hg, hb8⟩
  have B8 := Lib.hid (below_trans B7.out hb8)
  have S1 := Lib.hid (same_below z5 z5 A5 L c5 lc w8.heap.size LN.out.2.1 LN.out.2.1 w8 (O7.out.below hb8).at_ (HL.out w8 B8.out))
  have R8 := Lib.hid (R7.out.below hb8)
  have T9 := Lib.hid (T7.out.below hb8)
  clear hb8 T8 O7 R7 T7 B7
  go_wp2_with fail
  ((with_reducible refine S1.out.mono ?_))
  rintro e w9 ⟨rfl, hb9⟩
  have B9 := Lib.hid (below_trans B8.out hb9)
  have S2 := Lib.hid (same_below z z A6 A7 c6 c7 w9.heap.size ML.out ML.out w9 (R8.out.below hb9).at_ (T9.out.below hb9).at_)
  clear hb9 S1 R8 T9 B8
  go_wp2_with fail
  ((with_reducible refine S2.out.mono ?_))
  rintro e w10 ⟨rfl, hb10⟩
  have B10 := Lib.hid (below_trans B9.out hb10)
  have TZ := Lib.hid (TS.out w10 B10.out)
  clear hb10 S2 B9 TS
  go_wp2_with fail
  ((with_reducible refine TZ.out.mono ?_))
  rintro e w11 ⟨rfl, hb11⟩
  have B11 := Lib.hid (below_trans B10.out hb11)
  clear hb11 TZ
  go_wp2_with fail
  go_ret
  exact ⟨ret_b (by simp), B11.out⟩
end Go.Proofs.YtcenekjkdnfhkaaDoor.DdOwnLaw
