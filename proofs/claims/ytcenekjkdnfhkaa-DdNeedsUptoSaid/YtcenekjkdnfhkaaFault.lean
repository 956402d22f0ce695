/- In (is a number among some?), and the statements' function values that fail (chapter 10). Conditions: the sizes. -/
import Derived.Test.YtcenekjkdnfhkaaDdC
import Derived.Test.YtcenekjkdnfhkaaRefMix
import Derived.Test.YtcenekjkdnfhkaaIn
namespace Go.Proofs.Ytcenekjkdnfhkaa.Dd
open Go.RowKit Rng Ints Lists
set_option linter.unusedVariables false

/-- boxes -/
theorem belw (w : World) (o : Obj) : Below w.heap.size w (w.alloc o) := (Below.refl _ _).alloc (Nat.le_refl _) _
def IB (p : Nat) (x : Int) (w : World) : Prop := w.heap[p]? = some (.cells #[.int .i64 x] 3 (0, 0))
def LB (p : Nat) (A : Option Addr) (n c : Nat) (w : World) : Prop := w.heap[p]? = some (.cells #[.slice A n c] 22 (0, 0))
theorem IB.cell {p : Nat} {x : Int} {w : World} (h : IB p x w) : w.cell? ⟨p, 0, none⟩ = some (.int .i64 x) := by rw [Lib.cell_of_heap h]; rfl
theorem LB.cell {p n c : Nat} {A : Option Addr} {w : World} (h : LB p A n c w) : w.cell? ⟨p, 0, none⟩ = some (.slice A n c) := by rw [Lib.cell_of_heap h]; rfl
theorem IB.lt {p : Nat} {x : Int} {w : World} (h : IB p x w) : p < w.heap.size := (Array.getElem?_eq_some_iff.1 h).1
theorem IB.below {p B : Nat} {x : Int} {w w' : World} (h : IB p x w) (hB : p < B) (hb : Below B w w') : IB p x w' := (hb.block p hB).trans h
/-- what fails: its boxes -/
structure FtB (p : Nat) (how : Int) (N : Option Addr) (need : List Int) (nc : Nat) (limit : Int) (w : World) : Prop where
  h : IB p how w
  n : LB (p + 1) N need.length nc w
  l : IB (p + 1 + 1) limit w
  at_ : At w p N need
theorem FtB.below {p B : Nat} {how limit : Int} {N : Option Addr} {need : List Int} {nc : Nat} {w w' : World} (h : FtB p how N need nc limit w) (hB : p + 1 + 1 < B) (hb : Below B w w') : FtB p how N need nc limit w' :=
  ⟨h.h.below (by omega) hb, (hb.block _ (by omega)).trans h.n, h.l.below hB hb, h.at_.keep fun b o hb' => hb.cell (p := ⟨b, o, none⟩) (Nat.lt_trans hb' (by omega))⟩
def fcap (p : Nat) : Array Value := #[.pointer (some ⟨p, 0, none⟩), .pointer (some ⟨p + 1 + 1, 0, none⟩), .pointer (some ⟨p + 1, 0, none⟩)]

theorem fault_ok (how limit : Int) (N : Option Addr) (need : List Int) (nc : Nat) (w : World) (hn : At w w.heap.size N need) :
    Calls Try.prog 6 #[.int .i64 how, .slice N need.length nc, .int .i64 limit] w fun e w' => e = .returned (dfv 14 (fcap w.heap.size)) ∧ FtB w.heap.size how N need nc limit w' ∧ w.heap.size + 1 + 1 < w'.heap.size ∧ Below w.heap.size w w' := by
  have b1 := belw w (.cells #[.int .i64 how] 3)
  have n1 : IB w.heap.size how (w.alloc (.cells #[.int .i64 how] 3)) := heap_new2 w _
  have z1 : (w.alloc (.cells #[.int .i64 how] 3)).heap.size = w.heap.size + 1 := by simp
  have HB : let W := ((w.alloc (.cells #[.int .i64 how] 3)).alloc (.cells #[.slice N need.length nc] 22)).alloc (.cells #[.int .i64 limit] 3)
      FtB w.heap.size how N need nc limit W ∧ w.heap.size + 1 + 1 < W.heap.size ∧ Below w.heap.size w W := by
    generalize w.alloc (.cells #[.int .i64 how] 3) = W1 at *
    have b2 := belw W1 (.cells #[.slice N need.length nc] 22)
    have n2 : LB W1.heap.size N need.length nc (W1.alloc (.cells #[.slice N need.length nc] 22)) := heap_new2 W1 _
    have z2 : (W1.alloc (.cells #[.slice N need.length nc] 22)).heap.size = w.heap.size + 1 + 1 := by simp [z1]
    generalize W1.alloc (.cells #[.slice N need.length nc] 22) = W2 at *
    have b3 := belw W2 (.cells #[.int .i64 limit] 3)
    have n3 : IB W2.heap.size limit (W2.alloc (.cells #[.int .i64 limit] 3)) := heap_new2 W2 _
    intro W
    have b := below_trans (below_trans b1 b2) b3
    rw [z1] at n2 b2
    rw [z2] at n3 b3
    refine ⟨⟨(n1.below (by omega) b2).below (by omega) b3, (b3.block _ (by omega)).trans n2, n3, hn.keep fun x o hx => b.cell (p := ⟨x, o, none⟩) hx⟩, ?_, b⟩
    show _ < (World.alloc _ _).heap.size
    simp [z2]
  clear b1 n1 z1 hn
  have HB := Lib.hid HB
  go_enter Try.func6, Try.ntmps6
  go_wp2_with fail
  go_ret
  exact ⟨rfl, HB.out⟩

theorem all_step (need l : List Int) (k : Nat) (h : k < need.length) (h1 : (need.take k).all (fun x => l.contains x) = true) :
    (l.contains (need.getD k 0) = true → (need.take (k + 1)).all (fun x => l.contains x) = true) ∧ (l.contains (need.getD k 0) = false → need.all (fun x => l.contains x) = false) := by
  have e : need.getD k 0 = need[k] := by simp [List.getD_eq_getElem?_getD, h]
  rw [e, List.take_succ_eq_append_getElem h, List.all_append, h1]
  refine ⟨fun hc => by simp only [List.all_cons, List.all_nil, hc, Bool.and_true], fun hc => ?_⟩
  rw [Bool.eq_false_iff]
  intro ha
  rw [List.all_eq_true] at ha
  have := ha need[k] (List.getElem_mem h)
  rw [hc] at this
  cases this
set_option maxHeartbeats 4000000 in
theorem fault1_any (p : Nat) (how limit : Int) (N A : Option Addr) (need l : List Int) (nc c : Nat) (hl : l.length ≤ 4294967296) (hn : need.length ≤ 4294967296) (w : World) (h : FtB p how N need nc limit w) (ha : At w w.heap.size A l) :
    Calls Try.prog 14 (#[.slice A l.length c] ++ fcap p) w fun e w' => e = .returned (.bool (faultP how need limit l)) ∧ w' = w := by
  show Calls Try.prog 14 #[.slice A l.length c, .pointer (some ⟨p, 0, none⟩), .pointer (some ⟨p + 1 + 1, 0, none⟩), .pointer (some ⟨p + 1, 0, none⟩)] w _
  have HA := Lib.hid ha
  have HN := Lib.hid h.at_
  have p1 := h.h.cell
  have p2 := h.n.cell
  have p3 := h.l.cell
  have FP := Lib.hid (show faultP how need limit l = if how = 0 then decide (limit ≤ l.length) else if how = 1 then need.all (fun x => l.contains x) else if how = 2 then decide (limit ≤ sumW l) else anyP l from rfl)
  have IN := Lib.hid (fun (x : Int) => in_any l A c w.heap.size x (by simp only [maxLen]; omega) w ha)
  clear h ha
  go_enter Try.func14, Try.ntmps14
  by_cases e0 : how = 0
  · subst e0
    have FV := Lib.hid (show faultP 0 need limit l = decide (limit ≤ l.length) by rw [FP.out, if_pos rfl])
    go_wp2_with fail
    go_ret
    exact ⟨ret_b (by rw [FV.out]), rfl⟩
  · rw [if_neg e0] at FP
    have e0' : (how == 0) = false := by rw [beq_eq_false_iff_ne]; exact e0
    go_wp2_with fail
    go_loopw [6, 7] (fun s i wr => ∃ k : Nat, k ≤ l.length ∧ i = .int .i64 k ∧ s = .int .i64 (sumW (l.take k)) ∧ wr = w) (fun s i _ => l.length - (intOf i).toNat)
    case atStart => exact ⟨0, Nat.zero_le _, rfl, rfl, rfl⟩
    case round =>
      obtain ⟨k, hk, rfl, rfl, rfl⟩ := hrel
      by_cases h1 : k < l.length
      · obtain ⟨b, off, rfl, _, hcell⟩ := HA.out (by omega)
        have c1 := hcell k h1
        clear hcell
        have SS := Lib.hid (sumW_take l k h1)
        generalize l.getD k 0 = y at *
        generalize sumW (l.take k) = sm at *
        go_wp2_with fail
        go_roundw
        case rel => exact ⟨k + 1, by omega, by go_num, by rw [SS.out], trivial⟩
        case measure => simp [intOf]; omega
      · have SE := Lib.hid (show sumW (l.take k) = sumW l by rw [List.take_of_length_le (by omega)])
        rw [SE.out]
        have AP := Lib.hid (show anyP l = ((mixI (IntKind.u64.wrap (wrap64 (wrap64 (31 * sumW l) + l.length)))).tmod 3 != 0) from rfl)
        generalize sumW l = sm at *
        by_cases e1 : how = 1
        · subst e1
          rw [if_pos rfl] at FP
          go_wp2_with fail
          go_loopw [8] (fun i w2 => ∃ k : Nat, k ≤ need.length ∧ i = .int .i64 k ∧ w2 = wr ∧ Hid ((need.take k).all (fun x => l.contains x) = true)) (fun i _ => need.length - (intOf i).toNat)
          case atStart => exact ⟨0, Nat.zero_le _, rfl, rfl, rfl⟩
          case round =>
            obtain ⟨k, hk, rfl, rfl, hall⟩ := hrel
            by_cases h2 : k < need.length
            · obtain ⟨b, off, rfl, _, hcell⟩ := HN.out (by omega)
              have c1 := hcell k h2
              clear hcell
              have AS := Lib.hid (all_step need l k h2 hall.out)
              generalize need.getD k 0 = y at *
              have C1 := Lib.hid (IN.out y)
              go_wp2_with fail
              ((with_reducible refine C1.out.mono ?_))
              rintro e w1 ⟨rfl, rfl⟩
              by_cases hc : l.contains y = true
              · have hv := Lib.hid (AS.out.1 hc)
                rw [hc]
                clear hc C1
                go_wp2_with fail
                go_roundw
                case rel => exact ⟨k + 1, by omega, by go_num, trivial, hv.out⟩
                case measure => simp [intOf]; omega
              · have hc := Bool.eq_false_iff.2 hc
                have hv := Lib.hid (AS.out.2 hc)
                rw [hc]
                clear hc C1
                go_wp2_with fail
                go_ret
                exact ⟨ret_b (by rw [FP.out, hv.out]), rfl⟩
            · have hv := Lib.hid (show need.all (fun x => l.contains x) = true by have := hall.out; rwa [List.take_of_length_le (by omega)] at this)
              go_wp2_with fail
              go_ret
              exact ⟨ret_b (by rw [FP.out, hv.out]), rfl⟩
        · rw [if_neg e1] at FP
          have e1' : (how == 1) = false := by rw [beq_eq_false_iff_ne]; exact e1
          by_cases e2 : how = 2
          · subst e2
            rw [if_pos rfl] at FP
            go_wp2_with fail
            go_ret
            exact ⟨ret_b (by rw [FP.out]), rfl⟩
          · rw [if_neg e2] at FP
            have e2' : (how == 2) = false := by rw [beq_eq_false_iff_ne]; exact e2
            have MX := Lib.hid (mixR_same (IntKind.u64.wrap (wrap64 (wrap64 (31 * sm) + l.length))) wr)
            go_wp2_with fail
            ((with_reducible refine MX.out.mono ?_))
            rintro e w1 ⟨rfl, rfl⟩
            go_wp2_with fail
            go_ret
            exact ⟨ret_b (by rw [FP.out, AP.out]), rfl⟩
end Go.Proofs.Ytcenekjkdnfhkaa.Dd
