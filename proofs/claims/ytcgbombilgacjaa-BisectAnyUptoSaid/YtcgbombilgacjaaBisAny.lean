/- BisectAny: the walk. Conditions: none. -/
import Derived.Test.YtcgbombilgacjaaBisects
import Derived.Test.YtcgbombilgacjaaRefMix
namespace Go.Proofs.Ytcgbombilgacjaa.BisAnyLaw
open Go.RowKit Vals Ints Bis Rng
set_option linter.unusedVariables false

def BB (p : Nat) (x : Bool) (w : World) : Prop := w.heap[p]? = some (.cells #[.bool x] 4 (0, 0))
theorem BB.cell {p : Nat} {x : Bool} {w : World} (h : BB p x w) : w.cell? ⟨p, 0, none⟩ = some (.bool x) := by rw [Lib.cell_of_heap h]; rfl
theorem BB.free {p : Nat} {x : Bool} {w : World} (h : BB p x w) : w.frozen? ⟨p, 0, none⟩ = false := Lib.frozen_of_heap h 0
theorem BB.lt {p : Nat} {x : Bool} {w : World} (h : BB p x w) : p < w.heap.size := (Array.getElem?_eq_some_iff.1 h).1
/-- is a number so? -/
def mixP (salt x : Int) : Bool := (mixI (IntKind.u64.wrap (IntKind.u64.wrap x + IntKind.u64.wrap salt))).tmod 2 == 0
/-- the boxes: n, salt, how often it was asked, within -/
structure AnB (p : Nat) (n salt : Int) (j : Nat) (w : World) : Prop where
  n : IB p n w
  s : IB (p + 1) salt w
  a : IB (p + 1 + 1) j w
  i : BB (p + 1 + 1 + 1) true w
theorem AnB.below {p : Nat} {n salt : Int} {j : Nat} {w w' : World} (h : AnB p n salt j w) (hb : Below (p + 4) w w') : AnB p n salt j w' :=
  ⟨h.n.below (by omega) hb, h.s.below (by omega) hb, h.a.below (by omega) hb, (hb.block _ (by omega)).trans h.i⟩
theorem AnB.later {p : Nat} {n salt : Int} {j : Nat} {w w' : World} (h : AnB p n salt j w) (hb : Below w.heap.size w w') : AnB p n salt j w' := h.below (hb.mono (by have := h.i.lt; omega))
def anX (p : Nat) : Nat → Prop := fun b => b = p + 1 + 1 ∨ b = p + 1 + 1 + 1
theorem AnB.put {p : Nat} {n salt : Int} {j : Nat} {w : World} (h : AnB p n salt j w) : let W := (w.setCell ⟨p + 1 + 1, 0, none⟩ (.int .i64 ((j : Int) + 1))).setCell ⟨p + 1 + 1 + 1, 0, none⟩ (.bool true)
    AnB p n salt (j + 1) W ∧ Mv (anX p) w W (anX p) := by
  intro W
  have ne : ∀ b, b ≠ p + 1 + 1 → b ≠ p + 1 + 1 + 1 → W.heap[b]? = w.heap[b]? := fun b h1 h2 => (Below.heap_setCell _ ⟨p + 1 + 1 + 1, 0, none⟩ _ b h2).trans (Below.heap_setCell _ ⟨p + 1 + 1, 0, none⟩ _ b h1)
  have a1 : IB (p + 1 + 1) ((j : Int) + 1) (w.setCell ⟨p + 1 + 1, 0, none⟩ (.int .i64 ((j : Int) + 1))) := by
    have := h.a
    unfold IB at this ⊢
    simp [World.setCell, Array.getElem?_modify, this]
  have i1 : BB (p + 1 + 1 + 1) true W := by
    have := (Below.heap_setCell w ⟨p + 1 + 1, 0, none⟩ (.int .i64 ((j : Int) + 1)) (p + 1 + 1 + 1) (by show p + 1 + 1 + 1 ≠ p + 1 + 1; omega)).trans h.i
    show (World.setCell _ _ _).heap[p + 1 + 1 + 1]? = _
    simp [World.setCell, Array.getElem?_modify] at this ⊢
    simp [this]
  refine ⟨⟨(ne _ (by omega) (by omega)).trans h.n, (ne _ (by omega) (by omega)).trans h.s, ?_, i1⟩, rfl, rfl, rfl, by show _ ≤ (World.setCell _ _ _).heap.size; simp [World.setCell], fun b _ hx => ne b (fun e => hx (.inl e)) (fun e => hx (.inr e)), fun b h => .inl h⟩
  have := (Below.heap_setCell (w.setCell ⟨p + 1 + 1, 0, none⟩ (.int .i64 ((j : Int) + 1))) ⟨p + 1 + 1 + 1, 0, none⟩ (.bool true) (p + 1 + 1) (by show p + 1 + 1 ≠ p + 1 + 1 + 1; omega)).trans a1
  exact this

set_option maxHeartbeats 2000000 in
set_option maxRecDepth 100000 in
theorem any_ok (p : Nat) (n salt : Int) (j : Nat) (w : World) (x : Int) (h0 : 0 ≤ x) (h1 : x < n) (hj : j ≤ 100) (h : AnB p n salt j w) :
    Calls Try.prog 6 #[.int .i64 x, .pointer (some ⟨p + 1 + 1, 0, none⟩), .pointer (some ⟨p + 1 + 1 + 1, 0, none⟩), .pointer (some ⟨p, 0, none⟩), .pointer (some ⟨p + 1, 0, none⟩)] w fun e w' => e = .returned (.bool (mixP salt x)) ∧ AnB p n salt (j + 1) w' ∧ Mv (anX p) w w' (anX p) := by
  have PT := Lib.hid h.put
  have p0 := h.n.cell
  have p1 := h.s.cell
  have p2 := h.a.cell
  have p3 := h.i.cell
  have f2 := h.a.free
  have f3 := h.i.free
  have PP := Lib.hid (show mixP salt x = ((mixI (IntKind.u64.wrap (IntKind.u64.wrap x + IntKind.u64.wrap salt))).tmod 2 == 0) from rfl)
  have MX := Lib.hid (fun (W : World) => mixR_same (IntKind.u64.wrap (IntKind.u64.wrap x + IntKind.u64.wrap salt)) W)
  clear h
  go_enter Try.func6, Try.ntmps6
  go_wp2_with fail
  generalize (w.setCell ⟨p + 1 + 1, 0, none⟩ (.int .i64 ((j : Int) + 1))).setCell ⟨p + 1 + 1 + 1, 0, none⟩ (.bool true) = W2 at *
  ((with_reducible refine (MX.out W2).mono ?_))
  rintro e w3 ⟨rfl, rfl⟩
  go_wp2_with fail
  go_ret
  exact ⟨ret_b (by rw [PP.out]), PT.out⟩
theorem any_bad (p : Nat) (n salt : Int) : BadF 6 #[.pointer (some ⟨p + 1 + 1, 0, none⟩), .pointer (some ⟨p + 1 + 1 + 1, 0, none⟩), .pointer (some ⟨p, 0, none⟩), .pointer (some ⟨p + 1, 0, none⟩)] (p + 4) n (mixP salt) (anX p) (AnB p n salt) := by
  refine ⟨fun args w => rfl, fun b hb => ?_, fun j w w' h hb => h.below hb, fun j w x h0 h1 hj h => any_ok p n salt j w x h0 h1 hj h⟩
  rcases hb with rfl | rfl <;> omega
theorem four_ok (w : World) (x : Int) : Calls Try.prog 8 #[.int .i64 x] w fun e w' => e = .returned (.bool (decide (4 ≤ x))) ∧ w' = w := by
  go_enter Try.func8, Try.ntmps8
  go_wp2_with fail
  go_ret
  exact ⟨ret_b (by simp), rfl⟩
/-- the four boxes -/
theorem any_boxes (w : World) (n salt : Int) : let W := (((w.alloc (.cells #[.int .i64 n] 3)).alloc (.cells #[.int .i64 salt] 3)).alloc (.cells #[.int .i64 0] 3)).alloc (.cells #[.bool true] 4)
    AnB w.heap.size n salt 0 W ∧ Below w.heap.size w W := by
  have b1 := belv w (.cells #[.int .i64 n] 3)
  have n1 : IB w.heap.size n (w.alloc (.cells #[.int .i64 n] 3)) := bis_new w _
  have z1 : (w.alloc (.cells #[.int .i64 n] 3)).heap.size = w.heap.size + 1 := by simp
  generalize w.alloc (.cells #[.int .i64 n] 3) = W1 at *
  have b2 := belv W1 (.cells #[.int .i64 salt] 3)
  have n2 : IB W1.heap.size salt (W1.alloc (.cells #[.int .i64 salt] 3)) := bis_new W1 _
  have z2 : (W1.alloc (.cells #[.int .i64 salt] 3)).heap.size = w.heap.size + 1 + 1 := by simp [z1]
  generalize W1.alloc (.cells #[.int .i64 salt] 3) = W2 at *
  have b3 := belv W2 (.cells #[.int .i64 0] 3)
  have n3 : IB W2.heap.size 0 (W2.alloc (.cells #[.int .i64 0] 3)) := bis_new W2 _
  have z3 : (W2.alloc (.cells #[.int .i64 0] 3)).heap.size = w.heap.size + 1 + 1 + 1 := by simp [z2]
  generalize W2.alloc (.cells #[.int .i64 0] 3) = W3 at *
  have b4 := belv W3 (.cells #[.bool true] 4)
  have n4 : BB W3.heap.size true (W3.alloc (.cells #[.bool true] 4)) := bis_new W3 _
  rw [z1] at n2
  rw [z2] at n3
  rw [z3] at n4
  exact ⟨⟨((n1.later b2).later b3).later b4, (n2.later b3).later b4, n3.later b4, n4⟩, below_trans (below_trans (below_trans b1 b2) b3) b4⟩
theorem any_value {P : Int → Bool} {n v q : Int} (h : FirstOk P n v q) : (¬ q = 0 ∧ v = 0) ∨ (q = 0 ∧ 0 ≤ v ∧ v < n) := by
  by_cases hr : 0 ≤ n ∧ n ≤ 1073741824
  · rcases h.within hr.1 hr.2 with ⟨h1, h2, h3⟩ | ⟨h1, h2⟩
    · exact .inr ⟨h1, h2, h3⟩
    · exact .inl ⟨by omega, h2⟩
  · obtain ⟨h1, h2⟩ := h.range hr
    exact .inl ⟨by omega, h1⟩

set_option maxHeartbeats 4000000 in
set_option maxRecDepth 100000 in
theorem walk (n salt : Int) (hbulk : 0 + 0 ≤ 1048576) (w : World) (wn : (Lit.int .i64 n).wf = true) (ws : (Lit.int .i64 salt).wf = true) :
    Calls Try.prog 3 #[.int .i64 n, .int .i64 salt] w fun e w' => e = .returned (.bool true) ∧ Below w.heap.size w w' := by
  have HB := Lib.hid (any_boxes w n salt)
  have hn63 : n ≤ 9223372036854775807 := by
    simp only [Lit.wf, IntKind.min, IntKind.max, IntKind.signed, IntKind.bits, Bool.and_eq_true] at wn
    simp at wn
    omega
  clear hbulk wn ws
  go_enter Try.func3, Try.ntmps3
  have p0 := HB.out.1.n.cell
  go_wp2_with fail
  generalize (((w.alloc (.cells #[.int .i64 n] 3)).alloc (.cells #[.int .i64 salt] 3)).alloc (.cells #[.int .i64 0] 3)).alloc (.cells #[.bool true] 4) = W0 at *
  have C1 := first_prog W0 (any_bad w.heap.size n salt) HB.out.1 (by have := HB.out.1.i.lt; omega)
  unfold FiPost at C1
  have C1 := Lib.hid C1
  ((with_reducible refine C1.out.mono ?_))
  rintro e w1 ⟨v, q, j, rfl, hv, hj, hj0, hI, hm⟩
  have I1 := Lib.hid hI
  have B1 := Lib.hid (show Below w.heap.size w w1 from ⟨hm.os.trans HB.out.2.os, hm.tape.trans HB.out.2.tape, hm.output.trans HB.out.2.output, Nat.le_trans HB.out.2.size hm.size, fun b hb => (hm.block b (Nat.lt_of_lt_of_le hb HB.out.2.size) (fun hx => by rcases hx with rfl | rfl <;> omega)).trans (HB.out.2.block b hb)⟩)
  have AV := Lib.hid (any_value hv)
  have JB := Lib.hid hj
  clear hv hj hj0 hI hm C1 HB p0
  have C3 := Lib.hid (four_told 8 w1 (fun args w => rfl) four_ok)
  go_wp2_with fail
  ((with_reducible refine C3.out.mono ?_))
  rintro e w2 ⟨rfl, hb2⟩
  have I2 := I1.out.later hb2
  have p0 := I2.n.cell
  have p1 := I2.a.cell
  have p2 := I2.i.cell
  have B2 := Lib.hid (below_trans B1.out hb2)
  clear I1 B1 hb2 C3 I2
  go_wp2_with fail
  go_loopw [11, 12] (fun kv mv wr => ∃ (x : Int) (k : Nat), mv = .int .i64 x ∧ kv = .int .i64 k ∧ wr = w2 ∧ x ≤ n ∧ Hid (k + bitsN x.toNat = bitsN n.toNat)) (fun _ mv _ => (intOf mv).toNat)
  case atStart => exact ⟨n, 0, rfl, rfl, rfl, Int.le_refl _, Lib.hid (Nat.zero_add _)⟩
  case round =>
    obtain ⟨x, k, rfl, rfl, rfl, hxn, hk⟩ := hrel
    have hb63 : (bitsN n.toNat : Int) ≤ 63 := by
      have := bits_small (m := n.toNat) (by omega)
      omega
    have hk63 : (k : Int) ≤ 63 := by have := hk.out; omega
    by_cases hx : 0 < x
    · have hd : (x / 2).toNat = x.toNat / 2 := by omega
      have hd2 : x / 2 ≤ n := by omega
      have hd3 : (x / 2).toNat < x.toNat := by omega
      have KB := Lib.hid (show k + 1 + bitsN (x / 2).toNat = bitsN n.toNat by
        have h1 := bits_step (m := x.toNat) (by omega)
        have := hk.out
        rw [hd]
        omega)
      go_wp2_with fail
      go_roundw
      case rel => exact ⟨x / 2, k + 1, rfl, by go_num, trivial, hd2, KB.out⟩
      case measure => simp [intOf]; omega
    · have hk0 : k = bitsN n.toNat := by
        have h1 : x.toNat = 0 := by omega
        have := hk.out
        rw [h1, bits_zero] at this
        omega
      have hjk : (j : Int) ≤ k := by have := JB.out; omega
      rcases AV.out with ⟨hq, rfl⟩ | ⟨rfl, hv0, hv1⟩
      · rw [errOf_no hq] at *
        clear AV JB hk
        go_wp2_with fail
        go_ret
        exact ⟨ret_b (by simp), B2.out⟩
      · rw [errOf_ok] at *
        clear AV JB hk
        go_wp2_with fail
        go_ret
        exact ⟨ret_b (by simp), B2.out⟩
end Go.Proofs.Ytcgbombilgacjaa.BisAnyLaw
