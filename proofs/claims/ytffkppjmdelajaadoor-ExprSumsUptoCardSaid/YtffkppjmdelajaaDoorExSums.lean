/-
  ExprSums: the sum of a list is that of its items, together; the greatest one of the list is that of one of them that have any.
  Conditions: the second form's bound on what comes in; the program's table subsByKind.
-/
import Derived.Test.YtffkppjmdelajaaDoorExLaw
import Derived.Test.YtffkppjmdelajaaDoorExLeaves
import Derived.Test.YtffkppjmdelajaaDoorExSumsL
import Derived.Deep.DeepCutAuto
namespace Go.Proofs.YtffkppjmdelajaaDoor.ExprSumsLaw
open Go.ChangeShapes Go.WideShapes Go.ChangeAt Go.RowKit Lists Gens Rng Vals Exprs
set_option linter.unusedVariables false

/-- a slice of values, each of at most so many levels -/
def VsAt (w : World) (S : Nat → Prop) (n : Nat) (A : Option Addr) (l : List Tr) : Prop :=
  0 < l.length → ∃ b off, A = some ⟨b, off, none⟩ ∧ S b ∧ ∀ j (h : j < l.length), ∃ x0 x1 x2, w.cell? ⟨b, off + j * 3, none⟩ = some x0 ∧ w.cell? ⟨b, off + j * 3 + 1, none⟩ = some x1 ∧ w.cell? ⟨b, off + j * 3 + 2, none⟩ = some x2 ∧ TAt w S n (.agg #[x0, x1, x2]) (l[j]'h)
theorem VsAt.list {w : World} {S : Nat → Prop} {n : Nat} {A : Option Addr} {l : List Tr} (h : VsAt w S n A l) (c : Nat) : TAt w S (n + 1) (vv (.node true 0 l) A c) (.node true 0 l) := ⟨(by decide : (Lit.int .i64 0).wf = true), A, c, rfl, h⟩
set_option maxRecDepth 100000 in
theorem open_values {H : Type} {enc : TypeId × Value → H} {w : World} {base : Nat} {r : Reach} {b0 : Nat} {spare : Nat → Bool} {held : Bool} {v : Value} {d : DataW H} {ps : List MemPlace}
    (hval : Value.okWide Tryd.prog w r b0 36 v) (hd : DataW.Trod enc Tryd.prog w base spare held 36 v d ps) :
    ∃ (A : Option Addr) (l : List Tr) (c n : Nat), v = .slice A l.length c ∧ VsAt w (Bel w.heap.size) n A l ∧ sizes l ≤ Rows.uptoBulk d := by
  obtain ⟨a0, len0, cap0, rfl⟩ := okWide_slice Tryd.underlying36 hval
  obtain ⟨fuel, hf⟩ := hd
  rcases DataW.trod_slice Tryd.underlying36 hf with ⟨hcs, hx⟩ | ⟨a, len, cap, elems, rest, n', rfl, hcs, hx, _, _, _, hel, hat, _, _⟩
  · simp [Value.cells] at hcs
    obtain ⟨rfl, rfl, rfl⟩ := hcs
    exact ⟨none, [], 0, 1, rfl, fun h => by simp at h, by simp [sizes]⟩
  · simp [Value.cells] at hcs
    obtain ⟨rfl, rfl, rfl⟩ := hcs
    simp only [Prod.mk.injEq] at hx
    obtain ⟨rfl, rfl⟩ := hx
    have each : ∀ i, i < len0 → ∃ t : Tr, ∃ cs' : List Value, w.cells? base (a.add (i * 3)) 3 = some cs' ∧ TAt w (Bel w.heap.size) n' (.agg cs'.toArray) t ∧ ∀ (hi : i < elems.length), t.size ≤ Rows.uptoBulk (elems[i]'hi).1 := by
      intro i hi
      have h1 := hat i hi
      rw [cells3] at h1
      have hi' : i < elems.length := by omega
      rw [List.getElem?_eq_getElem hi'] at h1
      obtain ⟨cs', hc, ht⟩ := Option.bind_eq_some_iff.1 h1
      obtain ⟨t, h2, h3⟩ := read_tree n' cs' _ ht
      exact ⟨t, cs', hc, h2, fun _ => h3⟩
    obtain ⟨f, hfx⟩ := Go.Deep.choose_lt each
    refine ⟨some a, (List.range' 0 len0).map f, cap0, n', by simp, fun hp => ?_, ?_⟩
    · have hp' : 0 < len0 := by simpa using hp
      obtain ⟨b, off, spot⟩ := a
      have hcell : ∀ i, i < len0 → ∀ q, q < 3 → ∃ u, w.cell? ((⟨b, off, spot⟩ : Addr).add (i * 3) |>.add q) = some u := by
        intro i hi q hq
        obtain ⟨cs', hc, _⟩ := hfx i hi
        obtain ⟨_, hl', hu⟩ := World.cells?_some hc
        exact ⟨_, (hu q hq).trans (List.getElem?_eq_getElem (by omega))⟩
      have hspot : spot = none := by
        obtain ⟨u, hu⟩ := hcell 0 hp' 0 (by omega)
        simpa [Addr.add] using World.cell?_spot hu
      subst hspot
      refine ⟨b, off, rfl, ?_, fun j hj => ?_⟩
      · obtain ⟨u, hu⟩ := hcell 0 hp' 0 (by omega)
        exact World.block_lt_of_cell? _ _ (by simpa [Addr.add] using hu)
      · have hj' : j < len0 := by simpa using hj
        obtain ⟨cs', hc, ht, _⟩ := hfx j hj'
        obtain ⟨_, hl', hu⟩ := World.cells?_some hc
        match cs', hl' with
        | [x0, x1, x2], _ =>
          have u0 := hu 0 (by omega)
          have u1 := hu 1 (by omega)
          have u2 := hu 2 (by omega)
          rw [Go.WideShapes.add_plain, Go.WideShapes.add_plain] at u0 u1 u2
          refine ⟨x0, x1, x2, by simpa using u0, by simpa using u1, by simpa using u2, ?_⟩
          have e : ((List.range' 0 len0).map f)[j]'hj = f j := by simp
          rw [e]
          exact ht
    · simp only [Rows.uptoBulk]
      have := sizes_bulk f (elems.map (·.1)) 0 (fun i hi => by
        have hi' : i < elems.length := by simpa using hi
        obtain ⟨_, _, _, hs⟩ := hfx i (by omega)
        have := hs hi'
        simpa using this)
      rw [List.length_map, hel] at this
      omega

set_option maxHeartbeats 8000000 in
set_option maxRecDepth 100000 in
theorem walk (l : List Tr) (A : Option Addr) (c n : Nat) (hbulk : sizes l ≤ 1048576) (w : World) (hl : VsAt w (Bel w.heap.size) n A l) (hsub : Subs w) :
    Calls Tryd.prog 10 #[.slice A l.length c] w fun e w' => e = .returned (.bool true) ∧ Below w.heap.size w w' := by
  have hln : l.length ≤ 1048576 := by have := len_sizes l; omega
  have hsz : (Tr.node true 0 l).size ≤ 1048577 := by rw [Tr.size]; omega
  have SV := Lib.hid (fun (W : World) (hb : Below w.heap.size w W) => seven_ok W (hsub.below hb))
  have EV := Lib.hid (fun (k : Int) (hk : k = 2 ∨ k = 3 ∨ k = 4) (W : World) (hb : Below w.heap.size w W) => by
    have h := eval_any (g := .node k 0 0 []) (t := .node true 0 l) (A := none) (c := 0) (vcp := c) (VA := A) (n := 1) (m := n + 1) (B := W.heap.size) W (by rcases hk with rfl | rfl | rfl <;> exact eat_leaf _ 0 0 (by decide) (by decide) 0) (((hl.list c).below hb).more hb.size) (Nat.le_refl _) (by simp [Gn.size, gsizes]) (by omega) (hsub.below hb)
    rw [(leaf_eval k (.node true 0 l) hk).1, (leaf_eval k (.node true 0 l) hk).2] at h
    exact (show Calls Tryd.prog 34 #[.agg #[.int .i64 k, .int .i64 0, .slice none 0 0], .agg #[.bool true, .int .i64 0, .slice A l.length c]] W _ from h))
  have EI := Lib.hid (fun (k : Int) (hk : k = 2 ∨ k = 3 ∨ k = 4) (y : Tr) (D : Option Addr) (d : Nat) (hys : y.size ≤ 1048576) (W : World) (hb : Below w.heap.size w W) (hy : TAt W (Bel W.heap.size) n (vv y D d) y) => by
    have h := eval_any (g := .node k 0 0 []) (t := y) (A := none) (c := 0) (n := 1) (B := W.heap.size) W (by rcases hk with rfl | rfl | rfl <;> exact eat_leaf _ 0 0 (by decide) (by decide) 0) hy (Nat.le_refl _) (by simp [Gn.size, gsizes]) (by omega) (hsub.below hb)
    rw [(leaf_eval k y hk).1, (leaf_eval k y hk).2] at h
    exact (show Calls Tryd.prog 34 #[.agg #[.int .i64 k, .int .i64 0, .slice none 0 0], .agg #[.bool y.list, .int .i64 y.num, .slice D y.items.length d]] W _ from h))
  have CK := Lib.hid (fun (W : World) (hb : Below w.heap.size w W) => check_prog (v := vv (.node true 0 l) A c) W ((hl.list c).below hb) hb.size (by omega))
  have LS := Lib.hid (fun (y : Tr) (D : Option Addr) (d : Nat) (hys : y.size ≤ 1048576) (W : World) (hb : Below w.heap.size w W) (hy : TAt W (Bel W.heap.size) n (vv y D d) y) => leaves_any n y (vv y D d) W.heap.size W hy (Nat.le_refl _) (by omega))
  have IT := Lib.hid (fun (W : World) (hb : Below w.heap.size w W) (k : Nat) (hk : k < l.length) => item_as (w := w) (wr := W) (B := w.heap.size) hl hb k hk)
  have HS := Lib.hid (fun (k : Nat) (hk : k < l.length) => show (l[k]'hk).size ≤ 1048576 by have := size_mem l _ (List.getElem_mem hk); omega)
  clear hl hsub hbulk hsz
  by_cases hf : faultV (.node true 0 l) 0 = 0
  · have FI := Lib.hid (fun (k : Nat) (hk : k < l.length) => fault_item hf k hk)
    have E2 := Lib.hid (show ∀ (W : World) (hb : Below w.heap.size w W), Calls Tryd.prog 34 #[.agg #[.int .i64 2, .int .i64 0, .slice none 0 0], .agg #[.bool true, .int .i64 0, .slice A l.length c]] W (fun e w' => e = .returned (.tuple #[.int .i64 (sumL (leavesTs l) 0), .nilIface]) ∧ Below W.heap.size W w') from by
      have h := EV.out 2 (by decide); rw [hf] at h; exact h)
    have E3 := Lib.hid (show ∀ (W : World) (hb : Below w.heap.size w W), Calls Tryd.prog 34 #[.agg #[.int .i64 3, .int .i64 0, .slice none 0 0], .agg #[.bool true, .int .i64 0, .slice A l.length c]] W (fun e w' => e = .returned (.tuple #[.int .i64 ((topS (leavesTs l) none).getD 0), .nilIface]) ∧ Below W.heap.size W w') from by
      have h := EV.out 3 (by decide); rw [hf] at h; exact h)
    have E4 := Lib.hid (show ∀ (W : World) (hb : Below w.heap.size w W), Calls Tryd.prog 34 #[.agg #[.int .i64 4, .int .i64 0, .slice none 0 0], .agg #[.bool true, .int .i64 0, .slice A l.length c]] W (fun e w' => e = .returned (.tuple #[.int .i64 (l.length : Int), .nilIface]) ∧ Below W.heap.size W w') from by
      have h := EV.out 4 (by decide); rw [hf] at h; exact h)
    clear hf EV CK
    go_enter Tryd.func10, Tryd.ntmps10
    go_wp2_with fail
    refine (SV.out _ (Below.refl _ _)).mono ?_
    rintro e w1 ⟨rfl, b1⟩
    have bx := (Below.refl w1.heap.size w1).alloc (Nat.le_refl _) (.cells #[.bool true, .int .i64 0, .slice A l.length c] 38)
    have HB := Lib.hid (on b1 bx)
    have BX := Lib.hid (fun (W : World) (hb : Below (w1.alloc (.cells #[.bool true, .int .i64 0, .slice A l.length c] 38)).heap.size (w1.alloc (.cells #[.bool true, .int .i64 0, .slice A l.length c] 38)) W) => ebox w1 W _ _ _ _ hb)
    clear bx b1
    go_wp2_with fail
    generalize w1.alloc (.cells #[.bool true, .int .i64 0, .slice A l.length c] 38) = w0 at HB BX ⊢
    refine (E2.out _ HB.out).mono ?_
    rintro e w2 ⟨rfl, b2⟩
    obtain ⟨k0, k1, k2⟩ := BX.out w2 b2
    go_wp2_with fail
    refine (E3.out _ (on HB.out b2)).mono ?_
    rintro e w3 ⟨rfl, b3⟩
    have B3 := on b2 b3
    clear k0 k1 k2 b2 b3
    obtain ⟨k0, k1, k2⟩ := BX.out w3 B3
    go_wp2_with fail
    refine (E4.out _ (on HB.out B3)).mono ?_
    rintro e w4 ⟨rfl, b4⟩
    have B4 := Lib.hid (on HB.out (on B3 b4))
    clear k0 k1 k2 B3 b4 BX E2 E3 E4 SV HB
    go_wp2_with fail
    go_loopw [12, 13, 14, 15] (fun s p f i wr => ∃ k : Nat, k ≤ l.length ∧ i = .int .i64 k ∧ s = .int .i64 (sumL (leavesTs (l.take k)) 0) ∧ p = .int .i64 ((topS (leavesTs (l.take k)) none).getD 0) ∧ f = .bool (topS (leavesTs (l.take k)) none).isSome ∧ Below w.heap.size w wr) (fun _ _ _ i _ => l.length - (intOf i).toNat)
    case atStart => exact ⟨0, Nat.zero_le _, rfl, rfl, rfl, rfl, B4.out⟩
    case round =>
      obtain ⟨k, hk, rfl, rfl, rfl, rfl, hb⟩ := hrel
      by_cases hlt : k < l.length
      · obtain ⟨ib, off, D, d, rfl, c0, c1, c2, hti⟩ := IT.out wr hb k hlt
        have hfi := FI.out k hlt
        have SJ := Lib.hid (sum_join l k hlt)
        have TJ := Lib.hid (top_join l k hlt)
        have hys := HS.out k hlt
        have HBW := Lib.hid hb
        have ITB := Lib.hid (fun (W : World) (hb2 : Below wr.heap.size wr W) => (show (W.cell? ⟨ib, off + k * 3, none⟩ = some (.bool (l[k]'hlt).list) ∧ W.cell? ⟨ib, off + k * 3 + 1, none⟩ = some (.int .i64 (l[k]'hlt).num) ∧ W.cell? ⟨ib, off + k * 3 + 2, none⟩ = some (.slice D (l[k]'hlt).items.length d)) ∧ TAt W (Bel W.heap.size) n (vv (l[k]'hlt) D d) (l[k]'hlt) from ⟨⟨cell_later hb2 c0, cell_later hb2 c1, cell_later hb2 c2⟩, (((hti.more hb.size).below hb2).more hb2.size)⟩))
        clear hti hb
        generalize l[k]'hlt = y at hfi SJ TJ hys ITB c0 c1 c2
        have I2 := Lib.hid (fun (W : World) (hb2 : Below wr.heap.size wr W) => show Calls Tryd.prog 34 #[.agg #[.int .i64 2, .int .i64 0, .slice none 0 0], .agg #[.bool y.list, .int .i64 y.num, .slice D y.items.length d]] W (fun e w' => e = .returned (.tuple #[.int .i64 (sumT y), .nilIface]) ∧ Below W.heap.size W w') from by
          have h := EI.out 2 (by decide) y D d hys W (on HBW.out hb2) (ITB.out W hb2).2; rw [hfi] at h; exact h)
        have I3 := Lib.hid (fun (W : World) (hb2 : Below wr.heap.size wr W) => show Calls Tryd.prog 34 #[.agg #[.int .i64 3, .int .i64 0, .slice none 0 0], .agg #[.bool y.list, .int .i64 y.num, .slice D y.items.length d]] W (fun e w' => e = .returned (.tuple #[.int .i64 (topT y), .nilIface]) ∧ Below W.heap.size W w') from by
          have h := EI.out 3 (by decide) y D d hys W (on HBW.out hb2) (ITB.out W hb2).2; rw [hfi] at h; exact h)
        have I4 := Lib.hid (fun (W : World) (hb2 : Below wr.heap.size wr W) => LS.out y D d hys W (on HBW.out hb2) (ITB.out W hb2).2)
        have LL := Lib.hid (show (leavesT y).length ≤ 1048576 by have := leaves_len y; omega)
        obtain ⟨q, hq⟩ : ∃ q, q = leavesT y := ⟨_, rfl⟩
        have I4 := Lib.hid (fun (W : World) (hb2 : Below wr.heap.size wr W) => (I4.out W hb2).mono (R' := fun e w' => ∃ (A : Option Addr) (c : Nat), e = .returned (.slice A q.length c) ∧ Below W.heap.size W w') (fun e w' ⟨A, c, h1, _, h2⟩ => ⟨A, c, by rw [hq]; exact h1, h2⟩))
        rw [← hq] at TJ LL
        generalize sumT y = sy at *
        generalize topT y = ty at *
        generalize sumL (leavesTs (l.take k)) 0 = s at *
        generalize topS (leavesTs (l.take k)) none = o at *
        clear hfi hys hq
        have lq := LL.out
        go_wp2_with fail
        refine (I2.out _ (Below.refl _ _)).mono ?_
        rintro e w5 ⟨rfl, b5⟩
        clear c0 c1 c2
        obtain ⟨c0, c1, c2⟩ := (ITB.out w5 b5).1
        go_wp2_with fail
        refine (I3.out _ b5).mono ?_
        rintro e w6 ⟨rfl, b6⟩
        have B6 := on b5 b6
        clear c0 c1 c2 b5 b6
        obtain ⟨c0, c1, c2⟩ := (ITB.out w6 B6).1
        go_wp2_with fail
        refine (I4.out _ B6).mono ?_
        rintro e w7 ⟨QA, qc, rfl, b7⟩
        have B7 := Lib.hid (on HBW.out (on B6 b7))
        clear c0 c1 c2 B6 b7 ITB I2 I3 I4
        by_cases hq : q = []
        · have TJ := Lib.hid (show topS (leavesTs (l.take (k + 1))) none = o by rw [TJ.out, if_pos hq])
          have gq : decide (0 < (q.length : Int)) = false := by rw [hq]; rfl
          have gq2 : decide (0 < q.length) = false := by rw [hq]; rfl
          clear hq
          go_wp2_with fail
          go_roundw
          case rel => exact ⟨k + 1, hlt, by go_num, by rw [SJ.out], by rw [TJ.out], by rw [TJ.out], B7.out⟩
          case measure => simp [intOf]; omega
        · have TJ := Lib.hid (show topS (leavesTs (l.take (k + 1))) none = joinT o ty by rw [TJ.out, if_neg hq])
          have hp := List.length_pos_iff.2 hq
          have gq : decide (0 < (q.length : Int)) = true := by rw [decide_eq_true_eq]; omega
          have gq2 : decide (0 < q.length) = true := by rw [decide_eq_true_eq]; omega
          clear hq hp
          cases o with
          | none =>
            have TJ := Lib.hid (show topS (leavesTs (l.take (k + 1))) none = some ty from TJ.out)
            simp only [Option.getD_none, Option.isSome_none]
            go_wp2_with fail
            go_roundw
            case rel => exact ⟨k + 1, hlt, by go_num, by rw [SJ.out], by rw [TJ.out]; rfl, by rw [TJ.out]; rfl, B7.out⟩
            case measure => simp [intOf]; omega
          | some m =>
            simp only [Option.getD_some, Option.isSome_some]
            by_cases hm : m < ty
            · have TJ := Lib.hid (show topS (leavesTs (l.take (k + 1))) none = some ty by rw [TJ.out]; simp [joinT, hm])
              have g := decide_eq_true hm
              clear hm
              go_wp2_with fail
              go_roundw
              case rel => exact ⟨k + 1, hlt, by go_num, by rw [SJ.out], by rw [TJ.out]; rfl, by rw [TJ.out]; rfl, B7.out⟩
              case measure => simp [intOf]; omega
            · have TJ := Lib.hid (show topS (leavesTs (l.take (k + 1))) none = some m by rw [TJ.out]; simp [joinT, hm])
              have g := decide_eq_false hm
              clear hm
              go_wp2_with fail
              go_roundw
              case rel => exact ⟨k + 1, hlt, by go_num, by rw [SJ.out], by rw [TJ.out]; rfl, by rw [TJ.out]; rfl, B7.out⟩
              case measure => simp [intOf]; omega
      · have EZ := Lib.hid (show l.take k = l from List.take_of_length_le (by omega))
        rw [EZ.out]
        have HBW := Lib.hid hb
        clear hb
        go_wp2_with fail
        go_ret
        exact ⟨by simp, HBW.out⟩
  · have EF := Lib.hid (fun (k : Int) (hk : k = 2 ∨ k = 3 ∨ k = 4) (W : World) (hb : Below w.heap.size w W) => show Calls Tryd.prog 34 #[.agg #[.int .i64 k, .int .i64 0, .slice none 0 0], .agg #[.bool true, .int .i64 0, .slice A l.length c]] W (fun e w' => e = .returned (.tuple #[.int .i64 0, .iface 30 (.int .i64 (faultV (.node true 0 l) 0))]) ∧ Below W.heap.size W w') from by
      have h := EV.out k hk W hb; rw [if_neg hf, errOf_no hf] at h; exact h)
    rw [errOf_no hf] at CK
    clear hf EV
    generalize faultV (.node true 0 l) 0 = f at *
    go_enter Tryd.func10, Tryd.ntmps10
    go_wp2_with fail
    refine (SV.out _ (Below.refl _ _)).mono ?_
    rintro e w1 ⟨rfl, b1⟩
    have bx := (Below.refl w1.heap.size w1).alloc (Nat.le_refl _) (.cells #[.bool true, .int .i64 0, .slice A l.length c] 38)
    have HB := Lib.hid (on b1 bx)
    have BX := Lib.hid (fun (W : World) (hb : Below (w1.alloc (.cells #[.bool true, .int .i64 0, .slice A l.length c] 38)).heap.size (w1.alloc (.cells #[.bool true, .int .i64 0, .slice A l.length c] 38)) W) => ebox w1 W _ _ _ _ hb)
    clear bx b1
    go_wp2_with fail
    generalize w1.alloc (.cells #[.bool true, .int .i64 0, .slice A l.length c] 38) = w0 at HB BX ⊢
    refine (EF.out 2 (by decide) _ HB.out).mono ?_
    rintro e w2 ⟨rfl, b2⟩
    obtain ⟨k0, k1, k2⟩ := BX.out w2 b2
    go_wp2_with fail
    refine (EF.out 3 (by decide) _ (on HB.out b2)).mono ?_
    rintro e w3 ⟨rfl, b3⟩
    have B3 := on b2 b3
    clear k0 k1 k2 b2 b3
    obtain ⟨k0, k1, k2⟩ := BX.out w3 B3
    go_wp2_with fail
    refine (EF.out 4 (by decide) _ (on HB.out B3)).mono ?_
    rintro e w4 ⟨rfl, b4⟩
    have B4 := on B3 b4
    clear k0 k1 k2 B3 b4
    obtain ⟨k0, k1, k2⟩ := BX.out w4 B4
    go_wp2_with fail
    refine (CK.out _ (on HB.out B4)).mono ?_
    rintro e w5 ⟨rfl, b5⟩
    go_wp2_with fail
    go_ret
    exact ⟨rfl, on (on HB.out B4) b5⟩
end Go.Proofs.YtffkppjmdelajaaDoor.ExprSumsLaw
