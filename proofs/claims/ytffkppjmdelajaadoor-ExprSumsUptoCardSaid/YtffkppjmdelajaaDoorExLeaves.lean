/- The document's own Leaves. Conditions: the size. -/
import Derived.Test.YtffkppjmdelajaaDoorExEach
import Derived.Test.YtffkppjmdelajaaDoorGrow
namespace Go.Proofs.YtffkppjmdelajaaDoor.Exprs
open Go.RowKit Lists Ints Gens Rng Vals
set_option linter.unusedVariables false

theorem eown_one {w : World} {base b : Nat} {x : Int} (hb : base ≤ b) (h : w.heap[b]? = some (.cells #[.int .i64 x] 3 (0, 0))) : Own w base (some ⟨b, 0, none⟩) 1 [x] :=
  ⟨rfl, .inr ⟨b, 1, #[.int .i64 x], rfl, hb, h, Nat.le_refl _, by decide, rfl, rfl⟩⟩
theorem own_more {w : World} {base base' c : Nat} {A : Option Addr} {z : List Int} (h : Own w base A c z) (hb : base' ≤ base) : Own w base' A c z := by
  refine ⟨h.1, ?_⟩
  rcases h.2 with h0 | ⟨g, cap, cur, he, hg, h1⟩
  · exact .inl h0
  · exact .inr ⟨g, cap, cur, he, Nat.le_trans hb hg, h1⟩
/-- what Leaves hands back -/
def LvPost (t : Tr) (w : World) (e : Ending) (w' : World) : Prop :=
  ∃ (A : Option Addr) (c : Nat), e = .returned (.slice A (leavesT t).length c) ∧ Own w' w.heap.size A c (leavesT t) ∧ Below w.heap.size w w'
set_option maxHeartbeats 2000000 in
set_option maxRecDepth 100000 in
theorem leaves_any : ∀ (n : Nat) (t : Tr) (v : Value) (B : Nat) (w : World), TAt w (Bel B) n v t → B ≤ w.heap.size → t.size ≤ 1073741824 →
    Calls Tryd.prog 40 #[v] w (LvPost t w) := by
  intro n
  induction n with
  | zero => intro t v B w h; exact h.elim
  | succ n ih =>
    intro t v B w h hB hsz
    obtain ⟨m, A, c, e, hw, rfl, hit⟩ := h.open_
    obtain rfl : n = m := by omega
    have IH := Lib.hid ih
    have HIT := Lib.hid hit
    have HB := Lib.hid hB
    have HS := Lib.hid hsz
    have hln : t.items.length ≤ 4294967296 := by have := len_sizes t.items; have := size_items t; omega
    have SB := Lib.hid (size_items t)
    have LE := Lib.hid (leavesT_eq t)
    have LN := Lib.hid (leavess_len t.items)
    have b0 : Below w.heap.size w (w.alloc (vc t A c)) := (Below.refl _ _).alloc (Nat.le_refl _) _
    have H0 := Lib.hid b0
    clear ih hit h hB hsz e hw b0
    cases t with | node tl x its =>
    simp only [Tr.list, Tr.num, Tr.items] at *
    cases tl with
    | false =>
      have LE := Lib.hid (show leavesT (.node false x its) = [x] from LE.out)
      have O1 := Lib.hid (eown_one (base := w.heap.size) (b := w.heap.size + 1) (x := x) (w := (w.alloc (.cells #[.bool false, .int .i64 x, .slice A its.length c] 38)).alloc (.cells #[.int .i64 x] 3)) (by omega) (by
        have := eheap_new (w.alloc (.cells #[.bool false, .int .i64 x, .slice A its.length c] 38)) (.cells #[.int .i64 x] 3)
        simpa using this))
      have B1 := Lib.hid (show Below w.heap.size w ((w.alloc (.cells #[.bool false, .int .i64 x, .slice A its.length c] 38)).alloc (.cells #[.int .i64 x] 3)) from ((Below.refl _ _).alloc (Nat.le_refl _) _).alloc (by simp) _)
      go_enter Tryd.func40, Tryd.ntmps40
      go_wp2_with fail
      go_ret
      exact ⟨some ⟨w.heap.size + 1, 0, none⟩, 1, by rw [LE.out]; rfl, by rw [LE.out]; exact O1.out, B1.out⟩
    | true =>
      have LE2 := Lib.hid (show leavesT (.node true x its) = leavesTs its from LE.out)
      clear LE
      go_enter Tryd.func40, Tryd.ntmps40
      go_wp2_with fail
      go_loopw [3, 4] (fun v i wr => ∃ (j : Nat) (A2 : Option Addr) (c2 : Nat) (z : List Int), j ≤ its.length ∧ i = .int .i64 j ∧ v = .slice A2 z.length c2 ∧ Hid (z = leavesTs (its.take j)) ∧ Hid (Own wr (w.heap.size + 1) A2 c2 z) ∧ Hid (Below (w.heap.size + 1) (w.alloc (.cells #[.bool true, .int .i64 x, .slice A its.length c] 38)) wr)) (fun _ i _ => its.length - (intOf i).toNat)
      case atStart => exact ⟨0, none, 0, [], Nat.zero_le _, rfl, rfl, (rfl : [] = leavesTs (its.take 0)), Own.none, Below.refl _ _⟩
      case round =>
        obtain ⟨j, A2, c2, z, hj, rfl, rfl, hz, ho, hbb⟩ := hrel
        have cb := hbb.out.cell (p := ⟨w.heap.size, 2, none⟩) (by show w.heap.size < _; omega)
        have cb' : wr.cell? ⟨w.heap.size, 2, none⟩ = some (.slice A its.length c) := by rw [cb]; simp
        clear cb
        by_cases hlt : j < its.length
        · have HW := Lib.hid (show Below w.heap.size w wr from H0.out.trans (hbb.out.mono (by omega)))
          obtain ⟨b, off, D, d, rfl, c0, c1, c2', hti⟩ := item_as HIT.out (HW.out.mono HB.out) j hlt
          have C1 := Lib.hid (IH.out (its[j]'hlt) _ _ wr hti (Nat.le_trans HB.out HW.out.size) (by have := size_mem its _ (List.getElem_mem hlt); have h3 := HS.out; have := SB.out; omega))
          have TK := Lib.hid (leaves_take its j hlt)
          have LL := Lib.hid (show z.length + (leavesT (its[j]'hlt)).length ≤ 1073741824 by
            have h1 := TK.out
            have h2 := leavess_len (its.take (j + 1))
            have h4 : (leavesTs (its.take (j + 1))).length ≤ (leavesTs its).length := by
              have := leavesTs_app (its.take (j + 1)) (its.drop (j + 1))
              rw [List.take_append_drop] at this
              rw [this]; simp
            have h5 := LN.out
            have h6 := HS.out
            have h7 := SB.out
            rw [h1, List.length_append] at h4
            rw [hz.out]
            omega)
          clear hti
          generalize its[j]'hlt = y at C1 TK LL c0 c1 c2'
          obtain ⟨q, hq⟩ : ∃ q, q = leavesT y := ⟨_, rfl⟩
          have C2 := Lib.hid (C1.out.mono (R' := fun e w' => ∃ (A : Option Addr) (c : Nat), e = .returned (.slice A q.length c) ∧ Own w' wr.heap.size A c q ∧ Below wr.heap.size wr w') (fun e w' h => by rw [hq]; exact h))
          rw [← hq] at TK LL
          clear C1 hq
          go_wp2_with (first
            | (with_reducible refine C2.out.mono ?_
               rintro e w2 ⟨A3, c3, rfl, own3, hb2⟩
               have B2 := Lib.hid (hbb.out.trans (hb2.mono (by have := hbb.out.size; simp at this; omega)))
               have O2 := Lib.hid (ho.out.below hb2)
               have O3 := Lib.hid own3
               have Z2 := Lib.hid (show w.heap.size + 1 ≤ w2.heap.size by have := hbb.out.size; have := hb2.size; simp at *; omega)
               clear own3 hb2 cb')
            | (at_builtin
               refine wpList_append_ints rfl (.tmp 18) (.tmp 24) rfl (w.heap.size + 1) c2 A2 z O2.out w2.heap.size A3 c3 q O3.out.at_ rfl rfl (by have := LL.out; omega) Z2.out ?_
               intro A5 c5 w5 z5 hz5 own5 g5 r5
               have E5 := Lib.hid (B2.out.grown g5 (by have := Z2.out; simp; omega) (by intro k hk; exact O2.out.ge k hk))
               have O5 := Lib.hid own5
               clear own5 g5 r5))
          go_roundw
          case rel => exact ⟨j + 1, A5, c5, z5, hlt, by go_num, rfl, (show z5 = leavesTs (its.take (j + 1)) by rw [hz5.out, TK.out, hz.out]), O5.out, E5.out⟩
          case measure => simp [intOf]; omega
        · have EV := Lib.hid (show z = leavesT (.node true x its) by rw [LE2.out, hz.out, List.take_of_length_le (by omega)])
          have HW := Lib.hid (show Below w.heap.size w wr from H0.out.trans (hbb.out.mono (by omega)))
          go_wp2_with fail
          go_ret
          exact ⟨A2, c2, (by rw [← EV.out]; rfl), by rw [← EV.out]; exact own_more ho.out (by omega), HW.out⟩
end Go.Proofs.YtffkppjmdelajaaDoor.Exprs
