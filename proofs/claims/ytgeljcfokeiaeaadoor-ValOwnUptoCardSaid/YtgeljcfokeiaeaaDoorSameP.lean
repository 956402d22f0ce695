/- Contract of val.Same. Conditions: the size; the library's table. -/
import Derived.Test.YtgeljcfokeiaeaaDoorCheck
import Derived.Test.YtgeljcfokeiaeaaDoorLater
import Derived.Test.YtgeljcfokeiaeaaDoorSameVal
namespace Go.Proofs.YtgeljcfokeiaeaaDoor.Vals
open Go.RowKit Lists Ints Build Ref Rng
set_option linter.unusedVariables false

abbrev tv (t : Tr) (A : Option Addr) (c : Nat) : Value := .agg #[.bool t.list, .int .i64 t.num, .slice A t.items.length c]
abbrev tc (t : Tr) (A : Option Addr) (c : Nat) : Obj := .cells #[.bool t.list, .int .i64 t.num, .slice A t.items.length c] 24
/-- a box of a value -/
theorem box_facts (w w' : World) (x0 x1 x2 : Value) (h : Below (w.alloc (.cells #[x0, x1, x2] 24)).heap.size (w.alloc (.cells #[x0, x1, x2] 24)) w') :
    w'.cell? ⟨w.heap.size, 0, none⟩ = some x0 ∧ w'.cell? ⟨w.heap.size, 1, none⟩ = some x1 ∧ w'.cell? ⟨w.heap.size, 2, none⟩ = some x2 := by
  have hb := h.block w.heap.size (by simp)
  rw [heap_new] at hb
  exact ⟨by rw [Lib.cell_of_heap hb]; rfl, by rw [Lib.cell_of_heap hb]; rfl, by rw [Lib.cell_of_heap hb]; rfl⟩
def sameP (t u : Tr) : Bool := decide (faultV t 0 = 0) && decide (faultV u 0 = 0) && decide (textV t = textV u)
theorem eq_bytes {a b : List UInt8} : ((⟨a.toArray⟩ : ByteArray).toList == (⟨b.toArray⟩ : ByteArray).toList) = decide (a = b) := by
  rw [ByteArray.toList_eq, ByteArray.toList_eq, Bool.eq_iff_iff]
  simp

set_option maxHeartbeats 4000000 in
set_option maxRecDepth 100000 in
theorem same_prog {n m : Nat} {t u : Tr} {A D : Option Addr} {c d B : Nat} (w : World) (h : TAt w (Bel B) n (tv t A c) t) (h' : TAt w (Bel B) m (tv u D d) u) (hB : B ≤ w.heap.size) (hs : t.size ≤ 4294967296) (hs' : u.size ≤ 4294967296) (ht : Tab w) :
    Calls Tryd.prog 17 #[tv t A c, tv u D d] w fun e w' => e = .returned (.bool (sameP t u)) ∧ Below w.heap.size w w' := by
  have hb : Below w.heap.size w ((w.alloc (tc t A c)).alloc (tc u D d)) := ((Below.refl _ _).alloc (Nat.le_refl _) _).alloc (by simp) _
  obtain ⟨q0, q1, q2⟩ := box_facts w ((w.alloc (tc t A c)).alloc (tc u D d)) (.bool t.list) (.int .i64 t.num) (.slice A t.items.length c) ((Below.refl _ _).alloc (Nat.le_refl _) _)
  obtain ⟨r0, r1, r2⟩ := box_facts (w.alloc (tc t A c)) ((w.alloc (tc t A c)).alloc (tc u D d)) (.bool u.list) (.int .i64 u.num) (.slice D u.items.length d) (Below.refl _ _)
  have hW : w.heap.size ≤ ((w.alloc (tc t A c)).alloc (tc u D d)).heap.size := hb.size
  simp only [World.size_alloc] at r0 r1 r2
  have H1 := h.below (hb.mono hB)
  have H2 := h'.below (hb.mono hB)
  have T1 := ht.below hb
  have CT := fun (x : Later ((w.alloc (tc t A c)).alloc (tc u D d))) => check_prog (lat x) (H1.below ((lat_below x).mono (Nat.le_trans hB hW))) (Nat.le_trans (Nat.le_trans hB hW) (lat_below x).size) hs
  have CU := fun (x : Later ((w.alloc (tc t A c)).alloc (tc u D d))) => check_prog (lat x) (H2.below ((lat_below x).mono (Nat.le_trans hB hW))) (Nat.le_trans (Nat.le_trans hB hW) (lat_below x).size) hs'
  have TT := fun (x : Later ((w.alloc (tc t A c)).alloc (tc u D d))) => text_prog (lat x) (H1.below ((lat_below x).mono (Nat.le_trans hB hW))) (Nat.le_trans (Nat.le_trans hB hW) (lat_below x).size) hs (T1.below (lat_below x))
  have TU := fun (x : Later ((w.alloc (tc t A c)).alloc (tc u D d))) => text_prog (lat x) (H2.below ((lat_below x).mono (Nat.le_trans hB hW))) (Nat.le_trans (Nat.le_trans hB hW) (lat_below x).size) hs' (T1.below (lat_below x))
  have HB := Lib.hid hb
  have p0 := fun (x : Later ((w.alloc (tc t A c)).alloc (tc u D d))) => lat_cell q0 x
  have p1 := fun (x : Later ((w.alloc (tc t A c)).alloc (tc u D d))) => lat_cell q1 x
  have p2 := fun (x : Later ((w.alloc (tc t A c)).alloc (tc u D d))) => lat_cell q2 x
  have s0 := fun (x : Later ((w.alloc (tc t A c)).alloc (tc u D d))) => lat_cell r0 x
  have s1 := fun (x : Later ((w.alloc (tc t A c)).alloc (tc u D d))) => lat_cell r1 x
  have s2 := fun (x : Later ((w.alloc (tc t A c)).alloc (tc u D d))) => lat_cell r2 x
  clear h h' hB hs hs' ht hb hW H1 H2 T1 q0 q1 q2 r0 r1 r2
  have HE := Lib.hid (eq_bytes (a := textV t) (b := textV u))
  have SP := Lib.hid (show sameP t u = (decide (faultV t 0 = 0) && decide (faultV u 0 = 0) && decide (textV t = textV u)) from rfl)
  by_cases f1 : faultV t 0 = 0
  · rw [f1, errOf_ok] at CT
    by_cases f2 : faultV u 0 = 0
    · rw [f2, errOf_ok] at CU
      have SP := Lib.hid (show sameP t u = decide (textV t = textV u) by rw [SP.out, f1, f2]; simp)
      generalize (⟨(textV t).toArray⟩ : ByteArray) = st at TT HE
      generalize (⟨(textV u).toArray⟩ : ByteArray) = su at TU HE
      obtain ⟨b, hb⟩ : ∃ b, b = decide (textV t = textV u) := ⟨_, rfl⟩
      rw [← hb] at HE SP
      have HCT := Lib.hid CT
      have HCU := Lib.hid CU
      have HTT := Lib.hid TT
      have HTU := Lib.hid TU
      clear f1 f2 CT CU TT TU hb
      have he : (st.toList == su.toList) = b := HE.out
      go_enter Tryd.func17, Tryd.ntmps17
      go_wp2_with fail
      refine wp_region_later (by kernel_rfl) (by kernel_rfl) ?_
      repeat (go_big_quiet_step (first | (go_at_call 11; first | (with_reducible exact later_call (HCT.out _)) | (with_reducible exact later_call (HCU.out _))) | (go_at_call 15; first | (with_reducible exact later_call (HTT.out _)) | (with_reducible exact later_call (HTU.out _)))))
      refine wpQuiet_nil ?_
      intro _ hw'
      obtain ⟨nq, hw''⟩ := hw'
      subst hw''
      go_wp2_with fail
      go_ret
      exact ⟨ret_b SP.out.symm, HB.out.trans ((lat_below nq).mono (by have := HB.out.size; exact this))⟩
    · have SP := Lib.hid (show sameP t u = false by rw [SP.out]; simp [f2])
      rw [errOf_no f2] at CU
      generalize faultV u 0 = q at CU
      have HCT := Lib.hid CT
      have HCU := Lib.hid CU
      clear f1 f2 CT CU TT TU HE
      go_enter Tryd.func17, Tryd.ntmps17
      go_wp2_with fail
      refine wp_region_later (by kernel_rfl) (by kernel_rfl) ?_
      repeat (go_big_quiet_step (first | (go_at_call 11; first | (with_reducible exact later_call (HCT.out _)) | (with_reducible exact later_call (HCU.out _)))))
      refine wpQuiet_nil ?_
      intro _ hw'
      obtain ⟨nq, hw''⟩ := hw'
      subst hw''
      go_wp2_with fail
      go_ret
      exact ⟨ret_b SP.out.symm, HB.out.trans ((lat_below nq).mono (by have := HB.out.size; exact this))⟩
  · have SP := Lib.hid (show sameP t u = false by rw [SP.out]; simp [f1])
    rw [errOf_no f1] at CT
    generalize faultV t 0 = q at CT
    have HCT := Lib.hid CT
    clear f1 CT CU TT TU HE
    go_enter Tryd.func17, Tryd.ntmps17
    go_wp2_with fail
    refine wp_region_later (by kernel_rfl) (by kernel_rfl) ?_
    repeat (go_big_quiet_step (first | (go_at_call 11; exact later_call (HCT.out _))))
    refine wpQuiet_nil ?_
    intro _ hw'
    obtain ⟨nq, hw''⟩ := hw'
    subst hw''
    go_wp2_with fail
    go_ret
    exact ⟨ret_b SP.out.symm, HB.out.trans ((lat_below nq).mono (by have := HB.out.size; exact this))⟩
end Go.Proofs.YtgeljcfokeiaeaaDoor.Vals
