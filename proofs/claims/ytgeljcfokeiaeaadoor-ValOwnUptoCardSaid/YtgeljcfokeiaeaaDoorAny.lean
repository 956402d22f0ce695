/- Contract of strings.IndexAny at "( )", of whatever bytes. Condition: the size. -/
import Derived.Test.YtgeljcfokeiaeaaDoorRune
import Derived.Lib.IndexAny
import Derived.Lib.Walk
import Derived.Deep.WholeRow
namespace Go.Proofs.YtgeljcfokeiaeaaDoor.Build
open Go.RowKit
set_option linter.unusedVariables false

theorem decode_bytes (s : ByteArray) (i : Nat) (h : i < s.size) (ha : 128 ≤ (s[i]'h).toNat) :
    1 ≤ (Utf8.decode s i).2 ∧ i + (Utf8.decode s i).2 ≤ s.size ∧ ∀ j, j < (Utf8.decode s i).2 → 128 ≤ (s.get! (i + j)).toNat := by
  have h0 : 128 ≤ (s.get! (i + 0)).toNat := by rw [get_at s i h]; exact ha
  have hn : ¬ (s.get! (i + 0)).toNat < 128 := by omega
  have one : 1 ≤ 1 ∧ i + 1 ≤ s.size ∧ ∀ j, j < 1 → 128 ≤ (s.get! (i + j)).toNat := ⟨Nat.le_refl _, h, fun j hj => (show j = 0 by omega) ▸ h0⟩
  unfold Utf8.decode
  simp only [hn, if_false]
  split
  · rename_i h1
    simp only [Bool.and_eq_true, beq_iff_eq, decide_eq_true_eq] at h1
    split
    · refine ⟨by simp, by simp; omega, fun j hj => ?_⟩
      simp at hj
      rcases (show j = 0 ∨ j = 1 by omega) with rfl | rfl
      · exact h0
      · omega
    · exact one
  · split
    · rename_i h1
      simp only [Bool.and_eq_true, beq_iff_eq, decide_eq_true_eq] at h1
      split
      · refine ⟨by simp, by simp; omega, fun j hj => ?_⟩
        simp at hj
        rcases (show j = 0 ∨ j = 1 ∨ j = 2 by omega) with rfl | rfl | rfl
        · exact h0
        · omega
        · omega
      · exact one
    · split
      · rename_i h1
        simp only [Bool.and_eq_true, beq_iff_eq, decide_eq_true_eq] at h1
        split
        · refine ⟨by simp, by simp; omega, fun j hj => ?_⟩
          simp at hj
          rcases (show j = 0 ∨ j = 1 ∨ j = 2 ∨ j = 3 by omega) with rfl | rfl | rfl | rfl
          · exact h0
          · omega
          · omega
          · omega
        · exact one
      · exact one
def delL : List UInt8 := [40, 32, 41]
theorem del_high (x : UInt8) (h : 128 ≤ x.toNat) : delL.contains x = false := by
  cases hc : delL.contains x with
  | false => rfl
  | true =>
    simp only [delL, List.contains_iff_mem, List.mem_cons, List.not_mem_nil, or_false] at hc
    rcases hc with rfl | rfl | rfl <;> simp at h
theorem data_get! (s : ByteArray) (k : Nat) (b : UInt8) (h : s.data.toList[k]? = some b) : s.get! k = b := by
  have hk : k < s.size := by
    rcases Nat.lt_or_ge k s.size with h1 | h1
    · exact h1
    · rw [List.getElem?_eq_none (by rw [Array.length_toList]; exact h1)] at h; cases h
  have := get_at s k hk
  rw [Nat.add_zero] at this
  rw [this]
  have h2 := Lib.data_getElem? s k hk
  rw [h2] at h
  exact Option.some.inj h
theorem noAny_on {s : ByteArray} {i k : Nat} (h : Lib.NoAny s.data.toList delL i) (hk : ∀ j, j < k → 128 ≤ (s.get! (i + j)).toNat) : Lib.NoAny s.data.toList delL (i + k) := by
  intro j b hj hb
  by_cases hlt : j < i
  · exact h j b hlt hb
  · have := hk (j - i) (by omega)
    rw [show i + (j - i) = j by omega, data_get! s j b hb] at this
    exact del_high b this

set_option maxHeartbeats 4000000 in
set_option maxRecDepth 1000000 in
theorem any_short (s : ByteArray) (h8 : s.size ≤ 8) (w : World) :
    Calls Tryd.prog 47 #[.string s, .string dels] w fun e w' => e = .returned (.int .i64 (Lib.indexAny s.data.toList delL)) ∧ Below w.heap.size w w' := by
  have h8z : decide ((8 : Int) < (s.size : Int)) = false := decide_eq_false (by omega)
  have SH := fun w => Tryd.strings_shouldUseASCIISet (s.size : Int) w
  rw [h8z] at SH
  have HSH := Lib.hid SH
  have AS := Lib.hid (fun (r : Int) (h0 : 0 ≤ r) (h1 : r < 128) w => Tryd.strings_IndexRune_ascii dels r w h0 h1)
  clear h8z SH
  go_enter Tryd.func47, Tryd.ntmps47
  go_wp2_with fail
  refine (HSH.out _).mono ?_
  rintro e w' ⟨rfl, rfl⟩
  go_wp2_with fail
  go_loopw [9] (fun _ wr => ∃ pos : Nat, pos ≤ s.size ∧ wr.heap[w'.heap.size]? = some (.stringIter s pos) ∧ Below w'.heap.size w' wr ∧ Hid (Lib.NoAny s.data.toList delL pos)) (fun _ wr => s.size - wr.iterPos w'.heap.size)
  case atStart => exact ⟨0, Nat.zero_le _, World.iter_heap w' s 0, (Below.refl _ _).alloc (Nat.le_refl _) _, Lib.NoAny.zero _ _⟩
  case round =>
    obtain ⟨pos, hp, hit, hbw, HN⟩ := hrel
    have hpos0 := Lib.hid (show wr.iterPos w'.heap.size = pos by simp [World.iterPos, hit])
    have hlt0 : w'.heap.size < wr.heap.size := (Array.getElem?_eq_some_iff.1 hit).1
    by_cases hi : pos < s.size
    · have hnx : ∀ ty, (Instr.next (.pointer (some ⟨w'.heap.size, 0, none⟩)) true ty).run Tryd.prog wr = _ := fun ty => Lib.run_next_any_at wr w'.heap.size s pos ty hit hi
      have hit2 := Lib.iterAt_heap wr w'.heap.size s pos (pos + (Utf8.decode s pos).2) hit
      have hbw2 := Lib.below_iterAt hbw (k := w'.heap.size) (Nat.le_refl _) s (pos + (Utf8.decode s pos).2)
      have hlt1 : w'.heap.size < (wr.iterAt w'.heap.size s (pos + (Utf8.decode s pos).2)).heap.size := by rw [Lib.iterAt_size]; exact hlt0
      generalize wr.iterAt w'.heap.size s (pos + (Utf8.decode s pos).2) = W1 at hnx hit2 hbw2 hlt1
      have HI2 := Lib.hid hit2
      have HB2 := Lib.hid hbw2
      clear hit hbw hit2 hbw2
      by_cases ha : (s[pos]'hi).toNat < 128
      · have hd := decode_ascii s pos hi ha
        obtain ⟨x, hx⟩ : ∃ x : UInt8, s[pos]'hi = x := ⟨_, rfl⟩
        have hxl : s.data.toList[pos]? = some x := by rw [← hx]; exact Lib.data_getElem? s pos hi
        rw [hx] at hd ha
        rw [hd] at hnx HI2
        simp only [] at hnx HI2
        have Hx := Lib.hid hxl
        have hcon := Lib.contains_iff_indexByte dels.data.toList x
        have hback : ((x.toNat : Int)).toNat.toUInt8 = x := by simp
        have A1 := fun w => AS.out (x.toNat : Int) (by omega) (by omega) w
        rw [hback] at A1
        have HA1 := Lib.hid A1
        clear hxl hd hx A1 hback
        cases hin : dels.data.toList.contains x
        · rw [hin] at hcon
          have hlt : ¬ ((0 : Int) ≤ Lib.indexByte dels.data.toList x) := of_decide_eq_false hcon.symm
          have HIN := Lib.hid hin
          generalize Lib.indexByte dels.data.toList x = q at HA1 hlt
          clear hcon hin
          go_wp2_with fail
          refine (HA1.out _).mono ?_
          rintro e w2 ⟨rfl, rfl⟩
          go_wp2_with fail
          go_roundw
          case rel => exact ⟨pos + 1, hi, HI2.out, HB2.out, HN.out.succ Hx.out HIN.out⟩
          case measure => rw [hpos0.out, show w2.iterPos w'.heap.size = pos + 1 by simp [World.iterPos, HI2.out]]; omega
        · rw [hin] at hcon
          have hge : (0 : Int) ≤ Lib.indexByte dels.data.toList x := of_decide_eq_true hcon.symm
          have HIN := Lib.hid hin
          generalize Lib.indexByte dels.data.toList x = q at HA1 hge
          clear hcon hin
          go_wp2_with fail
          refine (HA1.out _).mono ?_
          rintro e w2 ⟨rfl, rfl⟩
          go_wp2_with fail
          go_ret
          exact ⟨by rw [Lib.indexAny_hit HN.out Hx.out HIN.out]; rfl, HB2.out⟩
      · have ha' : 128 ≤ (s[pos]'hi).toNat := by omega
        obtain ⟨d1, d2, d3⟩ := decode_bytes s pos hi ha'
        have dh := (decode_high s pos hi ha').1
        have HD := Lib.hid d3
        have R1 := Lib.hid (fun w => rune_high ((Utf8.decode s pos).1 : Int) (by omega) w)
        generalize (Utf8.decode s pos).1 = c at hnx R1 dh
        generalize (Utf8.decode s pos).2 = k at d1 d2 HD HI2
        clear d3 ha ha'
        go_wp2_with fail
        refine (R1.out _).mono ?_
        rintro e w2 ⟨rfl, hb2⟩
        have hit3 : w2.heap[w'.heap.size]? = some (.stringIter s (pos + k)) := (hb2.block _ hlt1).trans HI2.out
        have HI3 := Lib.hid hit3
        have HB3 := Lib.hid (HB2.out.trans (hb2.mono (by omega)))
        clear hit3 hb2
        go_wp2_with fail
        go_roundw
        case rel => exact ⟨pos + k, d2, HI3.out, HB3.out, noAny_on HN.out HD.out⟩
        case measure => rw [hpos0.out, show w2.iterPos w'.heap.size = pos + k by simp [World.iterPos, HI3.out]]; omega
    · have hnx : ∀ ty, (Instr.next (.pointer (some ⟨w'.heap.size, 0, none⟩)) true ty).run Tryd.prog wr = _ := fun ty => Lib.run_next_end_at wr w'.heap.size s pos ty hit hi
      obtain rfl : pos = s.size := by omega
      go_wp2_with fail
      go_ret
      exact ⟨by rw [Lib.indexAny_none (by rw [← Lib.size_eq]; exact HN.out)]; rfl, hbw⟩

theorem dels_ascii : ∀ (j : Nat) (b : UInt8), dels.data.toList[j]? = some b → b.toNat < 128 := by
  intro j b h
  have hm : b ∈ ([40, 32, 41] : List UInt8) := List.mem_of_getElem? h
  simp only [List.mem_cons, List.not_mem_nil, or_false] at hm
  rcases hm with rfl | rfl | rfl <;> decide
theorem any_all (s : ByteArray) (hs : s.size ≤ 4294967200) (w : World) :
    Calls Tryd.prog 47 #[.string s, .string dels] w fun e w' => e = .returned (.int .i64 (Lib.indexAny s.data.toList delL)) ∧ Below w.heap.size w w' := by
  by_cases h8 : s.size ≤ 8
  · exact any_short s h8 w
  · refine (Tryd.strings_IndexAny_long (zero_of_info (n := 256) (by kernel_rfl)).1 s dels w (by decide) (by omega) (by omega) (by decide) dels_ascii).mono ?_
    rintro e w' ⟨rfl, rfl⟩
    exact ⟨rfl, ((Below.refl _ _).alloc (Nat.le_refl _) _).alloc (by simp) _⟩
end Go.Proofs.YtgeljcfokeiaeaaDoor.Build
