/- Contract of tape.Text. Conditions: the size; the library's table of powers of ten. -/
import Derived.Test.YtjajjadhnfhofaaDoorTextL
import Derived.Test.YtjajjadhnfhofaaDoorBuild
import Derived.Lib.LaidTab
import Derived.Stop.LaidErr
namespace Go.Proofs.YtjajjadhnfhofaaDoor.Build
open Go.RowKit Lists Ints

theorem gTab : Tryd.prog.globalNamed "internal/strconv.uint64pow10" = some 4 := by kernel_rfl
/-- The library's table of powers of ten. -/
def Tab (w : World) : Prop := Lib.TabIs Tryd.prog w "internal/strconv.uint64pow10" .u64 Lib.pow10Tab
theorem var_block {w : World} {name : String} {g : Nat} {cs : Array Value} (hg : Tryd.prog.globalNamed name = some g) (h : w.var? Tryd.prog name = some cs) : g < w.heap.size := by
  unfold World.var? at h
  rw [hg] at h
  simp only [Option.bind_some] at h
  rcases Nat.lt_or_ge g w.heap.size with h1 | h1
  · exact h1
  · rw [Array.getElem?_eq_none h1] at h; cases h
theorem var_below {w w' : World} {name : String} {g : Nat} {cs : Array Value} (hg : Tryd.prog.globalNamed name = some g) (h : w.var? Tryd.prog name = some cs) (hb : Below w.heap.size w w') : w'.var? Tryd.prog name = some cs := by
  have hl := var_block hg h
  unfold World.var? at h ⊢
  rw [hg] at h ⊢
  simp only [Option.bind_some] at h ⊢
  rw [hb.block g hl]
  exact h
theorem Tab.below {w w' : World} (h : Tab w) (hb : Below w.heap.size w w') : Tab w' := var_below gTab h hb
theorem gTabType : (Tryd.prog.globals[4]?).map (·.type) = some 111 := by kernel_rfl
theorem tab_of_laid {W : World} {r : List (String × DataW Unit)} (h : laidMet Tryd.prog (("internal/strconv.uint64pow10", Rows.laid_internal_strconv_uint64pow10) :: r) W) : Tab W :=
  Lib.tabIs_of_head (k := .u64) (zs := Lib.pow10Tab) (rest := r) gTab gTabType Tryd.underlying111 Tryd.underlying96 (by kernel_rfl) (by kernel_rfl) h
theorem i64_of_wf {x : Int} (h : (Lit.int .i64 x).wf = true) : I64 x := by
  simp only [Lit.wf, IntKind.min, IntKind.max, IntKind.signed, IntKind.bits, Bool.and_eq_true] at h
  unfold I64
  simp at h
  omega
theorem itoa_any (n : Int) (h : I64 n) (w : World) (ht : Tab w) :
    Calls Tryd.prog 22 #[.int .i64 n] w fun e w' => e = .returned (.string ⟨(Lib.itoa n).toArray⟩) ∧ Below w.heap.size w w' :=
  (Tryd.strconv_Itoa n h.1 h.2 w ht).mono fun _ _ ⟨h1, k, os, h2⟩ => ⟨h1, h2 ▸ Lib.below_grow _ w (Nat.le_refl _) k os⟩
theorem size_of_list (l : List UInt8) : (⟨l.toArray⟩ : ByteArray).size = l.length := by
  show l.toArray.size = _
  simp

set_option maxHeartbeats 1000000 in
theorem text_any (l : List Int) (A : Option Addr) (c N : Nat) (hl : l.length ≤ 4294967296) (hi : ∀ n ∈ l, I64 n) (w : World) (ha : At w N A l) (hN : N ≤ w.heap.size) (ht : Tab w) :
    Calls Tryd.prog 14 #[.slice A l.length c] w fun e w' => e = .returned (.string ⟨(textL l).toArray⟩) ∧ Below w.heap.size w w' := by
  have HA := Lib.hid ha
  have HI := Lib.hid hi
  have HT := Lib.hid ht
  have HN := Lib.hid hN
  clear ha hi ht hN
  go_enter Tryd.func14, Tryd.ntmps14
  go_wp2
  go_loopw [8] (fun i wr => ∃ k : Nat, k ≤ l.length ∧ i = .int .i64 k ∧ IsB w.heap.size w.heap.size (textL (l.take k)) wr ∧ Below w.heap.size w wr) (fun i _ => l.length - (intOf i).toNat)
  case atStart => exact ⟨0, Nat.zero_le _, rfl, IsB.fresh w, (Below.refl _ _).alloc (Nat.le_refl _) _⟩
  case round =>
    obtain ⟨k, hk, rfl, hI, hb⟩ := hrel
    have hz := hb.size
    by_cases h1 : k < l.length
    · obtain ⟨b, off, rfl, hbN, hcell⟩ := HA.out (by omega)
      have c1 := (hb.cell (p := ⟨b, off + k, none⟩) (by have := HN.out; show b < _; omega)).trans (hcell k h1)
      clear hcell
      have hn := Lib.hid (HI.out (l.getD k 0) (by rw [List.getD, List.getElem?_eq_getElem h1]; exact List.getElem_mem h1))
      have htx := Lib.hid (textL_take l k h1)
      have hle := Lib.hid (textL_le (l.take k) (fun n hn => HI.out n (List.mem_of_mem_take hn)))
      have hll : (l.take k).length = k := by rw [List.length_take]; omega
      have HLL := Lib.hid hll
      clear hll
      generalize l.getD k 0 = n at c1 hn htx
      by_cases h0 : k = 0
      · subst h0
        have c0 : wr.cell? ⟨b, off, none⟩ = some (.int .i64 n) := c1
        clear c1
        have it := fun w ht => itoa_any n hn.out w ht
        have IT := Lib.hid it
        clear it
        go_wp2_with fail
        refine (IT.out _ (HT.out.below hb)).mono ?_
        rintro e w1 ⟨rfl, hb1⟩
        have hI1 := hI.below hb1
        go_wp2_with fail
        refine (write_any w.heap.size w.heap.size _ _ w1 hI1 (by rw [size_of_list]; have := Lib.itoa_length_le n hn.out.1 hn.out.2; have := hle.out; have := HLL.out; omega) (by have := hb1.size; omega)).mono ?_
        rintro e w2 ⟨rfl, hI2, hb2⟩
        go_wp2
        go_roundw
        case rel =>
          refine ⟨1, h1, rfl, ?_, (hb.trans (hb1.mono hz)).trans hb2⟩
          rw [htx.out]
          simpa [textL] using hI2
        case measure => simp [intOf]; omega
      · have h0' : (0 : Int) < k := by omega
        have HTX := Lib.hid (show textL (l.take (k + 1)) = (textL (l.take k) ++ [46]) ++ Lib.itoa n by rw [htx.out, if_neg h0])
        clear h0
        have it := fun w ht => itoa_any n hn.out w ht
        have IT := Lib.hid it
        clear it
        go_wp2_with fail
        refine (write_any w.heap.size w.heap.size _ _ wr hI (by have := hle.out; have := HLL.out; show (textL (l.take k)).length + 1 ≤ _; omega) hz).mono ?_
        rintro e w0 ⟨rfl, hI0, hb0⟩
        have hz0 := hb0.size
        go_wp2_with fail
        refine (IT.out _ (HT.out.below (hb.trans hb0))).mono ?_
        rintro e w1 ⟨rfl, hb1⟩
        have hI1 := hI0.below hb1
        go_wp2_with fail
        refine (write_any w.heap.size w.heap.size _ _ w1 hI1 (by rw [size_of_list]; have := Lib.itoa_length_le n hn.out.1 hn.out.2; have := hle.out; have := HLL.out; simp; omega) (by have := hb1.size; omega)).mono ?_
        rintro e w2 ⟨rfl, hI2, hb2⟩
        go_wp2
        go_roundw
        case rel =>
          refine ⟨k + 1, h1, by go_num, ?_, ((hb.trans hb0).trans (hb1.mono (by omega))).trans hb2⟩
          rw [HTX.out]
          exact hI2
        case measure => simp [intOf]; omega
    · have HI' : IsB w.heap.size w.heap.size (textL l) wr := by rw [List.take_of_length_le (by omega)] at hI; exact hI
      clear hI
      go_wp2_with fail
      refine (string_any w.heap.size w.heap.size _ wr HI' hz).mono ?_
      rintro e w1 ⟨rfl, hb1⟩
      go_wp2
      go_ret
      exact ⟨rfl, hb.trans hb1⟩
end Go.Proofs.YtjajjadhnfhofaaDoor.Build
