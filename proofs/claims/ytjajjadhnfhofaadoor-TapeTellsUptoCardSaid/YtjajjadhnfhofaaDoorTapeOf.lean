/- Contract of the document's own TapeOf. Conditions: the size. -/
import Derived.Test.YtjajjadhnfhofaaDoorCut
namespace Go.Proofs.YtjajjadhnfhofaaDoor.Ref
open Go.RowKit Lists Ints Build
open Go.Lib (itoa)
set_option linter.unusedVariables false

def TapePost (s : ByteArray) (w : World) (e : Ending) (w' : World) : Prop :=
  (parseL s.data.toList = none ∧ e = .returned (.tuple #[.slice none 0 0, .bool false]) ∧ Below w.heap.size w w') ∨
    ∃ (l : List Int) (A : Option Addr) (c : Nat), parseL s.data.toList = some l ∧ l.length ≤ s.size + 1 ∧ e = .returned (.tuple #[.slice A l.length c, .bool true]) ∧ At w' w'.heap.size A l ∧ Below w.heap.size w w'
def TapeRel (w : World) (ps : List ByteArray) (N : Nat) (o i : Value) (wr : World) : Prop :=
  ∃ (k : Nat) (acc : List Int) (A : Option Addr) (c : Nat), k ≤ ps.length ∧ acc.length = k ∧ o = .slice A acc.length c ∧ i = .int .i64 k ∧ Own wr N A c acc ∧ Below N w wr ∧ Hid (acc.map itoa = (ps.take k).map (·.data.toList))

set_option maxHeartbeats 4000000 in
set_option maxRecDepth 100000 in
theorem tapeof_any (s : ByteArray) (hs : s.size ≤ 1073741824) (w : World) :
    Calls Tryd.prog 9 #[.string s] w (TapePost s w) := by
  by_cases h0 : s.data.toList = []
  · have hn := Lib.hid (show parseL s.data.toList = some [] by rw [h0]; exact parse_text [] (fun n hn => by cases hn))
    have he : s.toList.isEmpty = true := by rw [ByteArray.toList_eq, h0]; rfl
    clear h0
    go_enter Tryd.func9, Tryd.ntmps9
    go_wp2_with fail
    go_ret2
    exact .inr ⟨[], none, 0, hn.out, by simp, rfl, At.nil, Below.refl _ _⟩
  · have HNE := Lib.hid h0
    have he : s.toList.isEmpty = false := by rw [ByteArray.toList_eq]; cases h : s.data.toList with | nil => exact absurd h h0 | cons _ _ => rfl
    clear h0
    go_enter Tryd.func9, Tryd.ntmps9
    go_wp2_with fail
    refine (cutref_any s hs w).mono ?_
    rintro e w1 ⟨ps, Ap, cp, rfl, hps, hlen, hat, hb1⟩
    have HPS := Lib.hid hps
    have HAT := Lib.hid hat
    have hz1 := hb1.size
    clear hps hat he
    go_wp2_with fail
    go_loopw [5, 6] (TapeRel w1 ps w1.heap.size) (fun _ i _ => ps.length - (intOf i).toNat)
    case atStart => exact ⟨0, [], none, 0, Nat.zero_le _, rfl, rfl, rfl, Own.none, Below.refl _ _, rfl⟩
    case round =>
      obtain ⟨k, acc, A, c, hk, hacc, rfl, rfl, hown, hb, hm⟩ := hrel
      have hz := hb.size
      have HACC := Lib.hid hacc
      clear hacc
      have B1 : Below w.heap.size w wr := on hb1 hb
      by_cases hlt : k < ps.length
      · obtain ⟨b, off, rfl, hbN, hcell⟩ := HAT.out (by omega)
        have c1 := (hb.cell (p := ⟨b, off + k, none⟩) hbN).trans (hcell k hlt)
        have hmem := Lib.hid (show (ps[k]'hlt).data.toList ∈ splitL s.data.toList by rw [HPS.out]; exact List.mem_map_of_mem (List.getElem_mem hlt))
        have htk := Lib.hid (show (ps.take (k + 1)).map (·.data.toList) = (ps.take k).map (·.data.toList) ++ [(ps[k]'hlt).data.toList] by
          rw [List.take_succ_eq_append_getElem hlt, List.map_append]; rfl)
        have hpl : (ps[k]'hlt).size ≤ s.size := by
          have h1 := hmem.out
          have h2 := splitL_len s.data.toList _ h1
          rw [← size_toList, ← size_toList] at h2
          exact h2
        clear hcell
        generalize ps[k]'hlt = p at c1 hmem htk hpl
        have hlt' : (k : Int) < ps.length := by omega
        go_wp2_with fail
        refine (number_any p wr (by omega)).mono ?_
        rintro e w2 ⟨n, b2, rfl, hnum, hb2⟩
        have HNUM := Lib.hid hnum
        clear hnum
        cases b2 with
        | false =>
          have hno := Lib.hid (show parseL s.data.toList = none from parse_bad HNE.out hmem.out (fun v hv e => by have := (HNUM.out.2.2 v hv e).2; cases this))
          go_wp2_with fail
          go_ret2
          exact .inl ⟨hno.out, rfl, on B1 hb2⟩
        | true =>
          have hnp := Lib.hid (HNUM.out.2.1 rfl)
          have hown2 := Own.below hown hb2
          have D2 : Below w1.heap.size w1 w2 := on hb hb2
          have dz := D2.size
          have HL : acc.length ≤ 1073741825 := by have := HACC.out; omega
          go_wp2_with (at_builtin
                       refine wpList_append_ints rfl (.tmp 29) (.tmp 31) rfl w1.heap.size c A acc (Own.below hown2 ((Below.refl _ _).alloc (Nat.le_refl _) _)) (w2.heap.size + 1) (some ⟨w2.heap.size, 0, none⟩) 1 [n]
                         (one_at w2.heap.size n _ (by simp)) rfl rfl (by simp; omega) (by simp; omega) ?_
                       intro A3 c3 w3 z3 hz3 own3 g3 r3)
          have B3 : Below w1.heap.size w1 w3 := (D2.alloc dz _).grown g3 (by simp; omega) hown2.ge
          have L3 := Lib.hid (show z3.length = k + 1 by rw [hz3.out]; simp [HACC.out])
          have M3 := Lib.hid (show z3.map itoa = (ps.take (k + 1)).map (·.data.toList) by rw [hz3.out, htk.out, List.map_append, hm.out, List.map_cons, List.map_nil, hnp.out])
          go_wp2
          go_roundw
          case rel => exact ⟨k + 1, z3, A3, c3, hlt, L3.out, rfl, by go_num, own3, B3, M3.out⟩
          case measure => simp [intOf]; omega
      · have hk' : k = ps.length := by omega
        have hsp := Lib.hid (show splitL s.data.toList = acc.map itoa by rw [hm.out, HPS.out, List.take_of_length_le (by omega)])
        have HK := Lib.hid hk'
        have hat := hown.at_
        have HL : acc.length ≤ 1073741825 := by have := HACC.out; omega
        have hlt' : ¬ (k : Int) < ps.length := by omega
        clear hk'
        have ck := fault_any acc A c wr.heap.size (by simp only [maxLen]; omega) wr hat
        rcases (show validB acc = true ∨ validB acc = false by cases validB acc <;> simp) with hv | hv
        · have hyes := Lib.hid (parse_of_split hsp.out ((validB_iff acc).1 hv))
          rw [hv] at ck
          have CK := Lib.hid ck
          have HT := Lib.hid hat
          clear ck hv hat
          go_wp2_with fail
          refine CK.out.mono ?_
          rintro e w' ⟨rfl, rfl⟩
          go_wp2_with fail
          go_ret2
          exact .inr ⟨acc, A, c, hyes.out, by have := HACC.out; have := HK.out; omega, rfl, HT.out, B1⟩
        · have hno := Lib.hid (parse_fault HNE.out hsp.out ((validB_no acc).1 hv))
          rw [hv] at ck
          have CK := Lib.hid ck
          clear ck hv hat
          go_wp2_with fail
          refine CK.out.mono ?_
          rintro e w' ⟨rfl, rfl⟩
          go_wp2_with fail
          go_ret2
          exact .inl ⟨hno.out, rfl, B1⟩
end Go.Proofs.YtjajjadhnfhofaaDoor.Ref
