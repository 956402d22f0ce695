/- Contracts of tape.Check, tape.numbers and tape.Parse. Conditions: the size; what the library's variables hold. -/
import Derived.Test.YtjajjadhnfhofaaDoorText
import Derived.Test.YtjajjadhnfhofaaDoorTapeL
import Derived.Test.YtjajjadhnfhofaaDoorGrow
import Derived.Shelf.Vars
import Derived.Lib.SmallJoins
namespace Go.Proofs.YtjajjadhnfhofaaDoor.Build
open Go.RowKit Lists Ints
set_option linter.unusedVariables false

theorem gSyn : Tryd.prog.globalNamed "strconv.ErrSyntax" = some 2 := by kernel_rfl
theorem gRng : Tryd.prog.globalNamed "strconv.ErrRange" = some 3 := by kernel_rfl
theorem gSynType : (Tryd.prog.globals[2]?).map (·.type) = some 27 := by kernel_rfl
theorem gRngType : (Tryd.prog.globals[3]?).map (·.type) = some 27 := by kernel_rfl
theorem star : "*" ++ "errors.errorString" = "*errors.errorString" := by decide
theorem rowES (u : TypeId) (h : Tryd.prog.typeName? 3 u = some "*errors.errorString") : u = 119 :=
  typeName_ptr_named (nm := "errors.errorString") (by rw [star]; kernel_rfl) (by kernel_rfl) (by decide) u (by rw [star]; exact h)
/-- The library's two sentinels. -/
def Errs (w : World) : Prop := (∃ tp p, w.var? Tryd.prog "strconv.ErrSyntax" = some #[.iface tp p]) ∧ ∃ tp p, w.var? Tryd.prog "strconv.ErrRange" = some #[.iface tp p]
theorem Errs.below {w w' : World} (h : Errs w) (hb : Below w.heap.size w w') : Errs w' := by
  obtain ⟨⟨t1, p1, h1⟩, t2, p2, h2⟩ := h
  exact ⟨⟨t1, p1, var_below gSyn h1 hb⟩, t2, p2, var_below gRng h2 hb⟩
theorem errs_of_laid {W : World} {r r' : List (String × DataW Unit)} (h : laidMet Tryd.prog (("strconv.ErrSyntax", Rows.laid_strconv_ErrSyntax) :: r) W) (h' : laidMet Tryd.prog (("strconv.ErrRange", Rows.laid_strconv_ErrRange) :: r') W) : Errs W := by
  obtain ⟨a0, s0, hv0, -, -, -⟩ := laid_sentinel h gSyn gSynType Tryd.underlying27 rowES Tryd.underlying119 Tryd.underlying121 rfl rfl Tryd.underlying9 (by kernel_rfl) (by kernel_rfl)
  obtain ⟨a1, s1, hv1, -, -, -⟩ := laid_sentinel h' gRng gRngType Tryd.underlying27 rowES Tryd.underlying119 Tryd.underlying121 rfl rfl Tryd.underlying9 (by kernel_rfl) (by kernel_rfl)
  exact ⟨⟨_, _, hv0⟩, _, _, hv1⟩

/-- The library's variable MaxLen holds some number. -/
def Max (w : World) : Prop := 1 < w.heap.size ∧ ∃ m, w.cell? ⟨1, 0, none⟩ = some (.int .i64 m)
theorem Max.below {w w' : World} (h : Max w) (hb : Below w.heap.size w w') : Max w' := by
  obtain ⟨h1, m, h2⟩ := h
  exact ⟨Nat.lt_of_lt_of_le h1 hb.size, m, (hb.cell (p := ⟨1, 0, none⟩) h1).trans h2⟩
theorem max_of_shaped {w : World} (h : w.ShapedOpen Tryd.prog) : Max w := by
  obtain ⟨m, hm⟩ := cell_of_shapedOpen_int (g := 1) (t := 3) (zero := #[.int .i64 0]) (k := .i64) h (by decide +kernel) (by kernel_rfl) rfl (by kernel_rfl) (by kernel_rfl) Tryd.underlying3
  refine ⟨?_, m, hm⟩
  rcases Nat.lt_or_ge 1 w.heap.size with h1 | h1
  · exact h1
  · simp [World.cell?, Array.getElem?_eq_none h1] at hm

theorem cut_any (s : ByteArray) (hs : s.size ≤ 4294967200) (w : World) (hm : Max w) :
    Calls Tryd.prog 26 #[.string s, .string ⟨#[46]⟩] w fun e w' => ∃ (a b : ByteArray) (f : Bool), e = .returned (.tuple #[.string a, .string b, .bool f]) ∧ (a.data.toList, b.data.toList, f) = cutL s.data.toList ∧ Below w.heap.size w w' := by
  obtain ⟨_, m, hc⟩ := hm
  refine (Tryd.strings_Cut s ⟨#[46]⟩ m w (by omega) hc).mono ?_
  rintro e w' ⟨rfl, n, rfl⟩
  have e46 : (⟨#[46]⟩ : ByteArray).data.toList = [46] := rfl
  rw [e46, cut_eq]
  exact ⟨_, _, _, rfl, rfl, rfl, rfl, rfl, Nat.le_refl _, fun _ _ => rfl⟩

theorem atoi_ok (s : ByteArray) (hs : s.size ≤ 4294967200) (v : Int) (h : Lib.atoiAll s.data.toList = .ok v) (w : World) :
    Calls Tryd.prog 27 #[.string s] w fun e w' => e = .returned (.tuple #[.int .i64 v, .nilIface]) ∧ Below w.heap.size w w' := by
  refine (Tryd.strconv_Atoi_ok s (by omega) v h w).mono ?_
  rintro e w' ⟨rfl, rfl | ⟨t, rfl⟩⟩
  · exact ⟨rfl, Below.refl _ _⟩
  · exact ⟨rfl, Go.Joins.below_bytesWorld _ _ _ _ (Nat.le_refl _)⟩
theorem atoi_no (s : ByteArray) (hs : s.size ≤ 4294967200) (h : ∀ v, Lib.atoiAll s.data.toList ≠ .ok v) (w : World) (he : Errs w) :
    Calls Tryd.prog 27 #[.string s] w fun e w' => ∃ (n : Int) (t : TypeId) (a : Addr), e = .returned (.tuple #[.int .i64 n, .iface t (.pointer (some a))]) ∧ Below w.heap.size w w' := by
  obtain ⟨⟨t1, p1, h1⟩, t2, p2, h2⟩ := he
  rcases hx : Lib.atoiAll s.data.toList with v | _ | _
  · exact absurd hx (h v)
  · refine (Tryd.strconv_Atoi_syntax_var s (by omega) hx t1 p1 w h1).mono ?_
    rintro e w' ⟨N, rfl, _, _, hb⟩
    exact ⟨_, _, _, rfl, hb⟩
  · refine (Tryd.strconv_Atoi_range_var s (by omega) hx t2 p2 w h2).mono ?_
    rintro e w' ⟨N, rfl, _, _, hb⟩
    exact ⟨_, _, _, rfl, hb⟩

/-! tape.Check -/
theorem check_any (l : List Int) (A : Option Addr) (c N : Nat) (hl : l.length ≤ maxLen) (w : World) (ha : At w N A l) :
    Calls Tryd.prog 8 #[.slice A l.length c] w fun e w' => e = .returned (if validB l = true then .nilIface else .iface 23 (.int .i64 1)) ∧ w = w' := by
  unfold maxLen at hl
  have HA := Lib.hid ha
  clear ha
  go_enter Tryd.func8, Tryd.ntmps8
  go_wp2
  go_loop [7] (fun i => ∃ k : Nat, k ≤ l.length ∧ i = .int .i64 k ∧ Hid (Valid (l.take k))) (fun i => l.length - (intOf i).toNat)
  case atStart => exact ⟨0, Nat.zero_le _, rfl, fun n hn => by simp at hn⟩
  case round =>
    obtain ⟨k, hk, rfl, hv⟩ := hrel
    by_cases h1 : k < l.length
    · obtain ⟨b, off, rfl, _, hcell⟩ := HA.out (by omega)
      have c1 := hcell k h1
      clear hcell
      have ht := Lib.hid (take_getD l k h1)
      have hin := Lib.hid (show l.getD k 0 ∈ l by rw [List.getD, List.getElem?_eq_getElem h1]; exact List.getElem_mem h1)
      generalize l.getD k 0 = n at c1 ht hin
      by_cases hg : 0 ≤ n ∧ n ≤ 1000
      · have hv2 := Lib.hid (show Valid (l.take (k + 1)) by
          rw [ht.out]
          intro m hm
          rcases List.mem_append.1 hm with h | h
          · exact hv.out m h
          · have : m = n := by simpa using h
            subst this; exact hg)
        obtain ⟨g1, g2⟩ := hg
        have g1' : ¬ n < 0 := by omega
        have g2' : ¬ 1000 < n := by omega
        go_wp2
        go_round
        case rel => exact ⟨k + 1, h1, by go_num, hv2.out⟩
        case measure => simp [intOf]; omega
      · have hno := Lib.hid (show ¬ validB l = true from fun h => hg ((validB_iff l).1 h n hin.out))
        rcases (show n < 0 ∨ (¬ n < 0 ∧ 1000 < n) by omega) with g | ⟨g, g'⟩
        · clear hg
          go_wp2
          go_ret
          first | exact ⟨rfl, rfl⟩ | exact ⟨by rw [if_neg hno.out]; rfl, rfl⟩
        · clear hg
          go_wp2
          go_ret
          first | exact ⟨rfl, rfl⟩ | exact ⟨by rw [if_neg hno.out]; rfl, rfl⟩
    · have hyes := Lib.hid (show validB l = true by rw [validB_iff, ← List.take_of_length_le (show l.length ≤ k by omega)]; exact hv.out)
      go_wp2
      go_ret
      first | exact ⟨rfl, rfl⟩ | exact ⟨by rw [if_pos hyes.out]; rfl, rfl⟩

/-! tape.numbers -/
def RunsOn (s rem : ByteArray) (more : Bool) (acc : List Int) : Prop :=
  numL s.data.toList = (if more = true then (numsOf (splitL rem.data.toList)).map (acc ++ ·) else some acc)
def measN (v m : Value) : Nat := match v, m with | .string r, .bool true => r.size + 1 | _, _ => 0
theorem size_toList (s : ByteArray) : s.size = s.data.toList.length := by rw [Array.length_toList]; rfl
theorem one_at (b : Nat) (n : Int) (w : World) (h : w.cell? ⟨b, 0, none⟩ = some (.int .i64 n)) : At w (b + 1) (some ⟨b, 0, none⟩) [n] :=
  fun _ => ⟨b, 0, rfl, by omega, fun j hj => by
    obtain rfl : j = 0 := by simpa using hj
    exact h⟩
theorem check_one (b : Nat) (n : Int) (w : World) (h : w.cell? ⟨b, 0, none⟩ = some (.int .i64 n)) :
    Calls Tryd.prog 8 #[.slice (some ⟨b, 0, none⟩) 1 1] w fun e w' => e = .returned (if validB [n] = true then .nilIface else .iface 23 (.int .i64 1)) ∧ w = w' :=
  check_any [n] (some ⟨b, 0, none⟩) 1 (b + 1) (by simp [maxLen]) w (one_at b n w h)

def NumRel (s : ByteArray) (w : World) (r v m : Value) (wr : World) : Prop :=
  ∃ (rem : ByteArray) (acc : List Int) (A : Option Addr) (c : Nat) (more : Bool), r = .string rem ∧ v = .slice A acc.length c ∧ m = .bool more ∧ Own wr w.heap.size A c acc ∧ Below w.heap.size w wr ∧
      (more = true → acc.length + rem.size ≤ s.size) ∧ acc.length ≤ s.size + 1 ∧ Hid (RunsOn s rem more acc)
def NumPost (s : ByteArray) (w : World) (e : Ending) (w' : World) : Prop :=
  (numL s.data.toList = none ∧ e = .returned (.tuple #[.slice none 0 0, .bool false]) ∧ Below w.heap.size w w') ∨
    ∃ (l : List Int) (A : Option Addr) (c : Nat), numL s.data.toList = some l ∧ l.length ≤ s.size + 1 ∧ e = .returned (.tuple #[.slice A l.length c, .bool true]) ∧ Own w' w.heap.size A c l ∧ Below w.heap.size w w'

set_option maxHeartbeats 4000000 in
theorem numbers_any (s : ByteArray) (hs : s.size ≤ 1073741824) (w : World) (hx : Max w) (he : Errs w) :
    Calls Tryd.prog 19 #[.string s] w (NumPost s w) := by
  have HX := Lib.hid hx
  have HE := Lib.hid he
  clear hx he
  by_cases h0 : s.data.toList = []
  · have hn := Lib.hid (show numL s.data.toList = some [] by unfold numL; rw [if_pos h0])
    have he : s.toList.isEmpty = true := by rw [ByteArray.toList_eq, h0]; rfl
    clear h0
    go_enter Tryd.func19, Tryd.ntmps19
    go_wp2
    go_ret2
    exact .inr ⟨[], none, 0, hn.out, by simp, rfl, Own.none, Below.refl _ _⟩
  · have hn := Lib.hid (show numL s.data.toList = numsOf (splitL s.data.toList) by unfold numL; rw [if_neg h0])
    have he : s.toList.isEmpty = false := by rw [ByteArray.toList_eq]; cases h : s.data.toList with | nil => exact absurd h h0 | cons _ _ => rfl
    clear h0
    go_enter Tryd.func19, Tryd.ntmps19
    go_wp2
    clear he
    go_loopw [0, 4, 5] (NumRel s w) (fun r _ m _ => measN r m)
    case atStart => exact ⟨s, [], none, 0, true, rfl, rfl, rfl, Own.none, Below.refl _ _, fun _ => by simp, by simp, (show RunsOn s s true [] by
      unfold RunsOn; rw [hn.out]
      cases numsOf (splitL s.data.toList) <;> simp)⟩
    case round =>
      obtain ⟨rem, acc, A, c, more, rfl, rfl, rfl, hown, hb, hl, hl2, hr⟩ := hrel
      have hz := hb.size
      cases more with
      | false =>
        have hr' := Lib.hid (show numL s.data.toList = some acc by have := hr.out; unfold RunsOn at this; simpa using this)
        clear hl
        go_wp2
        go_ret2
        exact .inr ⟨acc, A, c, hr'.out, hl2, rfl, hown, hb⟩
      | true =>
        have hl := hl rfl
        have hr' := Lib.hid (show numL s.data.toList = (numsOf (splitL rem.data.toList)).map (acc ++ ·) by have := hr.out; unfold RunsOn at this; simpa using this)
        go_wp2_with fail
        refine (cut_any rem (by omega) wr (HX.out.below hb)).mono ?_
        rintro e w1 ⟨pa, pb, f, rfl, hcut, hb1⟩
        have hsz := cutL_len rem.data.toList
        have hsp := splitL_cut rem.data.toList
        rw [← hcut] at hsz hsp
        simp only [] at hsz hsp
        rw [← size_toList, ← size_toList, ← size_toList] at hsz
        obtain ⟨q1, q2, q3, _⟩ := hsz
        have Q3 := Lib.hid q3
        clear q3
        have hown1 := Own.below hown hb1
        have hb' := hb.trans (hb1.mono hz)
        have hz1 := hb'.size
        have HSP := Lib.hid hsp
        clear hcut hsp hown hb hb1
        rcases hat : Lib.atoiAll pa.data.toList with v | _ | _
        · by_cases hv : 0 ≤ v ∧ v ≤ 1000
          · have hno : numOf pa.data.toList = some v := by unfold numOf; rw [hat]; exact if_pos hv
            have hvb : validB [v] = true := (validB_iff _).2 (fun n hn => by have : n = v := by simpa using hn
                                                                             subst this; exact hv)
            have hck := fun b w h => hvb ▸ check_one b v w h
            simp only [if_true] at hck
            have HCK := Lib.hid hck
            have HAT := Lib.hid hat
            have HNO := Lib.hid hno
            clear hck hvb hat hno hv
            go_wp2_with fail
            refine (atoi_ok pa (by omega) v HAT.out w1).mono ?_
            rintro e w2 ⟨rfl, hb2⟩
            have hown2 := Own.below hown1 hb2
            have hb2' := hb'.trans (hb2.mono hz1)
            have hz2 := hb2'.size
            clear hown1 hb2
            go_wp2_with fail
            refine (HCK.out _ _ (by simp)).mono ?_
            rintro e w' ⟨rfl, rfl⟩
            go_wp2_with (at_builtin
                         refine wpList_append_ints rfl (.tmp 31) (.tmp 33) rfl w.heap.size c A acc (Own.below hown2 (((Below.refl _ _).alloc (Nat.le_refl _) _).alloc (by simp) _)) (w2.heap.size + 1 + 1) (some ⟨w2.heap.size + 1, 0, none⟩) 1 [v]
                           (one_at (w2.heap.size + 1) v _ (by simp)) rfl rfl (by simp; omega) (by simp; omega) ?_
                         intro A3 c3 w3 z3 hz3 own3 g3 r3)
            have B3 : Below w.heap.size w w3 := ((hb2'.alloc hz2 _).alloc (by simp; omega) _).grown g3 (by simp; omega) hown2.ge
            have L3 : z3.length = acc.length + 1 := by rw [hz3.out]; simp
            have L3' := Lib.hid L3
            have R3 : RunsOn s pb f z3 := by
              unfold RunsOn
              rw [hr'.out, HSP.out, hz3.out]
              simp only [numsOf, HNO.out]
              cases f
              · simp [numsOf]
              · simp only [if_true]
                cases numsOf (splitL pb.data.toList) <;> simp
            have R3' := Lib.hid R3
            clear L3 R3 HAT HNO HSP hr' hr HCK
            cases f
            · go_roundw
              case rel => exact ⟨pb, z3, A3, c3, false, rfl, rfl, rfl, own3, B3, (fun hf => by cases hf), by have := L3'.out; omega, R3'.out⟩
              case measure => simp [measN]
            · have q3 : pb.size + 1 ≤ rem.size := by first | exact Q3.out rfl | exact Q3.out trivial
              go_roundw
              case rel => exact ⟨pb, z3, A3, c3, true, rfl, rfl, rfl, own3, B3, fun _ => by have := L3'.out; omega, by have := L3'.out; omega, R3'.out⟩
              case measure => simp [measN]; omega
          · have hno : numL s.data.toList = none := by
              rw [hr'.out, HSP.out]
              have : numOf pa.data.toList = none := by unfold numOf; rw [hat]; exact if_neg hv
              simp only [numsOf, this, Option.map_none]
            have hvb : validB [v] = false := (validB_no _).2 (fun h => hv (h v (by simp)))
            have hck := fun b w h => hvb ▸ check_one b v w h
            simp only [Bool.false_eq_true, if_false] at hck
            have HCK := Lib.hid hck
            have HAT := Lib.hid hat
            have HNO := Lib.hid hno
            clear hck hvb hat hno hv hr' hr HSP Q3
            go_wp2_with fail
            refine (atoi_ok pa (by omega) v HAT.out w1).mono ?_
            rintro e w2 ⟨rfl, hb2⟩
            have hb2' := hb'.trans (hb2.mono hz1)
            have hz2 := hb2'.size
            clear hown1 hb2
            go_wp2_with fail
            refine (HCK.out _ _ (by simp)).mono ?_
            rintro e w' ⟨rfl, rfl⟩
            go_wp2
            go_ret2
            exact .inl ⟨HNO.out, rfl, hb2'.alloc hz2 _⟩
        all_goals
          have hno : numL s.data.toList = none := by
            rw [hr'.out, HSP.out]
            have : numOf pa.data.toList = none := by unfold numOf; rw [hat]
            simp only [numsOf, this, Option.map_none]
          have hnv : ∀ v, Lib.atoiAll pa.data.toList ≠ .ok v := by rw [hat]; intro v e; cases e
          have HNV := Lib.hid hnv
          have HNO := Lib.hid hno
          clear hat hno hr' hr HSP Q3 hnv
          go_wp2_with fail
          refine (atoi_no pa (by omega) HNV.out w1 (HE.out.below hb')).mono ?_
          rintro e w2 ⟨n, t, ad, rfl, hb2⟩
          have hb2' := hb'.trans (hb2.mono hz1)
          clear hown1 hb2
          go_wp2
          go_ret2
          exact .inl ⟨HNO.out, rfl, hb2'⟩

/-! tape.Parse -/
def ParsePost (s : ByteArray) (w : World) (e : Ending) (w' : World) : Prop :=
  (parseL s.data.toList = none ∧ e = .returned (.tuple #[.slice none 0 0, .iface 23 (.int .i64 3)]) ∧ Below w.heap.size w w') ∨
    ∃ (l : List Int) (A : Option Addr) (c : Nat), parseL s.data.toList = some l ∧ l.length ≤ s.size + 1 ∧ e = .returned (.tuple #[.slice A l.length c, .nilIface]) ∧ At w' w'.heap.size A l ∧ Below w.heap.size w w'
theorem valid_i64 {l : List Int} (h : Valid l) : ∀ n ∈ l, I64 n := fun n hn => by have := h n hn; unfold I64; omega

set_option maxHeartbeats 1000000 in
theorem parse_any (s : ByteArray) (hs : s.size ≤ 1073741824) (w : World) (hx : Max w) (he : Errs w) (ht : Tab w) :
    Calls Tryd.prog 10 #[.string s] w (ParsePost s w) := by
  have HX := Lib.hid hx
  have HE := Lib.hid he
  have HT := Lib.hid ht
  clear hx he ht
  go_enter Tryd.func10, Tryd.ntmps10
  go_wp2_with fail
  refine (numbers_any s hs w HX.out HE.out).mono ?_
  rintro e w1 (⟨hn, rfl, hb⟩ | ⟨l, A, c, hn, hl, rfl, hown, hb⟩)
  · have hno := Lib.hid (show parseL s.data.toList = none by unfold parseL; rw [hn])
    clear hn
    go_wp2
    go_ret2
    exact .inl ⟨hno.out, rfl, hb⟩
  · have hz := hb.size
    have HV := Lib.hid (numL_valid hn)
    have hat := hown.at_
    have hlen : l.length ≤ 4294967296 := by omega
    have ct := text_any l A c w1.heap.size hlen (valid_i64 HV.out) w1 hat (Nat.le_refl _) (HT.out.below hb)
    by_cases he : textL l = s.data.toList
    · have hyes := Lib.hid (show parseL s.data.toList = some l by unfold parseL; rw [hn]; exact if_pos he)
      have hse : (⟨(textL l).toArray⟩ : ByteArray) = s := Go.WideShapes.bytes_inj (by simpa using he)
      rw [hse] at ct
      have CT := Lib.hid ct
      have HAT := Lib.hid hat
      clear ct hse he hn hat
      go_wp2_with fail
      refine CT.out.mono ?_
      rintro e w2 ⟨rfl, hb2⟩
      have hz2 := hb2.size
      go_wp2
      go_ret2
      exact .inr ⟨l, A, c, hyes.out, hl, rfl, (HAT.out.below hb2).more hz2, hb.trans (hb2.mono hz)⟩
    · have hno := Lib.hid (show parseL s.data.toList = none by unfold parseL; rw [hn]; exact if_neg he)
      obtain ⟨t, ht⟩ : ∃ t : ByteArray, t = ⟨(textL l).toArray⟩ := ⟨_, rfl⟩
      have hts : t ≠ s := by
        intro e; apply he; rw [← e, ht]
      have hbq : (t.toList == s.toList) = false := by
        rw [beq_eq_false_iff_ne, ByteArray.toList_eq, ByteArray.toList_eq]
        exact fun e => hts (Go.WideShapes.bytes_inj e)
      have hbn : (t.toList != s.toList) = true := by rw [bne, hbq]; rfl
      rw [← ht] at ct
      have CT := Lib.hid ct
      clear ct he hn hat ht hts
      go_wp2_with fail
      refine CT.out.mono ?_
      rintro e w2 ⟨rfl, hb2⟩
      go_wp2
      go_ret2
      exact .inl ⟨hno.out, rfl, hb.trans (hb2.mono hz)⟩
end Go.Proofs.YtjajjadhnfhofaaDoor.Build
