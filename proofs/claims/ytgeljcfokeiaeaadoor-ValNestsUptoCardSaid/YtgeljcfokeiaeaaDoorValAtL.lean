/- Contracts of the document's own ValueAt and ValueOf: lists. Condition: the size. -/
import Derived.Test.YtgeljcfokeiaeaaDoorValAt
namespace Go.Proofs.YtgeljcfokeiaeaaDoor.Vals
open Go.RowKit Go.ChangeShapes Lists Ints Build Ref
open Go.Lib (itoa)
set_option linter.unusedVariables false

theorem at_none {k : Nat} {l m : List UInt8} (h : l = 40 :: m) (hn : ∀ (its : List Tr) (r : List UInt8), (∀ x ∈ its, Good k x) → m ≠ textVs its ++ 41 :: r) : ∀ (t : Tr) (r : List UInt8), Good (k + 1) t → Fits t r → l ≠ textV t ++ r := by
  intro t r hg hf e
  rw [h] at e
  cases hl : t.list with
  | true =>
    rw [textV_list t hl] at e
    simp only [List.cons_append, List.append_assoc, List.nil_append, List.cons.injEq, true_and] at e
    exact hn t.items r (good_items hg) e
  | false =>
    rw [textV_num t hl] at e
    obtain ⟨c, q, e2, h40, _⟩ := itoa_head t.num
    rw [e2] at e
    simp only [List.cons_append, List.cons.injEq] at e
    exact h40 e.1.symm

set_option maxHeartbeats 8000000 in
set_option maxRecDepth 100000 in
theorem at_list (k : Nat) (hval : AtOK k) (s : ByteArray) (p : Nat) (x : Int) (w : World) (hx : x = (k + 1 : Nat)) (hk : k + 1 ≤ 6) (hs : s.size ≤ 1073741824) (hp : p < s.size) (hc : s[p]'hp = 40) :
    Calls Tryd.prog 22 #[.string s, .int .i64 (p : Int), .int .i64 x] w (AtEnds (k + 1) s p w) := by
  have x1 : 1 ≤ x := by omega
  have x6 : x ≤ 6 := by omega
  have x0 : decide (x < 1) = false := by rw [decide_eq_false_iff_not]; omega
  have xk1 : x - 1 ≤ k := by omega
  have xk2 : k ≤ x - 1 := by omega
  have g1 : decide ((s.size : Int) ≤ (p : Int)) = false := by rw [decide_eq_false_iff_not]; omega
  have g2 : decide (s.size ≤ p) = false := by rw [decide_eq_false_iff_not]; omega
  have n40 : (((s[p]'hp).toNat : Int) != 40) = false := by rw [bne_eq_false_iff_eq, hc]; rfl
  have DA := Lib.hid (show s.data.toList.drop p = 40 :: s.data.toList.drop (p + 1) by rw [drop_at s p hp, hc])
  have S0 := Lib.hid (sv_start (k := k) (w := w))
  have HV := Lib.hid hval
  clear hx hc hval
  go_enter Tryd.func22, Tryd.ntmps22
  go_wp2_with fail
  clear g1 g2 n40 x0
  go_loopw [1] (fun v wr => RelV k s p w v wr) (fun v _ => s.size - (intOf v).toNat)
  case atStart => exact ⟨[], p + 1, none, 0, by go_num, S0.out, hp, Nat.zero_le _, read_nil _ _⟩
  case round =>
    obtain ⟨acc, q, A, c, rfl, st, hq, hal, hrd⟩ := hrel
    have S := Lib.hid st
    have RD0 := Lib.hid hrd.out
    have hvl := st.var.lt
    obtain ⟨v0, v1, v2, _, _, _⟩ := st.var.facts
    clear st hrd
    have fin : ∀ (P : Prop), (s.size ≤ q → P) → (∀ h : q < s.size, s[q]'h = 41 → P) → (∀ h : q < s.size, s[q]'h ≠ 41 → P) → P := by
      intro P a b c
      rcases Nat.lt_or_ge q s.size with h | h
      · rcases Classical.em (s[q]'h = 41) with h1 | h1
        · exact b h h1
        · exact c h h1
      · exact a h
    refine fin _ (fun he => ?_) (fun he h41 => ?_) (fun he h41 => ?_)
    · have b3 : decide ((q : Int) < (s.size : Int)) = false := by rw [decide_eq_false_iff_not]; omega
      have b4 : decide (q < s.size) = false := by rw [decide_eq_false_iff_not]; omega
      have b5 : decide ((s.size : Int) ≤ (q : Int)) = true := by rw [decide_eq_true_eq]; omega
      have b6 : decide (s.size ≤ q) = true := by rw [decide_eq_true_eq]; omega
      have NO := Lib.hid (show ∀ (its : List Tr) (r : List UInt8), (∀ x ∈ its, Good k x) → s.data.toList.drop (p + 1) ≠ textVs its ++ 41 :: r by
        have h1 := RD0.out
        rw [drop_end s q he] at h1
        exact read_end h1)
      have S5 := S
      obtain ⟨z0, z1, z2, y0, y1, y2⟩ := S5.out.cell.facts
      clear fin v0 v1 v2
      go_wp2_with fail
      refine bodyPost_ret (v := .tuple #[zeroV, .int .i64 (-1)]) (by simp [results, Tryd.results22, go_sem, z0, z1, z2]) rfl ?_
      refine .inr ⟨at_none DA.out NO.out, rfl, below_set (below_set (below_set S5.out.bel (Nat.le_refl _) _ _) (Nat.le_refl _) _ _) (Nat.le_refl _) _ _⟩
    · have b3 : decide ((q : Int) < (s.size : Int)) = true := by rw [decide_eq_true_eq]; omega
      have b4 : decide (q < s.size) = true := by rw [decide_eq_true_eq]; omega
      have b5 : decide ((s.size : Int) ≤ (q : Int)) = false := by rw [decide_eq_false_iff_not]; omega
      have b6 : decide (s.size ≤ q) = false := by rw [decide_eq_false_iff_not]; omega
      have b7 : (((s[q]'he).toNat : Int) != 41) = false := by rw [bne_eq_false_iff_eq, h41]; rfl
      have DQ := Lib.hid (show s.data.toList.drop q = 41 :: s.data.toList.drop (q + 1) by rw [drop_at s q he, h41])
      obtain ⟨z0, z1, z2, y0, y1, y2⟩ := S.out.cell.facts
      clear fin h41
      go_wp2_with fail
      refine bodyPost_ret (v := .tuple #[.agg #[.bool true, .int .i64 0, .slice A acc.length c], .int .i64 ((q : Int) + 1)]) (by simp [results, Tryd.results22, go_sem, z0, z1, z2]) rfl ?_
      exact .inl ⟨.node true 0 acc, q + 1, A, c, good_list RD0.out.2.1, he, by rw [DA.out, RD0.out.1, DQ.out]; simp [textV], (fun e => by simp [Tr.list] at e), rfl, S.out.tree _ _ _, below_set (below_set (below_set S.out.bel (Nat.le_refl _) _ _) (Nat.le_refl _) _ _) (Nat.le_refl _) _ _⟩
    · have b3 : decide ((q : Int) < (s.size : Int)) = true := by rw [decide_eq_true_eq]; omega
      have b4 : decide (q < s.size) = true := by rw [decide_eq_true_eq]; omega
      have b7 : (((s[q]'he).toNat : Int) != 41) = true := by rw [bne_iff_ne]; intro e; exact h41 (UInt8.toNat_inj.1 (by show _ = 41; omega))
      have N41 := no_head s q 41 (fun _ e => h41 e)
      have HC := Lib.hid hal
      clear fin h41
      by_cases ha : acc = []
      · have l1 : decide (0 < (acc.length : Int)) = false := by rw [ha]; rfl
        have l2 : decide (0 < acc.length) = false := by rw [ha]; rfl
        have LIH := Lib.hid (LI.of_read (r := s.data.toList.drop q) RD0.out N41 (fun h => absurd ha h) (fun _ => rfl))
        clear ha N41
        have CL := Lib.hid (HV.out s (q) (x - 1) ((q : Int)) wr (by omega) (by omega) (by omega) hs (by omega))
        go_wp2_with fail
        refine CL.out.mono ?_
        rintro e w2 (⟨t, q2, D, dd, hgd, hq2, htx, hfw, rfl, hta, hb2⟩ | ⟨hno, rfl, hb2⟩)
        · have hql : q + 1 ≤ q2 := by
            have h1 := congrArg List.length htx
            have h3 : 0 < (textV t).length := List.length_pos_iff.2 (textV_ne t)
            rw [List.length_append, List.length_drop, List.length_drop, ← size_toList] at h1
            omega
          have RD2 := Lib.hid (LIH.out.item hgd hfw.w htx)
          have S2 := Lib.hid (S.out.call hb2)
          have IT := Lib.hid (item_new2 (o := .cells #[.bool t.list, .int .i64 t.num, .slice D t.items.length dd] 24) S.out hb2.size hta)
          have TC : B3 (w2.heap.size + 1) (.bool t.list) (.int .i64 t.num) (.slice D t.items.length dd) ((w2.alloc (.cells #[.bool t.list, .int .i64 t.num, .slice D t.items.length dd] 24)).alloc (.cells #[.bool t.list, .int .i64 t.num, .slice D t.items.length dd] 24)) := by
            have := B3.new (w2.alloc (.cells #[.bool t.list, .int .i64 t.num, .slice D t.items.length dd] 24)) (.bool t.list) (.int .i64 t.num) (.slice D t.items.length dd)
            simpa using this
          have TC := Lib.hid TC
          have OW := Lib.hid (S2.out.own.below (below_two w2 (.cells #[.bool t.list, .int .i64 t.num, .slice D t.items.length dd] 24)))
          obtain ⟨v0, v1, v2, _, _, _⟩ := S2.out.var.facts
          have hvl := S2.out.var.lt
          clear hgd htx hfw hta hb2 CL HC
          go_wp2_with (at_builtin
                       refine wpList_append_tree rfl (.tmp 96) (.tmp 98) rfl (w.heap.size + 2) c k A acc OW.out (w2.heap.size + 1) (.bool t.list) (.int .i64 t.num) (.slice D t.items.length dd) 1 t TC.out.facts.1 TC.out.facts.2.1 TC.out.facts.2.2.1 ⟨rfl, rfl, rfl⟩ IT.out rfl rfl (by omega) (by simp; omega) ?_
                       intro A3 c3 w3 z3 hz3 own3 g3
                       have SA := Lib.hid (S2.out.append (below_two w2 _) own3 g3)
                       obtain ⟨⟨u2, e2⟩, e3⟩ := SA.out.2
                       clear own3 g3)
          have S4 := Lib.hid SA.out.1
          have RD3 := Lib.hid (show Read k (s.data.toList.drop (p + 1)) z3 (s.data.toList.drop q2) by rw [hz3.out]; exact RD2.out)
          have hz4 : z3.length ≤ q2 := by rw [hz3.out]; simp; omega
          go_roundw
          case rel => exact ⟨z3, q2, A3, c3, rfl, S4.out, hq2, hz4, RD3.out⟩
          case measure => simp [intOf]; omega
        · have NO := Lib.hid (LIH.out.no hno)
          have b5 : Below w2.heap.size w2 (w2.alloc (.cells #[.bool false, .int .i64 0, .slice none 0 0] 24)) := (Below.refl _ _).alloc (Nat.le_refl _) _
          have S5 := Lib.hid ((S.out.call hb2).call b5)
          clear b5
          obtain ⟨z0, z1, z2, y0, y1, y2⟩ := S5.out.cell.facts
          clear hno hb2 CL HC
          go_wp2_with fail
          refine bodyPost_ret (v := .tuple #[zeroV, .int .i64 (-1)]) (by simp [results, Tryd.results22, go_sem, z0, z1, z2]) rfl ?_
          refine .inr ⟨at_none DA.out NO.out, rfl, below_set (below_set (below_set S5.out.bel (Nat.le_refl _) _ _) (Nat.le_refl _) _ _) (Nat.le_refl _) _ _⟩
      · have l1 : decide (0 < (acc.length : Int)) = true := by rw [decide_eq_true_eq]; have := List.length_pos_iff.2 ha; omega
        have l2 : decide (0 < acc.length) = true := by rw [decide_eq_true_eq]; exact List.length_pos_iff.2 ha
        by_cases h32 : s[q]'he = 32
        · have b8 : (((s[q]'he).toNat : Int) != 32) = false := by rw [bne_eq_false_iff_eq, h32]; rfl
          have LIH := Lib.hid (LI.of_read (r := s.data.toList.drop (q + 1)) RD0.out N41 (fun _ => by rw [drop_at s q he, h32]) (fun h => absurd h ha))
          clear ha N41 h32
          have CL := Lib.hid (HV.out s (q + 1) (x - 1) ((q : Int) + 1) wr (by omega) (by omega) (by omega) hs (by omega))
          go_wp2_with fail
          refine CL.out.mono ?_
          rintro e w2 (⟨t, q2, D, dd, hgd, hq2, htx, hfw, rfl, hta, hb2⟩ | ⟨hno, rfl, hb2⟩)
          · have hql : q + 1 + 1 ≤ q2 := by
              have h1 := congrArg List.length htx
              have h3 : 0 < (textV t).length := List.length_pos_iff.2 (textV_ne t)
              rw [List.length_append, List.length_drop, List.length_drop, ← size_toList] at h1
              omega
            have RD2 := Lib.hid (LIH.out.item hgd hfw.w htx)
            have S2 := Lib.hid (S.out.call hb2)
            have IT := Lib.hid (item_new2 (o := .cells #[.bool t.list, .int .i64 t.num, .slice D t.items.length dd] 24) S.out hb2.size hta)
            have TC : B3 (w2.heap.size + 1) (.bool t.list) (.int .i64 t.num) (.slice D t.items.length dd) ((w2.alloc (.cells #[.bool t.list, .int .i64 t.num, .slice D t.items.length dd] 24)).alloc (.cells #[.bool t.list, .int .i64 t.num, .slice D t.items.length dd] 24)) := by
              have := B3.new (w2.alloc (.cells #[.bool t.list, .int .i64 t.num, .slice D t.items.length dd] 24)) (.bool t.list) (.int .i64 t.num) (.slice D t.items.length dd)
              simpa using this
            have TC := Lib.hid TC
            have OW := Lib.hid (S2.out.own.below (below_two w2 (.cells #[.bool t.list, .int .i64 t.num, .slice D t.items.length dd] 24)))
            obtain ⟨v0, v1, v2, _, _, _⟩ := S2.out.var.facts
            have hvl := S2.out.var.lt
            clear hgd htx hfw hta hb2 CL HC
            go_wp2_with (at_builtin
                         refine wpList_append_tree rfl (.tmp 96) (.tmp 98) rfl (w.heap.size + 2) c k A acc OW.out (w2.heap.size + 1) (.bool t.list) (.int .i64 t.num) (.slice D t.items.length dd) 1 t TC.out.facts.1 TC.out.facts.2.1 TC.out.facts.2.2.1 ⟨rfl, rfl, rfl⟩ IT.out rfl rfl (by omega) (by simp; omega) ?_
                         intro A3 c3 w3 z3 hz3 own3 g3
                         have SA := Lib.hid (S2.out.append (below_two w2 _) own3 g3)
                         obtain ⟨⟨u2, e2⟩, e3⟩ := SA.out.2
                         clear own3 g3)
            have S4 := Lib.hid SA.out.1
            have RD3 := Lib.hid (show Read k (s.data.toList.drop (p + 1)) z3 (s.data.toList.drop q2) by rw [hz3.out]; exact RD2.out)
            have hz4 : z3.length ≤ q2 := by rw [hz3.out]; simp; omega
            go_roundw
            case rel => exact ⟨z3, q2, A3, c3, rfl, S4.out, hq2, hz4, RD3.out⟩
            case measure => simp [intOf]; omega
          · have NO := Lib.hid (LIH.out.no hno)
            have b5 : Below w2.heap.size w2 (w2.alloc (.cells #[.bool false, .int .i64 0, .slice none 0 0] 24)) := (Below.refl _ _).alloc (Nat.le_refl _) _
            have S5 := Lib.hid ((S.out.call hb2).call b5)
            clear b5
            obtain ⟨z0, z1, z2, y0, y1, y2⟩ := S5.out.cell.facts
            clear hno hb2 CL HC
            go_wp2_with fail
            refine bodyPost_ret (v := .tuple #[zeroV, .int .i64 (-1)]) (by simp [results, Tryd.results22, go_sem, z0, z1, z2]) rfl ?_
            refine .inr ⟨at_none DA.out NO.out, rfl, below_set (below_set (below_set S5.out.bel (Nat.le_refl _) _ _) (Nat.le_refl _) _ _) (Nat.le_refl _) _ _⟩
        · have b8 : (((s[q]'he).toNat : Int) != 32) = true := by rw [bne_iff_ne]; intro e; exact h32 (UInt8.toNat_inj.1 (by show _ = 32; omega))
          have NO := Lib.hid (read_none RD0.out ha N41 (no_head s q 32 (fun _ e => h32 e)))
          have S5 := S
          obtain ⟨z0, z1, z2, y0, y1, y2⟩ := S5.out.cell.facts
          clear ha N41 h32
          go_wp2_with fail
          refine bodyPost_ret (v := .tuple #[zeroV, .int .i64 (-1)]) (by simp [results, Tryd.results22, go_sem, z0, z1, z2]) rfl ?_
          refine .inr ⟨at_none DA.out NO.out, rfl, below_set (below_set (below_set S5.out.bel (Nat.le_refl _) _ _) (Nat.le_refl _) _ _) (Nat.le_refl _) _ _⟩

set_option maxHeartbeats 1000000 in
set_option maxRecDepth 100000 in
theorem at_end (k : Nat) (s : ByteArray) (p : Nat) (x : Int) (w : World) (x1 : 1 ≤ x) (x6 : x ≤ 6) (x0 : decide (x < 1) = false) (g1 : decide ((s.size : Int) ≤ (p : Int)) = true) (g2 : decide (s.size ≤ p) = true) (DE : Hid (s.data.toList.drop p = [])) :
    Calls Tryd.prog 22 #[.string s, .int .i64 (p : Int), .int .i64 x] w (AtEnds (k + 1) s p w) := by
  go_enter Tryd.func22, Tryd.ntmps22
  go_wp2_with fail
  refine bodyPost_ret (v := .tuple #[zeroV, .int .i64 (-1)]) (by simp [results, Tryd.results22, go_sem]) rfl ?_
  exact .inr ⟨fun t r _ _ e => textV_nonnil t r (by rw [← e, DE.out]), rfl, (Below.refl _ _).alloc (Nat.le_refl _) _⟩

theorem at_ok : ∀ k, AtOK k
  | 0 => at_zero
  | k + 1 => by
    intro s p x y w hx hy hk hs hp
    subst hy
    by_cases h : p < s.size
    · by_cases hc : s[p]'h = 40
      · exact at_list k (at_ok k) s p x w hx hk hs h hc
      · exact at_num k s p x w hx hk hs h hc
    · have x1 : 1 ≤ x := by omega
      have x6 : x ≤ 6 := by omega
      have x0 : decide (x < 1) = false := by rw [decide_eq_false_iff_not]; omega
      have g1 : decide ((s.size : Int) ≤ (p : Int)) = true := by rw [decide_eq_true_eq]; omega
      have g2 : decide (s.size ≤ p) = true := by rw [decide_eq_true_eq]; omega
      have DE := Lib.hid (drop_end s p (by omega))
      clear hx h
      exact at_end k s p x w x1 x6 x0 g1 g2 DE
end Go.Proofs.YtgeljcfokeiaeaaDoor.Vals
