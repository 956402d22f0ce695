/- RankTells, part 6 of the proof: The document's own Tapes, so many of one. Conditions: a right generator of few parts that has few tapes. · Contracts of the document's own Large, PartFault and GenFault. Condition: the size. · Contracts of the document's own PartFault and GenFault. Condition: the size. · Contract of the document's own CountOf, of a right generator. Condition: the size. · The document's own Tapes, of every right generator of few parts that has few tapes. -/
import Derived.Test.YtffkppjmdelajaaDoorRankTellsZ5
import Derived.Test.YtffkppjmdelajaaDoorRankTellsZ4
import Derived.Lib.MinMax
/- The document's own Tapes, so many of one. Conditions: a right generator of few parts that has few tapes. -/
namespace Go.Proofs.YtffkppjmdelajaaDoor.Gens
open Go.RowKit Ints Rng
set_option linter.unusedVariables false

/-- the blocks that another's row is not among -/
def Off (w : World) (A : Option Addr) (b : Nat) : Prop := b < w.heap.size ∧ rowOf A ≠ some b
theorem off_grown {wr w3 w7 : World} {A2 A7 A3 : Option Addr} {p : List (List Int)} (h : RowsP wr (Off wr A2) (Off wr A2) A3 p) (hb : Below wr.heap.size wr w3) (hg : w3.grownBy w7 (rowOf A2)) (hr : rowOf A7 = rowOf A2 ∨ rowOf A7 = some w3.heap.size) : RowsP w7 (Off w7 A7) (Off w7 A7) A3 p := by
  have hk : ∀ b, Off wr A2 b → Off w7 A7 b ∧ ∀ o, w7.cell? ⟨b, o, none⟩ = wr.cell? ⟨b, o, none⟩ := by
    intro b hB
    have h1 := hb.size
    have h2 := hg.size
    refine ⟨⟨by have := hB.1; omega, ?_⟩, fun o => ?_⟩
    · rcases hr with e | e
      · rw [e]; exact hB.2
      · rw [e]; intro e2; injection e2 with e2; have := hB.1; omega
    · exact (World.cell?_of_block (hg.block b (by have := hB.1; omega) (fun e => hB.2 e.symm))).trans (hb.cell (p := ⟨b, o, none⟩) hB.1)
  exact h.keep hk hk
theorem off_below {wr w3 : World} {A2 A3 : Option Addr} {p : List (List Int)} (h : RowsP wr (Off wr A2) (Off wr A2) A3 p) (hb : Below wr.heap.size wr w3) : RowsAt w3 w3.heap.size A3 p :=
  h.keep (fun b hB => ⟨Nat.lt_of_lt_of_le hB.1 hb.size, fun o => hb.cell (p := ⟨b, o, none⟩) hB.1⟩) (fun b hB => ⟨Nat.lt_of_lt_of_le hB.1 hb.size, fun o => hb.cell (p := ⟨b, o, none⟩) hB.1⟩)
theorem off_new {w9 : World} {lo c : Nat} {A7 MA : Option Addr} {p : List (List Int)} (h : OwnRows w9 lo MA c p) (hg : ∀ g, rowOf A7 = some g → g < lo) : RowsP w9 (Off w9 A7) (Off w9 A7) MA p :=
  h.rows.keep (fun b hB => ⟨⟨hB.2.1, fun e => by have := hg b e; omega⟩, fun _ => rfl⟩) (fun b hB => ⟨⟨hB.2.1, fun e => by have := hg b e; omega⟩, fun _ => rfl⟩)
section
variable {n c B : Nat} {A : Option Addr} {w : World}
set_option maxHeartbeats 8000000 in
set_option maxRecDepth 100000 in
theorem tapes_many (ih : TapesOK n) (m : Nat) (b : Int) (y : Gn) (hm : m ≤ 5) (hy : Right y) (hs : y.size ≤ 30) (hc : (tapesG (.node 4 m b [y])).length ≤ 3000) (hB : B ≤ w.heap.size) (hq : longG y ≤ 1399680)
    (hit : 0 < [y].length → ∃ b off, A = some ⟨b, off, none⟩ ∧ GBel B b ∧ ∀ j (h : j < [y].length), ∃ x0 x1 x2 x3, w.cell? ⟨b, off + j * 4, none⟩ = some x0 ∧ w.cell? ⟨b, off + j * 4 + 1, none⟩ = some x1 ∧ w.cell? ⟨b, off + j * 4 + 2, none⟩ = some x2 ∧ w.cell? ⟨b, off + j * 4 + 3, none⟩ = some x3 ∧ GAt w (GBel B) n (.agg #[x0, x1, x2, x3]) ([y][j]'h)) :
    Calls Tryd.prog 25 #[.agg #[.int .i64 4, .int .i64 m, .int .i64 b, .slice A 1 c]] w (TmPost (tapesG (.node 4 m b [y])) w) := by
  have EV := Lib.hid (show tapesG (.node 4 m b [y]) = manyT (tapesG y) 0 (m + 1) by simp [tapesG, tapesGs])
  have H0 := Lib.hid (show Below w.heap.size w (w.alloc (.cells #[.int .i64 4, .int .i64 m, .int .i64 b, .slice A 1 c] 24)) from (Below.refl _ _).alloc (Nat.le_refl _) _)
  have O1 := Lib.hid (off_new (A7 := none) (own_nil_one (base := w.heap.size + 1) (b := w.heap.size + 2) (w := ((w.alloc (.cells #[.int .i64 4, .int .i64 m, .int .i64 b, .slice A 1 c] 24)).alloc (.cells #[.slice none 0 0] 25)).alloc (.cells #[.slice none 0 0] 25)) (by omega) (heap_new' _ _ (by simp))) (fun g h => by cases h))
  have HZ := Lib.hid (fun (j : Nat) (h : j ≤ m) => show (manyT (tapesG y) 0 (j + 1)).length ≤ 3000 from by
    have h1 := many_part (tapesG y) (j + 1) (m - j)
    rw [show j + 1 + (m - j) = m + 1 by omega, ← EV.out] at h1
    exact Nat.le_trans h1 hc)
  have HP := Lib.hid (fun (j : Nat) (h : j ≤ m) => show (powT (tapesG y) j).length ≤ 3000 from Nat.le_trans (pow_part _ (show j < m + 1 by omega)) (by rw [← EV.out]; exact hc))
  have ST := Lib.hid (fun (j : Nat) => show manyT (tapesG y) 0 (j + 1) = manyT (tapesG y) 0 j ++ timesL [[(j : Int)]] (powT (tapesG y) j) by rw [many_step, Nat.zero_add])
  have TL := Lib.hid (tape_len hy hq)
  have IH := Lib.hid (fun (D : Option Addr) (d : Nat) (W : World) (ht : GAt W (GBel B) n (gv y D d) y) (hB : B ≤ W.heap.size) (hl : (tapesG y).length ≤ 3000) => ih y _ B W ht hB hs hy hq hl)
  have HIT := Lib.hid hit
  have HB := Lib.hid hB
  clear ih hit hB hs hc hq hy
  go_enter Tryd.func25, Tryd.ntmps25
  go_wp2_with fail
  go_loopw [3, 7, 8] (fun v q i wr => ∃ (j : Nat) (A2 : Option Addr) (c2 : Nat) (z : List (List Int)) (A3 : Option Addr) (c3 : Nat) (p : List (List Int)), j ≤ m + 1 ∧ i = .int .i64 j ∧ v = .slice A2 z.length c2 ∧ q = .slice A3 p.length c3 ∧ Hid (z = manyT (tapesG y) 0 j) ∧ Hid (p = powT (tapesG y) (min j m)) ∧ Hid (OwnRows wr (w.heap.size + 1) A2 c2 z) ∧ Hid (RowsP wr (Off wr A2) (Off wr A2) A3 p) ∧ Hid (∀ x ∈ p, x.length ≤ j * 1399680) ∧ Hid (Below (w.alloc (.cells #[.int .i64 4, .int .i64 m, .int .i64 b, .slice A 1 c] 24)).heap.size (w.alloc (.cells #[.int .i64 4, .int .i64 m, .int .i64 b, .slice A 1 c] 24)) wr)) (fun _ _ i _ => m + 1 - (intOf i).toNat)
  case atStart => exact ⟨0, none, 0, [], some ⟨w.heap.size + 2, 0, none⟩, 1, [[]], Nat.zero_le _, rfl, rfl, rfl, rfl, (by show [[]] = powT _ (min 0 m); rw [Nat.zero_min]; rfl), OwnRows.zero, O1.out, fun x hx => by simp at hx; subst hx; simp, ((Below.refl _ _).alloc (Nat.le_refl _) _).alloc (by simp) _⟩
  case round =>
    obtain ⟨j, A2, c2, z, A3, c3, p, hj, rfl, rfl, rfl, hz, hp, ho, hpo, hx, hb⟩ := hrel
    obtain ⟨k0, k1, k2, k3⟩ := gbox w wr _ _ _ _ hb.out
    have hws : w.heap.size + 1 ≤ wr.heap.size := by have := hb.out.size; simpa using this
    have BW := Lib.hid (Rng.on H0.out hb.out)
    by_cases hlt : j ≤ m
    · have g1 : decide ((j : Int) ≤ m) = true := decide_eq_true (by omega)
      have HG := Lib.hid ho.out.ge
      have pj := Lib.hid (show p = powT (tapesG y) j by rw [hp.out, Nat.min_eq_left hlt])
      have pl : p.length ≤ 3000 := by rw [pj.out]; exact HP.out j hlt
      have HS := Lib.hid (show z ++ timesL [[(j : Int)]] p = manyT (tapesG y) 0 (j + 1) by rw [ST.out, hz.out, pj.out])
      have zl : z.length + p.length ≤ 3000 := by
        have h1 := HZ.out j hlt
        rw [← HS.out, List.length_append, timesL_len] at h1
        simp at h1
        omega
      have b2 : Below wr.heap.size wr ((wr.alloc (.cells #[.int .i64 (j : Int)] 3)).alloc (.cells #[.slice (some ⟨wr.heap.size, 0, none⟩) 1 1] 25)) := ((Below.refl _ _).alloc (Nat.le_refl _) _).alloc (by simp) _
      have tl : (timesL [[(j : Int)]] p).length ≤ 3000 := by rw [timesL_len]; simp; omega
      have M1 := Lib.hid (times_any [[(j : Int)]] p (some ⟨wr.heap.size + 1, 0, none⟩) A3 1 c3 _ _ (RowsP.more (row_new wr j) (by simp)) (off_below hpo.out b2) (Nat.le_refl _) (by omega) (by simp) (by omega) (fun x hx => by have := one_mem _ x hx; omega) (fun x h => by have := hx.out x h; omega))
      have B2 := Lib.hid b2
      clear b2
      go_wp2_with fail
      refine M1.out.mono ?_
      rintro e w3 ⟨MA, mc, rfl, mo, b4⟩
      have B4 := Lib.hid (Rng.on B2.out b4)
      have hw3 : wr.heap.size + 2 ≤ w3.heap.size := by have := b4.size; simp at this; omega
      have hg3 := fun (g : Nat) (hg : rowOf A2 = some g) => (show g < ((wr.alloc (.cells #[.int .i64 (j : Int)] 3)).alloc (.cells #[.slice (some ⟨wr.heap.size, 0, none⟩) 1 1] 25)).heap.size by have := (HG.out g hg).2; simp; omega)
      have RR := Lib.hid (fresh_src (base := w.heap.size + 1) (w := w3) mo hg3 (by simp; omega))
      have OO := Lib.hid (OwnRows.below ho.out B4.out)
      have X3 := Lib.hid (Rng.on hb.out B4.out)
      have hg1 := Lib.hid (fun (k : Nat) (hk : rowOf A2 = some k) => (HG.out k hk).1)
      clear b4 mo
      generalize timesL [[(j : Int)]] p = q at *
      have h63 : z.length + q.length ≤ 4398046511104 := by omega
      have hbs : w.heap.size + 1 ≤ w3.heap.size := by omega
      by_cases hja : j < m
      · have g2 : decide ((j : Int) < m) = true := decide_eq_true (by omega)
        have tyl : (tapesG y).length ≤ 3000 := by
          have h1 := HP.out 1 (by omega)
          rw [powT, powT, timesL_nil] at h1
          exact h1
        go_wp2_with (at_builtin
                     refine wpList_append_rows rfl (.tmp 81) (.tmp 86) rfl (w.heap.size + 1) c2 A2 z OO.out MA mc q RR.out rfl rfl h63 hbs ?_
                     intro A7 c7 w7 z7 hz7 own7 g7 r7
                     have X7 := Lib.hid (show Below (w.alloc (.cells #[.int .i64 4, .int .i64 m, .int .i64 b, .slice A 1 c] 24)).heap.size (w.alloc (.cells #[.int .i64 4, .int .i64 m, .int .i64 b, .slice A 1 c] 24)) w7 from Below.grown X3.out g7 (by simp; omega) (by intro k hk; have := hg1.out k hk; simpa using this))
                     have O7 := Lib.hid own7
                     have P7 := Lib.hid (off_grown hpo.out B4.out g7 r7)
                     obtain ⟨f0, f1, f2, f3⟩ := gbox w w7 _ _ _ _ X7.out
                     have BW7 := Lib.hid (Rng.on H0.out X7.out)
                     obtain ⟨ib, off, D, d, rfl, c0, c1, c2', c3', hti⟩ := sub_as HIT.out (BW7.out.mono HB.out) 0 (by simp)
                     simp only [Nat.zero_mul, Nat.add_zero, List.getElem_cons_zero] at c0 c1 c2' c3' hti
                     have T1 := Lib.hid (IH.out D d w7 hti (Nat.le_trans HB.out BW7.out.size) tyl)
                     clear own7 g7 r7 hti)
        refine T1.out.mono ?_
        rintro e w8 ⟨TA, tc, rfl, to, b8⟩
        have PS := Lib.hid (show timesL p (tapesG y) = powT (tapesG y) (j + 1) by rw [pj.out, powT])
        have pl2 : (timesL p (tapesG y)).length ≤ 3000 := by rw [PS.out]; exact HP.out (j + 1) hja
        have M2 := Lib.hid (times_any p (tapesG y) A3 TA c3 tc w8.heap.size w8 (off_below P7.out b8) to.at_ (Nat.le_refl _) (by omega) (by omega) (by omega) (fun x h => by have := hx.out x h; omega) (fun x h => by have := TL.out x h; omega))
        have EZ := Lib.hid (show z7 = manyT (tapesG y) 0 (j + 1) by rw [hz7.out, HS.out])
        have B8 := Lib.hid b8
        have hw8 : w7.heap.size ≤ w8.heap.size := b8.size
        clear b8 to
        go_wp2_with fail
        refine M2.out.mono ?_
        rintro e w9 ⟨RA, rc, rfl, ro, b9⟩
        have X9 := Lib.hid (Rng.on X7.out (Rng.on B8.out b9))
        have O9 := Lib.hid (O7.out.below (Rng.on B8.out b9))
        have P9 := Lib.hid (off_new (A7 := A7) ro (fun g hg => by have := (O7.out.ge g hg).2; omega))
        have L9 := Lib.hid (show ∀ x ∈ timesL p (tapesG y), x.length ≤ (j + 1) * 1399680 from fun x h => by have := times_mem hx.out TL.out x h; omega)
        have PE := Lib.hid (show timesL p (tapesG y) = powT (tapesG y) (min (j + 1) m) by rw [PS.out, Nat.min_eq_left (by omega)])
        clear b9 ro
        go_wp2_with fail
        go_roundw
        case rel => exact ⟨j + 1, A7, c7, z7, RA, rc, timesL p (tapesG y), by omega, by go_num, rfl, rfl, EZ.out, PE.out, O9.out, P9.out, L9.out, X9.out⟩
        case measure => simp [intOf]; omega
      · have g2 : decide ((j : Int) < m) = false := decide_eq_false (by omega)
        have PE := Lib.hid (show p = powT (tapesG y) (min (j + 1) m) by rw [pj.out, Nat.min_eq_right (show m ≤ j + 1 by omega), show m = j by omega])
        have L9 := Lib.hid (show ∀ x ∈ p, x.length ≤ (j + 1) * 1399680 from fun x h => Nat.le_trans (hx.out x h) (Nat.mul_le_mul_right _ (Nat.le_succ j)))
        go_wp2_with (at_builtin
                     refine wpList_append_rows rfl (.tmp 81) (.tmp 86) rfl (w.heap.size + 1) c2 A2 z OO.out MA mc q RR.out rfl rfl h63 hbs ?_
                     intro A7 c7 w7 z7 hz7 own7 g7 r7
                     have X7 := Lib.hid (show Below (w.alloc (.cells #[.int .i64 4, .int .i64 m, .int .i64 b, .slice A 1 c] 24)).heap.size (w.alloc (.cells #[.int .i64 4, .int .i64 m, .int .i64 b, .slice A 1 c] 24)) w7 from Below.grown X3.out g7 (by simp; omega) (by intro k hk; have := hg1.out k hk; simpa using this))
                     have O7 := Lib.hid own7
                     have P7 := Lib.hid (off_grown hpo.out B4.out g7 r7)
                     obtain ⟨f0, f1, f2, f3⟩ := gbox w w7 _ _ _ _ X7.out
                     have EZ := Lib.hid (show z7 = manyT (tapesG y) 0 (j + 1) by rw [hz7.out, HS.out])
                     clear own7 g7 r7)
        go_roundw
        case rel => exact ⟨j + 1, A7, c7, z7, A3, c3, p, by omega, by go_num, rfl, rfl, EZ.out, PE.out, O7.out, P7.out, L9.out, X7.out⟩
        case measure => simp [intOf]; omega
    · have EZ := Lib.hid (show z = tapesG (.node 4 m b [y]) by rw [EV.out, hz.out, show j = m + 1 by omega])
      have g1 : decide ((j : Int) ≤ m) = false := decide_eq_false (by omega)
      go_wp2_with fail
      go_ret
      exact ⟨A2, c2, (by rw [← EZ.out]; rfl), by rw [← EZ.out]; exact ho.out.less (by omega), BW.out⟩
end
end Go.Proofs.YtffkppjmdelajaaDoor.Gens

/- Contracts of the document's own Large, PartFault and GenFault. Condition: the size. -/
namespace Go.Proofs.YtffkppjmdelajaaDoor.Gens
open Go.RowKit Lists Ints
set_option linter.unusedVariables false

set_option maxHeartbeats 2000000 in
set_option maxRecDepth 100000 in
theorem large_any : ∀ (n : Nat) (t : Gn) (v : Value) (B : Nat) (deep : Int) (dn : Nat) (w : World), GAt w (GBel B) n v t → B ≤ w.heap.size → t.size ≤ 4294967296 → deep = dn → dn ≤ 6 →
    Calls Tryd.prog 42 #[v, .int .i64 deep] w fun e w' => e = .returned (.tuple #[.int .i64 (largeG t dn).1, .bool (largeG t dn).2]) ∧ Below w.heap.size w w' := by
  intro n
  induction n with
  | zero => intro t v B deep dn w h; exact h.elim
  | succ n ih =>
    intro t v B deep dn w h hB hsz hd hdn
    obtain ⟨m, A, c, e, hw, rfl, hit⟩ := h.open_
    obtain rfl : n = m := by omega
    have IH := Lib.hid ih
    have HIT := Lib.hid hit
    have HB := Lib.hid hB
    have HS := Lib.hid hsz
    have hln : t.subs.length ≤ 4294967296 := by have := glen_sizes t.subs; have := gsize_subs t; omega
    have EQ := Lib.hid (largeG_eq t dn)
    have H0 : Below w.heap.size w (w.alloc (gc t A c)) := (Below.refl _ _).alloc (Nat.le_refl _) _
    have H0 := Lib.hid H0
    have SB := Lib.hid (gsize_subs t)
    have dlo : 0 ≤ deep := by omega
    have dhi : deep ≤ 6 := by omega
    have HD := Lib.hid hd
    clear ih hit h hB hsz e hw hd
    by_cases h6 : 6 ≤ dn
    · have h6' : (6 : Int) ≤ deep := by have := HD.out; omega
      have EQ := Lib.hid (show largeG t dn = (1, true) by rw [EQ.out, if_pos h6])
      go_enter Tryd.func42, Tryd.ntmps42
      go_wp2_with fail
      go_ret2
      exact ⟨by rw [EQ.out]; rfl, H0.out⟩
    · have h6' : ¬ (6 : Int) ≤ deep := by have := HD.out; omega
      have EQ := Lib.hid (show largeG t dn = largeGs t.subs (dn + 1) 1 by rw [EQ.out, if_neg h6])
      go_enter Tryd.func42, Tryd.ntmps42
      go_wp2_with fail
      go_loopw [6, 7] (fun a i wr => ∃ (k o : Nat), k ≤ t.subs.length ∧ i = .int .i64 k ∧ a = .int .i64 o ∧ o ≤ 30 ∧ Below (w.alloc (gc t A c)).heap.size (w.alloc (gc t A c)) wr ∧ Hid (largeG t dn = largeGs (t.subs.drop k) (dn + 1) o)) (fun _ i _ => t.subs.length - (intOf i).toNat)
      case atStart => exact ⟨0, 1, Nat.zero_le _, rfl, rfl, by omega, Below.refl _ _, (show largeG t dn = largeGs (t.subs.drop 0) (dn + 1) 1 from EQ.out)⟩
      case round =>
        obtain ⟨k, o, hk, rfl, rfl, ho, hb, hz⟩ := hrel
        obtain ⟨_, _, _, cb⟩ := gbox w wr _ _ _ _ hb
        have hw : Below w.heap.size w wr := on H0.out hb
        have HBW := Lib.hid hb
        have HWW := Lib.hid hw
        clear hb hw
        by_cases hlt : k < t.subs.length
        · obtain ⟨ib, off, D, d, rfl, c0, c1, c2, c3, hti⟩ := sub_as HIT.out (HWW.out.mono HB.out) k hlt
          have hsi : (t.subs[k]'hlt).size ≤ 4294967296 := by have := gsize_mem t.subs _ (List.getElem_mem hlt); have h3 := HS.out; have := SB.out; omega
          have C1 := IH.out (t.subs[k]'hlt) _ B (deep + 1) (dn + 1) wr hti (Nat.le_trans HB.out HWW.out.size) hsi (by have := HD.out; omega) (by omega)
          have DR := Lib.hid (largeGs_drop t.subs k (dn + 1) o hlt)
          have KL := largeG_le (t.subs[k]'hlt) (dn + 1) (by omega)
          clear hti hsi
          generalize hgl : largeG (t.subs[k]'hlt) (dn + 1) = q at C1 DR KL
          clear hgl
          obtain ⟨j, is⟩ := q
          simp only [] at C1 KL
          have j300 : j ≤ 300 := by omega
          clear KL
          have DR := Lib.hid (show largeGs (t.subs.drop k) (dn + 1) o = if is = true ∨ 30 < o + j then (o + j, true) else largeGs (t.subs.drop (k + 1)) (dn + 1) (o + j) from DR.out)
          generalize t.subs[k]'hlt = y at C1 c0 c1 c2 c3
          have HC1 := Lib.hid C1
          clear C1
          cases is with
          | true =>
            have EV := Lib.hid (show largeG t dn = (o + j, true) by rw [hz.out, DR.out, if_pos (.inl rfl)])
            go_wp2_with fail
            refine HC1.out.mono ?_
            rintro e w2 ⟨rfl, hb2⟩
            have B2 := Lib.hid (on HWW.out hb2)
            clear hb2
            go_wp2_with fail
            go_ret2
            exact ⟨ret_p (a := .int .i64 (o + j : Nat)) (b := .bool true) (by rw [EV.out]) (by rw [EV.out]), B2.out⟩
          | false =>
            by_cases hq : 30 < o + j
            · have EV := Lib.hid (show largeG t dn = (o + j, true) by rw [hz.out, DR.out, if_pos (.inr hq)])
              have g1 : decide (30 < (o : Int) + (j : Int)) = true := by rw [decide_eq_true_eq]; omega
              go_wp2_with fail
              refine HC1.out.mono ?_
              rintro e w2 ⟨rfl, hb2⟩
              have B2 := Lib.hid (on HWW.out hb2)
              clear hb2
              go_wp2_with fail
              go_ret2
              exact ⟨ret_p (a := .int .i64 (o + j : Nat)) (b := .bool true) (by rw [EV.out]) (by rw [EV.out]), B2.out⟩
            · have EV := Lib.hid (show largeG t dn = largeGs (t.subs.drop (k + 1)) (dn + 1) (o + j) by rw [hz.out, DR.out, if_neg (by simp; omega)])
              have g1 : decide (30 < (o : Int) + (j : Int)) = false := by rw [decide_eq_false_iff_not]; omega
              go_wp2_with fail
              refine HC1.out.mono ?_
              rintro e w2 ⟨rfl, hb2⟩
              have B2 := Lib.hid (on HBW.out hb2)
              clear hb2
              go_wp2_with fail
              go_roundw
              case rel => exact ⟨k + 1, o + j, hlt, by go_num, by go_num, by omega, B2.out, EV.out⟩
              case measure => simp [intOf]; omega
        · have g1 : decide (30 < (o : Int)) = false := by rw [decide_eq_false_iff_not]; omega
          have EV := Lib.hid (show largeG t dn = (o, false) by
            rw [hz.out, List.drop_eq_nil_of_le (by omega), largeGs]
            congr 1
            rw [decide_eq_false_iff_not]; omega)
          go_wp2_with fail
          go_ret2
          exact ⟨ret_p (a := .int .i64 (o : Nat)) (b := .bool false) (by rw [EV.out]) (by rw [EV.out]), HWW.out⟩
end Go.Proofs.YtffkppjmdelajaaDoor.Gens

/- Contracts of the document's own PartFault and GenFault. Condition: the size. -/
namespace Go.Proofs.YtffkppjmdelajaaDoor.Gens
open Go.RowKit Lists Ints
set_option linter.unusedVariables false

theorem far_any (x : Int) (h : I64 x) (w : World) : Calls Tryd.prog 68 #[.int .i64 x] w fun e w' => e = .returned (.bool (farB x)) ∧ w = w' := by
  obtain ⟨h1, h2⟩ := h
  by_cases a : x < -1073741824
  · have g : decide (x < -1073741824) = true := by rw [decide_eq_true_eq]; exact a
    have HV := Lib.hid (show farB x = true by unfold farB; rw [g]; rfl)
    go_enter Tryd.func68, Tryd.ntmps68
    go_wp2
    go_ret
    exact ⟨ret_b HV.out.symm, rfl⟩
  · have g : decide (x < -1073741824) = false := by rw [decide_eq_false_iff_not]; exact a
    have HV := Lib.hid (show farB x = decide (1073741824 < x) by unfold farB; rw [g]; rfl)
    go_enter Tryd.func68, Tryd.ntmps68
    go_wp2
    go_ret
    exact ⟨ret_b HV.out.symm, rfl⟩
theorem far_not {x : Int} (h : farB x = false) : -1073741824 ≤ x ∧ x ≤ 1073741824 := by
  simp only [farB, Bool.or_eq_false_iff] at h
  have := of_decide_eq_false h.1
  have := of_decide_eq_false h.2
  omega

set_option maxHeartbeats 8000000 in
set_option maxRecDepth 100000 in
theorem part_any : ∀ (n : Nat) (t : Gn) (v : Value) (B : Nat) (w : World), GAt w (GBel B) n v t → B ≤ w.heap.size → t.size ≤ 4294967296 →
    Calls Tryd.prog 43 #[v] w fun e w' => e = .returned (.int .i64 (partV t)) ∧ Below w.heap.size w w' := by
  intro n
  induction n with
  | zero => intro t v B w h; exact h.elim
  | succ n ih =>
    intro t v B w h hB hsz
    obtain ⟨m, A, c, e, hw, rfl, hit⟩ := h.open_
    obtain rfl : n = m := by omega
    have IH := Lib.hid ih
    have HIT := Lib.hid hit
    have HB := Lib.hid hB
    have HS := Lib.hid hsz
    have hln : t.subs.length ≤ 4294967296 := by have := glen_sizes t.subs; have := gsize_subs t; omega
    have EQ := Lib.hid (partV_eq t)
    have H0 : Below w.heap.size w (w.alloc (gc t A c)) := (Below.refl _ _).alloc (Nat.le_refl _) _
    have H0 := Lib.hid H0
    have SB := Lib.hid (gsize_subs t)
    obtain ⟨w1, w2, w3⟩ := hw
    obtain ⟨k1, k2⟩ := i64_wf w1
    have IA := Lib.hid (i64_wf w2)
    have IB := Lib.hid (i64_wf w3)
    clear ih hit h hB hsz e w1 w2 w3
    cases t with | node k a b subs =>
    simp only [Gn.kind, Gn.a, Gn.b, Gn.subs] at *
    change Calls Tryd.prog 43 #[.agg #[.int .i64 k, .int .i64 a, .int .i64 b, .slice A subs.length c]] w _
    have KB : kindBad (.node k a b subs) = (decide (k < 1) || decide (5 < k)) := rfl
    have RB : rangeBad (.node k a b subs) = ((k == 1 && farB a) || (k == 2 && (farB a || farB b || decide (b < a) || decide (1000 < b - a))) || (k == 4 && (decide (a < 0) || decide (5 < a)))) := rfl
    have SU : subsBad (.node k a b subs) = ((decide (k ≤ 2) && !subs.isEmpty) || (k == 4 && (subs.length != 1)) || (k == 5 && subs.isEmpty)) := rfl
    have FA := Lib.hid (fun w => far_any a IA.out w)
    have FB := Lib.hid (fun w => far_any b IB.out w)
    obtain ⟨a1, a2⟩ := IA.out
    obtain ⟨b1, b2⟩ := IB.out
    by_cases hk : 1 ≤ k ∧ k ≤ 5
    · have EQ := Lib.hid (show partV (.node k a b subs) = if rangeBad (.node k a b subs) = true then 1 else if subsBad (.node k a b subs) = true then 3 else partVs subs by
        have e1 : kindBad (.node k a b subs) = false := by rw [KB, Bool.or_eq_false_iff, decide_eq_false_iff_not, decide_eq_false_iff_not]; omega
        have := EQ.out
        rw [e1] at this
        simpa using this)
      have hEQ := EQ
      have HRB := Lib.hid RB
      have HSU := Lib.hid SU
      clear KB RB SU EQ
      rcases (show k = 1 ∨ k = 2 ∨ k = 3 ∨ k = 4 ∨ k = 5 by omega) with rfl | rfl | rfl | rfl | rfl
      · rcases hfa : farB a with _ | _
        · rw [hfa] at FA
          by_cases hs : subs = []
          · subst hs
            have EV := Lib.hid (show partV (.node 1 a b []) = partVs [] by
              have h1 := hEQ.out
              have h2 := HRB.out
              have h3 := HSU.out
              simp [hfa] at h2 h3
              simpa [h2, h3] using h1)
            go_enter Tryd.func43, Tryd.ntmps43
            go_wp2_with fail
            refine (FA.out _).mono ?_
            rintro e w9 ⟨rfl, rfl⟩
            go_wp2_with fail
            refine wp_loop_rounds 1 ?_
            rw [rounds_succ]
            go_wp2_with fail
            go_ret
            exact ⟨ret_v (a := .int .i64 0) (by rw [EV.out]; rfl), H0.out⟩
          · have hp : 0 < subs.length := List.length_pos_iff.2 hs
            have hi : subs.isEmpty = false := by cases subs with | nil => exact absurd rfl hs | cons _ _ => rfl
            have l1 : decide (0 < (subs.length : Int)) = true := by rw [decide_eq_true_eq]; omega
            have l2 : decide (0 < subs.length) = true := by rw [decide_eq_true_eq]; omega
            have EV := Lib.hid (show partV (.node 1 a b subs) = 3 by
              have h1 := hEQ.out
              have h2 := HRB.out
              have h3 := HSU.out
              simp [hfa, hi] at h2 h3
              simpa [h2, h3] using h1)
            clear hs
            go_enter Tryd.func43, Tryd.ntmps43
            go_wp2_with fail
            refine (FA.out _).mono ?_
            rintro e w9 ⟨rfl, rfl⟩
            go_wp2_with fail
            go_ret
            exact ⟨ret_int EV.out.symm, H0.out⟩
        · rw [hfa] at FA
          have EV := Lib.hid (show partV (.node 1 a b subs) = 1 by
            have h1 := hEQ.out
            have h2 := HRB.out
            have h3 := HSU.out
            simp [hfa] at h2
            simpa [h2] using h1)
          go_enter Tryd.func43, Tryd.ntmps43
          go_wp2_with fail
          refine (FA.out _).mono ?_
          rintro e w9 ⟨rfl, rfl⟩
          go_wp2_with fail
          go_ret
          exact ⟨ret_int EV.out.symm, H0.out⟩
      · rcases hfa : farB a with _ | _
        · rw [hfa] at FA
          obtain ⟨f1, f2⟩ := far_not hfa
          rcases hfb : farB b with _ | _
          · rw [hfb] at FB
            obtain ⟨f3, f4⟩ := far_not hfb
            by_cases hba : b < a
            · have d1 : decide (b < a) = true := by rw [decide_eq_true_eq]; exact hba
              have EV := Lib.hid (show partV (.node 2 a b subs) = 1 by
                have h1 := hEQ.out
                have h2 := HRB.out
                have h3 := HSU.out
                simp [hfa, hfb, hba] at h2
                simpa [h2] using h1)
              clear hba
              go_enter Tryd.func43, Tryd.ntmps43
              go_wp2_with fail
              refine (FA.out _).mono ?_
              rintro e w9 ⟨rfl, rfl⟩
              go_wp2_with fail
              refine (FB.out _).mono ?_
              rintro e w9 ⟨rfl, rfl⟩
              go_wp2_with fail
              go_ret
              exact ⟨ret_int EV.out.symm, H0.out⟩
            · have d1 : decide (b < a) = false := by rw [decide_eq_false_iff_not]; exact hba
              by_cases hsp : 1000 < b - a
              · have d2 : decide (1000 < b - a) = true := by rw [decide_eq_true_eq]; exact hsp
                have EV := Lib.hid (show partV (.node 2 a b subs) = 1 by
                  have h1 := hEQ.out
                  have h2 := HRB.out
                  have h3 := HSU.out
                  simp [hfa, hfb, hsp] at h2
                  simpa [h2] using h1)
                clear hba hsp
                go_enter Tryd.func43, Tryd.ntmps43
                go_wp2_with fail
                refine (FA.out _).mono ?_
                rintro e w9 ⟨rfl, rfl⟩
                go_wp2_with fail
                refine (FB.out _).mono ?_
                rintro e w9 ⟨rfl, rfl⟩
                go_wp2_with fail
                go_ret
                exact ⟨ret_int EV.out.symm, H0.out⟩
              · have d2 : decide (1000 < b - a) = false := by rw [decide_eq_false_iff_not]; exact hsp
                by_cases hs : subs = []
                · subst hs
                  have EV := Lib.hid (show partV (.node 2 a b []) = partVs [] by
                    have h1 := hEQ.out
                    have h2 := HRB.out
                    have h3 := HSU.out
                    simp [hfa, hfb, d1, d2] at h2 h3
                    simpa [h2, h3] using h1)
                  go_enter Tryd.func43, Tryd.ntmps43
                  go_wp2_with fail
                  refine (FA.out _).mono ?_
                  rintro e w9 ⟨rfl, rfl⟩
                  go_wp2_with fail
                  refine (FB.out _).mono ?_
                  rintro e w9 ⟨rfl, rfl⟩
                  go_wp2_with fail
                  refine wp_loop_rounds 1 ?_
                  rw [rounds_succ]
                  go_wp2_with fail
                  go_ret
                  exact ⟨ret_v (a := .int .i64 0) (by rw [EV.out]; rfl), H0.out⟩
                · have hp : 0 < subs.length := List.length_pos_iff.2 hs
                  have hi : subs.isEmpty = false := by cases subs with | nil => exact absurd rfl hs | cons _ _ => rfl
                  have l1 : decide (0 < (subs.length : Int)) = true := by rw [decide_eq_true_eq]; omega
                  have l2 : decide (0 < subs.length) = true := by rw [decide_eq_true_eq]; omega
                  have EV := Lib.hid (show partV (.node 2 a b subs) = 3 by
                    have h1 := hEQ.out
                    have h2 := HRB.out
                    have h3 := HSU.out
                    simp [hfa, hfb, d1, d2, hi] at h2 h3
                    simpa [h2, h3] using h1)
                  clear hs
                  go_enter Tryd.func43, Tryd.ntmps43
                  go_wp2_with fail
                  refine (FA.out _).mono ?_
                  rintro e w9 ⟨rfl, rfl⟩
                  go_wp2_with fail
                  refine (FB.out _).mono ?_
                  rintro e w9 ⟨rfl, rfl⟩
                  go_wp2_with fail
                  go_ret
                  exact ⟨ret_int EV.out.symm, H0.out⟩
          · rw [hfb] at FB
            have EV := Lib.hid (show partV (.node 2 a b subs) = 1 by
              have h1 := hEQ.out
              have h2 := HRB.out
              have h3 := HSU.out
              simp [hfa, hfb] at h2
              simpa [h2] using h1)
            go_enter Tryd.func43, Tryd.ntmps43
            go_wp2_with fail
            refine (FA.out _).mono ?_
            rintro e w9 ⟨rfl, rfl⟩
            go_wp2_with fail
            refine (FB.out _).mono ?_
            rintro e w9 ⟨rfl, rfl⟩
            go_wp2_with fail
            go_ret
            exact ⟨ret_int EV.out.symm, H0.out⟩
        · rw [hfa] at FA
          have EV := Lib.hid (show partV (.node 2 a b subs) = 1 by
            have h1 := hEQ.out
            have h2 := HRB.out
            have h3 := HSU.out
            simp [hfa] at h2
            simpa [h2] using h1)
          go_enter Tryd.func43, Tryd.ntmps43
          go_wp2_with fail
          refine (FA.out _).mono ?_
          rintro e w9 ⟨rfl, rfl⟩
          go_wp2_with fail
          go_ret
          exact ⟨ret_int EV.out.symm, H0.out⟩
      · have EV := Lib.hid (show partV (.node 3 a b subs) = partVs subs by
          have h1 := hEQ.out
          have h2 := HRB.out
          have h3 := HSU.out
          simp at h2 h3
          simpa [h2, h3] using h1)
        go_enter Tryd.func43, Tryd.ntmps43
        go_wp2_with fail
        go_loopw [3] (fun i wr => ∃ k : Nat, k ≤ subs.length ∧ i = .int .i64 k ∧ Below (w.alloc (.cells #[.int .i64 3, .int .i64 a, .int .i64 b, .slice A subs.length c] 24)).heap.size (w.alloc (.cells #[.int .i64 3, .int .i64 a, .int .i64 b, .slice A subs.length c] 24)) wr ∧ Hid (partVs (subs.take k) = 0)) (fun i _ => subs.length - (intOf i).toNat)
        case atStart => exact ⟨0, Nat.zero_le _, rfl, Below.refl _ _, (show partVs (subs.take 0) = 0 from rfl)⟩
        case round =>
          obtain ⟨k, hk, rfl, hb, hz⟩ := hrel
          obtain ⟨_, _, _, cb⟩ := gbox w wr _ _ _ _ hb
          have HWW := Lib.hid (on H0.out hb)
          have HBW := Lib.hid hb
          clear hb
          by_cases hlt : k < subs.length
          · obtain ⟨ib, off, D, d, rfl, c0, c1, c2, c3, hti⟩ := sub_as HIT.out (HWW.out.mono HB.out) k hlt
            have hsi : (subs[k]'hlt).size ≤ 4294967296 := by have := gsize_mem subs _ (List.getElem_mem hlt); have h3 := HS.out; have h4 := SB.out; omega
            have C1 := IH.out (subs[k]'hlt) _ B wr hti (Nat.le_trans HB.out HWW.out.size) hsi
            clear hti hsi
            by_cases hf : partV (subs[k]'hlt) = 0
            · have hz2 := Lib.hid (part_step0 subs k hlt hz.out hf)
              rw [hf] at C1
              have HC1 := Lib.hid C1
              clear C1 hf
              generalize subs[k]'hlt = y at HC1 c0 c1 c2 c3
              go_wp2_with fail
              refine HC1.out.mono ?_
              rintro e w2 ⟨rfl, hb2⟩
              have B2 := Lib.hid (on HBW.out hb2)
              clear hb2
              go_wp2_with fail
              go_roundw
              case rel => exact ⟨k + 1, hlt, by go_num, B2.out, hz2.out⟩
              case measure => simp [intOf]; omega
            · have hr := Lib.hid (part_step1 subs k hlt hz.out hf)
              have hne : (partV (subs[k]'hlt) != 0) = true := by rw [bne_iff_ne]; exact hf
              generalize partV (subs[k]'hlt) = q at C1 hr hne
              have HC1 := Lib.hid C1
              clear C1 hf
              generalize subs[k]'hlt = y at HC1 c0 c1 c2 c3
              go_wp2_with fail
              refine HC1.out.mono ?_
              rintro e w2 ⟨rfl, hb2⟩
              have B2 := Lib.hid (on HWW.out hb2)
              clear hb2
              go_wp2_with fail
              go_ret
              exact ⟨ret_v (a := .int .i64 q) (by rw [EV.out, hr.out]), B2.out⟩
          · have hr := Lib.hid (show partVs subs = 0 by rw [← List.take_of_length_le (show subs.length ≤ k by omega)]; exact hz.out)
            go_wp2_with fail
            go_ret
            exact ⟨ret_v (a := .int .i64 0) (by rw [EV.out, hr.out]), HWW.out⟩
      · by_cases ha0 : a < 0
        · have d1 : decide (a < 0) = true := by rw [decide_eq_true_eq]; exact ha0
          have EV := Lib.hid (show partV (.node 4 a b subs) = 1 by
            have h1 := hEQ.out
            have h2 := HRB.out
            have h3 := HSU.out
            simp [ha0] at h2
            simpa [h2] using h1)
          clear ha0
          go_enter Tryd.func43, Tryd.ntmps43
          go_wp2_with fail
          go_ret
          exact ⟨ret_int EV.out.symm, H0.out⟩
        · have d1 : decide (a < 0) = false := by rw [decide_eq_false_iff_not]; exact ha0
          by_cases ha5 : 5 < a
          · have d2 : decide (5 < a) = true := by rw [decide_eq_true_eq]; exact ha5
            have EV := Lib.hid (show partV (.node 4 a b subs) = 1 by
              have h1 := hEQ.out
              have h2 := HRB.out
              have h3 := HSU.out
              simp [ha5] at h2
              simpa [h2] using h1)
            clear ha0 ha5
            go_enter Tryd.func43, Tryd.ntmps43
            go_wp2_with fail
            go_ret
            exact ⟨ret_int EV.out.symm, H0.out⟩
          · have d2 : decide (5 < a) = false := by rw [decide_eq_false_iff_not]; exact ha5
            by_cases hl1 : subs.length = 1
            · have n1 : ((subs.length : Int) != 1) = false := by rw [bne_eq_false_iff_eq]; omega
              have EV := Lib.hid (show partV (.node 4 a b subs) = partVs subs by
                have h1 := hEQ.out
                have h2 := HRB.out
                have h3 := HSU.out
                simp [d1, d2, hl1] at h2 h3
                simpa [h2, h3] using h1)
              have HL1 := Lib.hid hl1
              clear ha0 ha5 hl1
              go_enter Tryd.func43, Tryd.ntmps43
              go_wp2_with fail
              go_loopw [3] (fun i wr => ∃ k : Nat, k ≤ subs.length ∧ i = .int .i64 k ∧ Below (w.alloc (.cells #[.int .i64 4, .int .i64 a, .int .i64 b, .slice A subs.length c] 24)).heap.size (w.alloc (.cells #[.int .i64 4, .int .i64 a, .int .i64 b, .slice A subs.length c] 24)) wr ∧ Hid (partVs (subs.take k) = 0)) (fun i _ => subs.length - (intOf i).toNat)
              case atStart => exact ⟨0, Nat.zero_le _, rfl, Below.refl _ _, (show partVs (subs.take 0) = 0 from rfl)⟩
              case round =>
                obtain ⟨k, hk, rfl, hb, hz⟩ := hrel
                obtain ⟨_, _, _, cb⟩ := gbox w wr _ _ _ _ hb
                have HWW := Lib.hid (on H0.out hb)
                have HBW := Lib.hid hb
                clear hb
                by_cases hlt : k < subs.length
                · obtain ⟨ib, off, D, d, rfl, c0, c1, c2, c3, hti⟩ := sub_as HIT.out (HWW.out.mono HB.out) k hlt
                  have hsi : (subs[k]'hlt).size ≤ 4294967296 := by have := gsize_mem subs _ (List.getElem_mem hlt); have h3 := HS.out; have h4 := SB.out; omega
                  have C1 := IH.out (subs[k]'hlt) _ B wr hti (Nat.le_trans HB.out HWW.out.size) hsi
                  clear hti hsi
                  by_cases hf : partV (subs[k]'hlt) = 0
                  · have hz2 := Lib.hid (part_step0 subs k hlt hz.out hf)
                    rw [hf] at C1
                    have HC1 := Lib.hid C1
                    clear C1 hf
                    generalize subs[k]'hlt = y at HC1 c0 c1 c2 c3
                    go_wp2_with fail
                    refine HC1.out.mono ?_
                    rintro e w2 ⟨rfl, hb2⟩
                    have B2 := Lib.hid (on HBW.out hb2)
                    clear hb2
                    go_wp2_with fail
                    go_roundw
                    case rel => exact ⟨k + 1, hlt, by go_num, B2.out, hz2.out⟩
                    case measure => simp [intOf]; omega
                  · have hr := Lib.hid (part_step1 subs k hlt hz.out hf)
                    have hne : (partV (subs[k]'hlt) != 0) = true := by rw [bne_iff_ne]; exact hf
                    generalize partV (subs[k]'hlt) = q at C1 hr hne
                    have HC1 := Lib.hid C1
                    clear C1 hf
                    generalize subs[k]'hlt = y at HC1 c0 c1 c2 c3
                    go_wp2_with fail
                    refine HC1.out.mono ?_
                    rintro e w2 ⟨rfl, hb2⟩
                    have B2 := Lib.hid (on HWW.out hb2)
                    clear hb2
                    go_wp2_with fail
                    go_ret
                    exact ⟨ret_v (a := .int .i64 q) (by rw [EV.out, hr.out]), B2.out⟩
                · have hr := Lib.hid (show partVs subs = 0 by rw [← List.take_of_length_le (show subs.length ≤ k by omega)]; exact hz.out)
                  go_wp2_with fail
                  go_ret
                  exact ⟨ret_v (a := .int .i64 0) (by rw [EV.out, hr.out]), HWW.out⟩
            · have n1 : ((subs.length : Int) != 1) = true := by rw [bne_iff_ne]; omega
              have EV := Lib.hid (show partV (.node 4 a b subs) = 3 by
                have h1 := hEQ.out
                have h2 := HRB.out
                have h3 := HSU.out
                simp [d1, d2] at h2 h3
                simpa [h2, h3, hl1] using h1)
              clear ha0 ha5 hl1
              go_enter Tryd.func43, Tryd.ntmps43
              go_wp2_with fail
              go_ret
              exact ⟨ret_int EV.out.symm, H0.out⟩
      · by_cases hs : subs = []
        · subst hs
          have EV := Lib.hid (show partV (.node 5 a b []) = 3 by
            have h1 := hEQ.out
            have h2 := HRB.out
            have h3 := HSU.out
            simp at h2 h3
            simpa [h2, h3] using h1)
          go_enter Tryd.func43, Tryd.ntmps43
          go_wp2_with fail
          go_ret
          exact ⟨ret_int EV.out.symm, H0.out⟩
        · have hp : 0 < subs.length := List.length_pos_iff.2 hs
          have hi : subs.isEmpty = false := by cases subs with | nil => exact absurd rfl hs | cons _ _ => rfl
          have n1 : ((subs.length : Int) == 0) = false := by rw [beq_eq_false_iff_ne]; omega
          have EV := Lib.hid (show partV (.node 5 a b subs) = partVs subs by
            have h1 := hEQ.out
            have h2 := HRB.out
            have h3 := HSU.out
            simp [hi] at h2 h3
            simpa [h2, h3] using h1)
          clear hs
          go_enter Tryd.func43, Tryd.ntmps43
          go_wp2_with fail
          go_loopw [3] (fun i wr => ∃ k : Nat, k ≤ subs.length ∧ i = .int .i64 k ∧ Below (w.alloc (.cells #[.int .i64 5, .int .i64 a, .int .i64 b, .slice A subs.length c] 24)).heap.size (w.alloc (.cells #[.int .i64 5, .int .i64 a, .int .i64 b, .slice A subs.length c] 24)) wr ∧ Hid (partVs (subs.take k) = 0)) (fun i _ => subs.length - (intOf i).toNat)
          case atStart => exact ⟨0, Nat.zero_le _, rfl, Below.refl _ _, (show partVs (subs.take 0) = 0 from rfl)⟩
          case round =>
            obtain ⟨k, hk, rfl, hb, hz⟩ := hrel
            obtain ⟨_, _, _, cb⟩ := gbox w wr _ _ _ _ hb
            have HWW := Lib.hid (on H0.out hb)
            have HBW := Lib.hid hb
            clear hb
            by_cases hlt : k < subs.length
            · obtain ⟨ib, off, D, d, rfl, c0, c1, c2, c3, hti⟩ := sub_as HIT.out (HWW.out.mono HB.out) k hlt
              have hsi : (subs[k]'hlt).size ≤ 4294967296 := by have := gsize_mem subs _ (List.getElem_mem hlt); have h3 := HS.out; have h4 := SB.out; omega
              have C1 := IH.out (subs[k]'hlt) _ B wr hti (Nat.le_trans HB.out HWW.out.size) hsi
              clear hti hsi
              by_cases hf : partV (subs[k]'hlt) = 0
              · have hz2 := Lib.hid (part_step0 subs k hlt hz.out hf)
                rw [hf] at C1
                have HC1 := Lib.hid C1
                clear C1 hf
                generalize subs[k]'hlt = y at HC1 c0 c1 c2 c3
                go_wp2_with fail
                refine HC1.out.mono ?_
                rintro e w2 ⟨rfl, hb2⟩
                have B2 := Lib.hid (on HBW.out hb2)
                clear hb2
                go_wp2_with fail
                go_roundw
                case rel => exact ⟨k + 1, hlt, by go_num, B2.out, hz2.out⟩
                case measure => simp [intOf]; omega
              · have hr := Lib.hid (part_step1 subs k hlt hz.out hf)
                have hne : (partV (subs[k]'hlt) != 0) = true := by rw [bne_iff_ne]; exact hf
                generalize partV (subs[k]'hlt) = q at C1 hr hne
                have HC1 := Lib.hid C1
                clear C1 hf
                generalize subs[k]'hlt = y at HC1 c0 c1 c2 c3
                go_wp2_with fail
                refine HC1.out.mono ?_
                rintro e w2 ⟨rfl, hb2⟩
                have B2 := Lib.hid (on HWW.out hb2)
                clear hb2
                go_wp2_with fail
                go_ret
                exact ⟨ret_v (a := .int .i64 q) (by rw [EV.out, hr.out]), B2.out⟩
            · have hr := Lib.hid (show partVs subs = 0 by rw [← List.take_of_length_le (show subs.length ≤ k by omega)]; exact hz.out)
              go_wp2_with fail
              go_ret
              exact ⟨ret_v (a := .int .i64 0) (by rw [EV.out, hr.out]), HWW.out⟩
    · have EV := Lib.hid (show partV (.node k a b subs) = 3 by
        have e1 : kindBad (.node k a b subs) = true := by rw [KB, Bool.or_eq_true, decide_eq_true_eq, decide_eq_true_eq]; omega
        have := EQ.out
        rw [e1] at this
        simpa using this)
      clear KB RB SU EQ
      rcases (show k < 1 ∨ (¬ k < 1 ∧ 5 < k) by omega) with g | ⟨g, g'⟩
      · have e1 : decide (k < 1) = true := by rw [decide_eq_true_eq]; exact g
        clear hk g
        go_enter Tryd.func43, Tryd.ntmps43
        go_wp2_with fail
        go_ret
        exact ⟨ret_int EV.out.symm, H0.out⟩
      · have e1 : decide (k < 1) = false := by rw [decide_eq_false_iff_not]; exact g
        have e2 : decide (5 < k) = true := by rw [decide_eq_true_eq]; exact g'
        clear hk g g'
        go_enter Tryd.func43, Tryd.ntmps43
        go_wp2_with fail
        go_ret
        exact ⟨ret_int EV.out.symm, H0.out⟩

/-- GenFault -/
theorem gen_any (n : Nat) (t : Gn) (A : Option Addr) (c B : Nat) (w : World) (h : GAt w (GBel B) n (gv t A c) t) (hB : B ≤ w.heap.size) (hs : t.size ≤ 4294967296) :
    Calls Tryd.prog 12 #[gv t A c] w fun e w' => e = .returned (.int .i64 (genV t)) ∧ Below w.heap.size w w' := by
  have H0 : Below w.heap.size w (w.alloc (gc t A c)) := (Below.refl _ _).alloc (Nat.le_refl _) _
  have L1 := Lib.hid (large_any n t (gv t A c) B 0 0 _ (h.below (H0.mono hB)) (Nat.le_trans hB H0.size) hs rfl (by omega))
  have P1 := Lib.hid (fun w1 (hb : Below w.heap.size w w1) => part_any n t (gv t A c) B w1 (h.below (hb.mono hB)) (Nat.le_trans hB hb.size) hs)
  have BX := Lib.hid (fun w1 hb => gbox w w1 (.int .i64 t.kind) (.int .i64 t.a) (.int .i64 t.b) (.slice A t.subs.length c) hb)
  have H0 := Lib.hid H0
  have GV := Lib.hid (show genV t = if (largeG t 0).2 = true then 4 else partV t from rfl)
  clear h hB hs
  generalize largeG t 0 = q at L1 GV
  obtain ⟨j, is⟩ := q
  cases is with
  | true =>
    have GV := Lib.hid (show genV t = 4 from GV.out)
    go_enter Tryd.func12, Tryd.ntmps12
    go_wp2_with fail
    refine L1.out.mono ?_
    rintro e w1 ⟨rfl, b1⟩
    have B1 := Lib.hid (on H0.out b1)
    clear b1
    go_wp2_with fail
    go_ret
    exact ⟨ret_int GV.out.symm, B1.out⟩
  | false =>
    have GV := Lib.hid (show genV t = partV t from GV.out)
    go_enter Tryd.func12, Tryd.ntmps12
    go_wp2_with fail
    refine L1.out.mono ?_
    rintro e w1 ⟨rfl, b1⟩
    have B1 := Lib.hid (on H0.out b1)
    obtain ⟨p0, p1, p2, p3⟩ := BX.out w1 b1
    clear b1
    go_wp2_with fail
    refine (P1.out w1 B1.out).mono ?_
    rintro e w2 ⟨rfl, b2⟩
    have B2 := Lib.hid (on B1.out b2)
    clear b2 p0 p1 p2 p3
    go_wp2_with fail
    go_ret
    exact ⟨ret_int GV.out.symm, B2.out⟩
end Go.Proofs.YtffkppjmdelajaaDoor.Gens

/- Contract of the document's own CountOf, of a right generator. Condition: the size. -/
namespace Go.Proofs.YtffkppjmdelajaaDoor.Gens
open Go.RowKit Lists Ints
set_option linter.unusedVariables false

set_option maxHeartbeats 8000000 in
set_option maxRecDepth 100000 in
theorem count_any : ∀ (n : Nat) (t : Gn) (v : Value) (B : Nat) (w : World), GAt w (GBel B) n v t → B ≤ w.heap.size → t.size ≤ 4294967296 → Right t →
    Calls Tryd.prog 15 #[v] w fun e w' => e = .returned (.int .i64 (countG t)) ∧ Below w.heap.size w w' := by
  intro n
  induction n with
  | zero => intro t v B w h; exact h.elim
  | succ n ih =>
    intro t v B w h hB hsz hg
    obtain ⟨m, A, c, e, hw, rfl, hit⟩ := h.open_
    obtain rfl : n = m := by omega
    have IH := Lib.hid ih
    have HIT := Lib.hid hit
    have HB := Lib.hid hB
    have HS := Lib.hid hsz
    have HG := Lib.hid hg
    have hln : t.subs.length ≤ 4294967296 := by have := glen_sizes t.subs; have := gsize_subs t; omega
    have H0 : Below w.heap.size w (w.alloc (gc t A c)) := (Below.refl _ _).alloc (Nat.le_refl _) _
    have H0 := Lib.hid H0
    have SB := Lib.hid (gsize_subs t)
    obtain ⟨w1, w2, w3⟩ := hw
    have IA := Lib.hid (i64_wf w2)
    have IB := Lib.hid (i64_wf w3)
    clear ih hit h hB hsz e w1 w2 w3 hg
    cases t with | node k a b subs =>
    simp only [Gn.a, Gn.b, Gn.subs] at *
    change Calls Tryd.prog 15 #[.agg #[.int .i64 k, .int .i64 a, .int .i64 b, .slice A subs.length c]] w _
    obtain ⟨m2, m5, m4, k1, k5⟩ := right_max HG.out
    have RS := Lib.hid (show ∀ x ∈ subs, Right x from HG.out.subs)
    obtain ⟨a1, a2⟩ := IA.out
    obtain ⟨b1, b2⟩ := IB.out
    rcases (show k = 1 ∨ k = 2 ∨ k = 3 ∨ k = 4 ∨ k = 5 by omega) with rfl | rfl | rfl | rfl | rfl
    · have EV := Lib.hid (show countG (.node 1 a b subs) = 1 by simp [countG])
      clear m2 m4 m5
      go_enter Tryd.func15, Tryd.ntmps15
      go_wp2_with fail
      go_ret
      exact ⟨ret_int EV.out.symm, H0.out⟩
    · have EV := Lib.hid (show countG (.node 2 a b subs) = b - a + 1 by simp [countG])
      obtain ⟨q1, q2⟩ := m2 rfl
      clear m2 m4 m5
      go_enter Tryd.func15, Tryd.ntmps15
      go_wp2_with fail
      go_ret
      exact ⟨ret_int EV.out.symm, H0.out⟩
    · have EV := Lib.hid (show countG (.node 3 a b subs) = countBoth subs 1 by simp [countG])
      clear m2 m4 m5
      go_enter Tryd.func15, Tryd.ntmps15
      go_wp2_with fail
      go_loopw [6, 7] (fun x i wr => ∃ (k : Nat) (o : Int), k ≤ subs.length ∧ i = .int .i64 k ∧ x = .int .i64 o ∧ Few o ∧ Below (w.alloc (.cells #[.int .i64 3, .int .i64 a, .int .i64 b, .slice A subs.length c] 24)).heap.size (w.alloc (.cells #[.int .i64 3, .int .i64 a, .int .i64 b, .slice A subs.length c] 24)) wr ∧ Hid (countG (.node 3 a b subs) = countBoth (subs.drop k) o)) (fun _ i _ => subs.length - (intOf i).toNat)
      case atStart => exact ⟨0, 1, Nat.zero_le _, rfl, rfl, ⟨by omega, by omega⟩, Below.refl _ _, (show countG (.node 3 a b subs) = countBoth (subs.drop 0) 1 from EV.out)⟩
      case round =>
        obtain ⟨k, o, hk, rfl, rfl, ho, hb, hz⟩ := hrel
        obtain ⟨_, _, _, cb⟩ := gbox w wr _ _ _ _ hb
        have HWW := Lib.hid (on H0.out hb)
        have HBW := Lib.hid hb
        clear hb
        by_cases hlt : k < subs.length
        · obtain ⟨ib, off, D, d, rfl, c0, c1, c2, c3, hti⟩ := sub_as HIT.out (HWW.out.mono HB.out) k hlt
          have hsi : (subs[k]'hlt).size ≤ 4294967296 := by have := gsize_mem subs _ (List.getElem_mem hlt); have h3 := HS.out; have h4 := SB.out; omega
          have hri : Right (subs[k]'hlt) := RS.out _ (List.getElem_mem hlt)
          have C1 := IH.out (subs[k]'hlt) _ B wr hti (Nat.le_trans HB.out HWW.out.size) hsi hri
          have CF := count_few _ hri
          have DR := Lib.hid (both_drop subs k o hlt)
          clear hti hsi hri
          generalize countG (subs[k]'hlt) = q at C1 CF DR
          have HC1 := Lib.hid C1
          clear C1
          generalize subs[k]'hlt = y at HC1 c0 c1 c2 c3
          have F2 := few_mul ho CF
          have FM := mul_fits ho CF
          obtain ⟨o1, o2⟩ := ho
          obtain ⟨q1, q2⟩ := CF
          obtain ⟨f1, f2⟩ := FM
          have F2 := Lib.hid F2
          go_wp2_with fail
          refine HC1.out.mono ?_
          rintro e w2 ⟨rfl, hb2⟩
          have B2 := Lib.hid (on HBW.out hb2)
          clear hb2
          go_wp2_with fail
          go_roundw
          case rel => exact ⟨k + 1, min 1048577 (o * q), hlt, by go_num, rfl, F2.out, B2.out, hz.out.trans DR.out⟩
          case measure => simp [intOf]; omega
        · have hr := Lib.hid (show countG (.node 3 a b subs) = o by
            rw [hz.out, List.drop_eq_nil_of_le (by omega), countBoth])
          go_wp2_with fail
          go_ret
          exact ⟨ret_v (a := .int .i64 o) (by rw [hr.out]), HWW.out⟩
    · obtain ⟨a3, a4, hl1⟩ := m4 rfl
      have hlt : 0 < subs.length := by omega
      have EV := Lib.hid (show countG (.node 4 a b subs) = manyN (countHead subs) (a + 1).toNat 0 1 by simp [countG])
      have HL1 := Lib.hid hl1
      clear m2 m4 m5 hl1
      have H0 := Lib.hid (show Below w.heap.size w (w.alloc (.cells #[.int .i64 4, .int .i64 a, .int .i64 b, .slice A subs.length c] 24)) from H0.out)
      obtain ⟨ib, off, D, d, rfl, c0, c1, c2, c3, hti⟩ := sub_as HIT.out (H0.out.mono HB.out) 0 hlt
      have hsi : (subs[0]'hlt).size ≤ 4294967296 := by have := gsize_mem subs _ (List.getElem_mem hlt); have h3 := HS.out; have h4 := SB.out; omega
      have hri : Right (subs[0]'hlt) := RS.out _ (List.getElem_mem hlt)
      have C1 := IH.out (subs[0]'hlt) _ B _ hti (Nat.le_trans HB.out H0.out.size) hsi hri
      have CF := count_few _ hri
      have HH := head_get subs hlt
      rw [HH] at EV
      clear hti hsi hri HH
      generalize countG (subs[0]'hlt) = q at C1 CF EV
      have HC1 := Lib.hid C1
      clear C1
      generalize subs[0]'hlt = y at HC1 c0 c1 c2 c3
      simp only [Nat.zero_mul, Nat.add_zero] at c0 c1 c2 c3
      have gl : decide (0 < subs.length) = true := by rw [decide_eq_true_eq]; exact hlt
      go_enter Tryd.func15, Tryd.ntmps15
      go_wp2_with fail
      refine HC1.out.mono ?_
      rintro e w2 ⟨rfl, hb2⟩
      have B2 := Lib.hid (on H0.out hb2)
      obtain ⟨_, cb1, _, _⟩ := gbox w w2 _ _ _ _ hb2
      clear hb2
      go_wp2_with fail
      go_loopw [9, 10, 11] (fun x p i wr => ∃ (k : Nat) (o u : Int), (k : Int) ≤ a + 1 ∧ i = .int .i64 k ∧ x = .int .i64 o ∧ p = .int .i64 u ∧ Few o ∧ Few u ∧ wr = w2 ∧ Hid (countG (.node 4 a b subs) = manyN q ((a + 1).toNat - k) o u)) (fun _ _ i _ => 7 - (intOf i).toNat)
      case atStart => exact ⟨0, 0, 1, by omega, rfl, rfl, rfl, ⟨by omega, by omega⟩, ⟨by omega, by omega⟩, rfl, EV.out⟩
      case round =>
        obtain ⟨k, o, u, hk, rfl, rfl, rfl, ho, hu, rfl, hz⟩ := hrel
        by_cases hlt : (k : Int) ≤ a
        · have F1 := few_add ho hu
          have F2 := few_mul hu CF
          have FM := mul_fits hu CF
          have hz2 := Lib.hid (show countG (.node 4 a b subs) = manyN q ((a + 1).toNat - (k + 1)) (min 1048577 (o + u)) (min 1048577 (u * q)) by
            rw [hz.out, show (a + 1).toNat - k = ((a + 1).toNat - (k + 1)) + 1 by omega, manyN])
          obtain ⟨o1, o2⟩ := ho
          obtain ⟨u1, u2⟩ := hu
          obtain ⟨q1, q2⟩ := CF
          obtain ⟨f1, f2⟩ := FM
          have F1 := Lib.hid F1
          have F2 := Lib.hid F2
          have gk : decide ((k : Int) ≤ a) = true := by rw [decide_eq_true_eq]; exact hlt
          go_wp2_with fail
          go_roundw
          case rel => exact ⟨k + 1, min 1048577 (o + u), min 1048577 (u * q), by omega, by go_num, rfl, rfl, F1.out, F2.out, trivial, hz2.out⟩
          case measure => simp [intOf]; omega
        · have hr := Lib.hid (show countG (.node 4 a b subs) = o by
            rw [hz.out, show (a + 1).toNat - k = 0 by omega, manyN])
          have gk : decide ((k : Int) ≤ a) = false := by rw [decide_eq_false_iff_not]; exact hlt
          go_wp2_with fail
          go_ret
          exact ⟨ret_v (a := .int .i64 o) (by rw [hr.out]), B2.out⟩
    · have EV := Lib.hid (show countG (.node 5 a b subs) = countAny subs 0 by simp [countG])
      clear m2 m4 m5
      go_enter Tryd.func15, Tryd.ntmps15
      go_wp2_with fail
      go_loopw [4, 5] (fun x i wr => ∃ (k : Nat) (o : Int), k ≤ subs.length ∧ i = .int .i64 k ∧ x = .int .i64 o ∧ Few o ∧ Below (w.alloc (.cells #[.int .i64 5, .int .i64 a, .int .i64 b, .slice A subs.length c] 24)).heap.size (w.alloc (.cells #[.int .i64 5, .int .i64 a, .int .i64 b, .slice A subs.length c] 24)) wr ∧ Hid (countG (.node 5 a b subs) = countAny (subs.drop k) o)) (fun _ i _ => subs.length - (intOf i).toNat)
      case atStart => exact ⟨0, 0, Nat.zero_le _, rfl, rfl, ⟨by omega, by omega⟩, Below.refl _ _, (show countG (.node 5 a b subs) = countAny (subs.drop 0) 0 from EV.out)⟩
      case round =>
        obtain ⟨k, o, hk, rfl, rfl, ho, hb, hz⟩ := hrel
        obtain ⟨_, _, _, cb⟩ := gbox w wr _ _ _ _ hb
        have HWW := Lib.hid (on H0.out hb)
        have HBW := Lib.hid hb
        clear hb
        by_cases hlt : k < subs.length
        · obtain ⟨ib, off, D, d, rfl, c0, c1, c2, c3, hti⟩ := sub_as HIT.out (HWW.out.mono HB.out) k hlt
          have hsi : (subs[k]'hlt).size ≤ 4294967296 := by have := gsize_mem subs _ (List.getElem_mem hlt); have h3 := HS.out; have h4 := SB.out; omega
          have hri : Right (subs[k]'hlt) := RS.out _ (List.getElem_mem hlt)
          have C1 := IH.out (subs[k]'hlt) _ B wr hti (Nat.le_trans HB.out HWW.out.size) hsi hri
          have CF := count_few _ hri
          have DR := Lib.hid (any_drop subs k o hlt)
          clear hti hsi hri
          generalize countG (subs[k]'hlt) = q at C1 CF DR
          have HC1 := Lib.hid C1
          clear C1
          generalize subs[k]'hlt = y at HC1 c0 c1 c2 c3
          have F2 := few_add ho CF
          have FM := mul_fits ho CF
          obtain ⟨o1, o2⟩ := ho
          obtain ⟨q1, q2⟩ := CF
          obtain ⟨f1, f2⟩ := FM
          have F2 := Lib.hid F2
          go_wp2_with fail
          refine HC1.out.mono ?_
          rintro e w2 ⟨rfl, hb2⟩
          have B2 := Lib.hid (on HBW.out hb2)
          clear hb2
          go_wp2_with fail
          go_roundw
          case rel => exact ⟨k + 1, min 1048577 (o + q), hlt, by go_num, rfl, F2.out, B2.out, hz.out.trans DR.out⟩
          case measure => simp [intOf]; omega
        · have hr := Lib.hid (show countG (.node 5 a b subs) = o by
            rw [hz.out, List.drop_eq_nil_of_le (by omega), countAny])
          go_wp2_with fail
          go_ret
          exact ⟨ret_v (a := .int .i64 o) (by rw [hr.out]), HWW.out⟩
end Go.Proofs.YtffkppjmdelajaaDoor.Gens

/- The document's own Tapes, of every right generator of few parts that has few tapes. -/
namespace Go.Proofs.YtffkppjmdelajaaDoor.Gens
open Go.RowKit Ints Rng
set_option linter.unusedVariables false

theorem long_mem : ∀ (l : List Gn), ∀ x ∈ l, longG x ≤ longs l
  | [], x, h => by cases h
  | g :: r, x, h => by
    rw [longs]
    rcases List.mem_cons.1 h with rfl | h
    · omega
    · have := long_mem r x h; omega
theorem long_subs {k a b : Int} {subs : List Gn} (hk : 3 ≤ k) (h : longG (.node k a b subs) ≤ 1399680) : ∀ x ∈ subs, longG x ≤ 1399680 := by
  intro x hx
  have h1 := long_mem subs x hx
  rw [longG, if_neg (by omega), if_neg (by omega)] at h
  split at h <;> omega
theorem int_range {a b : Int} {subs : List Gn} (h : Right (.node 2 a b subs)) : (-1073741824 ≤ a ∧ a ≤ 1073741824) ∧ (-1073741824 ≤ b ∧ b ≤ 1073741824) ∧ a ≤ b ∧ b - a ≤ 1000 := by
  obtain ⟨_, h2, _, _⟩ := right_of h
  simp [rangeBad, Gn.kind, Gn.a, Gn.b, farB] at h2
  obtain ⟨⟨⟨⟨p1, p2⟩, p3, p4⟩, p5⟩, p6⟩ := h2
  have q1 := of_decide_eq_false p1
  have q2 := of_decide_eq_false p2
  have q3 := of_decide_eq_false p3
  have q4 := of_decide_eq_false p4
  have q5 := of_decide_eq_false p5
  have q6 := of_decide_eq_false p6
  omega
theorem tapes_any : ∀ n, TapesOK n := by
  intro n
  induction n with
  | zero => intro g v B w h; exact h.elim
  | succ n ih =>
    intro t v B w h hB hsz hg hq hl
    obtain ⟨m, A, c, e, hw, rfl, hit⟩ := h.open_
    obtain rfl : n = m := by omega
    cases t with | node k a b subs =>
    simp only [Gn.a, Gn.b, Gn.subs] at *
    change Calls Tryd.prog 25 #[.agg #[.int .i64 k, .int .i64 a, .int .i64 b, .slice A subs.length c]] w _
    obtain ⟨m2, m5, m4, k1, k5⟩ := right_max hg
    rcases (show k = 1 ∨ k = 2 ∨ k = 3 ∨ k = 4 ∨ k = 5 by omega) with rfl | rfl | rfl | rfl | rfl
    · exact tapes_just a b subs
    · obtain ⟨⟨h1, h2⟩, ⟨h3, h4⟩, h5, h6⟩ := int_range hg
      exact tapes_int a b subs h1 h2 h3 h4 h5 h6
    · exact tapes_both ih a b subs hg hsz hl hB (long_subs (by omega) hq) hit
    · obtain ⟨a0, a5, hl1⟩ := m4 rfl
      obtain ⟨p, rfl⟩ := Int.eq_ofNat_of_zero_le a0
      cases subs with
      | nil => cases hl1
      | cons y r =>
        cases r with
        | cons _ _ => simp at hl1
        | nil =>
          have hy : y.size ≤ 30 := by rw [Gn.size, gsizes, gsizes] at hsz; omega
          have my : y ∈ [y] := List.mem_singleton.2 rfl
          have ry : Right y := hg.subs y my
          have p5 : p ≤ 5 := by omega
          exact tapes_many ih p b y p5 ry hy hl hB (long_subs (by omega) hq y my) hit
    · exact tapes_anyk ih a b subs hg hsz hl hB (long_subs (by omega) hq) hit
end Go.Proofs.YtffkppjmdelajaaDoor.Gens
