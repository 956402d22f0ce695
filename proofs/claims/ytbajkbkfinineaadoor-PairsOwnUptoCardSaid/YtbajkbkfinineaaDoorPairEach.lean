/- The program's eachPair with any function value; Check, isRow. Conditions: the sizes. -/
import Derived.Test.YtbajkbkfinineaaDoorMapQ
import Derived.Test.YtbajkbkfinineaaDoorFourN
namespace Go.Proofs.YtbajkbkfinineaaDoor.Pair
open Go.RowKit Ints Lists Vals
set_option linter.unusedVariables false

abbrev qfv (k : Nat) (cap : Array Value) : Value := .func (.func k) #[] cap
/-- a function value that is told the pairs of the row r at R: I z, what it has been told is z -/
structure DoQ (k : Nat) (cap : Array Value) (R : Option Addr) (r : List Int) (I : List Quad → World → Prop) : Prop where
  ent : ∀ args w, (callFunc k args).run Tryd.prog w = .ok (.enter k args) w
  row : 0 < r.length → ∃ b off, R = some ⟨b, off, none⟩ ∧ ∀ z w, I z w → ∀ i, i < r.length → w.cell? ⟨b, off + i, none⟩ = some (.int .i64 (r.getD i 0))
  call : ∀ z q w, I z w → z ++ [q] <+: prs r → Calls Tryd.prog k (#[keyV q] ++ cap) w fun e w' => e = .returned (.tuple #[]) ∧ I (z ++ [q]) w'
theorem prB_open {r : List Int} {a b : Nat} (h : openB r a b = false) : prB r a b = [] := by unfold prB; rw [if_neg (by rw [h]; decide)]
theorem prB_two {r : List Int} {a b : Nat} (h : openB r a b = true) : prB r a b = [⟨a, (r.getD a 0).toNat, b, (r.getD b 0).toNat⟩] := by unfold prB; rw [if_pos h]

set_option maxHeartbeats 4000000 in
set_option maxRecDepth 100000 in
theorem each_ok {k : Nat} {cap : Array Value} {R : Option Addr} {r : List Int} {I : List Quad → World → Prop} (D : DoQ k cap R r I) (hn : r.length ≤ 4294967296) (hr : ∀ i, i < r.length → -1 ≤ r.getD i 0) (rc : Nat) (w : World) (h0 : I [] w) :
    Calls Tryd.prog 21 #[.slice R r.length rc, qfv k cap] w fun e w' => e = .returned (.tuple #[]) ∧ I (prs r) w' := by
  have hent := D.ent
  have DR := Lib.hid D.row
  have DC := Lib.hid D.call
  have HR := Lib.hid hr
  have H0 := Lib.hid (show I (qA r 0) w from h0)
  have hni : (r.length : Int) ≤ 4294967296 := by omega
  have HN := Lib.hid hn
  clear D h0 hr hn
  go_enter Tryd.func21, Tryd.ntmps21
  go_wp2_with fail
  go_loopw [9] (fun i wr => ∃ a : Nat, a ≤ r.length ∧ i = .int .i64 a ∧ Hid (I (qA r a) wr)) (fun i _ => r.length - (intOf i).toNat)
  case atStart => exact ⟨0, Nat.zero_le _, rfl, H0.out⟩
  case round =>
    obtain ⟨a, ha, rfl, hI⟩ := hrel
    by_cases hla : a < r.length
    · obtain ⟨rb, off, hR, hc⟩ := DR.out (by omega)
      subst hR
      have HC := Lib.hid hc
      have ca := hc _ _ hI.out a hla
      have hai : (a : Int) < r.length := by omega
      have I2 := Lib.hid (show I (qB r a (a + 1)) wr by rw [qB_zero]; exact hI.out)
      have XA := Lib.hid (HR.out a hla)
      obtain ⟨x, hx⟩ : ∃ x, x = r.getD a 0 := ⟨_, rfl⟩
      rw [← hx] at ca
      have HX := Lib.hid hx
      clear hx hc
      go_wp2_with fail
      go_loopw [6] (fun iv wq => ∃ b : Nat, a + 1 ≤ b ∧ b ≤ r.length ∧ iv = .int .i64 b ∧ Hid (I (qB r a b) wq)) (fun iv _ => r.length - (intOf iv).toNat)
      case atStart => exact ⟨a + 1, Nat.le_refl _, hla, by simp, I2.out⟩
      case round =>
        clear hI I2 ca
        obtain ⟨b, hab, hb, rfl, hI⟩ := hrel
        by_cases hlb : b < r.length
        · have cb := HC.out _ _ hI.out b hlb
          have hbi : (b : Int) < r.length := by omega
          have YB := Lib.hid (HR.out b hlb)
          obtain ⟨y, hy⟩ : ∃ y, y = r.getD b 0 := ⟨_, rfl⟩
          rw [← hy] at cb
          have HY := Lib.hid hy
          clear hy
          by_cases hxo : x = -1
          · have hq := Lib.hid (show I (qB r a (b + 1)) wr by
              rw [qB_step r hab, prB_open (by unfold openB; rw [← HX.out, hxo]; simp), List.append_nil]; exact hI.out)
            subst hxo
            go_wp2_with fail
            go_roundw
            case rel => exact ⟨b + 1, by omega, by omega, by go_num, hq.out⟩
            case measure => simp [intOf]; omega
          · have hx1 : (x == -1) = false := beq_eq_false_iff_ne.2 hxo
            have hx2 : (x != -1) = true := bne_iff_ne.2 hxo
            by_cases hyo : y = -1
            · have hq := Lib.hid (show I (qB r a (b + 1)) wr by
                rw [qB_step r hab, prB_open (by unfold openB; rw [← HY.out, hyo]; simp), List.append_nil]; exact hI.out)
              subst hyo
              go_wp2_with fail
              go_roundw
              case rel => exact ⟨b + 1, by omega, by omega, by go_num, hq.out⟩
              case measure => simp [intOf]; omega
            · have hy1 : (y == -1) = false := beq_eq_false_iff_ne.2 hyo
              have hy2 : (y != -1) = true := bne_iff_ne.2 hyo
              have OB : openB r a b = true := by unfold openB; rw [← HX.out, ← HY.out]; simp [hxo, hyo]
              have QB := prB_two OB
              have C1 := Lib.hid (show Calls Tryd.prog k (#[.agg #[.int .i64 a, .int .i64 x, .int .i64 b, .int .i64 y]] ++ cap) wr fun e w' => e = .returned (.tuple #[]) ∧ I (qB r a (b + 1)) w' by
                have PR := qB_pre r hla (show a + 1 ≤ b + 1 by omega) (show b + 1 ≤ r.length by omega)
                rw [qB_step r hab, QB] at PR
                have := DC.out (qB r a b) ⟨a, (r.getD a 0).toNat, b, (r.getD b 0).toNat⟩ wr hI.out PR
                rw [qB_step r hab, QB]
                unfold keyV at this
                have ex : (((r.getD a 0).toNat : Nat) : Int) = x := by have h1 := XA.out; have h2 := HX.out; omega
                have ey : (((r.getD b 0).toNat : Nat) : Int) = y := by have h1 := YB.out; have h2 := HY.out; omega
                rw [ex, ey] at this
                exact this)
              clear OB QB hI
              go_wp2_with fail
              refine C1.out.mono ?_
              rintro e w2 ⟨rfl, h2⟩
              have I3 := Lib.hid h2
              clear h2 cb C1
              go_wp2_with fail
              go_roundw
              case rel => exact ⟨b + 1, by omega, by omega, by go_num, I3.out⟩
              case measure => simp [intOf]; omega
        · obtain rfl : b = r.length := by omega
          have I3 := Lib.hid (show I (qA r (a + 1)) wr by rw [← qB_end]; exact hI.out)
          clear hI
          go_wp2_with fail
          go_roundw
          case rel => exact ⟨a + 1, hla, by go_num, I3.out⟩
          case measure => simp [intOf]; omega
    · obtain rfl : a = r.length := by omega
      have I3 := Lib.hid (show I (prs r) wr by rw [← qA_end]; exact hI.out)
      clear hI
      go_wp2_with fail
      go_end0
      exact ⟨rfl, I3.out⟩

set_option maxHeartbeats 2000000 in
set_option maxRecDepth 100000 in
theorem check_prog {L : Option Addr} {levels : List Int} {lc : Nat} (w : World) (hl : At w w.heap.size L levels) (hln : levels.length ≤ 4294967296) (hcap : levels.length ≤ lc) :
    Calls Tryd.prog 7 #[.slice L levels.length lc] w fun e w' => e = .returned (errOf (levE levels)) ∧ Below w.heap.size w w' := by
  have HL := Lib.hid hl
  have hni : (levels.length : Int) ≤ 4294967296 := by omega
  obtain ⟨E, HE⟩ : ∃ E, Hid (E = levE levels) := ⟨_, Lib.hid rfl⟩
  rw [← HE.out]
  clear hl hcap
  by_cases h12 : 12 < levels.length
  · obtain rfl : E = 4 := by rw [HE.out]; unfold levE; rw [if_pos h12]
    have hi : 12 < (levels.length : Int) := by omega
    go_enter Tryd.func7, Tryd.ntmps7
    go_wp2_with fail
    go_ret
    exact ⟨rfl, Below.refl _ _⟩
  · have hi : ¬ 12 < (levels.length : Int) := by omega
    go_enter Tryd.func7, Tryd.ntmps7
    go_wp2_with fail
    go_loopw [11] (fun i wr => ∃ j : Nat, j ≤ levels.length ∧ i = .int .i64 j ∧ Hid (∀ i (h : i < levels.length), i < j → 1 ≤ levels[i] ∧ levels[i] ≤ 5) ∧ wr = w) (fun i _ => levels.length - (intOf i).toNat)
    case atStart => exact ⟨0, Nat.zero_le _, rfl, fun i h hi => by omega, rfl⟩
    case round =>
      obtain ⟨j, hj, rfl, hall, rfl⟩ := hrel
      by_cases hlt : j < levels.length
      · obtain ⟨b, off, rfl, _, hc⟩ := HL.out (by omega)
        have cj := hc j hlt
        have hx : levels.getD j 0 = levels[j] := by simp [List.getD_eq_getElem?_getD, hlt]
        have HB := Lib.hid (show ¬ (1 ≤ levels[j] ∧ levels[j] ≤ 5) → E = 1 from fun h => by rw [HE.out]; exact lev_no (by omega) (fun hh => h (hh _ (List.getElem_mem hlt))))
        have HG := Lib.hid (show 1 ≤ levels[j] ∧ levels[j] ≤ 5 → ∀ i (h : i < levels.length), i < j + 1 → 1 ≤ levels[i] ∧ levels[i] ≤ 5 from fun h i hi hij => by
          by_cases e : i = j
          · subst e; exact h
          · exact hall.out i hi (by omega))
        have hji : (j : Int) < levels.length := by omega
        rw [hx] at cj
        clear hc hx hall
        generalize levels[j] = x at *
        by_cases h1 : x < 1
        · obtain rfl := HB.out (by omega)
          clear HB HG
          go_wp2_with fail
          go_ret
          exact ⟨rfl, Below.refl _ _⟩
        · by_cases h5 : 5 < x
          · obtain rfl := HB.out (by omega)
            clear HB HG
            go_wp2_with fail
            go_ret
            exact ⟨rfl, Below.refl _ _⟩
          · have H2 := Lib.hid (HG.out (by omega))
            clear HB HG
            go_wp2_with fail
            go_roundw
            case rel => exact ⟨j + 1, hlt, by go_num, H2.out, trivial⟩
            case measure => simp [intOf]; omega
      · obtain rfl : E = 0 := by
          rw [HE.out]
          exact lev_is (by omega) (fun x hx => by
            obtain ⟨i, hi, rfl⟩ := List.mem_iff_getElem.1 hx
            exact hall.out i hi (by omega))
        clear hall
        go_wp2_with fail
        go_ret
        exact ⟨rfl, Below.refl _ _⟩

set_option maxHeartbeats 2000000 in
set_option maxRecDepth 100000 in
theorem isrow_prog {L R : Option Addr} {levels r : List Int} {lc rc N M : Nat} (w : World) (hl : At w N L levels) (hr : At w M R r) (hln : levels.length ≤ 4294967296) (hrn : r.length ≤ 4294967296) :
    Calls Tryd.prog 20 #[.slice L levels.length lc, .slice R r.length rc] w fun e w' => e = .returned (.bool (rowB levels r)) ∧ w' = w := by
  have HL := Lib.hid hl
  have HR := Lib.hid hr
  obtain ⟨E, HE2⟩ : ∃ E, Hid (E = rowB levels r) := ⟨_, Lib.hid rfl⟩
  rw [← HE2.out]
  have hni : (levels.length : Int) ≤ 4294967296 := by omega
  have hri : (r.length : Int) ≤ 4294967296 := by omega
  clear hl hr
  by_cases hlen : r.length = levels.length
  · have hb : ((r.length : Int) == (levels.length : Int)) = true := by rw [hlen]; simp
    have HE := Lib.hid hlen
    obtain ⟨n, hn⟩ : ∃ n, n = r.length := ⟨_, rfl⟩
    have hn2 : levels.length = n := by rw [hn, hlen]
    have HN := Lib.hid (And.intro hn hn2)
    rw [hn2] at hni hln ⊢
    rw [← hn] at hri hrn ⊢
    clear hlen hb hn hn2
    go_enter Tryd.func20, Tryd.ntmps20
    go_wp2_with fail
    go_loopw [14] (fun i wr => ∃ j : Nat, j ≤ n ∧ i = .int .i64 j ∧ Hid (∀ i, i < j → 0 ≤ r.getD i 0 ∧ r.getD i 0 < levels.getD i 0) ∧ wr = w) (fun i _ => n - (intOf i).toNat)
    case atStart => exact ⟨0, Nat.zero_le _, rfl, fun i h => by omega, rfl⟩
    case round =>
      obtain ⟨j, hj, rfl, hall, rfl⟩ := hrel
      by_cases hlt : j < n
      · obtain ⟨b, off, rfl, _, hc⟩ := HL.out (by have := HN.out; omega)
        obtain ⟨b2, off2, rfl, _, hc2⟩ := HR.out (by have := HN.out; omega)
        have cj := hc j (by have := HN.out; omega)
        have cr := hc2 j (by have := HN.out; omega)
        have HB := Lib.hid (show ¬ (0 ≤ r.getD j 0 ∧ r.getD j 0 < levels.getD j 0) → E = false from fun h => by
          rw [HE2.out, Bool.eq_false_iff]
          intro hh
          exact h ((row_right hh).2 j (by have := HN.out; omega)))
        have HG := Lib.hid (show 0 ≤ r.getD j 0 ∧ r.getD j 0 < levels.getD j 0 → ∀ i, i < j + 1 → 0 ≤ r.getD i 0 ∧ r.getD i 0 < levels.getD i 0 from fun h i hij => by
          by_cases e : i = j
          · subst e; exact h
          · exact hall.out i (by omega))
        have hji : (j : Int) < n := by omega
        clear hc hc2 hall
        generalize levels.getD j 0 = x at *
        generalize r.getD j 0 = y at *
        by_cases h1 : y < 0
        · obtain rfl := HB.out (by omega)
          clear HB HG
          go_wp2_with fail
          go_ret
          exact ⟨rfl, rfl⟩
        · by_cases h5 : x ≤ y
          · obtain rfl := HB.out (by omega)
            clear HB HG
            go_wp2_with fail
            go_ret
            exact ⟨rfl, rfl⟩
          · have H2 := Lib.hid (HG.out (by omega))
            clear HB HG
            go_wp2_with fail
            go_roundw
            case rel => exact ⟨j + 1, hlt, by go_num, H2.out, trivial⟩
            case measure => simp [intOf]; omega
      · obtain rfl : E = true := by
          rw [HE2.out]
          unfold rowB
          rw [Bool.and_eq_true, decide_eq_true_eq, List.all_eq_true]
          refine ⟨HE.out, fun i hi => decide_eq_true (hall.out i ?_)⟩
          have := HN.out
          rw [List.mem_range] at hi
          omega
        clear hall
        go_wp2_with fail
        go_ret
        exact ⟨rfl, rfl⟩
  · obtain rfl : E = false := by rw [HE2.out]; unfold rowB; rw [decide_eq_false hlen]; rfl
    have hb : ((r.length : Int) == (levels.length : Int)) = false := by rw [beq_eq_false_iff_ne]; omega
    go_enter Tryd.func20, Tryd.ntmps20
    go_wp2_with fail
    go_ret
    exact ⟨rfl, rfl⟩
end Go.Proofs.YtbajkbkfinineaaDoor.Pair
