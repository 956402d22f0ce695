/- RankTells, part 5 of the proof: The document's own TimesOf. Conditions: the sizes. · Generators (three numbers, subs) as trees: how they lie in memory, and what an argument reads as. · A generator's box; small laws. No program but the types. · The document's own Tapes. Conditions: a right generator of few parts that has few tapes. · The document's own Tapes, one after the other, and so many. Conditions: a right generator of few parts that has few tapes. -/
import Derived.Test.YtffkppjmdelajaaDoorRankTellsZ1
import Derived.Test.YtffkppjmdelajaaDoorRankTellsZ4
import Derived.Deep.RegionHeld2
import Derived.Deep.Slices
import Derived.Deep.Fields
import Derived.Lib.SmallJoins
import Derived.Lib.Bytealg
import Derived.Lib.Walk
import Derived.Lib.BufferWrite
/- The document's own TimesOf. Conditions: the sizes. -/
namespace Go.Proofs.YtffkppjmdelajaaDoor.Gens
open Go.RowKit Ints Rng
set_option linter.unusedVariables false

/-- what TimesOf hands back -/
def TmPost (z : List (List Int)) (w : World) (e : Ending) (w' : World) : Prop := ∃ (A : Option Addr) (c : Nat), e = .returned (.slice A z.length c) ∧ OwnRows w' w.heap.size A c z ∧ Below w.heap.size w w'
theorem timesL_take (a b : List (List Int)) (i : Nat) (hi : i < a.length) : timesL (a.take (i + 1)) b = timesL (a.take i) b ++ b.map fun y => a[i]'hi ++ y := by
  unfold timesL
  rw [List.take_succ_eq_append_getElem hi, List.flatMap_append, List.flatMap_singleton]
theorem map_take (b : List (List Int)) (k : Nat) (hk : k < b.length) (x : List Int) : (b.take (k + 1)).map (fun y => x ++ y) = (b.take k).map (fun y => x ++ y) ++ [x ++ b[k]'hk] := by
  rw [List.take_succ_eq_append_getElem hk, List.map_append]; rfl
theorem timesL_take_len (a b : List (List Int)) (i : Nat) (h : (timesL a b).length ≤ 1099511627776) : (timesL (a.take i) b).length ≤ 1099511627776 := by
  rw [timesL_len] at h ⊢
  have : (a.take i).length ≤ a.length := List.length_take_le' _ _
  exact Nat.le_trans (Nat.mul_le_mul_right _ this) h
theorem own_rowP {w : World} {base c : Nat} {A : Option Addr} {z : List Int} (h : Own w base A c z) : AtP w (fun b => base ≤ b ∧ b < w.heap.size ∧ rowOf A = some b) A z := fun hp => by
  obtain ⟨b, off, e, hb, hc⟩ := h.at_ hp
  exact ⟨b, off, e, ⟨h.ge b (by rw [e]; rfl), hb, by rw [e]; rfl⟩, hc⟩

theorem heap_new' (w : World) (o : Obj) {b : Nat} (h : b = w.heap.size) : (w.alloc o).heap[b]? = some o := by
  subst h
  show (w.heap.push o)[w.heap.size]? = _
  simp
set_option maxHeartbeats 8000000 in
set_option maxRecDepth 100000 in
theorem times_any (a b : List (List Int)) (A C : Option Addr) (ca cb N : Nat) (w : World) (ha : RowsAt w N A a) (hb : RowsAt w N C b) (hN : N ≤ w.heap.size) (hz : (timesL a b).length ≤ 1099511627776) (hla : a.length ≤ 1099511627776) (hlb : b.length ≤ 1099511627776)
    (hx : ∀ x ∈ a, x.length ≤ 4294967296) (hy : ∀ y ∈ b, y.length ≤ 4294967296) :
    Calls Tryd.prog 57 #[.slice A a.length ca, .slice C b.length cb] w (TmPost (timesL a b) w) := by
  have HA := Lib.hid ha
  have HB := Lib.hid hb
  have HN := Lib.hid hN
  have HZ := Lib.hid hz
  have HX := Lib.hid (fun i (hi : i < a.length) => hx _ (List.getElem_mem hi))
  have HY := Lib.hid (fun i (hi : i < b.length) => hy _ (List.getElem_mem hi))
  clear ha hb hN hz hx hy
  go_enter Tryd.func57, Tryd.ntmps57
  go_wp2_with fail
  go_loopw [5, 6, 7] (fun v i k wr => ∃ (j : Nat) (A2 : Option Addr) (c2 : Nat) (z : List (List Int)), j ≤ a.length ∧ i = .int .i64 j ∧ v = .slice A2 z.length c2 ∧ Hid (z = timesL (a.take j) b) ∧ Hid (OwnRows wr w.heap.size A2 c2 z) ∧ Hid (Below w.heap.size w wr)) (fun _ i _ _ => a.length - (intOf i).toNat)
  case atStart => exact ⟨0, none, 0, [], Nat.zero_le _, rfl, rfl, (rfl : [] = timesL (a.take 0) b), OwnRows.zero, Below.refl _ _⟩
  case round =>
    obtain ⟨j, A2, c2, z, hj, rfl, rfl, hzz, ho, hbb⟩ := hrel
    by_cases hlt : j < a.length
    · have TK := Lib.hid (timesL_take a b j hlt)
      have TL := Lib.hid (timesL_take_len a b (j + 1) HZ.out)
      have XL := Lib.hid (HX.out j hlt)
      have RA := Lib.hid (fun (W : World) (hb2 : Below w.heap.size w W) => (RowsP.below HA.out (hb2.mono HN.out)) (by omega))
      have RB := Lib.hid (fun (W : World) (hb2 : Below w.heap.size w W) => (RowsP.below HB.out (hb2.mono HN.out)))
      have AJ := Lib.hid (fun (W : World) (hb2 : Below w.heap.size w W) => RowsP.below HA.out (hb2.mono HN.out) (by omega : 0 < a.length))
      obtain ⟨ab, aoff, rfl, hab, hca⟩ := HA.out (by omega)
      obtain ⟨D, d, ja, jd, jat⟩ := hca j hlt
      have JA := Lib.hid (fun (W : World) (hb2 : Below w.heap.size w W) => show W.cell? ⟨ab, aoff + j, none⟩ = some (.slice D (a[j]'hlt).length d) ∧ At W N D (a[j]'hlt) from ⟨(hb2.cell (p := ⟨ab, aoff + j, none⟩) (Nat.lt_of_lt_of_le hab HN.out)).trans ja, (jat.keep fun k hk => ⟨hk, fun o => hb2.cell (p := ⟨k, o, none⟩) (Nat.lt_of_lt_of_le hk HN.out)⟩)⟩)
      have JD := Lib.hid jd
      clear hab hca ja jd jat RA AJ
      generalize a[j]'hlt = x at *
      go_wp2_with fail
      obtain ⟨wo, rfl⟩ : ∃ wo : World, wo = wr := ⟨_, rfl⟩
      go_loopw [5, 7] (fun v k wr => ∃ (p : Nat) (A3 : Option Addr) (c3 : Nat) (z3 : List (List Int)), p ≤ b.length ∧ k = .int .i64 p ∧ v = .slice A3 z3.length c3 ∧ Hid (z3 = z ++ (b.take p).map fun y => x ++ y) ∧ Hid (OwnRows wr w.heap.size A3 c3 z3) ∧ Hid (Below w.heap.size w wr)) (fun _ k _ => b.length - (intOf k).toNat)
      case atStart => exact ⟨0, A2, c2, z, Nat.zero_le _, rfl, rfl, (show z = z ++ (b.take 0).map _ by simp), ho.out, hbb.out⟩
      case round =>
        obtain ⟨p, A3, c3, z3, hp, rfl, rfl, hz3, ho3, hb3⟩ := hrel
        by_cases hpl : p < b.length
        · have MT := Lib.hid (map_take b p hpl x)
          have YL := Lib.hid (HY.out p hpl)
          obtain ⟨bb, boff, rfl, hbn, hcb⟩ := HB.out (by omega)
          obtain ⟨E, e, ja, jd, jat⟩ := hcb p hpl
          have JB := Lib.hid (fun (W : World) (hb2 : Below w.heap.size w W) => show W.cell? ⟨bb, boff + p, none⟩ = some (.slice E (b[p]'hpl).length e) ∧ At W N E (b[p]'hpl) from ⟨(hb2.cell (p := ⟨bb, boff + p, none⟩) (Nat.lt_of_lt_of_le hbn HN.out)).trans ja, (jat.keep fun k hk => ⟨hk, fun o => hb2.cell (p := ⟨k, o, none⟩) (Nat.lt_of_lt_of_le hk HN.out)⟩)⟩)
          clear hbn hcb ja jd jat
          generalize b[p]'hpl = y at *
          go_wp2_with fail
          have XC : Below wr.heap.size wr wr.drew := (Below.refl _ _).drew
          have SC := Lib.hid (fun (W : World) (hb2 : Below wr.heap.size wr W) => And.intro (JA.out W (Rng.on hb3.out hb2)).1 (JB.out W (Rng.on hb3.out hb2)).1)
          have HO := Lib.hid (show ∀ g, rowOf A3 = some g → w.heap.size ≤ g ∧ g < wr.heap.size from ho3.out.ge)
          have hws : w.heap.size ≤ wr.heap.size := hb3.out.size
          have xl := XL.out
          have yl := YL.out
          have zl3 : z3.length ≤ 2199023255552 := by
            have h1 := TL.out
            rw [TK.out, ← hzz.out, List.length_append, List.length_map] at h1
            rw [hz3.out, List.length_append, List.length_map]
            have : (b.take p).length ≤ b.length := List.length_take_le' _ _
            omega
          go_region_held2 (fun w' => w'.cell? ⟨ab, aoff + j, none⟩ = some (.slice D x.length d) ∧ w'.cell? ⟨bb, boff + p, none⟩ = some (.slice E y.length e)) ((first | exact And.intro (by assumption) (by assumption) | (refine SC.out _ ?_; repeat (first | with_reducible exact Below.refl _ _ | with_reducible exact XC | with_reducible exact X5 | with_reducible exact X6 | with_reducible refine Below.drew ?_ | with_reducible refine Below.alloc ?_ (by first | omega | (simp; omega) | (simp; done)) _)))) (first
            | (refine step_append_ints (by rfl) (.tmp 21) (.tmp 25) (by rfl) wr.heap.size 0 (some ⟨wr.heap.size, 0, none⟩) [] (Own.empty ?_) N D d x (JA.out _ ?_).2 (by rfl) (by rfl) ?_ ?_ ?_
               · show (World.alloc _ _).heap[wr.heap.size]? = _
                 exact heap_new' _ _ rfl
               · refine Rng.on hb3.out ?_
                 repeat (first | with_reducible exact Below.refl _ _ | with_reducible exact XC | with_reducible exact X5 | with_reducible exact X6 | with_reducible refine Below.drew ?_ | with_reducible refine Below.alloc ?_ (by first | omega | (simp; omega) | (simp; done)) _)
               · simp; omega
               · first | omega | (simp; omega) | (simp; done)
               intro A5 c5 w5 z5 hz5 own5 g5 r5
               have X5 : Below wr.heap.size wr w5 := by
                 refine Below.grown ?_ g5 (by first | omega | (simp; omega) | (simp; done)) (by intro k hk; simp [rowOf] at hk; omega)
                 repeat (first | with_reducible exact Below.refl _ _ | with_reducible exact XC | with_reducible exact X5 | with_reducible exact X6 | with_reducible refine Below.drew ?_ | with_reducible refine Below.alloc ?_ (by first | omega | (simp; omega) | (simp; done)) _)
               have O5 := Lib.hid own5
               have Z5 := X5.size
               have S5 := g5.size
               simp at S5
               obtain ⟨s0, s1⟩ := SC.out w5 X5
               clear own5 g5 r5)
            | (refine step_append_ints (by rfl) (.tmp 26) (.tmp 30) (by rfl) wr.heap.size c5 A5 z5 O5.out N E e y (JB.out _ ?_).2 (by rfl) (by rfl) ?_ ?_ ?_
               · refine Rng.on hb3.out ?_
                 repeat (first | with_reducible exact Below.refl _ _ | with_reducible exact XC | with_reducible exact X5 | with_reducible exact X6 | with_reducible refine Below.drew ?_ | with_reducible refine Below.alloc ?_ (by first | omega | (simp; omega) | (simp; done)) _)
               · rw [hz5.out]; simp; omega
               · omega
               intro A6 c6 w6 z6 hz6 own6 g6 r6
               have X6 : Below wr.heap.size wr w6 := X5.grown g6 (by omega) (by intro k hk; exact O5.out.ge k hk)
               have O6 := Lib.hid own6
               have Z6 := X6.size
               obtain ⟨t0, t1⟩ := SC.out w6 X6
               clear own6 g6 r6)
            | (refine step_append_rows (by rfl) (.tmp 20) (.tmp 32) (by rfl) w.heap.size c3 A3 z3 (ho3.out.below ?_) (some ⟨w6.heap.size, 0, none⟩) 1 [z6] (rows_one (d := c6) (heap_new' _ _ rfl) O6.out.cap_ ?_) (by rfl) (by rfl) ?_ ?_ ?_
               · repeat (first | with_reducible exact Below.refl _ _ | with_reducible exact XC | with_reducible exact X5 | with_reducible exact X6 | with_reducible refine Below.drew ?_ | with_reducible refine Below.alloc ?_ (by first | omega | (simp; omega) | (simp; done)) _)
               · refine (own_rowP O6.out).keep fun k hk => ⟨⟨by omega, by simp; omega, fun h => by have := HO.out k h; omega⟩, fun o => World.cell?_alloc_lt _ _ ⟨k, o, none⟩ hk.2.1⟩
               · simp; omega
               · simp; omega
               intro A7 c7 w7 z7 hz7 own7 g7 r7
               have X7 : Below w.heap.size w w7 := by
                 refine Below.grown ?_ g7 (by simp; omega) (by intro k hk; exact (HO.out k hk).1)
                 refine Rng.on hb3.out ?_
                 repeat (first | with_reducible exact Below.refl _ _ | with_reducible exact XC | with_reducible exact X5 | with_reducible exact X6 | with_reducible refine Below.drew ?_ | with_reducible refine Below.alloc ?_ (by first | omega | (simp; omega) | (simp; done)) _)
               have O7 := Lib.hid own7
               have q0 := (JA.out w7 X7).1
               have q1 := (JB.out w7 X7).1
               have X7 := Lib.hid X7
               clear own7 g7 r7))
          have EZ := Lib.hid (show z7 = z ++ (b.take (p + 1)).map (fun y => x ++ y) by
            rw [hz7.out, hz3.out, MT.out, hz6.out, hz5.out, List.nil_append, List.append_assoc])
          clear q0 q1 s0 s1 t0 t1
          go_wp2_with fail
          go_roundw
          case rel => exact ⟨p + 1, A7, c7, z7, by omega, by go_num, rfl, EZ.out, O7.out, X7.out⟩
          case measure => simp [intOf]; omega
        · have EV := Lib.hid (show z3 = timesL (a.take (j + 1)) b by rw [hz3.out, TK.out, hzz.out, List.take_of_length_le (show b.length ≤ p by omega)])
          go_wp2_with fail
          go_roundw
          case rel => exact ⟨j + 1, A3, c3, z3, by omega, by go_num, rfl, EV.out, ho3.out, hb3.out⟩
          case measure => simp [intOf]; omega
    · have EV := Lib.hid (show z = timesL a b by rw [hzz.out, List.take_of_length_le (by omega)])
      go_wp2_with fail
      go_ret
      exact ⟨A2, c2, (by rw [← EV.out]; rfl), (by rw [← EV.out]; exact ho.out), hbb.out⟩
end Go.Proofs.YtffkppjmdelajaaDoor.Gens

/- Generators (three numbers, subs) as trees: how they lie in memory, and what an argument reads as. -/
namespace Go.Proofs.YtffkppjmdelajaaDoor.Gens
open Go.RowKit Go.WideShapes Go.ChangeShapes Go.Deep Go.Joins
set_option linter.unusedVariables false

abbrev gv (t : Gn) (A : Option Addr) (c : Nat) : Value := .agg #[.int .i64 t.kind, .int .i64 t.a, .int .i64 t.b, .slice A t.subs.length c]
abbrev Wf (x : Int) : Prop := (Lit.int .i64 x).wf = true

/-- In world w, in blocks of S, the value v is the generator t of at most so many levels. -/
def GAt (w : World) (S : Nat → Prop) : Nat → Value → Gn → Prop
  | 0, _, _ => False
  | n + 1, v, t => (Wf t.kind ∧ Wf t.a ∧ Wf t.b) ∧ ∃ A c, v = gv t A c ∧ t.subs.length ≤ c ∧
      (0 < t.subs.length → ∃ b off, A = some ⟨b, off, none⟩ ∧ S b ∧ ∀ j (h : j < t.subs.length), ∃ x0 x1 x2 x3, w.cell? ⟨b, off + j * 4, none⟩ = some x0 ∧ w.cell? ⟨b, off + j * 4 + 1, none⟩ = some x1 ∧ w.cell? ⟨b, off + j * 4 + 2, none⟩ = some x2 ∧ w.cell? ⟨b, off + j * 4 + 3, none⟩ = some x3 ∧ GAt w S n (.agg #[x0, x1, x2, x3]) (t.subs[j]'h))

theorem GAt.keep {w w' : World} {S S' : Nat → Prop} (hk : ∀ b, S b → S' b ∧ ∀ o, w'.cell? ⟨b, o, none⟩ = w.cell? ⟨b, o, none⟩) : ∀ {n : Nat} {v : Value} {t : Gn}, GAt w S n v t → GAt w' S' n v t
  | 0, _, _, h => h
  | n + 1, v, t, h => by
    obtain ⟨hw, A, c, rfl, hcap, h⟩ := h
    refine ⟨hw, A, c, rfl, hcap, fun hp => ?_⟩
    obtain ⟨b, off, e, hb, hc⟩ := h hp
    obtain ⟨hb', hk'⟩ := hk b hb
    refine ⟨b, off, e, hb', fun j hj => ?_⟩
    obtain ⟨x0, x1, x2, x3, c0, c1, c2, c3, ht⟩ := hc j hj
    exact ⟨x0, x1, x2, x3, (hk' _).trans c0, (hk' _).trans c1, (hk' _).trans c2, (hk' _).trans c3, GAt.keep hk ht⟩
def GBel (B : Nat) : Nat → Prop := fun b => b < B
theorem GAt.below {w w' : World} {B n : Nat} {v : Value} {t : Gn} (h : GAt w (GBel B) n v t) (hb : Below B w w') : GAt w' (GBel B) n v t :=
  h.keep fun b hB => ⟨hB, fun o => hb.cell (p := ⟨b, o, none⟩) hB⟩
theorem GAt.more {w : World} {B B' n : Nat} {v : Value} {t : Gn} (h : GAt w (GBel B) n v t) (hB : B ≤ B') : GAt w (GBel B') n v t :=
  h.keep fun b hb => ⟨Nat.lt_of_lt_of_le hb hB, fun _ => rfl⟩
theorem GAt.up {w : World} {S : Nat → Prop} : ∀ {n m : Nat} {v : Value} {t : Gn}, n ≤ m → GAt w S n v t → GAt w S m v t
  | 0, _, _, _, _, h => h.elim
  | n + 1, 0, _, _, hm, _ => by omega
  | n + 1, m + 1, v, t, hm, h => by
    obtain ⟨hw, A, c, rfl, hcap, h⟩ := h
    refine ⟨hw, A, c, rfl, hcap, fun hp => ?_⟩
    obtain ⟨b, off, e, hb, hc⟩ := h hp
    refine ⟨b, off, e, hb, fun j hj => ?_⟩
    obtain ⟨x0, x1, x2, x3, c0, c1, c2, c3, ht⟩ := hc j hj
    exact ⟨x0, x1, x2, x3, c0, c1, c2, c3, GAt.up (by omega) ht⟩
/-- opened -/
theorem GAt.open_ {w : World} {S : Nat → Prop} {n : Nat} {v : Value} {t : Gn} (h : GAt w S n v t) : ∃ m A c, n = m + 1 ∧ (Wf t.kind ∧ Wf t.a ∧ Wf t.b) ∧ v = gv t A c ∧
    (0 < t.subs.length → ∃ b off, A = some ⟨b, off, none⟩ ∧ S b ∧ ∀ j (h : j < t.subs.length), ∃ x0 x1 x2 x3, w.cell? ⟨b, off + j * 4, none⟩ = some x0 ∧ w.cell? ⟨b, off + j * 4 + 1, none⟩ = some x1 ∧ w.cell? ⟨b, off + j * 4 + 2, none⟩ = some x2 ∧ w.cell? ⟨b, off + j * 4 + 3, none⟩ = some x3 ∧ GAt w S m (.agg #[x0, x1, x2, x3]) (t.subs[j]'h)) := by
  cases n with
  | zero => exact h.elim
  | succ n =>
    obtain ⟨hw, A, c, rfl, hcap, h⟩ := h
    exact ⟨n, A, c, rfl, hw, rfl, h⟩
/-- its capacity -/
theorem GAt.cap_ {w : World} {S : Nat → Prop} {n : Nat} {t : Gn} {A : Option Addr} {c : Nat} (h : GAt w S n (gv t A c) t) : t.subs.length ≤ c := by
  cases n with
  | zero => exact h.elim
  | succ n =>
    obtain ⟨_, A', c', e, hcap, _⟩ := h
    simp only [gv, Value.agg.injEq, Array.mk.injEq, List.cons.injEq, and_true, true_and, Value.slice.injEq] at e
    omega
/-- a sub, read at a later world, its parts in sight -/
theorem sub_as {w wr : World} {B n : Nat} {A : Option Addr} {l : List Gn}
    (hit : 0 < l.length → ∃ b off, A = some ⟨b, off, none⟩ ∧ GBel B b ∧ ∀ j (h : j < l.length), ∃ x0 x1 x2 x3, w.cell? ⟨b, off + j * 4, none⟩ = some x0 ∧ w.cell? ⟨b, off + j * 4 + 1, none⟩ = some x1 ∧ w.cell? ⟨b, off + j * 4 + 2, none⟩ = some x2 ∧ w.cell? ⟨b, off + j * 4 + 3, none⟩ = some x3 ∧ GAt w (GBel B) n (.agg #[x0, x1, x2, x3]) (l[j]'h))
    (hb : Below B w wr) (k : Nat) (h : k < l.length) : ∃ b off D d, A = some ⟨b, off, none⟩ ∧ wr.cell? ⟨b, off + k * 4, none⟩ = some (.int .i64 (l[k]'h).kind) ∧ wr.cell? ⟨b, off + k * 4 + 1, none⟩ = some (.int .i64 (l[k]'h).a) ∧ wr.cell? ⟨b, off + k * 4 + 2, none⟩ = some (.int .i64 (l[k]'h).b) ∧ wr.cell? ⟨b, off + k * 4 + 3, none⟩ = some (.slice D (l[k]'h).subs.length d) ∧
      GAt wr (GBel B) n (gv (l[k]'h) D d) (l[k]'h) := by
  obtain ⟨b, off, e, hB, hc⟩ := hit (by omega)
  obtain ⟨x0, x1, x2, x3, c0, c1, c2, c3, ht⟩ := hc k h
  obtain ⟨_, D, d, _, _, ev, _⟩ := ht.open_
  simp only [Value.agg.injEq, Array.mk.injEq, List.cons.injEq, and_true] at ev
  obtain ⟨rfl, rfl, rfl, rfl⟩ := ev
  exact ⟨b, off, D, d, e, (hb.cell (p := ⟨b, _, none⟩) hB).trans c0, (hb.cell (p := ⟨b, _, none⟩) hB).trans c1, (hb.cell (p := ⟨b, _, none⟩) hB).trans c2, (hb.cell (p := ⟨b, _, none⟩) hB).trans c3, ht.below hb⟩

theorem gsizes_bulk {H : Type} (f : Nat → Gn) (elems : List (DataW H)) : ∀ (k : Nat), (∀ i (h : i < elems.length), (f (k + i)).size ≤ Rows.uptoBulk (elems[i]'h)) → gsizes ((List.range' k elems.length).map f) ≤ Rows.uptoBulkAll elems := by
  induction elems with
  | nil => intro k _; simp [gsizes, Rows.uptoBulkAll]
  | cons d r ih =>
    intro k h
    simp only [List.length_cons, List.range'_succ, List.map_cons, gsizes, Rows.uptoBulkAll]
    have h0 := h 0 (by simp)
    have h1 := ih (k + 1) (fun i hi => by
      have := h (i + 1) (by simpa using hi)
      simpa [Nat.add_assoc, Nat.add_comm 1 i] using this)
    simp at h0
    omega

set_option maxRecDepth 100000 in
theorem cells4 : Tryd.prog.cellsOf 24 = 4 := by kernel_rfl
set_option maxRecDepth 100000 in
theorem ghone : oneCellFields Tryd.prog #[{ name := "Kind", type := 3, offset := 0, embedded := false, tag := "", pkgPath := "", byteOffset := 0 }, { name := "A", type := 3, offset := 1, embedded := false, tag := "", pkgPath := "", byteOffset := 8 }, { name := "B", type := 3, offset := 2, embedded := false, tag := "", pkgPath := "", byteOffset := 16 }, { name := "Subs", type := 22, offset := 3, embedded := false, tag := "", pkgPath := "", byteOffset := 24 }] = true := by kernel_rfl

set_option maxRecDepth 100000 in
theorem gread_tree {H : Type} {enc : TypeId × Value → H} {w : World} {base : Nat} {spare : Nat → Bool} {held : Bool} : ∀ (fuel : Nat) (cs : List Value) (x : DataW H × List MemPlace),
    DataW.trod enc Tryd.prog w base spare held fuel 24 cs = some x → ∃ t : Gn, GAt w (GBel w.heap.size) fuel (.agg cs.toArray) t ∧ t.size ≤ Rows.uptoBulk x.1 := by
  intro fuel
  induction fuel using Nat.strongRecOn with
  | ind fuel ih =>
    intro cs x h
    obtain ⟨xs, n, rfl, rfl, hlen, hxl, hf⟩ := DataW.trod_struct Tryd.underlying24 h
    rw [cells4] at hlen
    match cs, hlen with
    | [c0, c1, c2, c3], _ =>
      obtain ⟨o0, k0⟩ := hone_of ghone 0 _ rfl
      obtain ⟨o1, k1⟩ := hone_of ghone 1 _ rfl
      obtain ⟨o2, k2⟩ := hone_of ghone 2 _ rfl
      obtain ⟨o3, k3⟩ := hone_of ghone 3 _ rfl
      match xs, hxl with
      | [y0, y1, y2, y3], _ =>
        have f0 := hf 0 _ rfl
        have f1 := hf 1 _ rfl
        have f2 := hf 2 _ rfl
        have f3 := hf 3 _ rfl
        rw [o0, k0] at f0
        rw [o1, k1] at f1
        rw [o2, k2] at f2
        rw [o3, k3] at f3
        obtain ⟨l, e0, rfl, hl⟩ := DataW.trod_int Tryd.underlying3 f0
        obtain ⟨m, e1, rfl, hm⟩ := DataW.trod_int Tryd.underlying3 f1
        obtain ⟨q, e2, rfl, hq⟩ := DataW.trod_int Tryd.underlying3 f2
        simp only [List.drop_zero, List.take_succ_cons, List.take_zero, List.cons.injEq, and_true, List.drop_succ_cons] at e0 e1 e2
        subst e0 e1 e2
        rcases DataW.trod_slice Tryd.underlying22 f3 with ⟨e2, rfl⟩ | ⟨a, len, cap, elems, rest, n', rfl, e2, rfl, _, hlc, _, hel, hat, _, _⟩
        · simp only [List.take_succ_cons, List.take_zero, List.cons.injEq, and_true, List.drop_succ_cons, List.drop_zero] at e2
          subst e2
          exact ⟨.node l m q [], ⟨⟨hl, hm, hq⟩, none, 0, rfl, Nat.le_refl _, fun hp => by simp [Gn.subs] at hp⟩, by simp [Gn.size, gsizes, Rows.uptoBulk, Rows.uptoBulkAll]⟩
        · simp only [List.take_succ_cons, List.take_zero, List.cons.injEq, and_true, List.drop_succ_cons, List.drop_zero] at e2
          subst e2
          have each : ∀ i, i < len → ∃ t : Gn, ∃ cs' : List Value, w.cells? base (a.add (i * 4)) 4 = some cs' ∧ GAt w (GBel w.heap.size) n' (.agg cs'.toArray) t ∧ ∀ (hi : i < elems.length), t.size ≤ Rows.uptoBulk (elems[i]'hi).1 := by
            intro i hi
            have h1 := hat i hi
            rw [cells4] at h1
            have hi' : i < elems.length := by omega
            rw [List.getElem?_eq_getElem hi'] at h1
            obtain ⟨cs', hc, ht⟩ := Option.bind_eq_some_iff.1 h1
            obtain ⟨t, h2, h3⟩ := ih n' (by omega) cs' _ ht
            exact ⟨t, cs', hc, h2, fun _ => h3⟩
          obtain ⟨f, hfx⟩ := choose_lt each
          refine ⟨.node l m q ((List.range' 0 len).map f), ⟨⟨hl, hm, hq⟩, some a, cap, ?_, by simpa [Gn.subs] using hlc, fun hp => ?_⟩, ?_⟩
          · simp [Gn.subs, Gn.kind, Gn.a, Gn.b]
          · have hp' : 0 < len := by simpa [Gn.subs] using hp
            obtain ⟨b, off, spot⟩ := a
            have hcell : ∀ i, i < len → ∀ q, q < 4 → ∃ u, w.cell? ((⟨b, off, spot⟩ : Addr).add (i * 4) |>.add q) = some u := by
              intro i hi q hq
              obtain ⟨cs', hc, _⟩ := hfx i hi
              obtain ⟨_, hl', hu⟩ := World.cells?_some hc
              exact ⟨_, (hu q hq).trans (List.getElem?_eq_getElem (by omega))⟩
            have hspot : spot = none := by
              obtain ⟨u, hu⟩ := hcell 0 hp' 0 (by omega)
              simpa [Addr.add] using World.cell?_spot hu
            subst hspot
            refine ⟨b, off, rfl, ?_, fun j hj => ?_⟩
            · obtain ⟨u, hu⟩ := hcell 0 hp' 0 (by omega)
              exact World.block_lt_of_cell? _ _ (by simpa [Addr.add] using hu)
            · have hj' : j < len := by simpa [Gn.subs] using hj
              obtain ⟨cs', hc, ht, _⟩ := hfx j hj'
              obtain ⟨_, hl', hu⟩ := World.cells?_some hc
              match cs', hl' with
              | [x0, x1, x2, x3], _ =>
                have u0 := hu 0 (by omega)
                have u1 := hu 1 (by omega)
                have u2 := hu 2 (by omega)
                have u3 := hu 3 (by omega)
                rw [add_plain, add_plain] at u0 u1 u2 u3
                refine ⟨x0, x1, x2, x3, by simpa using u0, by simpa using u1, by simpa using u2, by simpa using u3, ?_⟩
                have e : (Gn.node l m q ((List.range' 0 len).map f)).subs[j]'hj = f j := by simp [Gn.subs]
                rw [e]
                exact GAt.up (by omega) ht
          · simp only [Gn.size, List.map_cons, List.map_nil, Rows.uptoBulk, Rows.uptoBulkAll]
            have := gsizes_bulk f (elems.map (·.1)) 0 (fun i hi => by
              have hi' : i < elems.length := by simpa using hi
              obtain ⟨_, _, _, hs⟩ := hfx i (by omega)
              have := hs hi'
              simpa using this)
            rw [List.length_map, hel] at this
            omega

set_option maxRecDepth 100000 in
theorem open_gen {H : Type} {enc : TypeId × Value → H} {w : World} {base : Nat} {r : Reach} {b0 : Nat} {spare : Nat → Bool} {held : Bool} {v : Value} {d : DataW H} {ps : List MemPlace}
    (hval : Value.okWide Tryd.prog w r b0 24 v) (hd : DataW.Trod enc Tryd.prog w base spare held 24 v d ps) :
    ∃ (t : Gn) (n : Nat), GAt w (GBel w.heap.size) n v t ∧ t.size ≤ Rows.uptoBulk d := by
  obtain ⟨cs, rfl, _⟩ := okWide_struct Tryd.underlying24 hval
  obtain ⟨fuel, hf⟩ := hd
  obtain ⟨t, h1, h2⟩ := gread_tree fuel _ _ hf
  exact ⟨t, fuel, by simpa [Value.cells] using h1, h2⟩
end Go.Proofs.YtffkppjmdelajaaDoor.Gens

/- A generator's box; small laws. No program but the types. -/
namespace Go.Proofs.YtffkppjmdelajaaDoor.Gens
open Go.RowKit Lists Ints
set_option linter.unusedVariables false

abbrev gc (t : Gn) (A : Option Addr) (c : Nat) : Obj := .cells #[.int .i64 t.kind, .int .i64 t.a, .int .i64 t.b, .slice A t.subs.length c] 24
theorem gheap_new (w : World) (o : Obj) : (w.alloc o).heap[w.heap.size]? = some o := by
  show (w.heap.push o)[w.heap.size]? = _
  simp
/-- a box of a generator -/
theorem gbox (w w' : World) (x0 x1 x2 x3 : Value) (h : Below (w.alloc (.cells #[x0, x1, x2, x3] 24)).heap.size (w.alloc (.cells #[x0, x1, x2, x3] 24)) w') :
    w'.cell? ⟨w.heap.size, 0, none⟩ = some x0 ∧ w'.cell? ⟨w.heap.size, 1, none⟩ = some x1 ∧ w'.cell? ⟨w.heap.size, 2, none⟩ = some x2 ∧ w'.cell? ⟨w.heap.size, 3, none⟩ = some x3 := by
  have hb := h.block w.heap.size (by simp)
  rw [gheap_new] at hb
  exact ⟨by rw [Lib.cell_of_heap hb]; rfl, by rw [Lib.cell_of_heap hb]; rfl, by rw [Lib.cell_of_heap hb]; rfl, by rw [Lib.cell_of_heap hb]; rfl⟩
theorem i64_wf {x : Int} (h : Wf x) : I64 x := by
  simp only [Wf, Lit.wf, IntKind.min, IntKind.max, IntKind.signed, IntKind.bits, Bool.and_eq_true] at h
  unfold I64
  simp at h
  omega
theorem ret_p {a b c d : Value} (h : a = c) (h' : b = d) : Ending.returned (.tuple #[a, b]) = .returned (.tuple #[c, d]) := by rw [h, h']
end Go.Proofs.YtffkppjmdelajaaDoor.Gens

/- The document's own Tapes. Conditions: a right generator of few parts that has few tapes. -/
namespace Go.Proofs.YtffkppjmdelajaaDoor.Gens
open Go.RowKit Ints Rng
set_option linter.unusedVariables false

def TapesOK (n : Nat) : Prop := ∀ (g : Gn) (v : Value) (B : Nat) (w : World), GAt w (GBel B) n v g → B ≤ w.heap.size → g.size ≤ 30 → Right g → longG g ≤ 1399680 → (tapesG g).length ≤ 3000 → Calls Tryd.prog 25 #[v] w (TmPost (tapesG g) w)
/-! lengths -/
theorem tapes_pos {g : Gn} (hg : Right g) : 1 ≤ (tapesG g).length := by
  rw [tapes_all g hg]
  unfold allOf
  rw [List.length_map, List.length_range]
  exact (good_gen g hg).pos
theorem tape_len {g : Gn} (hg : Right g) (hz : longG g ≤ 1399680) : ∀ x ∈ tapesG g, x.length ≤ 1399680 := by
  rw [tapes_all g hg]
  intro x hx
  unfold allOf at hx
  obtain ⟨i, hi, rfl⟩ := List.mem_map.1 hx
  obtain ⟨v, hv⟩ := (good_gen g hg).tape i (List.mem_range.1 hi)
  exact Nat.le_trans (play_long read_bounded g hg _ _ _ _ hv) hz
theorem times_mem {a b : List (List Int)} {m k : Nat} (ha : ∀ x ∈ a, x.length ≤ m) (hb : ∀ y ∈ b, y.length ≤ k) : ∀ z ∈ timesL a b, z.length ≤ m + k := by
  intro z hz
  unfold timesL at hz
  obtain ⟨x, hx, hz⟩ := List.mem_flatMap.1 hz
  obtain ⟨y, hy, rfl⟩ := List.mem_map.1 hz
  rw [List.length_append]
  exact Nat.add_le_add (ha x hx) (hb y hy)
theorem both_snoc : ∀ (l : List (List (List Int))) (acc t : List (List Int)), bothT acc (l ++ [t]) = timesL (bothT acc l) t
  | [], acc, t => rfl
  | s :: r, acc, t => by rw [List.cons_append, bothT, both_snoc r, bothT]
theorem both_mono : ∀ (l : List (List (List Int))) (acc : List (List Int)), (∀ t ∈ l, 1 ≤ t.length) → acc.length ≤ (bothT acc l).length
  | [], acc, _ => Nat.le_refl _
  | t :: r, acc, h => by
    rw [bothT]
    refine Nat.le_trans ?_ (both_mono r _ (fun x hx => h x (List.mem_cons_of_mem _ hx)))
    rw [timesL_len]
    exact Nat.le_mul_of_pos_right _ (h t (by simp))
theorem both_app : ∀ (l m : List (List (List Int))) (acc : List (List Int)), bothT acc (l ++ m) = bothT (bothT acc l) m
  | [], m, acc => rfl
  | t :: r, m, acc => by rw [List.cons_append, bothT, both_app r m, bothT]
theorem any_app : ∀ (l m : List (List (List Int))) (c : Nat), anyT c (l ++ m) = anyT c l ++ anyT (c + l.length) m
  | [], m, c => by simp [anyT]
  | t :: r, m, c => by rw [List.cons_append, anyT, any_app r m, anyT, List.append_assoc, List.length_cons]; congr 3; omega
theorem any_step (l : List (List (List Int))) (j : Nat) (h : j < l.length) : anyT 0 (l.take (j + 1)) = anyT 0 (l.take j) ++ timesL [[(j : Int)]] (l[j]'h) := by
  rw [List.take_succ_eq_append_getElem h, any_app]
  congr 1
  rw [List.length_take, Nat.min_eq_left (by omega), Nat.zero_add, anyT, anyT, List.append_nil]
theorem any_part (l : List (List (List Int))) (j : Nat) : (anyT 0 (l.take j)).length ≤ (anyT 0 l).length := by
  have h := any_app (l.take j) (l.drop j) 0
  rw [List.take_append_drop] at h
  rw [h, List.length_append]
  omega
theorem many_step (t : List (List Int)) : ∀ (j i : Nat), manyT t i (j + 1) = manyT t i j ++ timesL [[((i + j : Nat) : Int)]] (powT t (i + j))
  | 0, i => by simp [manyT]
  | j + 1, i => by
    rw [manyT, many_step t j (i + 1), manyT, List.append_assoc]
    rw [show i + 1 + j = i + (j + 1) by omega]
theorem many_part (t : List (List Int)) (j : Nat) : ∀ k, (manyT t 0 j).length ≤ (manyT t 0 (j + k)).length
  | 0 => Nat.le_refl _
  | k + 1 => by
    refine Nat.le_trans (many_part t j k) ?_
    rw [show j + (k + 1) = (j + k) + 1 by omega, many_step, List.length_append]
    omega
theorem pow_part (t : List (List Int)) {j n : Nat} (h : j < n) : (powT t j).length ≤ (manyT t 0 n).length := by
  have h1 := many_part t (j + 1) (n - (j + 1))
  rw [show j + 1 + (n - (j + 1)) = n by omega, many_step, List.length_append, timesL_len, Nat.zero_add] at h1
  simp at h1
  omega
theorem one_mem (i : Int) : ∀ x ∈ [[i]], x.length ≤ 1 := by intro x hx; simp at hx; subst hx; exact Nat.le_refl _
theorem own_nil_one {w : World} {base b : Nat} (hb : base ≤ b) (h : w.heap[b]? = some (.cells #[.slice none 0 0] 25 (0, 0))) : OwnRows w base (some ⟨b, 0, none⟩) 1 [[]] :=
  ownrows_one (D := none) (z := []) (d := 0) hb h (Nat.le_refl _) (fun h => by simp at h)

section
variable {n c B : Nat} {A : Option Addr} {w : World}
set_option maxHeartbeats 1000000 in
set_option maxRecDepth 100000 in
theorem tapes_just (a b : Int) (subs : List Gn) : Calls Tryd.prog 25 #[.agg #[.int .i64 1, .int .i64 a, .int .i64 b, .slice A subs.length c]] w (TmPost (tapesG (.node 1 a b subs)) w) := by
  have EV := Lib.hid (show tapesG (.node 1 a b subs) = [[]] by simp [tapesG])
  have O1 := Lib.hid (own_nil_one (base := w.heap.size) (b := w.heap.size + 1) (w := (w.alloc (.cells #[.int .i64 1, .int .i64 a, .int .i64 b, .slice A subs.length c] 24)).alloc (.cells #[.slice none 0 0] 25)) (by omega) (heap_new' _ _ (by simp)))
  have B1 := Lib.hid (show Below w.heap.size w ((w.alloc (.cells #[.int .i64 1, .int .i64 a, .int .i64 b, .slice A subs.length c] 24)).alloc (.cells #[.slice none 0 0] 25)) from ((Below.refl _ _).alloc (Nat.le_refl _) _).alloc (by simp) _)
  go_enter Tryd.func25, Tryd.ntmps25
  go_wp2_with fail
  go_ret
  rw [EV.out]
  exact ⟨some ⟨w.heap.size + 1, 0, none⟩, 1, rfl, O1.out, B1.out⟩
set_option maxHeartbeats 2000000 in
set_option maxRecDepth 100000 in
theorem tapes_int (a b : Int) (subs : List Gn) (h1 : -1073741824 ≤ a) (h2 : a ≤ 1073741824) (h3 : -1073741824 ≤ b) (h4 : b ≤ 1073741824) (h5 : a ≤ b) (h6 : b - a ≤ 1000) :
    Calls Tryd.prog 25 #[.agg #[.int .i64 2, .int .i64 a, .int .i64 b, .slice A subs.length c]] w (TmPost (tapesG (.node 2 a b subs)) w) := by
  have EV := Lib.hid (show tapesG (.node 2 a b subs) = (List.range (b - a + 1).toNat).map fun (i : Nat) => [(i : Int)] by simp [tapesG])
  have H0 := Lib.hid (show Below w.heap.size w (w.alloc (.cells #[.int .i64 2, .int .i64 a, .int .i64 b, .slice A subs.length c] 24)) from (Below.refl _ _).alloc (Nat.le_refl _) _)
  go_enter Tryd.func25, Tryd.ntmps25
  go_wp2_with fail
  go_loopw [3, 4] (fun v i wr => ∃ (j : Nat) (A2 : Option Addr) (c2 : Nat) (z : List (List Int)), (j : Int) ≤ b - a + 1 ∧ i = .int .i64 j ∧ v = .slice A2 z.length c2 ∧ Hid (z = (List.range j).map fun (i : Nat) => [(i : Int)]) ∧ Hid (OwnRows wr (w.heap.size + 1) A2 c2 z) ∧ Hid (Below (w.alloc (.cells #[.int .i64 2, .int .i64 a, .int .i64 b, .slice A subs.length c] 24)).heap.size (w.alloc (.cells #[.int .i64 2, .int .i64 a, .int .i64 b, .slice A subs.length c] 24)) wr)) (fun _ i _ => (b - a + 1).toNat - (intOf i).toNat)
  case atStart => exact ⟨0, none, 0, [], by omega, rfl, rfl, rfl, OwnRows.zero, Below.refl _ _⟩
  case round =>
    obtain ⟨j, A2, c2, z, hj, rfl, rfl, hz, ho, hb⟩ := hrel
    obtain ⟨k0, k1, k2, k3⟩ := gbox w wr _ _ _ _ hb.out
    have hws : w.heap.size + 1 ≤ wr.heap.size := by have := hb.out.size; simpa using this
    by_cases hlt : (j : Int) ≤ b - a
    · have g1 : decide ((j : Int) ≤ b - a) = true := decide_eq_true hlt
      have HG := Lib.hid ho.out.ge
      have zl : z.length ≤ 1001 := by rw [hz.out]; simp; omega
      go_wp2_with (at_builtin
                   refine wpList_append_rows rfl (.tmp 25) (.tmp 28) rfl (w.heap.size + 1) c2 A2 z (ho.out.below ?_) (some ⟨wr.heap.size + 1, 0, none⟩) 1 [[(j : Int)]] (rows_one (D := some ⟨wr.heap.size, 0, none⟩) (d := 1) (heap_new' _ _ (by simp)) (Nat.le_refl _) ?_) rfl rfl ?_ ?_ ?_
                   · exact ((Below.refl _ _).alloc (Nat.le_refl _) _).alloc (by simp) _
                   · exact fun _ => ⟨wr.heap.size, 0, rfl, ⟨by omega, by simp; omega, fun h => by have := (HG.out _ h).2; omega⟩, fun q hq => by
                       obtain rfl : q = 0 := by simp at hq; exact hq
                       simp⟩
                   · simp; omega
                   · simp; omega
                   intro A7 c7 w7 z7 hz7 own7 g7 r7
                   have X7 := Lib.hid (show Below (w.alloc (.cells #[.int .i64 2, .int .i64 a, .int .i64 b, .slice A subs.length c] 24)).heap.size (w.alloc (.cells #[.int .i64 2, .int .i64 a, .int .i64 b, .slice A subs.length c] 24)) w7 from Below.grown (((hb.out).alloc (by simp; omega) _).alloc (by simp; omega) _) g7 (by simp; omega) (by intro k hk; have := (HG.out k hk).1; simpa using this))
                   have O7 := Lib.hid own7
                   clear own7 g7 r7)
      have EZ := Lib.hid (show z7 = (List.range (j + 1)).map fun (i : Nat) => [(i : Int)] by rw [hz7.out, hz.out, List.range_succ, List.map_append]; rfl)
      go_roundw
      case rel => exact ⟨j + 1, A7, c7, z7, by omega, by go_num, rfl, EZ.out, O7.out, X7.out⟩
      case measure => simp [intOf]; omega
    · have g1 : decide ((j : Int) ≤ b - a) = false := decide_eq_false hlt
      have EZ := Lib.hid (show z = tapesG (.node 2 a b subs) by rw [EV.out, hz.out]; congr 2; omega)
      go_wp2_with fail
      go_ret
      exact ⟨A2, c2, (by rw [← EZ.out]; rfl), by rw [← EZ.out]; exact ho.out.less (by omega), Rng.on H0.out hb.out⟩

theorem row_new (w : World) (i : Int) : RowsAt ((w.alloc (.cells #[.int .i64 i] 3)).alloc (.cells #[.slice (some ⟨w.heap.size, 0, none⟩) 1 1] 25)) (w.heap.size + 2) (some ⟨w.heap.size + 1, 0, none⟩) [[i]] := fun _ =>
  ⟨w.heap.size + 1, 0, rfl, by show _ < _; omega, fun j hj => by
    obtain rfl : j = 0 := by simp at hj; exact hj
    refine ⟨some ⟨w.heap.size, 0, none⟩, 1, ?_, Nat.le_refl _, fun _ => ⟨w.heap.size, 0, rfl, by show _ < _; omega, fun q hq => ?_⟩⟩
    · have := Lib.cell_of_heap (heap_new' (w.alloc (.cells #[.int .i64 i] 3)) (.cells #[.slice (some ⟨w.heap.size, 0, none⟩) 1 1] 25) (b := w.heap.size + 1) (by simp)) 0
      rw [Nat.add_zero, this]; rfl
    · obtain rfl : q = 0 := by simp at hq; exact hq
      simp⟩
/-- what lies in new memory, as a source for append onto a row that was there -/
theorem fresh_src {w w2 : World} {base lo : Nat} {A2 A : Option Addr} {c : Nat} {z : List (List Int)} (h : OwnRows w2 lo A c z) (hg : ∀ g, rowOf A2 = some g → g < lo) (hb : base ≤ lo) : RowsP w2 (fun _ => True) (fun b => base ≤ b ∧ b < w2.heap.size ∧ rowOf A2 ≠ some b) A z :=
  h.rows.keep (fun b _ => ⟨trivial, fun _ => rfl⟩) (fun b hk => ⟨⟨Nat.le_trans hb hk.1, hk.2.1, fun e => by have := hg b e; omega⟩, fun _ => rfl⟩)

set_option maxHeartbeats 4000000 in
set_option maxRecDepth 100000 in
theorem tapes_anyk (ih : TapesOK n) (a b : Int) (subs : List Gn) (hr : Right (.node 5 a b subs)) (hs : (Gn.node 5 a b subs).size ≤ 30) (hc : (tapesG (.node 5 a b subs)).length ≤ 3000) (hB : B ≤ w.heap.size) (hq : ∀ x ∈ subs, longG x ≤ 1399680)
    (hit : 0 < subs.length → ∃ b off, A = some ⟨b, off, none⟩ ∧ GBel B b ∧ ∀ j (h : j < subs.length), ∃ x0 x1 x2 x3, w.cell? ⟨b, off + j * 4, none⟩ = some x0 ∧ w.cell? ⟨b, off + j * 4 + 1, none⟩ = some x1 ∧ w.cell? ⟨b, off + j * 4 + 2, none⟩ = some x2 ∧ w.cell? ⟨b, off + j * 4 + 3, none⟩ = some x3 ∧ GAt w (GBel B) n (.agg #[x0, x1, x2, x3]) (subs[j]'h)) :
    Calls Tryd.prog 25 #[.agg #[.int .i64 5, .int .i64 a, .int .i64 b, .slice A subs.length c]] w (TmPost (tapesG (.node 5 a b subs)) w) := by
  have EV := Lib.hid (show tapesG (.node 5 a b subs) = anyT 0 (subs.map tapesG) by simp [tapesG, tapesGs_map])
  have H0 := Lib.hid (show Below w.heap.size w (w.alloc (.cells #[.int .i64 5, .int .i64 a, .int .i64 b, .slice A subs.length c] 24)) from (Below.refl _ _).alloc (Nat.le_refl _) _)
  have hzs : subs.length ≤ 29 ∧ ∀ g ∈ subs, g.size ≤ 30 := by
    rw [Gn.size] at hs
    exact ⟨by have := glen_sizes subs; omega, fun g hg => by have := gsize_mem subs g hg; omega⟩
  have hln := hzs.1
  have HT := Lib.hid (fun (j : Nat) (h : j < subs.length) => show (subs[j]'h).size ≤ 30 ∧ Right (subs[j]'h) ∧ longG (subs[j]'h) ≤ 1399680 from ⟨hzs.2 _ (List.getElem_mem h), hr.subs _ (List.getElem_mem h), hq _ (List.getElem_mem h)⟩)
  have HC := Lib.hid (fun (j : Nat) => show (anyT 0 ((subs.map tapesG).take j)).length ≤ 3000 from Nat.le_trans (any_part _ j) (by rw [← EV.out]; exact hc))
  have IH := Lib.hid ih
  have HIT := Lib.hid hit
  have HB := Lib.hid hB
  clear ih hit hB hr hs hc hzs hq
  go_enter Tryd.func25, Tryd.ntmps25
  go_wp2_with fail
  go_loopw [3, 5] (fun v i wr => ∃ (j : Nat) (A2 : Option Addr) (c2 : Nat) (z : List (List Int)), j ≤ subs.length ∧ i = .int .i64 j ∧ v = .slice A2 z.length c2 ∧ Hid (z = anyT 0 ((subs.map tapesG).take j)) ∧ Hid (OwnRows wr (w.heap.size + 1) A2 c2 z) ∧ Hid (Below (w.alloc (.cells #[.int .i64 5, .int .i64 a, .int .i64 b, .slice A subs.length c] 24)).heap.size (w.alloc (.cells #[.int .i64 5, .int .i64 a, .int .i64 b, .slice A subs.length c] 24)) wr)) (fun _ i _ => subs.length - (intOf i).toNat)
  case atStart => exact ⟨0, none, 0, [], Nat.zero_le _, rfl, rfl, rfl, OwnRows.zero, Below.refl _ _⟩
  case round =>
    obtain ⟨j, A2, c2, z, hj, rfl, rfl, hz, ho, hb⟩ := hrel
    obtain ⟨k0, k1, k2, k3⟩ := gbox w wr _ _ _ _ hb.out
    have hws : w.heap.size + 1 ≤ wr.heap.size := by have := hb.out.size; simpa using this
    by_cases hlt : j < subs.length
    · have HG := Lib.hid ho.out.ge
      have BW := Lib.hid (Rng.on H0.out hb.out)
      obtain ⟨ib, off, D, d, rfl, c0, c1, c2', c3, hti⟩ := sub_as HIT.out (BW.out.mono HB.out) j hlt
      have ST := Lib.hid (any_step (subs.map tapesG) j (by simpa using hlt))
      have CJ := Lib.hid (HC.out (j + 1))
      rw [List.getElem_map] at ST
      have hy := HT.out j hlt
      have b2 : Below wr.heap.size wr ((wr.alloc (.cells #[.int .i64 (j : Int)] 3)).alloc (.cells #[.slice (some ⟨wr.heap.size, 0, none⟩) 1 1] 25)) := ((Below.refl _ _).alloc (Nat.le_refl _) _).alloc (by simp) _
      have ly : (tapesG (subs[j]'hlt)).length ≤ 3000 := by
        have h1 := CJ.out
        rw [ST.out, List.length_append, timesL_len] at h1
        simp at h1
        omega
      have lib : ib < wr.heap.size := World.block_lt_of_cell? _ _ c0
      have lws : w.heap.size < wr.heap.size := by omega
      have m0 := (b2.cell (p := ⟨w.heap.size, _, none⟩) lws).trans k0
      have m3 := (b2.cell (p := ⟨w.heap.size, _, none⟩) lws).trans k3
      have d0 := (b2.cell (p := ⟨ib, _, none⟩) lib).trans c0
      have d1 := (b2.cell (p := ⟨ib, _, none⟩) lib).trans c1
      have d2 := (b2.cell (p := ⟨ib, _, none⟩) lib).trans c2'
      have d3 := (b2.cell (p := ⟨ib, _, none⟩) lib).trans c3
      have T1 := Lib.hid (IH.out (subs[j]'hlt) _ B _ (hti.below (b2.mono (Nat.le_trans HB.out BW.out.size))) (Nat.le_trans (Nat.le_trans HB.out BW.out.size) b2.size) hy.1 hy.2.1 hy.2.2 ly)
      have TL := Lib.hid (tape_len hy.2.1 hy.2.2)
      have RN := Lib.hid (row_new wr j)
      have B2 := Lib.hid b2
      clear hti hy b2
      generalize subs[j]'hlt = y at *
      generalize tapesG y = ty at *
      have zl : z.length + ty.length ≤ 3000 := by
        have h1 := CJ.out
        rw [ST.out, List.length_append, timesL_len, ← hz.out] at h1
        simp at h1
        omega
      go_wp2_with fail
      refine T1.out.mono ?_
      rintro e w2 ⟨TA, tc, rfl, to, b3⟩
      have B3 := Lib.hid (Rng.on B2.out b3)
      have M1 := Lib.hid (times_any [[(j : Int)]] ty (some ⟨wr.heap.size + 1, 0, none⟩) TA 1 tc w2.heap.size w2 (RowsP.more (RowsP.below RN.out (b3.mono (by simp))) (by have := b3.size; simp at this; omega)) to.at_ (Nat.le_refl _) (by rw [timesL_len]; simp; omega) (by simp) (by omega) (fun x hx => by have := one_mem _ x hx; omega) (fun x hx => by have := TL.out x hx; omega))
      have hw2 : wr.heap.size ≤ w2.heap.size := B3.out.size
      clear b3 to k0 k1 k2 k3 c0 c1 c2' c3
      go_wp2_with fail
      refine M1.out.mono ?_
      rintro e w3 ⟨MA, mc, rfl, mo, b4⟩
      have B4 := Lib.hid (Rng.on B3.out b4)
      have MO := Lib.hid mo
      have hw3 : w2.heap.size ≤ w3.heap.size := b4.size
      have tl : (timesL [[(j : Int)]] ty).length ≤ 3000 := by rw [timesL_len]; simp; omega
      clear b4 mo
      generalize timesL [[(j : Int)]] ty = m at *
      have hg3 := fun (g : Nat) (hg : rowOf A2 = some g) => (show g < w2.heap.size by have := (HG.out g hg).2; omega)
      have RR := Lib.hid (fresh_src (base := w.heap.size + 1) (w := w3) MO.out hg3 (by omega))
      have OO := Lib.hid (OwnRows.below ho.out B4.out)
      have h63 : z.length + m.length ≤ 4398046511104 := by omega
      have hbs : w.heap.size + 1 ≤ w3.heap.size := by omega
      have X3 := Lib.hid (Rng.on hb.out B4.out)
      have hg1 := Lib.hid (fun (k : Nat) (hk : rowOf A2 = some k) => (HG.out k hk).1)
      go_wp2_with (at_builtin
                   refine wpList_append_rows rfl (.tmp 41) (.tmp 51) rfl (w.heap.size + 1) c2 A2 z OO.out MA mc m RR.out rfl rfl h63 hbs ?_
                   intro A7 c7 w7 z7 hz7 own7 g7 r7
                   have X7 := Lib.hid (show Below (w.alloc (.cells #[.int .i64 5, .int .i64 a, .int .i64 b, .slice (some ⟨ib, off, none⟩) subs.length c] 24)).heap.size (w.alloc (.cells #[.int .i64 5, .int .i64 a, .int .i64 b, .slice (some ⟨ib, off, none⟩) subs.length c] 24)) w7 from Below.grown X3.out g7 (by simp; omega) (by intro k hk; have := hg1.out k hk; simpa using this))
                   have O7 := Lib.hid own7
                   clear own7 g7 r7)
      have EZ := Lib.hid (show z7 = anyT 0 ((subs.map tapesG).take (j + 1)) by rw [hz7.out, hz.out, ST.out])
      go_roundw
      case rel => exact ⟨j + 1, A7, c7, z7, by omega, by go_num, rfl, EZ.out, O7.out, X7.out⟩
      case measure => simp [intOf]; omega
    · have EZ := Lib.hid (show z = tapesG (.node 5 a b subs) by rw [EV.out, hz.out, List.take_of_length_le (by simp; omega)])
      go_wp2_with fail
      go_ret
      exact ⟨A2, c2, (by rw [← EZ.out]; rfl), by rw [← EZ.out]; exact ho.out.less (by omega), Rng.on H0.out hb.out⟩
end
end Go.Proofs.YtffkppjmdelajaaDoor.Gens

/- The document's own Tapes, one after the other, and so many. Conditions: a right generator of few parts that has few tapes. -/
namespace Go.Proofs.YtffkppjmdelajaaDoor.Gens
open Go.RowKit Ints Rng
set_option linter.unusedVariables false

theorem both_step (l : List (List (List Int))) (j : Nat) (h : j < l.length) : bothT [[]] (l.take (j + 1)) = timesL (bothT [[]] (l.take j)) (l[j]'h) := by
  rw [List.take_succ_eq_append_getElem h, both_snoc]
theorem both_part (l : List (List (List Int))) (hp : ∀ t ∈ l, 1 ≤ t.length) (acc : List (List Int)) (j : Nat) : (bothT acc (l.take j)).length ≤ (bothT acc l).length := by
  have h := both_app (l.take j) (l.drop j) acc
  rw [List.take_append_drop] at h
  rw [h]
  exact both_mono _ _ (fun t ht => hp t (List.mem_of_mem_drop ht))
section
variable {n c B : Nat} {A : Option Addr} {w : World}
set_option maxHeartbeats 4000000 in
set_option maxRecDepth 100000 in
theorem tapes_both (ih : TapesOK n) (a b : Int) (subs : List Gn) (hr : Right (.node 3 a b subs)) (hs : (Gn.node 3 a b subs).size ≤ 30) (hc : (tapesG (.node 3 a b subs)).length ≤ 3000) (hB : B ≤ w.heap.size) (hq : ∀ x ∈ subs, longG x ≤ 1399680)
    (hit : 0 < subs.length → ∃ b off, A = some ⟨b, off, none⟩ ∧ GBel B b ∧ ∀ j (h : j < subs.length), ∃ x0 x1 x2 x3, w.cell? ⟨b, off + j * 4, none⟩ = some x0 ∧ w.cell? ⟨b, off + j * 4 + 1, none⟩ = some x1 ∧ w.cell? ⟨b, off + j * 4 + 2, none⟩ = some x2 ∧ w.cell? ⟨b, off + j * 4 + 3, none⟩ = some x3 ∧ GAt w (GBel B) n (.agg #[x0, x1, x2, x3]) (subs[j]'h)) :
    Calls Tryd.prog 25 #[.agg #[.int .i64 3, .int .i64 a, .int .i64 b, .slice A subs.length c]] w (TmPost (tapesG (.node 3 a b subs)) w) := by
  have EV := Lib.hid (show tapesG (.node 3 a b subs) = bothT [[]] (subs.map tapesG) by simp [tapesG, tapesGs_map])
  have H0 := Lib.hid (show Below w.heap.size w (w.alloc (.cells #[.int .i64 3, .int .i64 a, .int .i64 b, .slice A subs.length c] 24)) from (Below.refl _ _).alloc (Nat.le_refl _) _)
  have O1 := Lib.hid (own_nil_one (base := w.heap.size + 1) (b := w.heap.size + 1) (w := (w.alloc (.cells #[.int .i64 3, .int .i64 a, .int .i64 b, .slice A subs.length c] 24)).alloc (.cells #[.slice none 0 0] 25)) (by omega) (heap_new' _ _ (by simp)))
  have hzs : subs.length ≤ 29 ∧ ∀ g ∈ subs, g.size ≤ 30 := by
    rw [Gn.size] at hs
    exact ⟨by have := glen_sizes subs; omega, fun g hg => by have := gsize_mem subs g hg; omega⟩
  have hln := hzs.1
  have HP : ∀ t ∈ subs.map tapesG, 1 ≤ t.length := by
    intro t ht
    obtain ⟨g, hg, rfl⟩ := List.mem_map.1 ht
    exact tapes_pos (hr.subs g hg)
  have HT := Lib.hid (fun (j : Nat) (h : j < subs.length) => show (subs[j]'h).size ≤ 30 ∧ Right (subs[j]'h) ∧ longG (subs[j]'h) ≤ 1399680 from ⟨hzs.2 _ (List.getElem_mem h), hr.subs _ (List.getElem_mem h), hq _ (List.getElem_mem h)⟩)
  have HC := Lib.hid (fun (j : Nat) => show (bothT [[]] ((subs.map tapesG).take j)).length ≤ 3000 from Nat.le_trans (both_part _ HP _ j) (by rw [← EV.out]; exact hc))
  have HL := Lib.hid (fun (j : Nat) => show 1 ≤ (bothT [[]] ((subs.map tapesG).take j)).length from both_mono _ [[]] (fun t ht => HP t (List.mem_of_mem_take ht)))
  have IH := Lib.hid ih
  have HIT := Lib.hid hit
  have HB := Lib.hid hB
  clear ih hit hB hr hs hc hzs hq HP
  go_enter Tryd.func25, Tryd.ntmps25
  go_wp2_with fail
  go_loopw [3, 6] (fun v i wr => ∃ (j : Nat) (A2 : Option Addr) (c2 : Nat) (z : List (List Int)), j ≤ subs.length ∧ i = .int .i64 j ∧ v = .slice A2 z.length c2 ∧ Hid (z = bothT [[]] ((subs.map tapesG).take j)) ∧ Hid (OwnRows wr (w.heap.size + 1) A2 c2 z) ∧ Hid (∀ x ∈ z, x.length ≤ j * 1399680) ∧ Hid (Below (w.alloc (.cells #[.int .i64 3, .int .i64 a, .int .i64 b, .slice A subs.length c] 24)).heap.size (w.alloc (.cells #[.int .i64 3, .int .i64 a, .int .i64 b, .slice A subs.length c] 24)) wr)) (fun _ i _ => subs.length - (intOf i).toNat)
  case atStart => exact ⟨0, some ⟨w.heap.size + 1, 0, none⟩, 1, [[]], Nat.zero_le _, rfl, rfl, rfl, O1.out, fun x hx => by simp at hx; subst hx; simp, (Below.refl _ _).alloc (Nat.le_refl _) _⟩
  case round =>
    obtain ⟨j, A2, c2, z, hj, rfl, rfl, hz, ho, hx, hb⟩ := hrel
    obtain ⟨k0, k1, k2, k3⟩ := gbox w wr _ _ _ _ hb.out
    have hws : w.heap.size + 1 ≤ wr.heap.size := by have := hb.out.size; simpa using this
    by_cases hlt : j < subs.length
    · have BW := Lib.hid (Rng.on H0.out hb.out)
      obtain ⟨ib, off, D, d, rfl, c0, c1, c2', c3, hti⟩ := sub_as HIT.out (BW.out.mono HB.out) j hlt
      have ST := Lib.hid (both_step (subs.map tapesG) j (by simpa using hlt))
      have CJ := Lib.hid (HC.out (j + 1))
      have ZP : 1 ≤ z.length := by rw [hz.out]; exact HL.out j
      have ZL : z.length ≤ 3000 := by rw [hz.out]; exact HC.out j
      rw [List.getElem_map] at ST
      have hy := HT.out j hlt
      have ly : (tapesG (subs[j]'hlt)).length ≤ 3000 := by
        have h1 := CJ.out
        rw [ST.out, timesL_len, ← hz.out] at h1
        exact Nat.le_trans (Nat.le_mul_of_pos_left _ ZP) h1
      have T1 := Lib.hid (IH.out (subs[j]'hlt) _ B _ hti (Nat.le_trans HB.out BW.out.size) hy.1 hy.2.1 hy.2.2 ly)
      have TL := Lib.hid (tape_len hy.2.1 hy.2.2)
      clear hti hy
      generalize subs[j]'hlt = y at *
      generalize tapesG y = ty at *
      have tl : (timesL z ty).length ≤ 3000 := by
        have h1 := CJ.out
        rw [ST.out, ← hz.out] at h1
        exact h1
      go_wp2_with fail
      refine T1.out.mono ?_
      rintro e w2 ⟨TA, tc, rfl, to, b3⟩
      have M1 := Lib.hid (times_any z ty A2 TA c2 tc w2.heap.size w2 (ho.out.below b3).at_ to.at_ (Nat.le_refl _) (by omega) (by omega) (by omega) (fun x h => by have := hx.out x h; omega) (fun x hx => by have := TL.out x hx; omega))
      have B3 := Lib.hid b3
      have hw2 : wr.heap.size ≤ w2.heap.size := b3.size
      clear b3 to k0 k1 k2 k3 c0 c1 c2' c3
      go_wp2_with fail
      refine M1.out.mono ?_
      rintro e w3 ⟨MA, mc, rfl, mo, b4⟩
      have X7 := Lib.hid (Rng.on hb.out (Rng.on B3.out b4))
      have O7 := Lib.hid (mo.less (base' := w.heap.size + 1) (by omega))
      have E7 := Lib.hid (show timesL z ty = bothT [[]] ((subs.map tapesG).take (j + 1)) by rw [hz.out, ST.out])
      have L7 := Lib.hid (show ∀ x ∈ timesL z ty, x.length ≤ (j + 1) * 1399680 from fun x h => by have := times_mem hx.out TL.out x h; omega)
      clear b4 mo
      go_wp2_with fail
      go_roundw
      case rel => exact ⟨j + 1, MA, mc, timesL z ty, by omega, by go_num, rfl, E7.out, O7.out, L7.out, X7.out⟩
      case measure => simp [intOf]; omega
    · have EZ := Lib.hid (show z = tapesG (.node 3 a b subs) by rw [EV.out, hz.out, List.take_of_length_le (by simp; omega)])
      go_wp2_with fail
      go_ret
      exact ⟨A2, c2, (by rw [← EZ.out]; rfl), by rw [← EZ.out]; exact ho.out.less (by omega), Rng.on H0.out hb.out⟩
end
end Go.Proofs.YtffkppjmdelajaaDoor.Gens
