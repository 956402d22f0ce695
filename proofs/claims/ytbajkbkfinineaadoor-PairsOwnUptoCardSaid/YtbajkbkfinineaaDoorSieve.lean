/- slices.IndexFunc, slices.DeleteFunc of quadruples, with a function value that changes nothing. Conditions: the sizes. -/
import Derived.Test.YtbajkbkfinineaaDoorPairClos
import Derived.Lib.SliceRun
import Derived.Deep.Upon
import Derived.Deep.MidRow
namespace Go.Proofs.YtbajkbkfinineaaDoor.Pair
open Go.RowKit Ints Lists Vals
set_option linter.unusedVariables false

/-- a function value that is asked about quadruples, while block g is written -/
structure AskQ (k : Nat) (cap : Array Value) (P : Quad → Bool) (g : Nat) (zs : List Quad) (S : World → Prop) : Prop where
  ent : ∀ args w, (callFunc k args).run Tryd.prog w = .ok (.enter k args) w
  keep : ∀ W W', S W → W.grownBy W' (some g) → S W'
  call : ∀ q W, q ∈ zs → S W → Calls Tryd.prog k (#[keyV q] ++ cap) W fun e w' => e = .returned (.bool (P q)) ∧ W.grownBy w' none
/-- the quadruple t lies at ⟨g, off + t * 4⟩ -/
def At4 (g off t : Nat) (q : Quad) (w : World) : Prop := w.cell? ⟨g, off + t * 4, none⟩ = some (.int .i64 q.a) ∧ w.cell? ⟨g, off + t * 4 + 1, none⟩ = some (.int .i64 q.x) ∧ w.cell? ⟨g, off + t * 4 + 2, none⟩ = some (.int .i64 q.b) ∧ w.cell? ⟨g, off + t * 4 + 3, none⟩ = some (.int .i64 q.y)
theorem At4.kept {g off t : Nat} {q : Quad} {w w' : World} {row : Option Nat} (h : At4 g off t q w) (hg : w.grownBy w' row) (hne : some g ≠ row) : At4 g off t q w' :=
  ⟨hg.cell h.1 hne, hg.cell h.2.1 hne, hg.cell h.2.2.1 hne, hg.cell h.2.2.2 hne⟩

set_option maxHeartbeats 4000000 in
set_option maxRecDepth 100000 in
theorem index4 {k : Nat} {cap : Array Value} {P : Quad → Bool} {g : Nat} {zs : List Quad} {S : World → Prop} (A : AskQ k cap P g zs S) (off c : Nat) (hn : zs.length ≤ 4294967296) (w : World) (hS : S w) (hc : ∀ t (h : t < zs.length), At4 g off t zs[t] w) :
    Calls Tryd.prog 30 #[.slice (some ⟨g, off, none⟩) zs.length c, qfv k cap] w fun e w' => ((e = .returned (.int .i64 (-1)) ∧ ∀ t (h : t < zs.length), P zs[t] = false) ∨ ∃ (i : Nat) (h : i < zs.length), e = .returned (.int .i64 i) ∧ P zs[i] = true ∧ ∀ t (h : t < zs.length), t < i → P zs[t] = false) ∧ w.grownBy w' none := by
  have hent := A.ent
  have AK := Lib.hid A.keep
  have AC := Lib.hid A.call
  have HC := Lib.hid hc
  have HS := Lib.hid hS
  have hni : (zs.length : Int) ≤ 4294967296 := by omega
  clear A hc hS
  go_enter Tryd.func30, Tryd.ntmps30
  go_wp2_with fail
  go_loopw [8] (fun i wr => ∃ j : Nat, j ≤ zs.length ∧ i = .int .i64 j ∧ Hid (∀ t (h : t < zs.length), t < j → P zs[t] = false) ∧ Hid (w.grownBy wr none)) (fun i _ => zs.length - (intOf i).toNat)
  case atStart => exact ⟨0, Nat.zero_le _, rfl, fun t h h0 => by omega, World.grownBy.refl _ _⟩
  case round =>
    obtain ⟨j, hj, rfl, hall, hg⟩ := hrel
    by_cases hlt : j < zs.length
    · obtain ⟨c0, c1, c2, c3⟩ := (HC.out j hlt).kept hg.out (by simp)
      have C1 := Lib.hid (AC.out zs[j] wr (List.getElem_mem hlt) (AK.out _ _ HS.out (grown_some hg.out)))
      have hji : (j : Int) < zs.length := by omega
      have HA := Lib.hid (show P zs[j] = false → ∀ t (h : t < zs.length), t < j + 1 → P zs[t] = false from fun hp t h ht => by
        by_cases e : t = j
        · subst e; exact hp
        · exact hall.out t h (by omega))
      have HB := Lib.hid (show P zs[j] = true → ∃ (i : Nat) (h : i < zs.length), (Ending.returned (.int .i64 j) = .returned (.int .i64 i)) ∧ P zs[i] = true ∧ ∀ t (h : t < zs.length), t < i → P zs[t] = false from fun hp => ⟨j, hlt, rfl, hp, hall.out⟩)
      unfold keyV at C1
      clear hall
      generalize P zs[j] = v at *
      generalize zs[j].a = qa at *
      generalize zs[j].x = qx at *
      generalize zs[j].b = qb at *
      generalize zs[j].y = qy at *
      go_wp2_with fail
      refine C1.out.mono ?_
      rintro e w2 ⟨rfl, h2⟩
      have G2 := Lib.hid (hg.out.trans h2)
      clear h2 C1
      cases v with
      | false =>
        have A2 := Lib.hid (HA.out rfl)
        clear HA HB
        go_wp2_with fail
        go_roundw
        case rel => exact ⟨j + 1, hlt, by go_num, A2.out, G2.out⟩
        case measure => simp [intOf]; omega
      | true =>
        have A2 := Lib.hid (HB.out rfl)
        clear HA HB
        go_wp2_with fail
        go_ret
        exact ⟨.inr A2.out, G2.out⟩
    · have A2 := Lib.hid (fun t (h : t < zs.length) => hall.out t h (by omega))
      clear hall
      go_wp2_with fail
      go_ret
      exact ⟨.inl ⟨rfl, A2.out⟩, hg.out⟩

/-! the sieve -/
def fourL (q : Quad) : List Value := [.int .i64 q.a, .int .i64 q.x, .int .i64 q.b, .int .i64 q.y]
structure Sieve (g off : Nat) (z out : List Quad) (j : Nat) (w0 w : World) : Prop where
  done : ∀ t (h : t < out.length), At4 g off t out[t] w
  rest : ∀ t (h : t < z.length), j ≤ t → At4 g off t z[t] w
  all : ∀ o, o < z.length * 4 → (w.cell? ⟨g, off + o, none⟩).isSome = true
  free : ∀ o, w.frozen? ⟨g, o, none⟩ = false
  grown : w0.grownBy w (some g)
theorem frozen_kept {w w' : World} {row : Option Nat} (hg : w.grownBy w' row) (a : Addr) (hlt : a.block < w.heap.size) (hne : some a.block ≠ row) : w'.frozen? a = w.frozen? a := by
  unfold World.frozen?
  rw [hg.block _ hlt hne]
theorem cell_kept {w w' : World} {row : Option Nat} (hg : w.grownBy w' row) (a : Addr) (hlt : a.block < w.heap.size) (hne : some a.block ≠ row) : w'.cell? a = w.cell? a := by
  unfold World.cell?
  rw [hg.block _ hlt hne]
theorem Sieve.kept {g off : Nat} {z out : List Quad} {j : Nat} {w0 w w' : World} (h : Sieve g off z out j w0 w) (hlt : g < w.heap.size) (hg : w.grownBy w' none) : Sieve g off z out j w0 w' :=
  ⟨fun t ht => (h.done t ht).kept hg (by simp), fun t ht hj => (h.rest t ht hj).kept hg (by simp), fun o ho => by rw [cell_kept hg ⟨g, off + o, none⟩ hlt (by simp)]; exact h.all o ho, fun o => by rw [frozen_kept hg ⟨g, o, none⟩ hlt (by simp)]; exact h.free o, h.grown.trans (grown_some hg)⟩
theorem Sieve.skip {g off : Nat} {z out : List Quad} {j : Nat} {w0 w : World} (h : Sieve g off z out j w0 w) : Sieve g off z out (j + 1) w0 w := ⟨h.done, fun t ht hj => h.rest t ht (by omega), h.all, h.free, h.grown⟩
theorem setCells_grown (w : World) (g o : Nat) (vs : List Value) : w.grownBy (w.setCells g o vs) (some g) := by
  have := World.keptBut_setCells g (may := fun _ => True) vs o w (fun _ _ => trivial)
  refine ⟨World.os_setCells w g o vs, ?_, World.output_setCells w g o vs, ?_, fun b hb hx => World.heap_setCells_other w g o vs hb (fun e => hx (by rw [e]))⟩
  · induction vs generalizing o w with
    | nil => rfl
    | cons v r ih => exact (ih (w := w.setCell ⟨g, o, none⟩ v) (o := o + 1) (World.keptBut_setCells g (may := fun _ => True) r _ _ (fun _ _ => trivial))).trans rfl
  · induction vs generalizing o w with
    | nil => exact Nat.le_refl _
    | cons v r ih => exact Nat.le_trans (show w.heap.size ≤ (w.setCell ⟨g, o, none⟩ v).heap.size by simp [World.setCell]) (ih (w := w.setCell ⟨g, o, none⟩ v) (o := o + 1) (World.keptBut_setCells g (may := fun _ => True) r _ _ (fun _ _ => trivial)))
theorem Sieve.put {g off : Nat} {z out : List Quad} {j : Nat} {w0 w : World} (h : Sieve g off z out j w0 w) (hi : out.length < j + 1) (hj : j < z.length) : Sieve g off z (out ++ [z[j]]) (j + 1) w0 (w.setCells g (off + out.length * 4) (fourL z[j])) := by
  have hout : ∀ o, (o < off + out.length * 4 ∨ off + out.length * 4 + 4 ≤ o) → (w.setCells g (off + out.length * 4) (fourL z[j])).cell? ⟨g, o, none⟩ = w.cell? ⟨g, o, none⟩ := fun o ho =>
    World.cell?_setCells_out g (fourL z[j]) _ w ⟨g, o, none⟩ (fun _ _ => ho)
  have hin : ∀ q (hq : q < 4), (w.setCells g (off + out.length * 4) (fourL z[j])).cell? ⟨g, off + out.length * 4 + q, none⟩ = some ((fourL z[j])[q]'hq) := fun q hq =>
    World.cell?_setCells_in g (fourL z[j]) _ w (fun m hm => by rw [Nat.add_assoc]; exact h.all _ (by have : m < 4 := hm; omega)) q hq
  refine ⟨fun t ht => ?_, fun t ht hjt => ?_, fun o ho => ?_, fun o => ?_, h.grown.trans (setCells_grown _ _ _ _)⟩
  · rw [List.length_append, List.length_singleton] at ht
    by_cases e : t = out.length
    · subst e
      rw [show (out ++ [z[j]])[out.length]'(by simp) = z[j] by simp]
      exact ⟨hin 0 (by omega), hin 1 (by omega), hin 2 (by omega), hin 3 (by omega)⟩
    · have ht2 : t < out.length := by omega
      rw [List.getElem_append_left ht2]
      obtain ⟨d0, d1, d2, d3⟩ := h.done t ht2
      exact ⟨(hout _ (.inl (by omega))).trans d0, (hout _ (.inl (by omega))).trans d1, (hout _ (.inl (by omega))).trans d2, (hout _ (.inl (by omega))).trans d3⟩
  · obtain ⟨d0, d1, d2, d3⟩ := h.rest t ht (by omega)
    exact ⟨(hout _ (.inr (by omega))).trans d0, (hout _ (.inr (by omega))).trans d1, (hout _ (.inr (by omega))).trans d2, (hout _ (.inr (by omega))).trans d3⟩
  · exact World.isSome_setCells g _ _ w _ (h.all o ho)
  · rw [World.frozen?_setCells]; exact h.free o
def zeros4 (n : Nat) : List Value := (Builtin.zeroCells (Value.agg #[.int .i64 0, .int .i64 0, .int .i64 0, .int .i64 0]).cells n).toList
theorem zeros4_len (n : Nat) : (zeros4 n).length = n * 4 := by unfold zeros4 Builtin.zeroCells; simp [Value.cells]
theorem zeros4_mem {n : Nat} {v : Value} (h : v ∈ zeros4 n) : v.oneCell' = true := by
  unfold zeros4 Builtin.zeroCells at h
  simp only [Array.toList_map, List.mem_map, Array.mem_toList_iff, Array.mem_range] at h
  obtain ⟨i, hi, rfl⟩ := h
  have : i % 4 = 0 ∨ i % 4 = 1 ∨ i % 4 = 2 ∨ i % 4 = 3 := by omega
  simp only [Value.cells]
  rcases this with h | h | h | h <;> (simp [h]; rfl)
theorem zero_four (w : World) : (zeroValue 46).run Tryd.prog w = .ok (.agg #[.int .i64 0, .int .i64 0, .int .i64 0, .int .i64 0]) w := by kernel_rfl
theorem clear4 (w : World) (ty : TypeId) (b o n c : Nat) (hn : 0 < n) (hc : ∀ j, j < n * 4 → (w.cell? ⟨b, o + j, none⟩).isSome = true) (hf : ∀ j, w.frozen? ⟨b, j, none⟩ = false) :
    (Builtin.clear_ #[31] ty #[.slice (some ⟨b, o, none⟩) n c]).run Tryd.prog w = .ok (.tuple #[]) (w.setCells b o (zeros4 n)) := by
  have hst := run_storeCells_cells (P := Tryd.prog) b o (zeros4 n) 0 w (by rw [zeros4_len]; simpa using hc) (by intro j _; exact hf _) (fun v hv => zeros4_mem hv)
  simp only [Nat.add_zero] at hst
  obtain ⟨m, rfl⟩ : ∃ m, n = m + 1 := ⟨n - 1, by omega⟩
  unfold zeros4 at hst ⊢
  simp [Builtin.clear_, run_underlying Tryd.underlying31, hst]
theorem sift_start (zs : List Quad) (P : Quad → Bool) (i : Nat) (h : i < zs.length) (hp : P zs[i] = true) (hall : ∀ t (h : t < zs.length), t < i → P zs[t] = false) : (zs.take (i + 1)).filter (fun q => !P q) = zs.take i := by
  rw [List.take_succ_eq_append_getElem h, List.filter_append, List.filter_cons, hp]
  simp only [Bool.not_true, Bool.false_eq_true, if_false, List.filter_nil, List.append_nil]
  rw [List.filter_eq_self]
  intro q hq
  obtain ⟨t, ht, rfl⟩ := List.mem_iff_getElem.1 hq
  rw [List.length_take] at ht
  rw [List.getElem_take, hall t (by omega) (by omega)]
  rfl
theorem sift_step (zs : List Quad) (P : Quad → Bool) (j : Nat) (h : j < zs.length) : (zs.take (j + 1)).filter (fun q => !P q) = (zs.take j).filter (fun q => !P q) ++ (if P zs[j] = true then [] else [zs[j]]) := by
  rw [List.take_succ_eq_append_getElem h, List.filter_append, List.filter_cons]
  cases P zs[j] <;> simp
theorem sift_all (zs : List Quad) (P : Quad → Bool) (hall : ∀ t (h : t < zs.length), P zs[t] = false) : zs.filter (fun q => !P q) = zs := by
  rw [List.filter_eq_self]
  intro q hq
  obtain ⟨t, ht, rfl⟩ := List.mem_iff_getElem.1 hq
  rw [hall t ht]
  rfl

set_option maxHeartbeats 8000000 in
set_option maxRecDepth 100000 in
theorem delete4 {k : Nat} {cap : Array Value} {P : Quad → Bool} {g : Nat} {zs : List Quad} {S : World → Prop} (A : AskQ k cap P g zs S) (off c : Nat) (hn : zs.length ≤ 4294967296) (hcap : zs.length ≤ c) (w : World) (hS : S w) (hg : g < w.heap.size) (hc : ∀ t (h : t < zs.length), At4 g off t zs[t] w) (hall : ∀ o, o < zs.length * 4 → (w.cell? ⟨g, off + o, none⟩).isSome = true) (hfree : ∀ o, w.frozen? ⟨g, o, none⟩ = false) :
    Calls Tryd.prog 23 #[.slice (some ⟨g, off, none⟩) zs.length c, qfv k cap] w fun e w' => ∃ out : List Quad, Hid (out = zs.filter fun q => !P q) ∧ e = .returned (.slice (some ⟨g, off, none⟩) out.length c) ∧ (∀ t (h : t < out.length), At4 g off t out[t] w') ∧ w.grownBy w' (some g) := by
  have hent := A.ent
  have AK := Lib.hid A.keep
  have AC := Lib.hid A.call
  have IX := Lib.hid (index4 A off c hn w hS hc)
  have HC := Lib.hid (And.intro hc (And.intro hall hfree))
  have HS := Lib.hid hS
  have hni : (zs.length : Int) ≤ 4294967296 := by omega
  have HN := Lib.hid (And.intro hcap hn)
  clear A hc hS hall hfree
  go_enter Tryd.func23, Tryd.ntmps23
  go_wp2_with fail
  refine IX.out.mono ?_
  rintro e w1 ⟨hr, hg1⟩
  have G1 := Lib.hid hg1
  clear hg1 IX
  rcases hr with ⟨rfl, hnone⟩ | ⟨i, hi, rfl, hp, hbefore⟩
  · have NO := Lib.hid hnone
    clear hnone
    go_wp2_with fail
    go_ret
    exact ⟨zs, Lib.hid (sift_all zs P NO.out).symm, rfl, fun t h => (HC.out.1 t h).kept G1.out (by simp), grown_some G1.out⟩
  · have i1 : ((i : Int) == -1) = false := by rw [beq_eq_false_iff_ne]; omega
    have S1 := Lib.hid (show Sieve g off zs (zs.take i) (i + 1) w w1 from
      (show Sieve g off zs (zs.take i) (i + 1) w w from ⟨fun t ht => by rw [List.length_take] at ht; rw [List.getElem_take]; exact HC.out.1 t (by omega), fun t ht _ => HC.out.1 t ht, HC.out.2.1, HC.out.2.2, World.grownBy.refl _ _⟩).kept hg G1.out)
    have L1 := Lib.hid (show (zs.take i).length = i by rw [List.length_take]; omega)
    have F1 := Lib.hid (sift_start zs P i hi hp hbefore)
    have hii : (i : Int) < zs.length := by omega
    clear hp hbefore
    go_wp2_with fail
    go_loopw [5, 6] (fun iv jv wr => ∃ (j : Nat) (out : List Quad), j ≤ zs.length ∧ jv = .int .i64 j ∧ iv = .int .i64 out.length ∧ Hid (out.length < j) ∧ Hid (out = (zs.take j).filter fun q => !P q) ∧ Hid (Sieve g off zs out j w wr)) (fun _ jv _ => zs.length - (intOf jv).toNat)
    case atStart => exact ⟨i + 1, zs.take i, hi, by simp, by rw [L1.out], Lib.hid (by rw [L1.out]; omega), Lib.hid F1.out.symm, S1.out⟩
    case round =>
      clear L1 F1 S1
      obtain ⟨j, out, hj, rfl, rfl, hlt, ho, hs⟩ := hrel
      have ol : (out.length : Int) < j := by have := hlt.out; omega
      by_cases hjl : j < zs.length
      · obtain ⟨c0, c1, c2, c3⟩ := hs.out.rest j hjl (Nat.le_refl _)
        have hji : (j : Int) < zs.length := by omega
        have BN := Lib.hid (show wr.grownBy (keyW wr zs[j]) none from keyW_grown _ _)
        have GL := Lib.hid (show g < wr.heap.size from Nat.lt_of_lt_of_le hg hs.out.grown.size)
        have C1 := Lib.hid (AC.out zs[j] (keyW wr zs[j]) (List.getElem_mem hjl) (AK.out _ _ HS.out (hs.out.grown.trans (grown_some BN.out))))
        have FS := Lib.hid (sift_step zs P j hjl)
        have SP := Lib.hid (fun (W : World) (hh : Sieve g off zs out j w W) => hh.put (by have := hlt.out; omega) hjl)
        have SK := Lib.hid (fun (W : World) (hh : Sieve g off zs out j w W) => hh.skip)
        have SA := Lib.hid (fun (W : World) (hgr : (keyW wr zs[j]).grownBy W none) => show Sieve g off zs out j w W from hs.out.kept GL.out (BN.out.trans hgr))
        have NB := Lib.hid (fun (W : World) (hgr : (keyW wr zs[j]).grownBy W none) => show At4 wr.heap.size 0 0 zs[j] W from (show At4 wr.heap.size 0 0 zs[j] (keyW wr zs[j]) from ⟨four_new wr zs[j] 0 (by omega), four_new wr zs[j] 1 (by omega), four_new wr zs[j] 2 (by omega), four_new wr zs[j] 3 (by omega)⟩).kept hgr (by simp))
        unfold keyV at C1
        unfold At4 at NB
        unfold fourL at SP
        generalize hv : P zs[j] = v at *
        clear hv
        generalize hq : zs[j] = qq at *
        clear hq
        obtain ⟨qa, qx, qb, qy⟩ := qq
        simp only at c0 c1 c2 c3
        go_wp2_with fail
        refine C1.out.mono ?_
        rintro e w2 ⟨rfl, h2⟩
        have S2 := Lib.hid (SA.out w2 h2)
        obtain ⟨d0, d1, d2, d3⟩ := NB.out w2 h2
        simp only [Nat.zero_mul, Nat.add_zero, Nat.zero_add] at d0 d1 d2 d3
        clear h2 C1 SA NB c0 c1 c2 c3 BN
        cases v with
        | true =>
          rw [if_pos rfl, List.append_nil] at FS
          have S3 := Lib.hid (SK.out w2 S2.out)
          have O3 := Lib.hid (show out = (zs.take (j + 1)).filter fun q => !P q by rw [FS.out]; exact ho.out)
          clear SP SK FS
          go_wp2_with fail
          go_roundw
          case rel => exact ⟨j + 1, out, by omega, by go_num, rfl, Lib.hid (by have := hlt.out; omega), O3.out, S3.out⟩
          case measure => simp [intOf]; omega
        | false =>
          rw [if_neg (by decide)] at FS
          have S3 := Lib.hid (SP.out w2 S2.out)
          have O3 := Lib.hid (show out ++ [⟨qa, qx, qb, qy⟩] = (zs.take (j + 1)).filter fun q => !P q by rw [FS.out, ho.out])
          obtain ⟨u0, hu0⟩ := Option.isSome_iff_exists.1 (S2.out.all (out.length * 4) (by omega))
          obtain ⟨u1, hu1⟩ := Option.isSome_iff_exists.1 (S2.out.all (out.length * 4 + 1) (by omega))
          obtain ⟨u2, hu2⟩ := Option.isSome_iff_exists.1 (S2.out.all (out.length * 4 + 2) (by omega))
          obtain ⟨u3, hu3⟩ := Option.isSome_iff_exists.1 (S2.out.all (out.length * 4 + 3) (by omega))
          have fr := S2.out.free
          rw [← Nat.add_assoc] at hu1 hu2 hu3
          clear SP SK FS
          have olz : (out.length : Int) < zs.length := by omega
          go_wp2_with fail
          go_roundw
          case rel => exact ⟨j + 1, _, by omega, by go_num, by simp, Lib.hid (by have := hlt.out; simp; omega), O3.out, S3.out⟩
          case measure => simp [intOf]; omega
      · obtain rfl : j = zs.length := by omega
        have olz : out.length < zs.length := hlt.out
        have ocl : out.length < c := by have := HN.out.1; omega
        have hcl := fun ty => clear4 wr ty g (off + out.length * 4) (zs.length - out.length) (c - out.length) (by omega) (fun m hm => by rw [Nat.add_assoc]; exact hs.out.all _ (by omega)) hs.out.free
        have GE := Lib.hid (hs.out.grown.trans (setCells_grown wr g (off + out.length * 4) (zeros4 (zs.length - out.length))))
        have DE := Lib.hid (show ∀ t (h : t < out.length), At4 g off t out[t] (wr.setCells g (off + out.length * 4) (zeros4 (zs.length - out.length))) from fun t ht => by
          obtain ⟨d0, d1, d2, d3⟩ := hs.out.done t ht
          have hout : ∀ o, o < off + out.length * 4 → (wr.setCells g (off + out.length * 4) (zeros4 (zs.length - out.length))).cell? ⟨g, o, none⟩ = wr.cell? ⟨g, o, none⟩ := fun o ho => World.cell?_setCells_out g _ _ wr ⟨g, o, none⟩ (fun _ _ => .inl ho)
          exact ⟨(hout _ (by omega)).trans d0, (hout _ (by omega)).trans d1, (hout _ (by omega)).trans d2, (hout _ (by omega)).trans d3⟩)
        have OE := Lib.hid (show out = zs.filter fun q => !P q by rw [ho.out, List.take_length])
        generalize wr.setCells g (off + out.length * 4) (zeros4 (zs.length - out.length)) = w5 at *
        clear hs ho hlt
        go_wp2_with fail
        go_ret
        exact ⟨out, OE.out, rfl, DE.out, GE.out⟩
end Go.Proofs.YtbajkbkfinineaaDoor.Pair
