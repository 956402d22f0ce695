/- Lists of generators in memory; the program's count and countOfAll. Conditions: the sizes. -/
import Derived.Test.YtboecgbgcbkcjaaGCount
import Derived.Test.YtboecgbgcbkcjaaEnumG
import Derived.Test.YtboecgbgcbkcjaaGrowS
import Derived.Test.YtboecgbgcbkcjaaSrcL
namespace Go.Proofs.Ytboecgbgcbkcjaa.Gens
open Go.RowKit Lists Ints Vals
set_option linter.unusedVariables false

/-- in blocks below B: generators, side by side -/
def GsAt (w : World) (B n : Nat) (A : Option Addr) (l : List Gn) : Prop :=
  0 < l.length → ∃ b off, A = some ⟨b, off, none⟩ ∧ GBel B b ∧ ∀ j (h : j < l.length), ∃ x0 x1 x2 x3, w.cell? ⟨b, off + j * 4, none⟩ = some x0 ∧ w.cell? ⟨b, off + j * 4 + 1, none⟩ = some x1 ∧ w.cell? ⟨b, off + j * 4 + 2, none⟩ = some x2 ∧ w.cell? ⟨b, off + j * 4 + 3, none⟩ = some x3 ∧ GAt w (GBel B) n (.agg #[x0, x1, x2, x3]) (l[j]'h)
theorem GsAt.nil {w : World} {B n : Nat} {A : Option Addr} : GsAt w B n A [] := fun h => by simp at h
theorem GsAt.below {w w' : World} {B n : Nat} {A : Option Addr} {l : List Gn} (h : GsAt w B n A l) (hb : Below B w w') : GsAt w' B n A l := fun hp => by
  obtain ⟨b, off, e, hB, hc⟩ := h hp
  refine ⟨b, off, e, hB, fun j hj => ?_⟩
  obtain ⟨x0, x1, x2, x3, c0, c1, c2, c3, ht⟩ := hc j hj
  exact ⟨x0, x1, x2, x3, (hb.cell (p := ⟨b, _, none⟩) hB).trans c0, (hb.cell (p := ⟨b, _, none⟩) hB).trans c1, (hb.cell (p := ⟨b, _, none⟩) hB).trans c2, (hb.cell (p := ⟨b, _, none⟩) hB).trans c3, ht.below hb⟩
theorem GsAt.more {w : World} {B B' n : Nat} {A : Option Addr} {l : List Gn} (h : GsAt w B n A l) (hB : B ≤ B') : GsAt w B' n A l := fun hp => by
  obtain ⟨b, off, e, hb, hc⟩ := h hp
  refine ⟨b, off, e, Nat.lt_of_lt_of_le hb hB, fun j hj => ?_⟩
  obtain ⟨x0, x1, x2, x3, c0, c1, c2, c3, ht⟩ := hc j hj
  exact ⟨x0, x1, x2, x3, c0, c1, c2, c3, ht.more hB⟩
theorem GsAt.later {w w' : World} {n : Nat} {A : Option Addr} {l : List Gn} (h : GsAt w w.heap.size n A l) (hb : Below w.heap.size w w') : GsAt w' w'.heap.size n A l := (h.below hb).more hb.size
theorem GsAt.drop {w : World} {B n b off : Nat} {l : List Gn} (h : GsAt w B n (some ⟨b, off, none⟩) l) (k : Nat) : GsAt w B n (some ⟨b, off + k * 4, none⟩) (l.drop k) := fun hp => by
  have hk : k < l.length := by simp at hp; omega
  obtain ⟨b', off', e, hB, hc⟩ := h (by omega)
  obtain ⟨rfl, rfl⟩ : b = b' ∧ off = off' := by simpa using e
  refine ⟨b, off + k * 4, rfl, hB, fun j hj => ?_⟩
  have hj' : k + j < l.length := by simp at hj; omega
  obtain ⟨x0, x1, x2, x3, c0, c1, c2, c3, ht⟩ := hc (k + j) hj'
  have e : off + (k + j) * 4 = off + k * 4 + j * 4 := by omega
  rw [e] at c0 c1 c2 c3
  exact ⟨x0, x1, x2, x3, c0, c1, c2, c3, by simpa using ht⟩
theorem GsAt.take {w : World} {B n : Nat} {A : Option Addr} {l : List Gn} (h : GsAt w B n A l) (k : Nat) : GsAt w B n A (l.take k) := fun hp => by
  obtain ⟨b, off, e, hB, hc⟩ := h (by simp at hp; omega)
  refine ⟨b, off, e, hB, fun j hj => ?_⟩
  obtain ⟨x0, x1, x2, x3, c0, c1, c2, c3, ht⟩ := hc j (by simp at hj; omega)
  exact ⟨x0, x1, x2, x3, c0, c1, c2, c3, by simpa using ht⟩

/-! small and right -/
mutual
theorem large_lower : ∀ (g : Gn) (d : Nat), (largeG g (d + 1)).2 = false → (largeG g d).2 = false
  | .node k a b subs, d, h => by
    simp only [largeG] at h ⊢
    split at h
    · cases h
    · rename_i h6
      rw [if_neg (by omega)]
      exact larges_lower subs (d + 1) 1 h
theorem larges_lower : ∀ (l : List Gn) (d n : Nat), (largeGs l (d + 1) n).2 = false → (largeGs l d n).2 = false
  | [], d, n, h => by simpa [largeGs] using h
  | g :: r, d, n, h => by
    simp only [largeGs] at h ⊢
    split at h
    · cases h
    · rename_i hc
      have h1 : (largeG g (d + 1)).2 = false := by
        cases hb : (largeG g (d + 1)).2 with
        | false => rfl
        | true => exact absurd (.inl hb) hc
      have h2 := large_lower g d h1
      have e1 := large_size g (d + 1) h1
      have e2 := large_size g d h2
      rw [← e1] at h hc
      rw [← e2, h2]
      rw [if_neg (by simp; have := fun hx => hc (.inr hx); omega)]
      exact larges_lower r d _ h
end
def Fine (g : Gn) : Prop := Right g ∧ (largeG g 0).2 = false
theorem fine_of {g : Gn} (h : genV g = 0) : Fine g := gen_right h
theorem Fine.gen {g : Gn} (h : Fine g) : genV g = 0 := by unfold genV; rw [if_neg (by rw [h.2]; decide)]; exact h.1
theorem Fine.subs {g : Gn} (h : Fine g) : ∀ x ∈ g.subs, Fine x := fun x hx => by
  refine ⟨h.1.subs x hx, large_lower x 0 ?_⟩
  have h2 := h.2
  cases g with | node k a b s =>
  obtain ⟨d, _, hd⟩ := large_sub (d := 6) h2 (by omega)
  exact hd x hx
theorem Fine.size {g : Gn} (h : Fine g) : g.size ≤ 30 := small_size h.2

/-! how many, together -/
def cn (l : List Gn) : Nat := (allE (l.map enG)).cnt
theorem cn_nil : cn [] = 1 := rfl
theorem cn_cons (g : Gn) (r : List Gn) : cn (g :: r) = (enG g).cnt * cn r := rfl
theorem cn_app : ∀ (l m : List Gn), cn (l ++ m) = cn l * cn m
  | [], m => by rw [cn_nil, Nat.one_mul]; rfl
  | g :: r, m => by rw [List.cons_append, cn_cons, cn_cons, cn_app r m, Nat.mul_assoc]
theorem cn_pos {l : List Gn} (h : ∀ x ∈ l, Fine x) : 1 ≤ cn l := (good_list l (fun x hx => (h x hx).1) (fun x hx => good_gen x (h x hx).1)).pos
theorem en_pos {g : Gn} (h : Fine g) : 1 ≤ (enG g).cnt := (good_gen g h.1).pos
theorem cn_step (l : List Gn) (k : Nat) (h : k < l.length) : cn (l.take (k + 1)) = cn (l.take k) * (enG (l[k]'h)).cnt := by
  rw [List.take_succ_eq_append_getElem h, cn_app, cn_cons, cn_nil, Nat.mul_one]
theorem cn_split (l : List Gn) (k : Nat) : cn l = cn (l.take k) * cn (l.drop k) := by rw [← cn_app, List.take_append_drop]
theorem cn_drop (l : List Gn) (k : Nat) (h : k < l.length) : cn (l.drop k) = (enG (l[k]'h)).cnt * cn (l.drop (k + 1)) := by
  rw [List.drop_eq_getElem_cons h, cn_cons]
theorem cn_le {l : List Gn} (h : ∀ x ∈ l, Fine x) (k : Nat) : cn (l.take k) ≤ cn l ∧ cn (l.drop k) ≤ cn l := by
  have h1 : 1 ≤ cn (l.take k) := cn_pos fun x hx => h x (List.mem_of_mem_take hx)
  have h2 : 1 ≤ cn (l.drop k) := cn_pos fun x hx => h x (List.mem_of_mem_drop hx)
  rw [cn_split l k]
  constructor
  · exact Nat.le_mul_of_pos_right _ h2
  · exact Nat.le_mul_of_pos_left _ h1
theorem cn_mem {l : List Gn} (h : ∀ x ∈ l, Fine x) (k : Nat) (hk : k < l.length) : (enG (l[k]'hk)).cnt ≤ cn l := by
  have h1 := (cn_le h k).2
  have h2 : 1 ≤ cn (l.drop (k + 1)) := cn_pos fun x hx => h x (List.mem_of_mem_drop hx)
  rw [cn_drop l k hk] at h1
  exact Nat.le_trans (Nat.le_mul_of_pos_right _ h2) h1

set_option maxHeartbeats 1000000 in
set_option maxRecDepth 100000 in
/-- the number of a part -/
theorem rcount {n : Nat} {t : Gn} {v : Value} {B : Nat} (w : World) (h : GAt w (GBel B) n v t) (hB : B ≤ w.heap.size) (hf : Fine t) (hc : (enG t).cnt ≤ 1048576) :
    Calls Try.prog 33 #[v] w fun e w' => e = .returned (.int .i64 ((enG t).cnt : Nat)) ∧ Below w.heap.size w w' := by
  obtain ⟨m, A, c, e, hw, rfl, _⟩ := h.open_
  have b1 := bel1 w (gc t A c)
  have h1 := h.below (b1.mono hB)
  have z1 : (w.alloc (gc t A c)).heap.size = w.heap.size + 1 := by simp
  have C := gcount (w.alloc (gc t A c)) h1 (by omega) (by have := hf.size; omega)
  have e1 : countG t = (enG t).cnt := by rw [count_cap t hf.1]; omega
  rw [show countN t = (enG t).cnt by unfold countN; rw [if_pos hf.gen, e1, if_neg (by omega)], show countE t = 0 by unfold countE; rw [if_pos hf.gen, e1, if_neg (by omega)], errOf_ok] at C
  have C := Lib.hid C
  have B1 := Lib.hid b1
  clear h hB hf hc e hw b1 h1 z1 e1
  generalize (enG t).cnt = q at *
  go_enter Try.func33, Try.ntmps33
  go_wp2_with fail
  refine C.out.mono ?_
  rintro e w2 ⟨rfl, hb2⟩
  have B2 := Lib.hid (below_trans B1.out hb2)
  clear hb2
  go_wp2_with fail
  go_ret
  exact ⟨rfl, B2.out⟩

set_option maxHeartbeats 2000000 in
set_option maxRecDepth 100000 in
/-- the number of parts, together -/
theorem rcount_all {n : Nat} {l : List Gn} {A : Option Addr} {c B : Nat} (w : World) (h : GsAt w B n A l) (hB : B ≤ w.heap.size) (hl : l.length ≤ 4294967296) (hf : ∀ x ∈ l, Fine x) (hc : cn l ≤ 1048576) :
    Calls Try.prog 25 #[.slice A l.length c] w fun e w' => e = .returned (.int .i64 (cn l : Nat)) ∧ Below w.heap.size w w' := by
  have HIT := Lib.hid h
  have HB := Lib.hid hB
  have HF := Lib.hid hf
  have HC := Lib.hid hc
  clear h hB hf hc
  go_enter Try.func25, Try.ntmps25
  go_wp2_with fail
  go_loopw [3, 8] (fun x i wr => ∃ (k o : Nat), k ≤ l.length ∧ i = .int .i64 k ∧ x = .int .i64 o ∧ Hid (o = cn (l.take k)) ∧ Hid (Below w.heap.size w wr)) (fun _ i _ => l.length - (intOf i).toNat)
  case atStart => exact ⟨0, 1, Nat.zero_le _, rfl, rfl, (rfl : 1 = cn []), Below.refl _ _⟩
  case round =>
    obtain ⟨k, o, hk, rfl, rfl, HO, HWW⟩ := hrel
    by_cases hlt : k < l.length
    · obtain ⟨ib, off, D, d, rfl, c0, c1, c2, c3, hti⟩ := sub_as HIT.out (HWW.out.mono HB.out) k hlt
      have hfi : Fine (l[k]'hlt) := HF.out _ (List.getElem_mem hlt)
      have ba := bel1 wr (gc (l[k]'hlt) D d)
      have bsz : B ≤ wr.heap.size := Nat.le_trans HB.out HWW.out.size
      have hci := cn_mem HF.out k hlt
      have C1 := rcount (wr.alloc (gc (l[k]'hlt) D d)) (hti.below (ba.mono bsz)) (by simp; omega) hfi (by have := HC.out; omega)
      have hst := cn_step l k hlt
      have hle := (cn_le HF.out (k + 1)).1
      rw [← HO.out] at hst
      rw [hst] at hle
      have hm : o * (enG (l[k]'hlt)).cnt ≤ 1048576 := by have := HC.out; omega
      have hm1 : o ≤ 1048576 := Nat.le_trans (Nat.le_mul_of_pos_right _ (en_pos hfi)) hm
      have hm2 : (enG (l[k]'hlt)).cnt ≤ 1048576 := by have := HC.out; omega
      have hm3 : (o : Int) * ((enG (l[k]'hlt)).cnt : Nat) = ((o * (enG (l[k]'hlt)).cnt : Nat) : Int) := (Int.natCast_mul _ _).symm
      have ST := Lib.hid hst
      have BA := Lib.hid (HWW.out.trans (ba.mono HWW.out.size))
      clear hti hfi ba bsz hci hst hle HO
      generalize (enG (l[k]'hlt)).cnt = q at *
      have M3 := Lib.hid hm3
      have hm4 : (0 : Int) ≤ (o : Int) * (q : Int) := by rw [hm3]; omega
      have hm5 : (o : Int) * (q : Int) ≤ 1048576 := by rw [hm3]; omega
      have HC1 := Lib.hid C1
      clear C1 hm3
      generalize l[k]'hlt = y at HC1 c0 c1 c2 c3 BA
      go_wp2_with fail
      refine HC1.out.mono ?_
      rintro e w2 ⟨rfl, hb2⟩
      have B2 := Lib.hid (BA.out.trans (hb2.mono BA.out.size))
      clear hb2
      go_wp2_with fail
      go_roundw
      case rel => exact ⟨k + 1, o * q, hlt, by go_num, by rw [M3.out], ST.out.symm, B2.out⟩
      case measure => simp [intOf]; omega
    · have hr := Lib.hid (show o = cn l by rw [HO.out, List.take_of_length_le (by omega)])
      go_wp2_with fail
      go_ret
      exact ⟨ret_int (by rw [hr.out]), HWW.out⟩
end Go.Proofs.Ytboecgbgcbkcjaa.Gens
