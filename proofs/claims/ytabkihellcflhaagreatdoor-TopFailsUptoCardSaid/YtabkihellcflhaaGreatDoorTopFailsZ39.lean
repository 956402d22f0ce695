/- TopFails, part 39 of the proof: The program's Each (package rose). Conditions: the sizes. -/
import Derived.Test.YtabkihellcflhaaGreatDoorTopFailsZ38
import Derived.Test.YtabkihellcflhaaGreatDoorTopFailsZ31
/- The program's Each (package rose). Conditions: the sizes. -/
namespace Go.Proofs.YtabkihellcflhaaGreatDoor.Gens
open Go.RowKit Lists Ints Vals
set_option linter.unusedVariables false

/-- what Each tells -/
def EachPost (t : Gn) (l : List Int) (stop : List Int → Bool) (I : (Nat → Prop) → List (List Int) → World → Prop) (X : Nat → Prop) (w : World) (e : Ending) (w' : World) : Prop :=
  ∃ X', e = .returned (errOf (roseE t l)) ∧ I X' (seenL stop (roseV t l)) w' ∧ Mv X w w' X'
/-- the state between two tries: i of those at the place j have been tried -/
def EvSt (t : Gn) (l : List Int) (stop : List Int → Bool) (I : (Nat → Prop) → List (List Int) → World → Prop) (X : Nat → Prop) (w0 : World) (j i : Nat) (w : World) : Prop :=
  ∃ X', I X' (partL t l j i) w ∧ Mv X w0 w X' ∧ ∀ a ∈ partL t l j i, stop a = false
/-- one has stopped it -/
def EvFin (t : Gn) (l : List Int) (stop : List Int → Bool) (I : (Nat → Prop) → List (List Int) → World → Prop) (X : Nat → Prop) (w0 : World) (w : World) : Prop :=
  ∃ X', I X' (seenL stop (roseL t l)) w ∧ Mv X w0 w X'
theorem part_len {t : Gn} {l : List Int} {j i : Nat} : (partL t l j i).length ≤ 4 * j + 4 := by
  have h1 := lessTo_len t l j
  have h2 : ∀ z : List (List Int), (z.flatMap (keptL t l)).length ≤ z.length := by
    intro z
    induction z with
    | nil => simp
    | cons a z ih =>
      rw [List.flatMap_cons, List.length_append, List.length_cons]
      have := kept_len t l a
      omega
  have h3 := h2 ((triesL l j).take i)
  have h4 : ((triesL l j).take i).length ≤ 4 := by rw [List.length_take]; have := tries_four l j; omega
  rw [partL, List.length_append]
  omega
theorem any_none {stop : List Int → Bool} {z y : List (List Int)} (hz : ∀ a ∈ z, stop a = false) (hy : y.any stop = false) : ∀ a ∈ z ++ y, stop a = false := fun a ha => by
  rcases List.mem_append.1 ha with h | h
  · exact hz a h
  · have := List.any_eq_false.1 hy a h
    simpa using this
set_option maxRecDepth 100000 in
/-- ContainsFunc's question, at the place j -/
theorem asked_ends {t : Gn} {GA : Option Addr} {gcap n p : Nat} {L : Option Addr} {l : List Int} {lc k : Nat} {cap : Array Value} {stop : List Int → Bool} {I : (Nat → Prop) → List (List Int) → World → Prop} (S : SeeB k cap t l stop I) {X : Nat → Prop} {B : Nat} (w0 : World)
    (h : EcB p t GA gcap L l.length lc k cap w0) (hB : B ≤ w0.heap.size) (hX : ∀ b, X b → B ≤ b ∧ (b < p ∨ p + 3 ≤ b)) (hg : GAt w0 (GBel B) n (gv t GA gcap) t) (h0 : genV t = 0) (hl : At w0 B L l) (hln : l.length ≤ 1399680) (j : Nat) (hj : j < l.length)
    {lo hi b off : Nat} (hlo : ∀ b, X b → b < lo) (hhi : hi ≤ w0.heap.size) (hbl : lo ≤ b ∧ b < hi)
    (hr : ∀ i (hi' : i < (triesL l j).length), ∃ D d, w0.cell? ⟨b, off + i, none⟩ = some (.slice D ((triesL l j)[i]'hi').length d) ∧ ((triesL l j)[i]'hi').length ≤ d ∧ AtP w0 (fun b => lo ≤ b ∧ b < hi) D ((triesL l j)[i]'hi')) :
    Asked 71 #[.pointer (some ⟨p, 0, none⟩), .pointer (some ⟨p + 1, 0, none⟩), .pointer (some ⟨p + 1 + 1, 0, none⟩)] b off (triesL l j).length (fun i => (w0.cell? ⟨b, off + i, none⟩).getD .nilIface) (EvSt t l stop I X w0 j) (EvFin t l stop I X w0) := by
  have cellk : ∀ i w, EvSt t l stop I X w0 j i w → ∀ o q, lo ≤ q → q < hi → w.cell? ⟨q, o, none⟩ = w0.cell? ⟨q, o, none⟩ := fun i w hS o q h1 h2 => by
    obtain ⟨X', _, hm, _⟩ := hS
    exact World.cell?_of_block (hm.block q (by omega) (fun hx => by have := hlo q hx; omega))
  refine ⟨fun _ _ => rfl, fun i w hi hS => ?_, fun i w hi hS => ?_⟩
  · obtain ⟨D, d, c0, _, _⟩ := hr i hi
    rw [cellk i w hS _ b hbl.1 hbl.2, c0]
    rfl
  · obtain ⟨D, d, c0, c1, c2⟩ := hr i hi
    have ck := cellk i w hS
    obtain ⟨X', hI, hm, hst⟩ := hS
    have hb : Below B w0 w := mv_below hm hB (fun b hb => (hX b hb).1)
    have htl := tries_each (List.getElem_mem hi)
    have E := ends_ok (n := n) S (X := X') (z := partL t l j i) (x := (triesL l j)[i]'hi) (D := D) (xc := d) w (h.mv hm (fun b hb => (hX b hb).2)) ((hg.below hb).more (Nat.le_trans hB hb.size)) h0 ((hl.below hb).more (Nat.le_trans hB hb.size)) (by omega)
      (c2.keep fun q hq => ⟨by have := hb.size; omega, fun o => ck o q hq.1 hq.2⟩) c1 (by omega) hI (by have := part_len (t := t) (l := l) (j := j) (i := i); omega) hst (fun y hy => part_mem hj hi hy) (p + 1) _ rfl rfl
    show Calls _ _ (#[(w0.cell? ⟨b, off + i, none⟩).getD .nilIface] ++ _) w _
    rw [c0]
    refine E.mono ?_
    rintro e w' ⟨r, X2, rfl, hrr, hI2, hm2⟩
    refine ⟨r, rfl, fun hf => ?_, fun ht => ?_⟩
    · rw [← part_succ t l j i hi] at hI2
      exact ⟨X2, hI2, mv_trans hm hm2, by rw [part_succ t l j i hi]; exact any_none hst (by rw [← hrr.out, hf])⟩
    · have hk : (keptL t l ((triesL l j)[i]'hi)).any stop = true := by rw [← hrr.out, ht]
      by_cases hk2 : lessL (mendL t ((triesL l j)[i]'hi)) l = true
      · have e : keptL t l ((triesL l j)[i]'hi) = [mendL t ((triesL l j)[i]'hi)] := by rw [keptL, if_pos hk2]
        rw [e] at hk hI2
        have hs : stop (mendL t ((triesL l j)[i]'hi)) = true := by simpa using hk
        exact ⟨X2, by rw [part_stop hj hi hst hk2 hs]; exact hI2, mv_trans hm hm2⟩
      · rw [keptL, if_neg hk2] at hk
        cases hk
/-- the boxes, made -/
theorem eb_new (w : World) (t : Gn) (GA : Option Addr) (gcap : Nat) (L : Option Addr) (ln lc k : Nat) (cap : Array Value) :
    EcB w.heap.size t GA gcap L ln lc k cap (((w.alloc (gc t GA gcap)).alloc (.cells #[.slice L ln lc] 32)).alloc (.cells #[ffv k cap] 83)) ∧ Below w.heap.size w (((w.alloc (gc t GA gcap)).alloc (.cells #[.slice L ln lc] 32)).alloc (.cells #[ffv k cap] 83)) := by
  have z1 : (w.alloc (gc t GA gcap)).heap.size = w.heap.size + 1 := by simp
  have z2 : ((w.alloc (gc t GA gcap)).alloc (.cells #[.slice L ln lc] 32)).heap.size = w.heap.size + 1 + 1 := by simp
  have n1 := new_obj w (gc t GA gcap)
  have n2 := new_obj (w.alloc (gc t GA gcap)) (.cells #[.slice L ln lc] 32)
  have n3 := new_obj ((w.alloc (gc t GA gcap)).alloc (.cells #[.slice L ln lc] 32)) (.cells #[ffv k cap] 83)
  rw [z1] at n2
  rw [z2] at n3
  refine ⟨⟨?_, ?_, n3⟩, (((Below.refl _ _).alloc (Nat.le_refl _) _).alloc (by omega) _).alloc (by omega) _⟩
  · exact (Below.heap_alloc _ _ _ (by omega)).trans ((Below.heap_alloc _ _ _ (by omega)).trans n1)
  · exact (Below.heap_alloc _ _ _ (by omega)).trans n2

set_option maxHeartbeats 4000000 in
set_option maxRecDepth 100000 in
theorem each_ok {t : Gn} {GA : Option Addr} {gcap n B : Nat} {L : Option Addr} {l : List Int} {lc k : Nat} {cap : Array Value} {stop : List Int → Bool} {I : (Nat → Prop) → List (List Int) → World → Prop} (S : SeeB k cap t l stop I) {X : Nat → Prop} (w : World)
    (hB : B ≤ w.heap.size) (hX : ∀ b, X b → B ≤ b) (hg : GAt w (GBel B) n (gv t GA gcap) t) (hl : At w B L l) (hcap : l.length ≤ lc) (hln : l.length ≤ 4294967296) (hsz : t.size ≤ 4294967296) (hI : I X [] w) :
    Calls Tryz.prog 40 #[gv t GA gcap, .slice L l.length lc, ffv k cap] w (EachPost t l stop I X w) := by
  obtain ⟨eb, bb⟩ := eb_new w t GA gcap L l.length lc k cap
  have E0 := Lib.hid eb
  have B0 := Lib.hid bb
  have XL := Lib.hid (S.lt X [] w hI)
  have RP := Lib.hid (fun (W : World) (hb : Below w.heap.size w W) => replay_prog W (((hg.below (hb.mono hB))).more (Nat.le_trans hB hb.size)) ((hl.below (hb.mono hB)).more (Nat.le_trans hB hb.size)) hcap hln hsz)
  have KP := Lib.hid (fun (W : World) (hb : Below w.heap.size w W) => S.keep X [] w W hI hb)
  have KK := Lib.hid (fun X' z (W W' : World) (h : I X' z W) (hb : Below W.heap.size W W') => S.keep X' z W W' h hb)
  have KL := Lib.hid (fun X' z (W : World) (h : I X' z W) => S.lt X' z W h)
  have AE := Lib.hid (fun (hz : roseE t l = 0) (X' : Nat → Prop) (W wr : World) (hb : Below w.heap.size w W) (he : EcB w.heap.size t GA gcap L l.length lc k cap W) (hm : Mv X W wr X') (W2 : World) (hb2 : Below wr.heap.size wr W2) (j : Nat) (hj : j < l.length) (hI' : I X' (lessTo t l j) wr) (CA : Option Addr) (cc : Nat) (ho : OwnRows W2 wr.heap.size CA cc (triesL l j)) (hst : ∀ a ∈ lessTo t l j, stop a = false) =>
    show Calls Tryz.prog 74 #[.slice CA (triesL l j).length cc, ffv 71 #[.pointer (some ⟨w.heap.size, 0, none⟩), .pointer (some ⟨w.heap.size + 1, 0, none⟩), .pointer (some ⟨w.heap.size + 1 + 1, 0, none⟩)]] W2 fun e w' => ∃ r : Bool, e = .returned (.bool r) ∧ (r = false → EvSt t l stop I X' W2 j (triesL l j).length w') ∧ (r = true → EvFin t l stop I X' W2 w') by
    have hXp : ∀ b, X b → b < w.heap.size := S.lt X [] w hI
    have bX : ∀ b, X' b → B ≤ b ∧ (b < w.heap.size ∨ w.heap.size + 3 ≤ b) := fun b h => by
      rcases hm.new b h with h | h
      · exact ⟨hX b h, .inl (hXp b h)⟩
      · have := he.s.lt
        have := hb.size
        exact ⟨by omega, .inr (by omega)⟩
    have hb3 : Below B W wr := mv_below hm (Nat.le_trans hB hb.size) hX
    have hb4 : Below B w W2 := (hb.mono hB).trans (hb3.trans (hb2.mono (Nat.le_trans (Nat.le_trans hB hb.size) hm.size)))
    have hpos : 0 < (triesL l j).length := by unfold triesL; split <;> simp
    obtain ⟨b, off, rfl, hbb, hrr⟩ := ho.rows hpos
    refine contains_any (asked_ends (B := B) S (X := X') W2 ((he.mv hm (fun b h => .inl (hXp b h))).mv (mv_of (X := fun _ => False) hb2) (fun b h => h.elim)) (Nat.le_trans hB hb4.size) bX (hg.below hb4) (rep_facts hz).1 (hl.below hb4) (rep_facts hz).2.1 j hj (lo := wr.heap.size) (hi := W2.heap.size) (b := b) (off := off) (fun b h => S.lt X' _ wr hI' b h) (Nat.le_refl _) ⟨hbb.1, hbb.2.1⟩ (fun i hi => by
      obtain ⟨D, d, c0, c1, c2⟩ := hrr i hi
      exact ⟨D, d, c0, c1, c2.keep fun q hq => ⟨⟨hq.1, hq.2.1⟩, fun _ => rfl⟩⟩)) (by have := tries_four l j; omega) cc W2 ⟨X', by rw [part_zero]; exact S.keep X' _ wr W2 hI' hb2, mv_of (Below.refl _ _), by rw [part_zero]; exact hst⟩)
  have CH := Lib.hid (fun (hz : roseE t l = 0) (W wr : World) (X' : Nat → Prop) (hb : Below w.heap.size w W) (hm : Mv X W wr X') (j : Nat) (hj : j < l.length) => changes_ok (lc := lc) (N := B) wr ((hl.below (hb.mono hB)).below (mv_below hm (Nat.le_trans hB hb.size) hX)) (Nat.le_trans (Nat.le_trans hB hb.size) hm.size) hcap hln (rep_facts hz).2.2 j hj)
  have LN := Lib.hid hln
  have hmf : ∀ (fn : Fn) (first cap : Array Value) (w : World), (Instr.makeFunc fn first cap).run Tryz.prog w = .ok (.func fn first cap) w := fun _ _ _ _ => rfl
  clear eb bb hg hl hcap hln hsz hI S hB hX
  go_enter Tryz.func40, Tryz.ntmps40
  obtain ⟨k0, k1, k2, k3⟩ := E0.out.g.facts
  have f0 := E0.out.l.cell
  go_wp2_with fail
  generalize ((w.alloc (gc t GA gcap)).alloc (.cells #[.slice L l.length lc] 32)).alloc (.cells #[ffv k cap] 83) = W0 at *
  ((with_reducible refine (RP.out W0 B0.out).mono ?_))
  rintro e w1 ⟨A1, c1, rfl, _, _, hb1⟩
  generalize trOf (repV t l) = v at *
  have n4 := bel1 w1 (.cells #[.bool v.list, .int .i64 v.num, .slice A1 v.items.length c1] 47)
  have B4 := Lib.hid (below_trans B0.out (below_trans hb1 n4))
  have E4 := Lib.hid ((E0.out.mv (mv_of (X := fun _ => False) hb1) (fun b h => h.elim)).mv (mv_of (X := fun _ => False) n4) (fun b h => h.elim))
  clear k0 k1 k2 k3 f0 hb1 n4 E0 B0
  have f0 := E4.out.l.cell
  by_cases hz : roseE t l = 0
  · have Q0 := Lib.hid (show errI (repV t l) = 0 from hz)
    have HZ := Lib.hid hz
    have HV := Lib.hid (show roseV t l = roseL t l by unfold roseV; rw [if_pos hz])
    have AD := Lib.hid (AE.out hz)
    have CD := Lib.hid (CH.out hz)
    rw [Q0.out, errOf_ok]
    clear hz AE CH RP
    go_wp2_with fail
    generalize w1.alloc (.cells #[.bool v.list, .int .i64 v.num, .slice A1 v.items.length c1] 47) = W4 at *
    go_loopw [23] (fun i wr => ∃ (j : Nat) (X' : Nat → Prop), j ≤ l.length ∧ i = .int .i64 j ∧ Hid (I X' (lessTo t l j) wr) ∧ Hid (Mv X W4 wr X') ∧ Hid (∀ a ∈ lessTo t l j, stop a = false)) (fun i _ => l.length - (intOf i).toNat)
    case atStart => exact ⟨0, X, Nat.zero_le _, rfl, KP.out W4 B4.out, mv_of (Below.refl _ _), fun a h => nomatch h⟩
    case round =>
      clear f0
      obtain ⟨j, X', hj, rfl, hI, hM, hst⟩ := hrel
      have Ew := Lib.hid (E4.out.mv hM.out (fun b h => .inl (XL.out b h)))
      have f0 := Ew.out.l.cell
      have hln2 : l.length ≤ 4294967296 := LN.out
      by_cases hlt : j < l.length
      · have C1 := Lib.hid (CD.out W4 wr X' B4.out hM.out j hlt)
        go_wp2_with fail
        ((with_reducible refine C1.out.mono ?_))
        rintro e w2 ⟨CA, cc, rfl, ho, hb2⟩
        have C2 := Lib.hid (AD.out X' W4 wr B4.out E4.out hM.out w2 hb2 j hlt hI.out CA cc ho hst.out)
        have M2 := Lib.hid (mv_trans hM.out (mv_of hb2))
        have PA := Lib.hid (part_all t l j)
        clear ho hb2 C1 f0
        generalize (triesL l j).length = m at *
        go_wp2_with fail
        ((with_reducible refine C2.out.mono ?_))
        rintro e w3 ⟨r, rfl, hf, ht⟩
        cases r with
        | false =>
          obtain ⟨X3, hI3, hM3, hst3⟩ := hf rfl
          rw [PA.out] at hI3 hst3
          have I3 := Lib.hid hI3
          have M3 := Lib.hid (mv_trans M2.out hM3)
          have S3 := Lib.hid hst3
          clear hf ht hI3 hM3 hst3 C2
          go_wp2_with fail
          go_roundw
          case rel => exact ⟨j + 1, X3, hlt, by go_num, I3.out, M3.out, S3.out⟩
          case measure => simp [intOf]; omega
        | true =>
          obtain ⟨X3, hI3, hM3⟩ := ht rfl
          have I3 := Lib.hid hI3
          have M3 := Lib.hid (mv_trans M2.out hM3)
          clear hf ht hI3 hM3 C2
          go_wp2_with fail
          go_ret
          exact ⟨X3, by rw [HZ.out, errOf_ok]; rfl, by rw [HV.out]; exact I3.out, mv_trans (mv_of B4.out) M3.out⟩
      · have EV := Lib.hid (show seenL stop (roseL t l) = lessTo t l j by
          obtain rfl : j = l.length := by omega
          exact rose_end hst.out)
        go_wp2_with fail
        go_ret
        exact ⟨X', by rw [HZ.out, errOf_ok]; rfl, by rw [HV.out, EV.out]; exact hI.out, mv_trans (mv_of B4.out) hM.out⟩
  · have HV := Lib.hid (show roseV t l = [] by unfold roseV; rw [if_neg hz])
    have RE := Lib.hid (errOf_no hz)
    have EE := Lib.hid (show errOf (errI (repV t l)) = errOf (roseE t l) from rfl)
    rw [EE.out, errOf_no hz]
    have I4 := Lib.hid (KP.out _ B4.out)
    clear hz AE CH RP KK KL
    generalize hq : roseE t l = q at *
    have QH := Lib.hid hq
    clear hq
    go_wp2_with fail
    go_ret
    exact ⟨X, by rw [QH.out, RE.out]; rfl, by rw [HV.out]; exact I4.out, mv_of B4.out⟩
end Go.Proofs.YtabkihellcflhaaGreatDoor.Gens
