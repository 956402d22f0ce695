/- Plain facts on numbers of 64 bits: what 'mix' is good for. No Go in sight. -/
import Derived.Test.YtffkppjmdelajaaDoorRngB
namespace Go.Proofs.YtffkppjmdelajaaDoor.Rng
open Go.RowKit

theorem wrap_U64 (x : Int) : U64 (IntKind.u64.wrap x) := by rw [IntKind.wrap_u64]; unfold U64; omega
theorem plus_U64 (a g : Int) : U64 (plus a g) := wrap_U64 _
theorem mixI_U64 (x : Int) : U64 (mixI x) := wrap_U64 _

theorem mul_div_bounds (h n : Int) (h0 : 0 ≤ h) (h1 : h < 4294967296) (n1 : 1 ≤ n) : 0 ≤ h * n / 4294967296 ∧ h * n / 4294967296 < n := by
  have hp : 0 ≤ h * n := Int.mul_nonneg h0 (by omega)
  have hq : h * n < 4294967296 * n := Int.mul_lt_mul_of_pos_right h1 (by omega)
  omega
theorem mul_bound (h n : Int) (h0 : 0 ≤ h) (h1 : h < 4294967296) (n1 : 0 ≤ n) (n2 : n ≤ 2147483647) : 0 ≤ h * n ∧ h * n ≤ 4294967295 * 2147483647 := by
  have hp : 0 ≤ h * n := Int.mul_nonneg h0 (by omega)
  have hq : h * n ≤ 4294967295 * n := Int.mul_le_mul_of_nonneg_right (by omega) n1
  omega

theorem belowK_eq (a g n : Int) (h1 : 1 ≤ n) (h2 : n ≤ 2147483647) : belowK a g n = mixI (plus a g) / 4294967296 * n / 4294967296 := by
  have hm := mixI_U64 (plus a g)
  unfold belowK belowI u64of wrap64
  unfold U64 at hm
  rw [IntKind.wrap_u64]
  generalize mixI (plus a g) = x at *
  have hb := mul_bound (x / 4294967296) n (by omega) (by omega) (by omega) h2
  generalize x / 4294967296 * n = y at *
  omega

theorem belowK_bounds (a g n : Int) (h1 : 1 ≤ n) (h2 : n ≤ 2147483647) : 0 ≤ belowK a g n ∧ belowK a g n < n := by
  rw [belowK_eq a g n h1 h2]
  have hm := mixI_U64 (plus a g)
  unfold U64 at hm
  exact mul_div_bounds _ n (by omega) (by omega) h1

theorem belowK_mono (a g n m : Int) (h1 : 1 ≤ m) (h2 : m ≤ n) (h3 : n ≤ 2147483647) : belowK a g m ≤ belowK a g n := by
  rw [belowK_eq a g n (by omega) h3, belowK_eq a g m h1 (by omega)]
  have hm := mixI_U64 (plus a g)
  unfold U64 at hm
  have : mixI (plus a g) / 4294967296 * m ≤ mixI (plus a g) / 4294967296 * n := Int.mul_le_mul_of_nonneg_left h2 (by omega)
  exact Int.ediv_le_ediv (by omega) this

theorem xor_eq {x y : Nat} (h : x ^^^ y = 0) : x = y := by
  have : (x ^^^ y) ^^^ y = 0 ^^^ y := by rw [h]
  rw [Nat.xor_assoc, Nat.xor_self, Nat.xor_zero, Nat.zero_xor] at this
  exact this
theorem shift_inj (k : Nat) (hk : 1 ≤ k) (x y : Nat) (h : x ^^^ x / 2 ^ k = y ^^^ y / 2 ^ k) : x = y := by
  have h1 : (x ^^^ y) = (x ^^^ y) / 2 ^ k := by
    rw [Nat.xor_div_two_pow]
    have : (x ^^^ x / 2 ^ k) ^^^ (y ^^^ x / 2 ^ k) = (y ^^^ y / 2 ^ k) ^^^ (y ^^^ x / 2 ^ k) := by rw [h]
    have e1 : (x ^^^ x / 2 ^ k) ^^^ (y ^^^ x / 2 ^ k) = x ^^^ y := by
      rw [Nat.xor_comm y, Nat.xor_assoc, ← Nat.xor_assoc (x / 2 ^ k) (x / 2 ^ k), Nat.xor_self, Nat.zero_xor]
    have e2 : (y ^^^ y / 2 ^ k) ^^^ (y ^^^ x / 2 ^ k) = (x / 2 ^ k) ^^^ (y / 2 ^ k) := by
      rw [Nat.xor_comm y (y / 2 ^ k), Nat.xor_assoc, ← Nat.xor_assoc y y, Nat.xor_self, Nat.zero_xor, Nat.xor_comm]
    rw [e1, e2] at this
    exact this
  by_cases h0 : x ^^^ y = 0
  · exact xor_eq h0
  · have : (x ^^^ y) / 2 ^ k < x ^^^ y := Nat.div_lt_self (by omega) (Nat.one_lt_two_pow (by omega))
    omega
theorem mul_inj (c ci : Nat) (hc : c * ci % 18446744073709551616 = 1) (x y : Nat) (hx : x < 18446744073709551616) (hy : y < 18446744073709551616) (h : x * c % 18446744073709551616 = y * c % 18446744073709551616) : x = y := by
  have h2 : x * c * ci % 18446744073709551616 = y * c * ci % 18446744073709551616 := by
    rw [Nat.mul_mod, h, ← Nat.mul_mod]
  rw [Nat.mul_assoc, Nat.mul_assoc, Nat.mul_mod x, Nat.mul_mod y, hc, Nat.mul_one, Nat.mul_one, Nat.mod_mod, Nat.mod_mod, Nat.mod_eq_of_lt hx, Nat.mod_eq_of_lt hy] at h2
  exact h2

theorem step_inj (k s c ci : Nat) (hs : s = 2 ^ k) (hk : 1 ≤ k) (hc : c * ci % 18446744073709551616 = 1) (x y : Int) (hx : U64 x) (hy : U64 y)
    (h : IntKind.u64.wrap (bits BinOp.xor IntKind.u64 x (x / (s : Int)) * (c : Int)) = IntKind.u64.wrap (bits BinOp.xor IntKind.u64 y (y / (s : Int)) * (c : Int))) : x = y := by
  obtain ⟨X, rfl⟩ := Int.eq_ofNat_of_zero_le hx.1
  obtain ⟨Y, rfl⟩ := Int.eq_ofNat_of_zero_le hy.1
  have hX : X < 18446744073709551616 := by have := hx.2; omega
  have hY : Y < 18446744073709551616 := by have := hy.2; omega
  rw [mixStep_u64 X s c hX, mixStep_u64 Y s c hY] at h
  have h' : (X ^^^ X / s) * c % 18446744073709551616 = (Y ^^^ Y / s) * c % 18446744073709551616 := by exact_mod_cast h
  have lt : ∀ Z : Nat, Z < 18446744073709551616 → Z ^^^ Z / s < 18446744073709551616 := fun Z hZ => by
    have : Z ^^^ Z / s < 2 ^ 64 := Nat.xor_lt_two_pow (by omega) (Nat.lt_of_le_of_lt (Nat.div_le_self _ _) (by omega))
    omega
  have := mul_inj c ci hc _ _ (lt X hX) (lt Y hY) h'
  subst hs
  have e := shift_inj k hk X Y this
  subst e
  rfl
theorem step1_inj (x y : Int) (hx : U64 x) (hy : U64 y) (h : step1 x = step1 y) : x = y :=
  step_inj 30 1073741824 13787848793156543929 10871156337175269513 (by decide) (by decide) (by decide) x y hx hy h
theorem step2_inj (x y : Int) (hx : U64 x) (hy : U64 y) (h : step2 x = step2 y) : x = y :=
  step_inj 27 134217728 10723151780598845931 3573116690164977347 (by decide) (by decide) (by decide) x y hx hy h
theorem step3_inj (x y : Int) (hx : U64 x) (hy : U64 y) (h : step3 x = step3 y) : x = y := by
  obtain ⟨X, rfl⟩ := Int.eq_ofNat_of_zero_le hx.1
  obtain ⟨Y, rfl⟩ := Int.eq_ofNat_of_zero_le hy.1
  have hX : X < 18446744073709551616 := by have := hx.2; omega
  have hY : Y < 18446744073709551616 := by have := hy.2; omega
  have e1 : step3 (X : Int) = ((X ^^^ X / 2147483648 : Nat) : Int) := xorShift_u64 X 2147483648 hX
  have e2 : step3 (Y : Int) = ((Y ^^^ Y / 2147483648 : Nat) : Int) := xorShift_u64 Y 2147483648 hY
  rw [e1, e2] at h
  have e := shift_inj 31 (by decide) X Y (by exact_mod_cast h)
  subst e
  rfl
/-- MIX IS ONE TO ONE on numbers of 64 bits. -/
theorem mixI_inj (x y : Int) (hx : U64 x) (hy : U64 y) (h : mixI x = mixI y) : x = y :=
  step1_inj x y hx hy (step2_inj _ _ (wrap_U64 _) (wrap_U64 _) (step3_inj _ _ (wrap_U64 _) (wrap_U64 _) h))
theorem plus_inj (a b g : Int) (ha : U64 a) (hb : U64 b) (h : plus a g = plus b g) : a = b := by
  unfold plus at h; rw [IntKind.wrap_u64, IntKind.wrap_u64] at h
  unfold U64 at ha hb
  omega
theorem odd_odd (x : Int) (hx : U64 x) : odd x % 2 = 1 ∧ U64 (odd x) := by
  refine ⟨?_, wrap_U64 _⟩
  obtain ⟨X, rfl⟩ := Int.eq_ofNat_of_zero_le hx.1
  have hX : X < 18446744073709551616 := by have := hx.2; omega
  have e : odd (X : Int) = ((X ||| 1 : Nat) : Int) := by
    have := u64_or (X : Int) 1 (by omega) (by omega) (by omega) (by omega)
    exact this
  rw [e]
  have : (X ||| 1) % 2 = 1 := by simp [Nat.or_mod_two_eq_one]
  omega

/-- Behind so many steps. -/
def stepped (a g : Int) : Nat → Int
  | 0 => a
  | k + 1 => plus (stepped a g k) g
theorem stepped_eq (a g : Int) (ha : U64 a) : ∀ k : Nat, stepped a g k = (a + k * g) % 18446744073709551616
  | 0 => by unfold stepped; unfold U64 at ha; simp; omega
  | k + 1 => by
    unfold stepped plus
    rw [stepped_eq a g ha k, IntKind.wrap_u64, show ((k + 1 : Nat) : Int) * g = k * g + g by rw [Int.natCast_add, Int.add_mul]; simp]
    omega
theorem stepped_U64 (a g : Int) (ha : U64 a) : ∀ k : Nat, U64 (stepped a g k)
  | 0 => ha
  | _ + 1 => plus_U64 _ _
/-- AN ODD GAMMA COMES ROUND ONLY BEHIND ALL NUMBERS. -/
theorem stepped_ne (a g : Int) (ha : U64 a) (hg : U64 g) (ho : g % 2 = 1) (k : Nat) (h1 : 1 ≤ k) (h2 : k < 18446744073709551616) : stepped a g k ≠ a := by
  intro h
  rw [stepped_eq a g ha k] at h
  obtain ⟨G, rfl⟩ := Int.eq_ofNat_of_zero_le hg.1
  have hd : (18446744073709551616 : Int) ∣ ((k * G : Nat) : Int) := by
    unfold U64 at ha
    refine Int.dvd_of_emod_eq_zero ?_
    have : ((k * G : Nat) : Int) = (k : Int) * (G : Int) := by simp
    rw [this]
    omega
  have hn : 18446744073709551616 ∣ k * G := Int.natCast_dvd_natCast.mp (show ((18446744073709551616 : Nat) : Int) ∣ ((k * G : Nat) : Int) from hd)
  have hc : Nat.Coprime (2 ^ 64) G := Nat.Coprime.pow_left 64 (by
    have : G % 2 = 1 := by omega
    rw [Nat.coprime_iff_gcd_eq_one, Nat.gcd_rec, this]; rfl)
  have hd2 : 2 ^ 64 ∣ k := Nat.Coprime.dvd_of_dvd_mul_right hc (m := k) (show 2 ^ 64 ∣ k * G from hn)
  have := Nat.le_of_dvd (by omega) hd2
  omega
end Go.Proofs.YtffkppjmdelajaaDoor.Rng
