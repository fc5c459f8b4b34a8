/- Powers modulo a number: plain mathematics, no program is named here. -/
import Derived.Test.YtkopinnhicoggaaPlain
namespace Go.Proofs.Ytkopinnhicoggaa
open Go.RowKit

/-- A power modulo m. -/
def pm (a n m : Nat) : Nat := a ^ n % m
theorem pm_lt (a n : Nat) {m : Nat} (h : 2 ≤ m) : pm a n m < m := Nat.mod_lt _ (by omega)
theorem pm_zero (a : Nat) {m : Nat} (h : 2 ≤ m) : pm a 0 m = 1 := by
  unfold pm; rw [Nat.pow_zero]; exact Nat.mod_eq_of_lt (by omega)
theorem pm_one (a m : Nat) : pm a 1 m = a % m := by unfold pm; rw [Nat.pow_one]
theorem pm_two (a m : Nat) : pm a 2 m = a * a % m := by unfold pm; rw [Nat.pow_two]
theorem pm_base (a n m : Nat) : pm (a % m) n m = pm a n m := by unfold pm; exact (Nat.pow_mod a n m).symm
theorem mm (a b m : Nat) : a % m * (b % m) % m = a * b % m := (Nat.mul_mod a b m).symm
theorem pm_mul (y a b p : Nat) : pm y a p * pm y b p % p = pm y (a + b) p := by
  unfold pm; rw [mm, ← Nat.pow_add]
theorem pm_pm (y a b p : Nat) : pm (pm y a p) b p = pm y (a * b) p := by
  unfold pm; rw [← Nat.pow_mod, ← Nat.pow_mul]
theorem pm_unit {y q p : Nat} (hp : 2 ≤ p) (h : pm y q p = 1) (n : Nat) : pm y (q * n) p = 1 := by
  rw [← pm_pm, h]
  unfold pm
  rw [Nat.one_pow]
  exact Nat.mod_eq_of_lt (by omega)
theorem pm_red {y q p : Nat} (hp : 2 ≤ p) (h : pm y q p = 1) (n : Nat) : pm y (n % q) p = pm y n p := by
  conv => rhs; rw [← Nat.div_add_mod n q]
  rw [← pm_mul, pm_unit hp h, Nat.one_mul]
  exact (Nat.mod_eq_of_lt (pm_lt y _ hp)).symm
/-- A power of what comes round at q comes round at q. -/
theorem pm_in {y q p : Nat} (hp : 2 ≤ p) (h : pm y q p = 1) (n : Nat) : pm (pm y n p) q p = 1 := by
  rw [pm_pm, Nat.mul_comm, pm_unit hp h]
/-- What comes round is no multiple of the modulus. -/
theorem pm_pos {y q p : Nat} (hq : 1 ≤ q) (h : pm y q p = 1) : 1 ≤ y % p := by
  rcases Nat.eq_zero_or_pos (y % p) with e | e
  · rw [← pm_base, e] at h
    unfold pm at h
    rw [Nat.zero_pow (by omega)] at h
    simp at h
  · exact e

/-- What the rounds keep: all times square to what is left is the power that is asked for. -/
def PowInv (A N m out a n : Nat) : Prop := out < m ∧ out * a ^ n % m = pm A N m
theorem PowInv.start (A N : Nat) {m : Nat} (h : 2 ≤ m) : PowInv A N m 1 A N := ⟨by omega, by rw [Nat.one_mul]; rfl⟩
theorem PowInv.start' (A N : Nat) {m : Nat} (h : 2 ≤ m) : PowInv A N m 1 (A % m) N := ⟨by omega, by rw [Nat.one_mul, ← Nat.pow_mod]; rfl⟩
theorem PowInv.done {A N m out a : Nat} (h : PowInv A N m out a 0) : out = pm A N m := by
  have := h.2; rw [Nat.pow_zero, Nat.mul_one, Nat.mod_eq_of_lt h.1] at this; exact this
theorem half_even {n : Nat} (e : n % 2 = 0) (a : Nat) : a ^ n = (a * a) ^ (n / 2) := by
  rw [← Nat.pow_two, ← Nat.pow_mul, show 2 * (n / 2) = n from by omega]
theorem half_odd {n : Nat} (e : n % 2 = 1) (a : Nat) : a ^ n = a * (a * a) ^ (n / 2) := by
  rw [← Nat.pow_two, ← Nat.pow_mul, Nat.mul_comm a, ← Nat.pow_succ, show (2 * (n / 2)).succ = n from by omega]
theorem PowInv.even {A N m out a n : Nat} (e : n % 2 = 0) (h : PowInv A N m out a n) : PowInv A N m out (a * a % m) (n / 2) := by
  refine ⟨h.1, ?_⟩
  rw [← h.2, half_even e, Nat.mul_mod, ← Nat.pow_mod, ← Nat.mul_mod]
theorem PowInv.odd {A N m out a n : Nat} (hm : 2 ≤ m) (e : n % 2 = 1) (h : PowInv A N m out a n) : PowInv A N m (out * a % m) (a * a % m) (n / 2) := by
  refine ⟨Nat.mod_lt _ (by omega), ?_⟩
  rw [← h.2, half_odd e, Nat.mul_mod, ← Nat.pow_mod, Nat.mod_mod, ← Nat.mul_mod, Nat.mul_assoc]
end Go.Proofs.Ytkopinnhicoggaa
