/- The group's order, and what a signature's numbers lead to: plain mathematics, no program is named here. -/
import Derived.Test.YtkopinnhicoggaaGrpP
namespace Go.Proofs.Ytkopinnhicoggaa
open Go.RowKit

/-- A power modulo m, reckoned quickly: f rounds at most. -/
def qp : Nat → Nat → Nat → Nat → Nat → Nat
  | 0, _, _, _, out => out
  | f + 1, a, n, m, out => if n = 0 then out else qp f (a * a % m) (n / 2) m (if n % 2 = 1 then out * a % m else out)
theorem qp_inv {A N m : Nat} (hm : 2 ≤ m) : ∀ (f a n out : Nat), n < 2 ^ f → PowInv A N m out a n → qp f a n m out = pm A N m
  | 0, a, n, out, h, k => by
    have : n = 0 := by simp at h; omega
    subst this
    exact k.done
  | f + 1, a, n, out, h, k => by
    rw [qp]
    by_cases h0 : n = 0
    · subst h0
      rw [if_pos rfl]
      exact k.done
    · rw [if_neg h0]
      have hn : n / 2 < 2 ^ f := by rw [Nat.pow_succ] at h; omega
      by_cases e : n % 2 = 1
      · rw [if_pos e]
        exact qp_inv hm f _ _ _ hn (k.odd hm e)
      · rw [if_neg e]
        exact qp_inv hm f _ _ _ hn (k.even (by omega))
theorem qp_pm (a n : Nat) {m : Nat} (hm : 2 ≤ m) (f : Nat) (h : n < 2 ^ f) : pm a n m = qp f a n m 1 := (qp_inv hm f a n 1 h (PowInv.start a n hm)).symm
theorem pm4 : pm 4 1073741789 2147483579 = 1 := by
  rw [qp_pm 4 1073741789 (by omega) 31 (by decide)]
  decide +kernel
/-- No number from 2 to the root of q divides q. -/
def noDiv (q : Nat) : Nat → Bool
  | 0 => true
  | d + 1 => decide (q % (d + 2) ≠ 0) && noDiv q d
theorem noDiv_at {q : Nat} : ∀ {n d : Nat}, noDiv q n = true → 2 ≤ d → d < n + 2 → q % d ≠ 0
  | 0, d, _, h2, h3 => by omega
  | n + 1, d, h, h2, h3 => by
    simp only [noDiv, Bool.and_eq_true, decide_eq_true_eq] at h
    by_cases e : d = n + 2
    · subst e; exact h.1
    · exact noDiv_at h.2 h2 (by omega)
theorem noDivQ : noDiv 1073741789 32767 = true := by decide +kernel
theorem primeQ {d : Nat} (h : d ∣ 1073741789) (hl : d < 1073741789) : d = 1 := by
  obtain ⟨e, he⟩ := h
  by_cases d1 : d = 1
  · exact d1
  exfalso
  have d0 : d ≠ 0 := by intro h; subst h; simp at he
  have e0 : e ≠ 0 := by intro h; subst h; simp at he
  have e1 : e ≠ 1 := by intro h; subst h; simp at he; omega
  by_cases hd : d < 32769
  · exact noDiv_at noDivQ (d := d) (by omega) (by omega) (by rw [he]; exact Nat.mul_mod_right d e)
  by_cases hq : e < 32769
  · exact noDiv_at noDivQ (d := e) (by omega) (by omega) (by rw [he]; exact Nat.mul_mod_left d e)
  have : 32769 * 32769 ≤ d * e := Nat.mul_le_mul (by omega) (by omega)
  omega
theorem pm_gcd {y p : Nat} (hp : 2 ≤ p) : ∀ (a b : Nat), pm y a p = 1 → pm y b p = 1 → pm y (Nat.gcd a b) p = 1 := by
  intro a b
  induction a, b using Nat.gcd.induction with
  | H0 n => intro _ h; rw [Nat.gcd_zero_left]; exact h
  | H1 m n hm ih =>
    intro h1 h2
    rw [Nat.gcd_rec]
    exact ih (by rw [pm_red hp h1]; exact h2) h1
/-- A power of 4 that is 1 is none from 1 to q less 1. -/
theorem pm4_ne {x : Nat} (h1 : 1 ≤ x) (h2 : x < 1073741789) : pm 4 x 2147483579 ≠ 1 := by
  intro h
  have hg := pm_gcd (y := 4) (p := 2147483579) (by omega) x 1073741789 h pm4
  have hd : Nat.gcd x 1073741789 = 1 := primeQ (Nat.gcd_dvd_right _ _) (Nat.lt_of_le_of_lt (Nat.gcd_le_left _ (by omega)) h2)
  rw [hd, pm_one] at hg
  omega
theorem pm_prod (a b n p : Nat) : pm (a * b % p) n p = pm a n p * pm b n p % p := by
  unfold pm
  rw [← Nat.pow_mod, Nat.mul_pow, ← Nat.mul_mod]
/-- What a signature leads to: the power that it was made with. -/
theorem sig_back {g q p k e x : Nat} (hp : 2 ≤ p) (hg : pm g q p = 1) (he : e < q) :
    pm g ((k + e * x) % q) p * pm (pm g x p) (q - e) p % p = pm g k p := by
  rw [pm_red hp hg, pm_pm, pm_mul]
  have h1 : e * x + x * (q - e) = q * x := by
    rw [Nat.mul_comm e x, ← Nat.mul_add, show e + (q - e) = q from by omega, Nat.mul_comm]
  rw [Nat.add_assoc, h1, ← pm_mul, pm_unit hp hg, Nat.mul_one]
  exact Nat.mod_eq_of_lt (pm_lt g _ hp)
end Go.Proofs.Ytkopinnhicoggaa
