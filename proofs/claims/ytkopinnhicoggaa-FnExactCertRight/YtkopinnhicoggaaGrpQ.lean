/- Products and remainders of numbers, as a walk has them. -/
import Derived.Test.YtkopinnhicoggaaBase
import Derived.Test.YtkopinnhicoggaaGrpP
namespace Go.Proofs.Ytkopinnhicoggaa
open Go.RowKit

/-- A product of two remainders, as the walk has it. -/
theorem prod_bd (a b : Nat) (ha : a ≤ 2147483647) (hb : b ≤ 2147483647) : ∃ p : Nat, p = a * b ∧ (a : Int) * (b : Int) = (p : Int) ∧ (0 : Int) ≤ (p : Int) ∧ (p : Int) ≤ 4611686018427387904 := by
  refine ⟨a * b, rfl, by rw [Int.natCast_mul], by omega, ?_⟩
  have : a * b ≤ 2147483647 * 2147483647 := Nat.mul_le_mul ha hb
  omega
theorem tmodN (p m : Nat) : (p : Int).tmod (m : Int) = ((p % m : Nat) : Int) := by
  rw [Int.tmod_eq_emod_of_nonneg (Int.natCast_nonneg _)]; rfl

end Go.Proofs.Ytkopinnhicoggaa
