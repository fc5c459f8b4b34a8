/- Products and powers of the group: what is answered. -/
import Derived.Test.YtkopinnhicoggaaGrpG
namespace Go.Proofs.Ytkopinnhicoggaa
open Go.RowKit

def gmulA (a b : Int) : Int := if unitB a = true ∧ unitB b = true then ((a.toNat * b.toNat % 2147483579 : Nat) : Int) else 0
def gpowA (y n : Int) : Int := if unitB y = true ∧ 0 ≤ n then ((pm y.toNat (n.toNat % 1073741789) 2147483579 : Nat) : Int) else 0
theorem unitB_nat {y : Int} (h : unitB y = true) : ∃ x : Nat, y = (x : Int) ∧ 1 ≤ x ∧ x < 2147483579 := by
  have h' : 1 ≤ y ∧ y < 2147483579 := of_decide_eq_true h
  exact ⟨y.toNat, by omega, by omega, by omega⟩
theorem unitB_mk {x : Nat} (h1 : 1 ≤ x) (h2 : x < 2147483579) : unitB (x : Int) = true := decide_eq_true ⟨by omega, by omega⟩
theorem gmulA_nat (a b : Nat) (ha : unitB (a : Int) = true) (hb : unitB (b : Int) = true) : gmulA a b = ((a * b % 2147483579 : Nat) : Int) := by
  rw [gmulA, if_pos ⟨ha, hb⟩, Int.toNat_natCast, Int.toNat_natCast]
theorem gpowA_nat (y n : Nat) (hy : unitB (y : Int) = true) : gpowA y n = ((pm y (n % 1073741789) 2147483579 : Nat) : Int) := by
  rw [gpowA, if_pos ⟨hy, by omega⟩, Int.toNat_natCast, Int.toNat_natCast]
end Go.Proofs.Ytkopinnhicoggaa
