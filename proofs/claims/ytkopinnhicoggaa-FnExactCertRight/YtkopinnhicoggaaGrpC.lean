/- impl.ModMul, ModPow, ModInv and the specification's, walked. -/
import Derived.Test.YtkopinnhicoggaaGrpB
import Derived.Below
namespace Go.Proofs.Ytkopinnhicoggaa
open Go.RowKit

/-- Is it a modulus? -/
def modB (m : Int) : Bool := decide (2 ≤ m ∧ m ≤ 2147483647)
theorem modB_nat {m : Int} (h : modB m = true) : ∃ k : Nat, m = (k : Int) ∧ 2 ≤ k ∧ k ≤ 2147483647 := by
  unfold modB at h
  have := of_decide_eq_true h
  exact ⟨m.toNat, by omega, by omega, by omega⟩
def mulA (a b m : Int) : Int := if 0 ≤ a ∧ 0 ≤ b ∧ modB m = true then ((a.toNat * b.toNat % m.toNat : Nat) : Int) else 0
def powA (a n m : Int) : Int := if 0 ≤ a ∧ 0 ≤ n ∧ modB m = true then ((pm a.toNat n.toNat m.toNat : Nat) : Int) else 0
def invA (a m : Int) : Int := if modB m = true ∧ 1 ≤ a ∧ a < m then ((pm a.toNat (m.toNat - 2) m.toNat : Nat) : Int) else 0
theorem mulA_nat (a b k : Nat) (h : modB (k : Int) = true) : mulA a b k = ((a * b % k : Nat) : Int) := by
  rw [mulA, if_pos ⟨by omega, by omega, h⟩]; simp
theorem powA_nat (a n k : Nat) (h : modB (k : Int) = true) : powA a n k = ((pm a n k : Nat) : Int) := by
  rw [powA, if_pos ⟨by omega, by omega, h⟩]; simp
theorem invA_nat (a k : Nat) (h : modB (k : Int) = true) (h1 : 1 ≤ a) (h2 : a < k) : invA a k = ((pm a (k - 2) k : Nat) : Int) := by
  rw [invA, if_pos ⟨h, by omega, by omega⟩]; simp
theorem nat_of {a : Int} (h : ¬ a < 0) : ∃ n : Nat, a = (n : Int) := ⟨a.toNat, by omega⟩

theorem implModRight (m : Int) (w : World) :
    Calls Try.prog 79 #[.int .i64 m] w fun e w' => e = .returned (.bool (modB m)) ∧ w' = w := by
  by_cases h1 : 2 ≤ m
  · by_cases h2 : m ≤ 2147483647
    · have e : modB m = true := decide_eq_true ⟨h1, h2⟩
      rw [e]
      go_enter Try.func79, Try.ntmps79
      go_wp2
      go_ret
      exact ⟨rfl, rfl⟩
    · have e : modB m = false := decide_eq_false (by omega)
      rw [e]
      go_enter Try.func79, Try.ntmps79
      go_wp2
      go_ret
      exact ⟨rfl, rfl⟩
  · have e : modB m = false := decide_eq_false (by omega)
    rw [e]
    go_enter Try.func79, Try.ntmps79
    go_wp2
    go_ret
    exact ⟨rfl, rfl⟩
theorem allocBelow (w : World) (o : Obj) : Below w.heap.size w (w.alloc o) := (Below.refl _ w).alloc (Nat.le_refl _) o
theorem newCell (w : World) (v : Value) (t : TypeId) : (w.alloc (.cells #[v] t (0, 0))).cell? ⟨w.heap.size, 0, none⟩ = some v := by simp
end Go.Proofs.Ytkopinnhicoggaa
