/- When a Hash is right. -/
import Derived.Test.YtbkkjgpaccfplaaDoorHashZ
namespace Go.Proofs.YtbkkjgpaccfplaaDoor
open Go.RowKit

/-- Is a Hash of these numbers, of a rest of so many bytes and of that size right? -/
def rightB (zs : List Int) (rs : Nat) (z : Int) : Bool := decide (zs.length = 8 ∧ 0 ≤ z ∧ z ≤ 1099511627776 ∧ (rs : Int) = z % 64) && (List.range 8).all fun i => decide (0 ≤ zs.getD i 0 ∧ zs.getD i 0 ≤ 4294967295)
theorem right_iff (zs : List Int) (rs : Nat) (z : Int) : rightB zs rs z = true ↔ (zs.length = 8 ∧ 0 ≤ z ∧ z ≤ 1099511627776 ∧ (rs : Int) = z % 64 ∧ ∀ i, i < 8 → 0 ≤ zs.getD i 0 ∧ zs.getD i 0 ≤ 4294967295) := by
  unfold rightB
  rw [Bool.and_eq_true, decide_eq_true_iff, List.all_eq_true]
  simp only [List.mem_range, decide_eq_true_iff, and_assoc]
theorem right_true {zs : List Int} {rs : Nat} {z : Int} (h : zs.length = 8 ∧ 0 ≤ z ∧ z ≤ 1099511627776 ∧ (rs : Int) = z % 64 ∧ ∀ i, i < 8 → 0 ≤ zs.getD i 0 ∧ zs.getD i 0 ≤ 4294967295) : rightB zs rs z = true := (right_iff zs rs z).2 h
theorem right_false {zs : List Int} {rs : Nat} {z : Int} (h : ¬ (zs.length = 8 ∧ 0 ≤ z ∧ z ≤ 1099511627776 ∧ (rs : Int) = z % 64 ∧ ∀ i, i < 8 → 0 ≤ zs.getD i 0 ∧ zs.getD i 0 ≤ 4294967295)) : rightB zs rs z = false := by
  cases e : rightB zs rs z with
  | false => rfl
  | true => exact absurd ((right_iff zs rs z).1 e) h
theorem ret_bool {a b : Bool} (h : a = b) : Ending.returned (.bool a) = .returned (.bool b) := by rw [h]

end Go.Proofs.YtbkkjgpaccfplaaDoor
