/- spec.ModMul, walked. -/
import Derived.Test.YtbkkjgpaccfplaaGrpC
namespace Go.Proofs.Ytbkkjgpaccfplaa
open Go.RowKit

set_option maxHeartbeats 1000000 in
set_option maxRecDepth 100000 in
theorem specModMul (a b m : Int) (w : World) :
    Calls Try.prog 12 #[.int .i64 a, .int .i64 b, .int .i64 m] w fun e w' => e = .returned (.int .i64 (mulA a b m)) ∧ Below w.heap.size w w' := by
  by_cases h1 : a < 0
  · have ea : Hid (mulA a b m = 0) := by
      show _ = _
      rw [mulA, if_neg (by omega)]
    go_enter Try.func12, Try.ntmps12
    go_wp2
    go_ret
    exact ⟨ret_int ea.out.symm, Below.refl _ _⟩
  by_cases h2 : b < 0
  · have ea : Hid (mulA a b m = 0) := by
      show _ = _
      rw [mulA, if_neg (by omega)]
    go_enter Try.func12, Try.ntmps12
    go_wp2
    go_ret
    exact ⟨ret_int ea.out.symm, Below.refl _ _⟩
  by_cases h3 : modB m = true
  · obtain ⟨k, rfl, k1, k2⟩ := modB_nat h3
    obtain ⟨x, rfl⟩ := nat_of h1
    obtain ⟨y, rfl⟩ := nat_of h2
    rw [mulA_nat x y k h3]
    clear h1 h2
    obtain ⟨p, hp, ep, lp, up⟩ := prod_bd (x % k) (y % k) (by have := Nat.mod_lt x (show 0 < k by omega); omega) (by have := Nat.mod_lt y (show 0 < k by omega); omega)
    have HF : Hid (p % k = x * y % k) := by rw [hp]; exact mm x y k
    have t1 := tmodN x k
    have t2 := tmodN y k
    have t3 := tmodN p k
    have h0 : ((k : Int) == 0) = false := by rw [beq_eq_false_iff_ne]; omega
    rw [Int.natCast_emod, Int.natCast_emod] at ep
    clear hp
    go_enter Try.func12, Try.ntmps12
    go_wp2_with fail
    refine (specMod k w).mono ?_
    rintro e w' ⟨rfl, rfl⟩
    rw [h3]
    go_wp2
    go_region
    go_wp2
    go_ret
    exact ⟨ret_int (by rw [← HF.out]; rfl), (Below.refl _ _).drew⟩
  · rw [Bool.not_eq_true] at h3
    have ea : Hid (mulA a b m = 0) := by
      show _ = _
      rw [mulA, if_neg (by rw [h3]; simp)]
    go_enter Try.func12, Try.ntmps12
    go_wp2_with fail
    refine (specMod m w).mono ?_
    rintro e w' ⟨rfl, rfl⟩
    rw [h3]
    go_wp2
    go_ret
    exact ⟨ret_int ea.out.symm, Below.refl _ _⟩
end Go.Proofs.Ytbkkjgpaccfplaa
