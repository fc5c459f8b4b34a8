/- impl.ModInv, walked. -/
import Derived.Test.YtbkkjgpaccfplaaGrpC
import Derived.Test.YtbkkjgpaccfplaaGrpW
namespace Go.Proofs.Ytbkkjgpaccfplaa
open Go.RowKit

set_option maxHeartbeats 1000000 in
set_option maxRecDepth 100000 in
theorem implModInv (a m : Int) (w : World) :
    Calls Try.prog 17 #[.int .i64 a, .int .i64 m] w fun e w' => e = .returned (.int .i64 (invA a m)) ∧ Below w.heap.size w w' := by
  by_cases h3 : modB m = true
  · by_cases h1 : a < 1
    · skip
      have ea : Hid (invA a m = 0) := by
        show _ = _
        rw [invA, if_neg (by omega)]
      go_enter Try.func17, Try.ntmps17
      go_wp2_with fail
      refine (implModRight m w).mono ?_
      rintro e w' ⟨rfl, rfl⟩
      rw [h3]
      go_wp2
      go_ret
      exact ⟨ret_int ea.out.symm, Below.refl _ _⟩
    by_cases h2 : m ≤ a
    · skip
      have ea : Hid (invA a m = 0) := by
        show _ = _
        rw [invA, if_neg (by omega)]
      go_enter Try.func17, Try.ntmps17
      go_wp2_with fail
      refine (implModRight m w).mono ?_
      rintro e w' ⟨rfl, rfl⟩
      rw [h3]
      go_wp2
      go_ret
      exact ⟨ret_int ea.out.symm, Below.refl _ _⟩
    obtain ⟨k, rfl, k1, k2⟩ := modB_nat h3
    obtain ⟨x, rfl⟩ := nat_of (show ¬ a < 0 by omega)
    rw [invA_nat x k h3 (by omega) (by omega)]
    have e2 : (k : Int) - 2 = ((k - 2 : Nat) : Int) := by omega
    generalize hz : pm x (k - 2) k = z
    generalize hy : k - 2 = y at *
    go_enter Try.func17, Try.ntmps17
    go_wp2_with fail
    refine (implModRight k w).mono ?_
    rintro e w' ⟨rfl, rfl⟩
    rw [h3]
    go_wp2_with fail
    refine (implModulo k _).mono ?_
    rintro e w' ⟨rfl, rfl⟩
    go_wp2_with fail
    refine (implPower _ x y k _ k1 k2 (by omega) (newCell _ _ _)).mono ?_
    rintro e w' ⟨rfl, rfl⟩
    rw [hz]
    clear hz
    go_wp2
    go_ret
    exact ⟨rfl, allocBelow _ _⟩
  · rw [Bool.not_eq_true] at h3
    have ea : Hid (invA a m = 0) := by
      show _ = _
      rw [invA, if_neg (by rw [h3]; simp)]
    go_enter Try.func17, Try.ntmps17
    go_wp2_with fail
    refine (implModRight m w).mono ?_
    rintro e w' ⟨rfl, rfl⟩
    rw [h3]
    go_wp2
    go_ret
    exact ⟨ret_int ea.out.symm, Below.refl _ _⟩
end Go.Proofs.Ytbkkjgpaccfplaa
