/- impl.ModPow, walked. -/
import Derived.Test.YtkopinnhicoggaaGrpC
import Derived.Test.YtkopinnhicoggaaGrpW
namespace Go.Proofs.Ytkopinnhicoggaa
open Go.RowKit

set_option maxHeartbeats 1000000 in
set_option maxRecDepth 100000 in
theorem implModPow (a n m : Int) (w : World) (hn : n ≤ 9223372036854775807) :
    Calls Try.prog 64 #[.int .i64 a, .int .i64 n, .int .i64 m] w fun e w' => e = .returned (.int .i64 (powA a n m)) ∧ Below w.heap.size w w' := by
  by_cases h1 : a < 0
  · have ea : Hid (powA a n m = 0) := by
      show _ = _
      rw [powA, if_neg (by omega)]
    go_enter Try.func64, Try.ntmps64
    go_wp2
    go_ret
    exact ⟨ret_int ea.out.symm, Below.refl _ _⟩
  by_cases h2 : n < 0
  · have ea : Hid (powA a n m = 0) := by
      show _ = _
      rw [powA, if_neg (by omega)]
    go_enter Try.func64, Try.ntmps64
    go_wp2
    go_ret
    exact ⟨ret_int ea.out.symm, Below.refl _ _⟩
  by_cases h3 : modB m = true
  · obtain ⟨k, rfl, k1, k2⟩ := modB_nat h3
    obtain ⟨x, rfl⟩ := nat_of h1
    obtain ⟨y, rfl⟩ := nat_of h2
    rw [powA_nat x y k h3]
    clear h1 h2
    generalize hz : pm x y k = z
    go_enter Try.func64, Try.ntmps64
    go_wp2_with fail
    refine (implModRight k w).mono ?_
    rintro e w' ⟨rfl, rfl⟩
    rw [h3]
    go_wp2_with fail
    refine (implModulo k _).mono ?_
    rintro e w' ⟨rfl, rfl⟩
    go_wp2_with fail
    refine (implPower _ x y k _ k1 k2 (by omega) (newCell _ _ _)).mono ?_
    rintro e w' ⟨rfl, rfl⟩
    rw [hz]
    clear hz
    go_wp2
    go_ret
    exact ⟨rfl, allocBelow _ _⟩
  · rw [Bool.not_eq_true] at h3
    have ea : Hid (powA a n m = 0) := by
      show _ = _
      rw [powA, if_neg (by rw [h3]; simp)]
    go_enter Try.func64, Try.ntmps64
    go_wp2_with fail
    refine (implModRight m w).mono ?_
    rintro e w' ⟨rfl, rfl⟩
    rw [h3]
    go_wp2
    go_ret
    exact ⟨ret_int ea.out.symm, Below.refl _ _⟩
end Go.Proofs.Ytkopinnhicoggaa
