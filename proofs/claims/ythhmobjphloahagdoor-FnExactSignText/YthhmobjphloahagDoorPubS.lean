/- spec.PublicOf, walked. -/
import Derived.Test.YthhmobjphloahagDoorSecS
import Derived.Test.YthhmobjphloahagDoorGrpA
namespace Go.Proofs.YthhmobjphloahagDoor
open Go.RowKit

set_option maxHeartbeats 1000000 in
set_option maxRecDepth 100000 in
theorem specPublic (x : Int) (w : World) :
    Calls Tryd.prog 24 #[.int .i64 x] w fun e w' => e = .returned (.int .i64 (pubA x)) ∧ w' = w := by
  by_cases h : secB x = true
  · obtain ⟨n, rfl, n1, n2⟩ := secB_nat h
    rw [pubA_nat n h]
    have HP : Hid (∀ v : World, Calls Tryd.prog 25 #[.int .i64 4, .int .i64 (n : Int), .int .i64 2147483579] v fun e w' => e = .returned (.int .i64 ((pm 4 n 2147483579 : Nat) : Int)) ∧ w' = v) := fun v => specPow 4 n 2147483579 v (by omega) (by omega) (by omega)
    generalize pm 4 n 2147483579 = z at *
    go_enter Tryd.func24, Tryd.ntmps24
    go_wp2_with fail
    refine (specSecret n w).mono ?_
    rintro e w' ⟨rfl, rfl⟩
    rw [h]
    go_wp2_with fail
    refine (HP.out _).mono ?_
    rintro e w2 ⟨rfl, rfl⟩
    go_wp2
    go_ret
    exact ⟨rfl, rfl⟩
  · rw [Bool.not_eq_true] at h
    have ea : Hid (pubA x = 0) := by
      show _ = _
      rw [pubA, if_neg (by rw [h]; simp)]
    go_enter Tryd.func24, Tryd.ntmps24
    go_wp2_with fail
    refine (specSecret x w).mono ?_
    rintro e w' ⟨rfl, rfl⟩
    rw [h]
    go_wp2
    go_ret
    exact ⟨ret_int ea.out.symm, rfl⟩
end Go.Proofs.YthhmobjphloahagDoor
