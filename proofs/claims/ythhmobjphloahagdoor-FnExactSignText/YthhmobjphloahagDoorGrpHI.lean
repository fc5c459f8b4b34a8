/- impl.GroupMul and impl.GroupPow, walked. -/
import Derived.Test.YthhmobjphloahagDoorGrpHP
import Derived.Test.YthhmobjphloahagDoorGrpMulI
namespace Go.Proofs.YthhmobjphloahagDoor
open Go.RowKit

set_option maxHeartbeats 1000000 in
set_option maxRecDepth 100000 in
theorem implGroupMul (a b : Int) (w : World) :
    Calls Tryd.prog 48 #[.int .i64 a, .int .i64 b] w fun e w' => e = .returned (.int .i64 (gmulA a b)) ∧ Below w.heap.size w w' := by
  by_cases h1 : unitB a = true
  · by_cases h2 : unitB b = true
    · obtain ⟨x, rfl, x1, x2⟩ := unitB_nat h1
      obtain ⟨y, rfl, y1, y2⟩ := unitB_nat h2
      rw [gmulA_nat x y h1 h2]
      have HC : Hid (∀ v : World, Calls Tryd.prog 57 #[.int .i64 (x : Int), .int .i64 (y : Int), .int .i64 2147483579] v fun e w' => e = .returned (.int .i64 ((x * y % 2147483579 : Nat) : Int)) ∧ Below v.heap.size v w') := fun v => by
        have h := implModMul x y 2147483579 v
        rw [show (2147483579 : Int) = ((2147483579 : Nat) : Int) from rfl, mulA_nat x y 2147483579 modP] at h
        exact h
      generalize x * y % 2147483579 = z at *
      go_enter Tryd.func48, Tryd.ntmps48
      go_wp2_with fail
      refine (implUnit x _).mono ?_
      rintro e w' ⟨rfl, rfl⟩
      rw [h1]
      go_wp2_with fail
      refine (implUnit y _).mono ?_
      rintro e w' ⟨rfl, rfl⟩
      rw [h2]
      go_wp2_with fail
      refine (HC.out _).mono ?_
      rintro e w' ⟨rfl, hb⟩
      have HB : Hid _ := hb
      clear hb
      go_wp2
      go_ret
      exact ⟨rfl, HB.out⟩
    · rw [Bool.not_eq_true] at h2
      have ea : Hid (gmulA a b = 0) := by
        show _ = _
        rw [gmulA, if_neg (by rw [h2]; simp)]
      go_enter Tryd.func48, Tryd.ntmps48
      go_wp2_with fail
      refine (implUnit a _).mono ?_
      rintro e w' ⟨rfl, rfl⟩
      rw [h1]
      go_wp2_with fail
      refine (implUnit b _).mono ?_
      rintro e w' ⟨rfl, rfl⟩
      rw [h2]
      go_wp2
      go_ret
      exact ⟨ret_int ea.out.symm, Below.refl _ _⟩
  · rw [Bool.not_eq_true] at h1
    have ea : Hid (gmulA a b = 0) := by
      show _ = _
      rw [gmulA, if_neg (by rw [h1]; simp)]
    go_enter Tryd.func48, Tryd.ntmps48
    go_wp2_with fail
    refine (implUnit a _).mono ?_
    rintro e w' ⟨rfl, rfl⟩
    rw [h1]
    go_wp2
    go_ret
    exact ⟨ret_int ea.out.symm, Below.refl _ _⟩
end Go.Proofs.YthhmobjphloahagDoor
