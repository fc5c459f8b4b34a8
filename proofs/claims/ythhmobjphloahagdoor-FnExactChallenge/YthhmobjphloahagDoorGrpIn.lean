/- spec.l03In, walked. -/
import Derived.Test.YthhmobjphloahagDoorGrpH
namespace Go.Proofs.YthhmobjphloahagDoor
open Go.RowKit

theorem specIn (y : Int) (w : World) :
    Calls Tryd.prog 14 #[.int .i64 y] w fun e w' => e = .returned (.bool (unitB y)) ∧ w' = w := by
  by_cases h1 : 1 ≤ y
  · by_cases h2 : y < 2147483579
    · have e : unitB y = true := decide_eq_true ⟨h1, h2⟩
      rw [e]
      go_enter Tryd.func14, Tryd.ntmps14
      go_wp2
      go_ret
      exact ⟨rfl, rfl⟩
    · have e : unitB y = false := decide_eq_false (by omega)
      rw [e]
      go_enter Tryd.func14, Tryd.ntmps14
      go_wp2
      go_ret
      exact ⟨rfl, rfl⟩
  · have e : unitB y = false := decide_eq_false (by omega)
    rw [e]
    go_enter Tryd.func14, Tryd.ntmps14
    go_wp2
    go_ret
    exact ⟨rfl, rfl⟩
end Go.Proofs.YthhmobjphloahagDoor
