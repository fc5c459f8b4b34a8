/- spec.HashBegin, walked. -/
import Derived.Test.YthhmobjphloahagDoorShaM
import Derived.Test.YthhmobjphloahagDoorShaJb
namespace Go.Proofs.YthhmobjphloahagDoor
open Go.RowKit

theorem specBegin0 (w : World) :
    Calls Tryd.prog 41 #[] w fun e w' => ∃ g, e = .returned (.agg #[.slice (some ⟨g, 0, none⟩) 8 8, .string ByteArray.empty, .int .i64 0]) ∧ w.heap.size ≤ g ∧ w'.heap[g]? = some (.cells (iCells st0).toArray 2 (0, 0)) ∧ Below w.heap.size w w' := by
  go_enter Tryd.func41, Tryd.ntmps41
  go_wp2
  go_returns
  exact ⟨w.heap.size + 1, rfl, by omega, heap_alloc2 w _ _, ((Below.refl _ w).alloc (Nat.le_refl _) _).alloc (by simp) _⟩
end Go.Proofs.YthhmobjphloahagDoor
