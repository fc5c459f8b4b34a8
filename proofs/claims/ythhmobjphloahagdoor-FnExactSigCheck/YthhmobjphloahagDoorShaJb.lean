/- impl.beginWork, walked; what a digest is. -/
import Derived.Test.YthhmobjphloahagDoorShaI
namespace Go.Proofs.YthhmobjphloahagDoor
open Go.RowKit

theorem beginW (w : World) :
    Calls Tryd.prog 35 #[] w fun e w' => e = .returned (.agg #[.int .u32 1779033703, .int .u32 3144134277, .int .u32 1013904242, .int .u32 2773480762, .int .u32 1359893119, .int .u32 2600822924, .int .u32 528734635, .int .u32 1541459225, .string ⟨#[]⟩, .int .i64 0]) ∧ Below w.heap.size w w' := by
  go_enter Tryd.func35, Tryd.ntmps35
  go_wp2
  go_returns
  exact ⟨rfl, (Below.refl _ w).alloc (Nat.le_refl _) _⟩
/-- The digest of a text. -/
def digOf (t : ByteArray) : ByteArray := strOfNums (digL (endSt (more st0 t) (restOf t) t.size))
theorem empty_append (t : ByteArray) : ByteArray.empty ++ t = t := by
  apply ByteArray.ext
  simp
end Go.Proofs.YthhmobjphloahagDoor
