/- What the program's table of types says of int64. -/
import Derived.Test.YthhmobjphloahagDoorBase
namespace Go.Proofs.YthhmobjphloahagDoor
open Go.RowKit
theorem infoLong : (Tryd.prog.info? 2).map (fun i => (i.zero, i.size, i.bytes)) = some (some (.int .i64 0), 1, 8) := by kernel_rfl
end Go.Proofs.YthhmobjphloahagDoor
