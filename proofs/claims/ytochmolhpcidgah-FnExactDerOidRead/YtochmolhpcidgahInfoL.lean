/- What the program's table of types says of int64. -/
import Derived.Test.YtochmolhpcidgahBase
namespace Go.Proofs.Ytochmolhpcidgah
open Go.RowKit
theorem infoLong : (Try.prog.info? 2).map (fun i => (i.zero, i.size, i.bytes)) = some (some (.int .i64 0), 1, 8) := by kernel_rfl
end Go.Proofs.Ytochmolhpcidgah
