/- laws.toSig, walked. -/
import Derived.Test.YtkopinnhicoggaaSigR
import Derived.Handy
import Derived.Test.YtkopinnhicoggaaGrpC
namespace Go.Proofs.Ytkopinnhicoggaa
open Go.RowKit

set_option maxHeartbeats 1000000 in
set_option maxRecDepth 100000 in
theorem toSig (k e s : Int) (w : World) :
    Calls Try.prog 19 #[.agg #[.int .i64 k, .int .i64 e, .int .i64 s]] w fun r w' => r = .returned (.agg #[.int .i64 k, .int .i64 e, .int .i64 s]) ∧ Below w.heap.size w w' := by
  go_enter Try.func19, Try.ntmps19
  go_wp2
  go_returns
  refine ⟨rfl, ?_⟩
  repeat' first | exact Below.refl _ _ | refine Below.setCell ?_ (by simp) _ | refine Below.alloc ?_ (by simp; try omega) _
end Go.Proofs.Ytkopinnhicoggaa
