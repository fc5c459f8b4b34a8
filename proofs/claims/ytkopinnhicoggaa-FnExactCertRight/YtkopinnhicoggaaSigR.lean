/- A Sig in memory. -/
import Derived.Test.YtkopinnhicoggaaSecP
import Derived.Test.YtkopinnhicoggaaRowK
namespace Go.Proofs.Ytkopinnhicoggaa
open Go.RowKit

theorem sigRow {w : World} {g : Nat} {t : TypeId} {x y z : Value} (hg : w.heap[g]? = some (.cells [x, y, z].toArray t (0, 0))) (a b c : Value) :
    (((w.setCell ⟨g, 0, none⟩ a).setCell ⟨g, 1, none⟩ b).setCell ⟨g, 2, none⟩ c).heap[g]? = some (.cells [a, b, c].toArray t (0, 0)) := rowSet c (rowSet b (rowSet a hg))
theorem sizeSig : (Try.prog.info? 29).map (·.size) = some 3 := by kernel_rfl
end Go.Proofs.Ytkopinnhicoggaa
