/- spec.l05Is, walked. -/
import Derived.Test.YtkopinnhicoggaaBase
import Derived.Test.YtkopinnhicoggaaDerP
namespace Go.Proofs.Ytkopinnhicoggaa
open Go.RowKit Go.Lib

theorem specIs (n l h : Int) (w : World) :
    Calls Try.prog 35 #[.int .i64 n, .int .i64 l, .int .i64 h] w fun e w' => e = .returned (.bool (decide (l ≤ n) && decide (n ≤ h))) ∧ w' = w := by
  by_cases h1 : l ≤ n
  · go_enter Try.func35, Try.ntmps35
    go_wp2
    go_ret
    exact ⟨by simp [h1], rfl⟩
  · go_enter Try.func35, Try.ntmps35
    go_wp2
    go_ret
    exact ⟨by simp; omega, rfl⟩
end Go.Proofs.Ytkopinnhicoggaa
