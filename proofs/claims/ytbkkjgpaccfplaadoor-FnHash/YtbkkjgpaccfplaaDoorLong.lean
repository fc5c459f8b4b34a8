/- impl.tooLong, walked. -/
import Derived.Test.YtbkkjgpaccfplaaDoorBase
namespace Go.Proofs.YtbkkjgpaccfplaaDoor
open Go.RowKit

theorem tooLong (s : ByteArray) (w : World) (hs : s.size ≤ maxLen) :
    Calls Tryd.prog 32 #[.string s] w fun e w' => e = .returned (.bool (decide (20000 < s.size))) ∧ w' = w := by
  unfold maxLen at hs
  go_enter Tryd.func32, Tryd.ntmps32
  go_wp2
  go_ret
  exact ⟨by simp; omega, rfl⟩
end Go.Proofs.YtbkkjgpaccfplaaDoor
