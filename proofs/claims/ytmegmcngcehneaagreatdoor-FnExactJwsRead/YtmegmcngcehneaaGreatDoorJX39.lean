/- impl.isTime, NameRight, walked. -/
import Derived.Test.YtmegmcngcehneaaGreatDoorJX04
import Derived.Test.YtmegmcngcehneaaGreatDoorJX24
import Derived.WalkLawsBesides
namespace Go.Proofs.YtmegmcngcehneaaGreatDoor
open Go.RowKit

theorem implTime (n : Int) (w : World) :
    Calls Tryz.prog 37 #[.int .i64 n] w fun e w' => e = .returned (.bool (timeB n)) ∧ w' = w := by
  by_cases h0 : 0 ≤ n
  · by_cases h1 : n ≤ 1000000000
    · have HF : Hid (timeB n = true) := by show _ = _; simp [timeB, h0, h1]
      go_enter Tryz.func37, Tryz.ntmps37
      go_wp2
      go_ret
      exact ⟨by rw [HF.out]; rfl, rfl⟩
    · have HF : Hid (timeB n = false) := by show _ = _; simp [timeB, h1]
      go_enter Tryz.func37, Tryz.ntmps37
      go_wp2
      go_ret
      exact ⟨by rw [HF.out]; rfl, rfl⟩
  · have HF : Hid (timeB n = false) := by show _ = _; simp [timeB, h0]
    go_enter Tryz.func37, Tryz.ntmps37
    go_wp2
    go_ret
    exact ⟨by rw [HF.out]; rfl, rfl⟩
theorem implNameB (s : ByteArray) (w : World) (hs : s.size ≤ maxLen) :
    Calls Tryz.prog 38 #[.string s] w fun e w' => e = .returned (.bool (nameB s)) ∧ w' = w :=
  (implName s w hs).mono fun _ _ h => ⟨ans_name h.1, h.2⟩
end Go.Proofs.YtmegmcngcehneaaGreatDoor
