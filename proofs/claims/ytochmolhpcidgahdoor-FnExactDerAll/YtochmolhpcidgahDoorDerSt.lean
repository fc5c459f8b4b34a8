/- spec.l05Tag, walked. -/
import Derived.Test.YtochmolhpcidgahDoorDerS
namespace Go.Proofs.YtochmolhpcidgahDoor
open Go.RowKit Go.Lib

theorem specTag (n : Int) (w : World) :
    Calls Tryd.prog 22 #[.int .i64 n] w fun e w' => e = .returned (.bool (tagB n)) ∧ w' = w := by
  by_cases h1 : 0 ≤ n ∧ n ≤ 255
  · obtain ⟨h1, h2⟩ := h1
    have e1 : (decide (0 ≤ n) && decide (n ≤ 255)) = true := by simp [h1, h2]
    have e2 : n.tmod 32 = n % 32 := Int.tmod_eq_emod_of_nonneg h1
    have HF : Hid (tagB n = decide (n % 32 ≠ 31)) := by unfold Hid tagB; rw [e1]; rfl
    go_enter Tryd.func22, Tryd.ntmps22
    go_wp2_with fail
    refine (specIs _ _ _ _).mono ?_
    rintro e w' ⟨rfl, rfl⟩
    rw [e1]
    go_wp2
    go_ret
    exact ⟨by rw [HF.out]; simp [bne, BEq.beq], rfl⟩
  · have e1 : (decide (0 ≤ n) && decide (n ≤ 255)) = false := by simp; omega
    have HF : Hid (tagB n = false) := by unfold Hid tagB; rw [e1]; rfl
    go_enter Tryd.func22, Tryd.ntmps22
    go_wp2_with fail
    refine (specIs _ _ _ _).mono ?_
    rintro e w' ⟨rfl, rfl⟩
    rw [e1]
    go_wp2
    go_ret
    exact ⟨by rw [HF.out]; rfl, rfl⟩
end Go.Proofs.YtochmolhpcidgahDoor
