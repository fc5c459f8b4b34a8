/- spec.Challenge, walked. -/
import Derived.Test.YthhmobjphloahagDoorSigCS
import Derived.Test.YthhmobjphloahagDoorGrpIn
namespace Go.Proofs.YthhmobjphloahagDoor
open Go.RowKit

set_option maxHeartbeats 1000000 in
set_option maxRecDepth 100000 in
theorem specChallenge (r key : Int) (t : ByteArray) (w : World) (ht : t.size ≤ maxLen) :
    Calls Tryd.prog 6 #[.int .i64 r, .int .i64 key, .string t] w fun e w' => e = .returned (.int .i64 (challA r key t)) ∧ Below w.heap.size w w' := by
  unfold maxLen at ht
  by_cases h1 : 20000 < t.size
  · have ea : Hid (challA r key t = 0) := by
      show _ = _
      rw [challA, if_neg (by omega)]
    go_enter Tryd.func6, Tryd.ntmps6
    go_wp2
    go_ret
    exact ⟨ret_int ea.out.symm, Below.refl _ _⟩
  by_cases h2 : unitB r = true
  · by_cases h3 : unitB key = true
    · have ea : Hid (challA r key t = (chal r key t : Int)) := by
        show _ = _
        rw [challA, if_pos ⟨by omega, h2, h3⟩]
      have b2 : 1 ≤ r ∧ r < 2147483579 := of_decide_eq_true h2
      have b3 : 1 ≤ key ∧ key < 2147483579 := of_decide_eq_true h3
      have HX : Hid (∀ v : World, Calls Tryd.prog 15 #[.int .i64 r, .int .i64 key, .string t] v fun e w' => e = .returned (.int .i64 (chal r key t : Int)) ∧ Below v.heap.size v w') := fun v => specChal r key t v (by omega) (by omega) (by omega) (by omega) (by omega)
      generalize chal r key t = c at *
      clear b2 b3
      go_enter Tryd.func6, Tryd.ntmps6
      go_wp2_with fail
      refine (specIn r _).mono ?_
      rintro e w' ⟨rfl, rfl⟩
      rw [h2]
      go_wp2_with fail
      refine (specIn key _).mono ?_
      rintro e w' ⟨rfl, rfl⟩
      rw [h3]
      go_wp2_with fail
      refine (HX.out _).mono ?_
      rintro e w1 ⟨rfl, hb1⟩
      have HB : Hid _ := hb1
      clear hb1
      go_wp2
      go_ret
      exact ⟨ret_int ea.out.symm, HB.out⟩
    · rw [Bool.not_eq_true] at h3
      have ea : Hid (challA r key t = 0) := by
        show _ = _
        rw [challA, if_neg (by rw [h3]; simp)]
      go_enter Tryd.func6, Tryd.ntmps6
      go_wp2_with fail
      refine (specIn r _).mono ?_
      rintro e w' ⟨rfl, rfl⟩
      rw [h2]
      go_wp2_with fail
      refine (specIn key _).mono ?_
      rintro e w' ⟨rfl, rfl⟩
      rw [h3]
      go_wp2
      go_ret
      exact ⟨ret_int ea.out.symm, Below.refl _ _⟩
  · rw [Bool.not_eq_true] at h2
    have ea : Hid (challA r key t = 0) := by
      show _ = _
      rw [challA, if_neg (by rw [h2]; simp)]
    go_enter Tryd.func6, Tryd.ntmps6
    go_wp2_with fail
    refine (specIn r _).mono ?_
    rintro e w' ⟨rfl, rfl⟩
    rw [h2]
    go_wp2
    go_ret
    exact ⟨ret_int ea.out.symm, Below.refl _ _⟩
end Go.Proofs.YthhmobjphloahagDoor
