/- spec.DerGet, walked. -/
import Derived.Test.YtochmolhpcidgahDoorDerGb
namespace Go.Proofs.YtochmolhpcidgahDoor
open Go.RowKit Go.Lib

set_option maxHeartbeats 1000000 in
set_option maxRecDepth 100000 in
theorem specDerGet (s : ByteArray) (p : Int) (w : World) (hs : s.size ≤ maxLen) :
    Calls Tryd.prog 5 #[.string s, .int .i64 p] w fun e w' => e = .returned (getD s p).val ∧ Below w.heap.size w w' := by
  unfold maxLen at hs
  by_cases h1 : 20000 < s.size
  · have HF : Hid (getD s p = .bad 2) := if_pos h1
    go_enter Tryd.func5, Tryd.ntmps5
    go_wp2
    refine bodyPost_ret (v := GetR.val (.bad 2)) (by simp [GetR.val, GetR.bad, results, Tryd.results5, go_sem]) rfl ⟨by rw [HF.out], ?_⟩
    repeat (first | exact Below.refl _ _ | refine Below.drew ?_ | refine Below.setCell ?_ (by simp <;> omega) _ | refine Below.alloc ?_ (by simp <;> omega) _)
  by_cases h2 : p < 0
  · have HF : Hid (getD s p = .bad 1) := by unfold Hid getD; rw [if_neg h1, if_pos h2]
    go_enter Tryd.func5, Tryd.ntmps5
    go_wp2
    refine bodyPost_ret (v := GetR.val (.bad 1)) (by simp [GetR.val, GetR.bad, results, Tryd.results5, go_sem]) rfl ⟨by rw [HF.out], ?_⟩
    repeat (first | exact Below.refl _ _ | refine Below.drew ?_ | refine Below.setCell ?_ (by simp <;> omega) _ | refine Below.alloc ?_ (by simp <;> omega) _)
  · obtain ⟨k, rfl⟩ := Int.eq_ofNat_of_zero_le (show 0 ≤ p by omega)
    have HF : Hid (getD s (k : Int) = getAt s k) := by unfold Hid getD; rw [if_neg h1, if_neg h2]; rfl
    have HB : Hid (∀ v : World, Calls Tryd.prog 13 #[.string s, .int .i64 (k : Int)] v fun e w' => e = .returned (getAt s k).val ∧ Below v.heap.size v w') := fun v => specGetAt s k v (by omega)
    generalize getAt s k = r at *
    obtain ⟨r0, r1, r2, r3⟩ := r
    unfold GetR.val at HB
    simp only at HB
    go_enter Tryd.func5, Tryd.ntmps5
    go_wp2_with fail
    refine (HB.out _).mono ?_
    rintro e w1 ⟨rfl, hb1⟩
    obtain ⟨hr, hB, _⟩ := resKeep (cs := [.int .i64 0, .string ⟨#[]⟩, .int .i64 0, .int .i64 0]) (T := 25) hb1
    obtain ⟨⟨c0, c1, c2, c3⟩, f0, f1, f2, f3⟩ := row4 hr
    clear hb1 hr
    go_wp2
    refine bodyPost_ret (v := GetR.val ⟨r0, r1, r2, r3⟩) (by simp [GetR.val, results, Tryd.results5, go_sem, c0, c1, c2, c3]) rfl ⟨by rw [HF.out], ?_⟩
    repeat (first | exact hB | refine Below.setCell ?_ (by simp) _)
end Go.Proofs.YtochmolhpcidgahDoor
