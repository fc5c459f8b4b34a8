/- spec.GroupMul and spec.GroupPow, walked. -/
import Derived.Test.YtbkkjgpaccfplafGrpH
namespace Go.Proofs.Ytbkkjgpaccfplaf
open Go.RowKit

theorem specIn (y : Int) (w : World) :
    Calls Try.prog 24 #[.int .i64 y] w fun e w' => e = .returned (.bool (unitB y)) ∧ w' = w := by
  by_cases h1 : 1 ≤ y
  · by_cases h2 : y < 2147483579
    · have e : unitB y = true := decide_eq_true ⟨h1, h2⟩
      rw [e]
      go_enter Try.func24, Try.ntmps24
      go_wp2
      go_ret
      exact ⟨rfl, rfl⟩
    · have e : unitB y = false := decide_eq_false (by omega)
      rw [e]
      go_enter Try.func24, Try.ntmps24
      go_wp2
      go_ret
      exact ⟨rfl, rfl⟩
  · have e : unitB y = false := decide_eq_false (by omega)
    rw [e]
    go_enter Try.func24, Try.ntmps24
    go_wp2
    go_ret
    exact ⟨rfl, rfl⟩
set_option maxHeartbeats 1000000 in
set_option maxRecDepth 100000 in
theorem specGroupMul (a b : Int) (w : World) :
    Calls Try.prog 14 #[.int .i64 a, .int .i64 b] w fun e w' => e = .returned (.int .i64 (gmulA a b)) ∧ Below w.heap.size w w' := by
  by_cases h1 : unitB a = true
  · by_cases h2 : unitB b = true
    · obtain ⟨x, rfl, x1, x2⟩ := unitB_nat h1
      obtain ⟨y, rfl, y1, y2⟩ := unitB_nat h2
      rw [gmulA_nat x y h1 h2]
      obtain ⟨p, hp, ep, lp, up⟩ := prod_bd x y (by omega) (by omega)
      have t1 : (p : Int).tmod 2147483579 = ((p % 2147483579 : Nat) : Int) := tmodN p 2147483579
      rw [← hp]
      clear hp
      go_enter Try.func14, Try.ntmps14
      go_wp2_with fail
      refine (specIn x _).mono ?_
      rintro e w' ⟨rfl, rfl⟩
      rw [h1]
      go_wp2_with fail
      refine (specIn y _).mono ?_
      rintro e w' ⟨rfl, rfl⟩
      rw [h2]
      go_wp2
      go_ret
      exact ⟨rfl, Below.refl _ _⟩
    · rw [Bool.not_eq_true] at h2
      have ea : Hid (gmulA a b = 0) := by
        show _ = _
        rw [gmulA, if_neg (by rw [h2]; simp)]
      go_enter Try.func14, Try.ntmps14
      go_wp2_with fail
      refine (specIn a _).mono ?_
      rintro e w' ⟨rfl, rfl⟩
      rw [h1]
      go_wp2_with fail
      refine (specIn b _).mono ?_
      rintro e w' ⟨rfl, rfl⟩
      rw [h2]
      go_wp2
      go_ret
      exact ⟨ret_int ea.out.symm, Below.refl _ _⟩
  · rw [Bool.not_eq_true] at h1
    have ea : Hid (gmulA a b = 0) := by
      show _ = _
      rw [gmulA, if_neg (by rw [h1]; simp)]
    go_enter Try.func14, Try.ntmps14
    go_wp2_with fail
    refine (specIn a _).mono ?_
    rintro e w' ⟨rfl, rfl⟩
    rw [h1]
    go_wp2
    go_ret
    exact ⟨ret_int ea.out.symm, Below.refl _ _⟩
set_option maxHeartbeats 1000000 in
set_option maxRecDepth 100000 in
theorem specGroupPow (y n : Int) (w : World) (hn : n ≤ 9223372036854775807) :
    Calls Try.prog 16 #[.int .i64 y, .int .i64 n] w fun e w' => e = .returned (.int .i64 (gpowA y n)) ∧ Below w.heap.size w w' := by
  by_cases h1 : unitB y = true
  · by_cases h2 : n < 0
    · have ea : Hid (gpowA y n = 0) := by
        show _ = _
        rw [gpowA, if_neg (by omega)]
      go_enter Try.func16, Try.ntmps16
      go_wp2_with fail
      refine (specIn y _).mono ?_
      rintro e w' ⟨rfl, rfl⟩
      rw [h1]
      go_wp2
      go_ret
      exact ⟨ret_int ea.out.symm, Below.refl _ _⟩
    · obtain ⟨x, rfl, x1, x2⟩ := unitB_nat h1
      obtain ⟨k, rfl⟩ := nat_of h2
      rw [gpowA_nat x k h1]
      have t1 : (k : Int).tmod 1073741789 = ((k % 1073741789 : Nat) : Int) := tmodN k 1073741789
      have hb1 : k % 1073741789 ≤ 9223372036854775807 := by omega
      generalize k % 1073741789 = j at *
      have HC : Hid (∀ v : World, Calls Try.prog 19 #[.int .i64 (x : Int), .int .i64 (j : Int), .int .i64 2147483579] v fun e w' => e = .returned (.int .i64 ((pm x j 2147483579 : Nat) : Int)) ∧ w' = v) := fun v => specPow x j 2147483579 v (by omega) (by omega) (by omega)
      generalize pm x j 2147483579 = z at *
      go_enter Try.func16, Try.ntmps16
      go_wp2_with fail
      refine (specIn x _).mono ?_
      rintro e w' ⟨rfl, rfl⟩
      rw [h1]
      go_wp2_with fail
      refine (HC.out _).mono ?_
      rintro e w' ⟨rfl, rfl⟩
      go_wp2
      go_ret
      exact ⟨rfl, Below.refl _ _⟩
  · rw [Bool.not_eq_true] at h1
    have ea : Hid (gpowA y n = 0) := by
      show _ = _
      rw [gpowA, if_neg (by rw [h1]; simp)]
    go_enter Try.func16, Try.ntmps16
    go_wp2_with fail
    refine (specIn y _).mono ?_
    rintro e w' ⟨rfl, rfl⟩
    rw [h1]
    go_wp2
    go_ret
    exact ⟨ret_int ea.out.symm, Below.refl _ _⟩
end Go.Proofs.Ytbkkjgpaccfplaf
