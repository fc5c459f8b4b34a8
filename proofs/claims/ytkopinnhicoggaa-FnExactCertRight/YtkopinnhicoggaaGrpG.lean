/- impl.isUnit, GroupRight and spec.GroupRight, walked. -/
import Derived.Test.YtkopinnhicoggaaGrpPowI
import Derived.Test.YtkopinnhicoggaaGrpA
namespace Go.Proofs.Ytkopinnhicoggaa
open Go.RowKit

def unitB (y : Int) : Bool := decide (1 ≤ y ∧ y < 2147483579)
def rightG (y : Int) : Bool := decide (1 < y ∧ y < 2147483579 ∧ pm y.toNat 1073741789 2147483579 = 1)
theorem modP : modB (2147483579 : Int) = true := rfl
theorem rightG_pos {x : Nat} (h1 : 1 < x) (h2 : x < 2147483579) (h3 : pm x 1073741789 2147483579 = 1) : rightG (x : Int) = true := by
  unfold rightG
  exact decide_eq_true ⟨by omega, by omega, by rw [Int.toNat_natCast]; exact h3⟩
theorem rightG_neg {x : Nat} (h3 : ¬ pm x 1073741789 2147483579 = 1) : rightG (x : Int) = false := by
  unfold rightG
  exact decide_eq_false fun h => h3 (by have := h.2.2; rw [Int.toNat_natCast] at this; exact this)
theorem rightG_out {y : Int} (h : ¬ (1 < y ∧ y < 2147483579)) : rightG y = false := by
  unfold rightG
  exact decide_eq_false fun h' => h ⟨h'.1, h'.2.1⟩
theorem rightG_nat {y : Int} (h : rightG y = true) : ∃ x : Nat, y = (x : Int) ∧ 1 < x ∧ x < 2147483579 ∧ pm x 1073741789 2147483579 = 1 := by
  unfold rightG at h
  have h' := of_decide_eq_true h
  exact ⟨y.toNat, by omega, by omega, by omega, h'.2.2⟩
theorem implUnit (y : Int) (w : World) :
    Calls Try.prog 63 #[.int .i64 y] w fun e w' => e = .returned (.bool (unitB y)) ∧ w' = w := by
  by_cases h1 : 1 ≤ y
  · by_cases h2 : y < 2147483579
    · have e : unitB y = true := decide_eq_true ⟨h1, h2⟩
      rw [e]
      go_enter Try.func63, Try.ntmps63
      go_wp2
      go_ret
      exact ⟨rfl, rfl⟩
    · have e : unitB y = false := decide_eq_false (by omega)
      rw [e]
      go_enter Try.func63, Try.ntmps63
      go_wp2
      go_ret
      exact ⟨rfl, rfl⟩
  · have e : unitB y = false := decide_eq_false (by omega)
    rw [e]
    go_enter Try.func63, Try.ntmps63
    go_wp2
    go_ret
    exact ⟨rfl, rfl⟩
set_option maxHeartbeats 1000000 in
set_option maxRecDepth 100000 in
theorem implGroupRight (y : Int) (w : World) :
    Calls Try.prog 43 #[.int .i64 y] w fun e w' => e = .returned (.bool (rightG y)) ∧ Below w.heap.size w w' := by
  by_cases h1 : unitB y = true
  · have h1' : 1 ≤ y ∧ y < 2147483579 := of_decide_eq_true h1
    by_cases h2 : y = 1
    · subst h2
      rw [rightG_out (by omega)]
      go_enter Try.func43, Try.ntmps43
      go_wp2_with fail
      refine (implUnit 1 w).mono ?_
      rintro e w' ⟨rfl, rfl⟩
      rw [h1]
      go_wp2
      go_ret
      exact ⟨rfl, Below.refl _ _⟩
    · obtain ⟨x, rfl⟩ := nat_of (show ¬ y < 0 by omega)
      have hne : ((x : Int) != 1) = true := by rw [bne_iff_ne]; exact h2
      have hp := powA_nat x 1073741789 2147483579 modP
      have HC : Hid (∀ v : World, Calls Try.prog 64 #[.int .i64 (x : Int), .int .i64 1073741789, .int .i64 2147483579] v fun e w' => e = .returned (.int .i64 ((pm x 1073741789 2147483579 : Nat) : Int)) ∧ Below v.heap.size v w') := fun v => by
        rw [← hp]
        exact implModPow x 1073741789 2147483579 v (by omega)
      clear hp
      have hrt := rightG_pos (x := x) (by omega) (by omega)
      have hrf := rightG_neg (x := x)
      generalize pm x 1073741789 2147483579 = z at *
      by_cases hz : z = 1
      · subst hz
        rw [hrt rfl]
        clear hrt hrf
        go_enter Try.func43, Try.ntmps43
        go_wp2_with fail
        refine (implUnit x w).mono ?_
        rintro e w' ⟨rfl, rfl⟩
        rw [h1]
        go_wp2_with fail
        refine (HC.out _).mono ?_
        rintro e w2 ⟨rfl, hb⟩
        have HB : Hid _ := hb
        clear hb
        go_wp2
        go_ret
        exact ⟨rfl, HB.out⟩
      · rw [hrf hz]
        clear hrt hrf
        have hz' : ((z : Int) == 1) = false := by rw [beq_eq_false_iff_ne]; omega
        go_enter Try.func43, Try.ntmps43
        go_wp2_with fail
        refine (implUnit x w).mono ?_
        rintro e w' ⟨rfl, rfl⟩
        rw [h1]
        go_wp2_with fail
        refine (HC.out _).mono ?_
        rintro e w2 ⟨rfl, hb⟩
        have HB : Hid _ := hb
        clear hb
        go_wp2
        go_ret
        exact ⟨rfl, HB.out⟩
  · rw [Bool.not_eq_true] at h1
    have h1' : ¬ (1 ≤ y ∧ y < 2147483579) := of_decide_eq_false h1
    rw [rightG_out (by omega)]
    go_enter Try.func43, Try.ntmps43
    go_wp2_with fail
    refine (implUnit y w).mono ?_
    rintro e w' ⟨rfl, rfl⟩
    rw [h1]
    go_wp2
    go_ret
    exact ⟨rfl, Below.refl _ _⟩
set_option maxHeartbeats 1000000 in
set_option maxRecDepth 100000 in
theorem specGroupRight (y : Int) (w : World) :
    Calls Try.prog 38 #[.int .i64 y] w fun e w' => e = .returned (.bool (rightG y)) ∧ w' = w := by
  by_cases h1 : 1 < y
  · by_cases h2 : y < 2147483579
    · obtain ⟨x, rfl⟩ := nat_of (show ¬ y < 0 by omega)
      have HC : Hid (∀ v : World, Calls Try.prog 60 #[.int .i64 (x : Int), .int .i64 1073741789, .int .i64 2147483579] v fun e w' => e = .returned (.int .i64 ((pm x 1073741789 2147483579 : Nat) : Int)) ∧ w' = v) := fun v => specPow x 1073741789 2147483579 v (by omega) (by omega) (by omega)
      have hrt := rightG_pos (x := x) (by omega) (by omega)
      have hrf := rightG_neg (x := x)
      generalize pm x 1073741789 2147483579 = z at *
      by_cases hz : z = 1
      · subst hz
        rw [hrt rfl]
        clear hrt hrf
        go_enter Try.func38, Try.ntmps38
        go_wp2_with fail
        refine (HC.out _).mono ?_
        rintro e w2 ⟨rfl, rfl⟩
        go_wp2
        go_ret
        exact ⟨rfl, rfl⟩
      · rw [hrf hz]
        clear hrt hrf
        have hz' : ((z : Int) == 1) = false := by rw [beq_eq_false_iff_ne]; omega
        go_enter Try.func38, Try.ntmps38
        go_wp2_with fail
        refine (HC.out _).mono ?_
        rintro e w2 ⟨rfl, rfl⟩
        go_wp2
        go_ret
        exact ⟨rfl, rfl⟩
    · rw [rightG_out (by omega)]
      go_enter Try.func38, Try.ntmps38
      go_wp2
      go_ret
      exact ⟨rfl, rfl⟩
  · rw [rightG_out (by omega)]
    go_enter Try.func38, Try.ntmps38
    go_wp2
    go_ret
    exact ⟨rfl, rfl⟩
end Go.Proofs.Ytkopinnhicoggaa
