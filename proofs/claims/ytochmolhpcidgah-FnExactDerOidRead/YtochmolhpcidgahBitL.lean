/- math/bits.Len64 and Len, walked. -/
import Derived.Test.YtochmolhpcidgahBase
import Derived.Lib.BitFns
import Derived.Lib.Walk
namespace Go.Proofs.Ytochmolhpcidgah
open Go.RowKit Go.Lib

/-- The table's byte at the top of a number. -/
theorem lenTop (x y : Int) (k : Nat) (hx0 : 0 ≤ x) (hx : x < 18446744073709551616) (hy : y = x / 2 ^ k) (hy1 : y ≤ 255) (hk : (2 : Int) ^ k ≤ x ∨ k = 0) : (k : Int) + Lib.len8 y = (Lib.bitLen x.toNat : Int) := by
  have hp : (0 : Int) < 2 ^ k := Int.pow_pos (by decide)
  have hy0 : 0 ≤ y := by rw [hy]; exact Int.ediv_nonneg hx0 (Int.le_of_lt hp)
  rw [Lib.len8_of y hy0 hy1]
  have e : y.toNat = x.toNat / 2 ^ k := by
    obtain ⟨n, rfl⟩ := Int.eq_ofNat_of_zero_le hx0
    rw [hy]
    have : ((n : Int) / 2 ^ k) = ((n / 2 ^ k : Nat) : Int) := by simp
    rw [this]; rfl
  rcases hk with hk | rfl
  · have h2 : 2 ^ k ≤ x.toNat := by
      obtain ⟨n, rfl⟩ := Int.eq_ofNat_of_zero_le hx0
      have : ((2 ^ k : Nat) : Int) ≤ (n : Int) := by simpa using hk
      show 2 ^ k ≤ n
      exact_mod_cast this
    have h3 : x.toNat < 2 ^ 64 := by
      have : (2 : Nat) ^ 64 = 18446744073709551616 := by decide
      omega
    rw [e, Lib.bitLen_shift k x.toNat h2 h3]
    omega
  · rw [e]; simp
theorem tabAt (y : Int) (h : y.toNat < len8tab.size) : (len8tab[y.toNat].toNat : Int) = Lib.len8 y := by
  unfold Lib.len8
  rw [getElem?_pos len8tab y.toNat h]; rfl
theorem lenGoal (x y : Int) (k : Nat) (h : y.toNat < len8tab.size) (hx0 : 0 ≤ x) (hx : x < 18446744073709551616) (hy : y = x / 2 ^ k) (hy1 : y ≤ 255) (hk : (2 : Int) ^ k ≤ x ∨ k = 0) :
    wrap64 ((k : Int) + wrap64 (len8tab[y.toNat].toNat : Int)) = (Lib.bitLen x.toNat : Int) := by
  have e := lenTop x y k hx0 hx hy hy1 hk
  have l := Lib.bitLen_le x.toNat 64 (by omega) (by have : (2 : Nat) ^ 64 = 18446744073709551616 := by decide
                                                    omega)
  rw [tabAt y h]
  have b : 0 ≤ Lib.len8 y := by unfold Lib.len8; omega
  have w1 : wrap64 (Lib.len8 y) = Lib.len8 y := by unfold wrap64; omega
  rw [w1]
  unfold wrap64
  omega
set_option maxHeartbeats 4000000 in
set_option maxRecDepth 100000 in
theorem len64 (x : Int) (w : World) (h0 : 0 ≤ x) (h1 : x ≤ 18446744073709551615) :
    Calls Try.prog 38 #[.int .u64 x] w fun e w' => e = .returned (.int .i64 (Lib.bitLen x.toNat : Int)) ∧ w' = w := by
  have hts : (len8tab.size : Int) = 256 := by rw [len8tab_size]; rfl
  go_enter Try.func38, Try.ntmps38
  go_wp2
  all_goals
    go_ret
    refine ⟨ret_int ?_, rfl⟩
    first
      | exact lenGoal x _ 56 (by omega) h0 (by omega) (by omega) (by omega) (by omega)
      | exact lenGoal x _ 48 (by omega) h0 (by omega) (by omega) (by omega) (by omega)
      | exact lenGoal x _ 40 (by omega) h0 (by omega) (by omega) (by omega) (by omega)
      | exact lenGoal x _ 32 (by omega) h0 (by omega) (by omega) (by omega) (by omega)
      | exact lenGoal x _ 24 (by omega) h0 (by omega) (by omega) (by omega) (by omega)
      | exact lenGoal x _ 16 (by omega) h0 (by omega) (by omega) (by omega) (by omega)
      | exact lenGoal x _ 8 (by omega) h0 (by omega) (by omega) (by omega) (by omega)
      | (have e := lenGoal x x 0 (by omega) h0 (by omega) (by simp) (by omega) (.inr rfl)
         rw [← e]
         simp)
theorem lenUint (x : Int) (w : World) (h0 : 0 ≤ x) (h1 : x ≤ 18446744073709551615) :
    Calls Try.prog 44 #[.int .u64 x] w fun e w' => e = .returned (.int .i64 (Lib.bitLen x.toNat : Int)) ∧ w' = w := by
  go_enter Try.func44, Try.ntmps44
  go_wp2_with fail
  refine (len64 x _ h0 h1).mono ?_
  rintro e w' ⟨rfl, rfl⟩
  go_wp2
  go_ret
  exact ⟨rfl, rfl⟩
end Go.Proofs.Ytochmolhpcidgah
