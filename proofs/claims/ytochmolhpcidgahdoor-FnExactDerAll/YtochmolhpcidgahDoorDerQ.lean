/- Numbers in bytes of two's complement, as few as may be. Plain mathematics: no program is named here. -/
import Derived.Test.YtochmolhpcidgahDoorDerP
import Derived.Lib.BitFns
namespace Go.Proofs.YtochmolhpcidgahDoor
open Go.RowKit

/-- A number's bytes, the highest first; f + 1 at most. -/
def intF : Nat → Int → List Int
  | 0, n => [n % 256]
  | f + 1, n => if -128 ≤ n ∧ n < 128 then [n % 256] else intF f (n / 256) ++ [n % 256]
def intL (n : Int) : List Int := intF 7 n
def lim : Nat → Int
  | 0 => 128
  | f + 1 => 256 * lim f
theorem lim7 : lim 7 = 9223372036854775808 := by decide
def Fits (f : Nat) (m : Int) : Prop := -(lim f) ≤ m ∧ m < lim f
theorem intF_last {f : Nat} {m : Int} (h0 : -128 ≤ m) (h1 : m < 128) : intF f m = [m % 256] := by
  cases f with
  | zero => rfl
  | succ f => rw [intF, if_pos ⟨h0, h1⟩]
theorem intF_more {f : Nat} {m : Int} (h : ¬(-128 ≤ m ∧ m < 128)) (hf : Fits f m) : ∃ g, f = g + 1 ∧ Fits g (m / 256) ∧ intF f m = intF g (m / 256) ++ [m % 256] := by
  cases f with
  | zero => unfold Fits lim at hf; omega
  | succ g =>
    refine ⟨g, rfl, ?_, by rw [intF, if_neg h]⟩
    unfold Fits at *
    simp only [lim] at hf
    omega
theorem intF_len : ∀ (f : Nat) (m : Int), 1 ≤ (intF f m).length ∧ (intF f m).length ≤ f + 1
  | 0, _ => by simp [intF]
  | f + 1, m => by
    rw [intF]
    split
    · simp
    · have := intF_len f (m / 256)
      simp; omega
theorem intL_len (n : Int) : 1 ≤ (intL n).length ∧ (intL n).length ≤ 8 := intF_len 7 n
theorem intF_byte : ∀ (f : Nat) (m : Int) (x : Int), x ∈ intF f m → 0 ≤ x ∧ x < 256
  | 0, m, x, h => by simp [intF] at h; omega
  | f + 1, m, x, h => by
    rw [intF] at h
    split at h
    · simp at h; omega
    · rcases List.mem_append.1 h with h | h
      · exact intF_byte f _ x h
      · simp at h; omega
/-- A number without its sign. -/
def bareN (n : Int) : Nat := if n < 0 then (-n - 1).toNat else n.toNat
theorem bareN_div (n : Int) : bareN (n / 256) = bareN n / 256 := by
  unfold bareN
  split <;> split <;> omega
theorem bareN_low (n : Int) : bareN n < 128 ↔ -128 ≤ n ∧ n < 128 := by unfold bareN; split <;> omega
theorem bitLen_byte {x : Nat} (h : 128 ≤ x) (hx : x < 18446744073709551616) : Lib.bitLen x = 8 + Lib.bitLen (x / 256) := by
  by_cases h2 : 256 ≤ x
  · exact Lib.bitLen_shift8 x h2 hx
  · have e : x / 256 = 0 := by omega
    have e0 : Lib.bitLen 0 = 0 := by decide
    have g := Lib.bitLen_shift 7 x (by omega) (by omega)
    have e1 : x / 2 ^ 7 = 1 := by omega
    have e2 : Lib.bitLen 1 = 1 := by decide
    rw [e1, e2] at g
    rw [e, e0]; omega
theorem intF_bits : ∀ (f : Nat) (m : Int), Fits f m → bareN m < 18446744073709551616 → (intF f m).length = Lib.bitLen (bareN m) / 8 + 1
  | 0, m, h, _ => by
    have h2 : bareN m < 128 := (bareN_low m).2 (by unfold Fits lim at h; omega)
    have := Lib.bitLen_le (bareN m) 7 (by omega) (by omega)
    simp [intF]; omega
  | f + 1, m, h, hb => by
    by_cases c : -128 ≤ m ∧ m < 128
    · rw [intF, if_pos c]
      have h2 : bareN m < 128 := (bareN_low m).2 c
      have := Lib.bitLen_le (bareN m) 7 (by omega) (by omega)
      simp; omega
    · obtain ⟨g, e, hg, ee⟩ := intF_more c h
      obtain rfl : f = g := by omega
      have h2 : 128 ≤ bareN m := by rcases Nat.lt_or_ge (bareN m) 128 with h' | h'
                                    · exact absurd ((bareN_low m).1 h') c
                                    · exact h'
      rw [ee, List.length_append, intF_bits f (m / 256) hg (by rw [bareN_div]; omega), bareN_div, bitLen_byte h2 hb, List.length_singleton]
      omega
theorem fits7 {n : Int} (h0 : -9223372036854775808 ≤ n) (h1 : n ≤ 9223372036854775807) : Fits 7 n := by
  unfold Fits; rw [lim7]; omega
theorem intL_bits {n : Int} (h0 : -9223372036854775808 ≤ n) (h1 : n ≤ 9223372036854775807) : (intL n).length = Lib.bitLen (bareN n) / 8 + 1 :=
  intF_bits 7 n (fits7 h0 h1) (by unfold bareN; split <;> omega)
/-- The byte of weight 256 ^ i. -/
theorem intF_at : ∀ (f : Nat) (m : Int) (i : Nat), i < (intF f m).length → (intF f m).getD ((intF f m).length - 1 - i) 0 = m / 256 ^ i % 256
  | 0, m, i, h => by
    simp [intF] at h; subst h; simp [intF]
  | f + 1, m, i, h => by
    rw [intF] at h ⊢
    split at h
    · rename_i c
      rw [if_pos c]
      simp at h; subst h; simp
    · rename_i c
      rw [if_neg c]
      simp only [List.length_append, List.length_singleton] at h ⊢
      cases i with
      | zero => simp [List.getD]
      | succ i =>
        have ih := intF_at f (m / 256) i (by omega)
        rw [List.getD, List.getElem?_append_left (by omega)]
        rw [List.getD] at ih
        rw [show (intF f (m / 256)).length + 1 - 1 - (i + 1) = (intF f (m / 256)).length - 1 - i from by omega, ih, Int.ediv_ediv_of_nonneg (by omega)]
        congr 2
        rw [Int.pow_succ]; exact Int.mul_comm _ _
theorem intL_at {n : Int} {i : Nat} (h : i < (intL n).length) : (intL n).getD ((intL n).length - 1 - i) 0 = n / 256 ^ i % 256 := intF_at 7 n i h
end Go.Proofs.YtochmolhpcidgahDoor
