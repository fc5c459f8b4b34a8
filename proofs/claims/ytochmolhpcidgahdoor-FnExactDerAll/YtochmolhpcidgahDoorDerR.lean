/- Numbers read back: what DerIntRead answers. Plain mathematics: no program is named here. -/
import Derived.Test.YtochmolhpcidgahDoorDerQ
import Derived.Laws.BitsAllLaws
import Derived.Lib.Strings
namespace Go.Proofs.YtochmolhpcidgahDoor
open Go.RowKit

/-- The number of a text's first k bytes in two's complement. -/
def sv (s : ByteArray) : Nat → Int
  | 0 => if 128 ≤ bN s 0 then -1 else 0
  | k + 1 => sv s k * 256 + (bN s k : Int)
theorem sv_zero (s : ByteArray) : -1 ≤ sv s 0 ∧ sv s 0 ≤ 0 := by unfold sv; split <;> omega
theorem sv_fits (s : ByteArray) : ∀ k, Fits k (sv s (k + 1))
  | 0 => by
    have h := bN_lt s 0
    unfold Fits
    simp only [sv, lim]
    split <;> omega
  | k + 1 => by
    have h := bN_lt s (k + 1)
    have ih := sv_fits s k
    unfold Fits at *
    rw [sv]
    simp only [lim]
    omega
theorem lim_pos : ∀ m, 0 ≤ lim m
  | 0 => by decide
  | m + 1 => by have := lim_pos m; simp only [lim]; omega
theorem lim_le {a b : Nat} (h : a ≤ b) : lim a ≤ lim b := by
  obtain ⟨d, rfl⟩ := Nat.exists_eq_add_of_le h
  clear h
  induction d with
  | zero => exact Int.le_refl _
  | succ d ih => have := lim_pos (a + d); rw [← Nat.add_assoc]; simp only [lim]; omega
theorem sv_bd (s : ByteArray) {k : Nat} (hk : k ≤ 8) : -9223372036854775808 ≤ sv s k ∧ sv s k < 9223372036854775808 := by
  cases k with
  | zero => have := sv_zero s; omega
  | succ k =>
    have h := sv_fits s k
    have l := lim_le (show k ≤ 7 by omega)
    rw [lim7] at l
    unfold Fits at h
    omega
theorem sv_low (s : ByteArray) {k : Nat} (hk : k < 8) : -36028797018963968 ≤ sv s k ∧ sv s k < 36028797018963968 := by
  cases k with
  | zero => have := sv_zero s; omega
  | succ k =>
    have h := sv_fits s k
    have l := lim_le (show k ≤ 6 by omega)
    have e : lim 6 = 36028797018963968 := by decide
    unfold Fits at h
    omega
theorem or8 (v : Int) (b : Nat) (hb : b < 256) (h0 : -36028797018963968 ≤ v) (h1 : v < 36028797018963968) : bits BinOp.or IntKind.i64 (v * 256) (b : Int) = v * 256 + (b : Int) := by
  have e : bits BinOp.or IntKind.i64 (v * 256) (b : Int) = IntKind.i64.wrap ((BitVec.ofInt 64 (v * 256) ||| BitVec.ofInt 64 (b : Int)).toNat : Nat) := rfl
  rw [e, BitVec.toNat_or, BitVec.toNat_ofInt, BitVec.toNat_ofInt]
  have e1 : ((b : Int) % ((2 ^ 64 : Nat) : Int)).toNat = b := by omega
  rw [e1]
  obtain ⟨q, hq⟩ : ∃ q : Nat, (v * 256 % ((2 ^ 64 : Nat) : Int)).toNat = 2 ^ 8 * q := ⟨(v * 256 % ((2 ^ 64 : Nat) : Int)).toNat / 256, by omega⟩
  rw [hq, ← Nat.two_pow_add_eq_or_of_lt (by omega)]
  rw [IntKind.wrap_i64]
  omega
theorem same_text (a b : ByteArray) : (a.toList == b.toList) = decide (a = b) := by
  by_cases h : a = b
  · subst h; simp
  · rw [decide_eq_false h, beq_eq_false_iff_ne]
    intro h'
    rw [Lib.toList_data, Lib.toList_data] at h'
    exact h (ByteArray.ext (Array.toList_inj.1 h'))
/-- What DerIntRead answers: the number and the code. -/
def intR (s : ByteArray) : Int × Int :=
  if 20000 < s.size then (0, 2) else if s.size = 0 ∨ 8 < s.size then (0, 3) else if strOfNums (intL (sv s s.size)) = s then (sv s s.size, 0) else (0, 3)
theorem intR_long {s : ByteArray} (h : 20000 < s.size) : intR s = (0, 2) := if_pos h
theorem intR_size {s : ByteArray} (h : s.size ≤ 20000) (h1 : s.size = 0 ∨ 8 < s.size) : intR s = (0, 3) := by rw [intR, if_neg (by omega), if_pos h1]
theorem intR_good {s : ByteArray} (h0 : 0 < s.size) (h1 : s.size ≤ 8) (h : strOfNums (intL (sv s s.size)) = s) : intR s = (sv s s.size, 0) := by rw [intR, if_neg (by omega), if_neg (by omega), if_pos h]
theorem intR_bad {s : ByteArray} (h0 : 0 < s.size) (h1 : s.size ≤ 8) (h : strOfNums (intL (sv s s.size)) ≠ s) : intR s = (0, 3) := by rw [intR, if_neg (by omega), if_neg (by omega), if_neg h]
/-- A NumOut as a value. -/
def numT (n c : Int) : Value := .agg #[.int .i64 n, .int .i64 0, .int .i64 c]
end Go.Proofs.YtochmolhpcidgahDoor
