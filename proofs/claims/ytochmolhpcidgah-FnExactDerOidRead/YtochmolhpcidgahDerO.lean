/- Arcs in bytes of seven bits. Plain mathematics: no program is named here. -/
import Derived.Test.YtochmolhpcidgahDerP
import Derived.Lib.BitFns
namespace Go.Proofs.Ytochmolhpcidgah
open Go.RowKit

/-- The bytes of seven bits ahead of the last one, the highest first. -/
def sevH : Nat → Nat → List Int
  | 0, _ => []
  | f + 1, x => if x = 0 then [] else sevH f (x / 128) ++ [((x % 128 + 128 : Nat) : Int)]
def sevL (x : Nat) : List Int := sevH 9 (x / 128) ++ [((x % 128 : Nat) : Int)]
theorem sevH_zero (f : Nat) : sevH f 0 = [] := by cases f <;> simp [sevH]
theorem sevH_more {f x : Nat} (h : x ≠ 0) (hf : x < 128 ^ f) : ∃ g, f = g + 1 ∧ x / 128 < 128 ^ g ∧ sevH f x = sevH g (x / 128) ++ [((x % 128 + 128 : Nat) : Int)] := by
  cases f with
  | zero => simp at hf; omega
  | succ g => exact ⟨g, rfl, by rw [Nat.pow_succ] at hf; omega, by rw [sevH, if_neg h]⟩
theorem bitLen_seven {x : Nat} (h : x ≠ 0) (hx : x < 18446744073709551616) : (Lib.bitLen x + 6) / 7 = (Lib.bitLen (x / 128) + 6) / 7 + 1 := by
  by_cases h2 : 128 ≤ x
  · have := Lib.bitLen_shift 7 x h2 hx
    have e : x / 2 ^ 7 = x / 128 := rfl
    rw [e] at this
    omega
  · have e : x / 128 = 0 := by omega
    have e0 : Lib.bitLen 0 = 0 := by decide
    have l := Lib.bitLen_le x 7 (by omega) (by omega)
    have g := Lib.bitLen_half x h (by omega)
    rw [e, e0]; omega
theorem sevH_len : ∀ (f x : Nat), x < 128 ^ f → x < 18446744073709551616 → (sevH f x).length = (Lib.bitLen x + 6) / 7
  | f, x, h, hx => by
    by_cases h0 : x = 0
    · subst h0
      rw [sevH_zero]
      have e0 : Lib.bitLen 0 = 0 := by decide
      rw [e0]; rfl
    · obtain ⟨g, rfl, hg, e⟩ := sevH_more h0 h
      rw [e, List.length_append, sevH_len g (x / 128) hg (by omega), bitLen_seven h0 hx]
      rfl
theorem p9 : (128 : Nat) ^ 9 = 9223372036854775808 := by decide
theorem sevL_len {x : Nat} (hx : x < 9223372036854775808) : (sevL x).length = (Lib.bitLen (x / 128) + 6) / 7 + 1 := by
  rw [sevL, List.length_append, sevH_len 9 (x / 128) (by rw [p9]; omega) (by omega)]; rfl
/-- As impl counts them. -/
theorem sevL_count {x : Nat} (hx : x < 9223372036854775808) : (sevL x).length = max 1 ((Lib.bitLen x + 6) / 7) := by
  rw [sevL_len hx]
  by_cases h : x = 0
  · subst h; decide
  · rw [bitLen_seven h (by omega)]; omega
theorem sevL_small {x : Nat} (hx : x < 34359738368) : (sevL x).length ≤ 5 := by
  rw [sevL_len (by omega)]
  have := Lib.bitLen_le (x / 128) 28 (by omega) (by omega)
  omega
theorem sevL_pos (x : Nat) : 1 ≤ (sevL x).length := by simp [sevL]
theorem sevH_at : ∀ (f x i : Nat), x < 128 ^ f → i < (sevH f x).length → (sevH f x).getD ((sevH f x).length - 1 - i) 0 = ((x / 128 ^ i % 128 + 128 : Nat) : Int)
  | f, x, i, h, hi => by
    by_cases h0 : x = 0
    · subst h0; rw [sevH_zero] at hi; simp at hi
    · obtain ⟨g, rfl, hg, e⟩ := sevH_more h0 h
      rw [e] at hi ⊢
      simp only [List.length_append, List.length_singleton] at hi ⊢
      cases i with
      | zero => simp [List.getD]
      | succ i =>
        have ih := sevH_at g (x / 128) i hg (by omega)
        rw [List.getD] at ih
        rw [List.getD, List.getElem?_append_left (by omega), show (sevH g (x / 128)).length + 1 - 1 - (i + 1) = (sevH g (x / 128)).length - 1 - i from by omega, ih, Nat.div_div_eq_div_mul, Nat.pow_succ, Nat.mul_comm]
theorem sevL_last (x : Nat) : (sevL x).getD ((sevL x).length - 1) 0 = ((x % 128 : Nat) : Int) := by
  simp [sevL, List.getD]
theorem sevL_at {x i : Nat} (hx : x < 9223372036854775808) (h0 : 0 < i) (hi : i < (sevL x).length) : (sevL x).getD ((sevL x).length - 1 - i) 0 = ((x / 128 ^ i % 128 + 128 : Nat) : Int) := by
  obtain ⟨j, rfl⟩ : ∃ j, i = j + 1 := ⟨i - 1, by omega⟩
  unfold sevL at hi ⊢
  simp only [List.length_append, List.length_singleton] at hi ⊢
  have ih := sevH_at 9 (x / 128) j (by rw [p9]; omega) (by omega)
  rw [List.getD] at ih
  rw [List.getD, List.getElem?_append_left (by omega), show (sevH 9 (x / 128)).length + 1 - 1 - (j + 1) = (sevH 9 (x / 128)).length - 1 - j from by omega, ih, Nat.div_div_eq_div_mul, Nat.pow_succ, Nat.mul_comm]
theorem strOfNums_append (a b : List Int) : strOfNums (a ++ b) = strOfNums a ++ strOfNums b := by
  rw [strOfNums, strOfNums, strOfNums, ByteArray.mk_append_mk]
  simp
/-- The most that the second arc may be. -/
def most2 (x : Int) : Int := if x = 2 then 100 else 39
/-- Are they arcs? -/
def arcsB (l : List Int) : Bool :=
  decide (2 ≤ l.length) && decide (l.length ≤ 10) && decide (0 ≤ l.getD 0 0) && decide (l.getD 0 0 ≤ 2) && decide (0 ≤ l.getD 1 0) && decide (l.getD 1 0 ≤ most2 (l.getD 0 0)) && (l.drop 2).all fun x => decide (0 ≤ x) && decide (x ≤ 2147483647)
theorem arcsB_iff {l : List Int} : arcsB l = true ↔ 2 ≤ l.length ∧ l.length ≤ 10 ∧ 0 ≤ l.getD 0 0 ∧ l.getD 0 0 ≤ 2 ∧ 0 ≤ l.getD 1 0 ∧ l.getD 1 0 ≤ most2 (l.getD 0 0) ∧ ∀ j, 2 ≤ j → j < l.length → 0 ≤ l.getD j 0 ∧ l.getD j 0 ≤ 2147483647 := by
  unfold arcsB
  simp only [Bool.and_eq_true, decide_eq_true_eq, List.all_eq_true, and_assoc]
  constructor
  · rintro ⟨a, b, c, d, e, f, g⟩
    refine ⟨a, b, c, d, e, f, fun j h1 h2 => ?_⟩
    have hm : l.getD j 0 ∈ l.drop 2 := by
      rw [List.getD, List.getElem?_eq_getElem h2]
      refine List.mem_iff_getElem?.2 ⟨j - 2, ?_⟩
      rw [List.getElem?_drop, show 2 + (j - 2) = j from by omega, List.getElem?_eq_getElem h2]; rfl
    exact g _ hm
  · rintro ⟨a, b, c, d, e, f, g⟩
    refine ⟨a, b, c, d, e, f, fun x hx => ?_⟩
    obtain ⟨i, hi⟩ := List.mem_iff_getElem?.1 hx
    rw [List.getElem?_drop] at hi
    have hl : 2 + i < l.length := by
      rcases Nat.lt_or_ge (2 + i) l.length with h | h
      · exact h
      · rw [List.getElem?_eq_none h] at hi; cases hi
    have := g (2 + i) (by omega) hl
    rw [List.getD, hi] at this
    exact this
/-- The arcs ahead of the k-th in bytes (k at least 2). -/
def oidTo (l : List Int) : Nat → List Int
  | 0 => sevL (40 * l.getD 0 0 + l.getD 1 0).toNat
  | k + 1 => oidTo l k ++ sevL (l.getD (k + 2) 0).toNat
def oidL (l : List Int) : List Int := oidTo l (l.length - 2)
def oidD (l : List Int) : ByteArray := if arcsB l = true then thingD 6 (strOfNums (oidL l)) else ByteArray.empty
theorem oidTo_len {l : List Int} (h : arcsB l = true) : ∀ k, k + 2 ≤ l.length → (oidTo l k).length ≤ 5 + 5 * k
  | 0, _ => by
    have := arcsB_iff.1 h
    have m : most2 (l.getD 0 0) ≤ 100 := by unfold most2; split <;> omega
    have := sevL_small (x := (40 * l.getD 0 0 + l.getD 1 0).toNat) (by omega)
    rw [oidTo]; omega
  | k + 1, hk => by
    have ih := oidTo_len h k (by omega)
    have := (arcsB_iff.1 h).2.2.2.2.2.2 (k + 2) (by omega) (by omega)
    have := sevL_small (x := (l.getD (k + 2) 0).toNat) (by omega)
    rw [oidTo, List.length_append]; omega
theorem oidL_len {l : List Int} (h : arcsB l = true) : (oidL l).length ≤ 45 := by
  have := arcsB_iff.1 h
  have := oidTo_len h (l.length - 2) (by omega)
  unfold oidL; omega
end Go.Proofs.Ytochmolhpcidgah
