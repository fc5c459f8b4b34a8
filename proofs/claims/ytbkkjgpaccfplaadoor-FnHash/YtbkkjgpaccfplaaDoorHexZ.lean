/- Digits of sixteen: what is answered. -/
import Derived.Test.YtbkkjgpaccfplaaDoorBase
import Derived.Deep.RegionHeld3
import Derived.Deep.RegionLaw
import Derived.Deep.AppendLies
namespace Go.Proofs.YtbkkjgpaccfplaaDoor
open Go.RowKit Go.Lib

/-- A digit of sixteen. -/
def hexN (q : Nat) : Int := if q < 10 then 48 + q else 87 + q
def hexL (l : List UInt8) : List Int := l.flatMap fun b => [hexN (b.toNat / 16), hexN (b.toNat % 16)]
theorem idxHex (q : Nat) (h : q < 16) (w : World) :
    (Instr.index 9 (.string ⟨#[48, 49, 50, 51, 52, 53, 54, 55, 56, 57, 97, 98, 99, 100, 101, 102]⟩) (.int .u8 (q : Int))).run Tryd.prog w = .ok (.int .u8 (hexN q)) w := by
  have hq : q = 0 ∨ q = 1 ∨ q = 2 ∨ q = 3 ∨ q = 4 ∨ q = 5 ∨ q = 6 ∨ q = 7 ∨ q = 8 ∨ q = 9 ∨ q = 10 ∨ q = 11 ∨ q = 12 ∨ q = 13 ∨ q = 14 ∨ q = 15 := by omega
  rcases hq with rfl | rfl | rfl | rfl | rfl | rfl | rfl | rfl | rfl | rfl | rfl | rfl | rfl | rfl | rfl | rfl <;> (show _ = _; kernel_rfl)
theorem idxHi (c : UInt8) (w : World) :
    (Instr.index 9 (.string ⟨#[48, 49, 50, 51, 52, 53, 54, 55, 56, 57, 97, 98, 99, 100, 101, 102]⟩) (.int .u8 ((c.toNat : Int) / 16))).run Tryd.prog w = .ok (.int .u8 (hexN (c.toNat / 16))) w := by
  have h := idxHex (c.toNat / 16) (by have := c.toNat_lt; omega) w
  rw [show ((c.toNat / 16 : Nat) : Int) = (c.toNat : Int) / 16 from by omega] at h
  exact h
theorem idxLo (c : UInt8) (w : World) :
    (Instr.index 9 (.string ⟨#[48, 49, 50, 51, 52, 53, 54, 55, 56, 57, 97, 98, 99, 100, 101, 102]⟩) (.int .u8 ((c.toNat : Int) % 16))).run Tryd.prog w = .ok (.int .u8 (hexN (c.toNat % 16))) w := by
  have h := idxHex (c.toNat % 16) (by omega) w
  rw [show ((c.toNat % 16 : Nat) : Int) = (c.toNat : Int) % 16 from by omega] at h
  exact h

theorem take_snoc (s : ByteArray) (k : Nat) (h : k < s.size) : s.data.toList.take (k + 1) = s.data.toList.take k ++ [s[k]] := by
  rw [List.take_succ_eq_append_getElem (by simpa using h)]; rfl
theorem hexL_snoc (l : List UInt8) (c : UInt8) : hexL (l ++ [c]) = hexL l ++ [hexN (c.toNat / 16), hexN (c.toNat % 16)] := by simp [hexL]
theorem hexL_len (l : List UInt8) : (hexL l).length = 2 * l.length := by
  induction l with
  | nil => rfl
  | cons c l ih => simp only [hexL, List.flatMap_cons, List.length_append, List.length_cons, List.length_nil] at *; omega
theorem hexL_take (s : ByteArray) (k : Nat) (h : k < s.size) : hexL (s.data.toList.take (k + 1)) = hexL (s.data.toList.take k) ++ [hexN (s[k].toNat / 16), hexN (s[k].toNat % 16)] := by
  rw [take_snoc s k h, hexL_snoc]
theorem hexL_takeLen (s : ByteArray) (k : Nat) (h : k ≤ s.size) : (hexL (s.data.toList.take k)).length = 2 * k := by
  rw [hexL_len, List.length_take, Nat.min_eq_left (by rw [← size_eq]; exact h)]
theorem hexStep {M : List Value} {A : List Int} {k : Nat} {x y : Int} (hA : A.length = 2 * k) (hM : 2 * k + 1 < M.length) (h : ∀ j, j < 2 * k → M[j]? = some (.int .u8 (A.getD j 0))) :
    ∀ j, j < 2 * (k + 1) → ((M.set (2 * k) (.int .u8 x)).set (2 * k + 1) (.int .u8 y))[j]? = some (.int .u8 ((A ++ [x, y]).getD j 0)) := by
  intro j hj
  by_cases e1 : j = 2 * k + 1
  · subst e1
    rw [List.getElem?_set_self (by simpa using hM)]
    simp [List.getD, hA]
  · rw [List.getElem?_set_ne (by omega)]
    by_cases e0 : j = 2 * k
    · subst e0
      rw [List.getElem?_set_self (by omega)]
      simp [List.getD, ← hA]
    · rw [List.getElem?_set_ne (by omega), h j (by omega)]
      simp [List.getD, List.getElem?_append_left (show j < A.length by omega)]

end Go.Proofs.YtbkkjgpaccfplaaDoor
