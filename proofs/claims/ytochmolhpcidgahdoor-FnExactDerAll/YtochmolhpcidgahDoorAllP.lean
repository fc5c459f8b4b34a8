/- Rows of things: what DerAll answers. No program is named here. -/
import Derived.Test.YtochmolhpcidgahDoorDerP
namespace Go.Proofs.YtochmolhpcidgahDoor
open Go.RowKit

/-- The things from a place on, behind those that were got; f rounds at most. -/
def allR (s : ByteArray) : Nat → Nat → List (Int × ByteArray) → List (Int × ByteArray) × Int
  | 0, _, acc => (acc, 0)
  | f + 1, k, acc => if s.size ≤ k then (acc, 0) else if (getAt s k).code ≠ 0 then ([], (getAt s k).code) else if 60 ≤ acc.length then ([], 11)
    else allR s f (getAt s k).at'.toNat (acc ++ [((getAt s k).tag, (getAt s k).body)])
def allD (s : ByteArray) : List (Int × ByteArray) × Int := if 20000 < s.size then ([], 2) else allR s (s.size + 1) 0 []
theorem allR_end {s : ByteArray} {f k : Nat} {acc : List (Int × ByteArray)} (h : s.size ≤ k) : allR s f k acc = (acc, 0) := by
  cases f with
  | zero => rfl
  | succ f => rw [allR, if_pos h]
theorem allR_bad {s : ByteArray} {f k : Nat} {acc : List (Int × ByteArray)} (h : k < s.size) (hc : (getAt s k).code ≠ 0) : allR s (f + 1) k acc = ([], (getAt s k).code) := by
  rw [allR, if_neg (by omega), if_pos hc]
theorem allR_full {s : ByteArray} {f k : Nat} {acc : List (Int × ByteArray)} (h : k < s.size) (hc : (getAt s k).code = 0) (ha : 60 ≤ acc.length) : allR s (f + 1) k acc = ([], 11) := by
  rw [allR, if_neg (by omega), if_neg (by simp [hc]), if_pos ha]
theorem allR_more {s : ByteArray} {f k : Nat} {acc : List (Int × ByteArray)} (h : k < s.size) (hc : (getAt s k).code = 0) (ha : acc.length < 60) :
    allR s (f + 1) k acc = allR s f (getAt s k).at'.toNat (acc ++ [((getAt s k).tag, (getAt s k).body)]) := by
  rw [allR, if_neg (by omega), if_neg (by simp [hc]), if_neg (by omega)]
theorem allR_len (s : ByteArray) : ∀ (f k : Nat) (acc : List (Int × ByteArray)), acc.length ≤ 60 → (allR s f k acc).1.length ≤ 60
  | 0, _, acc, h => h
  | f + 1, k, acc, h => by
    rw [allR]
    split
    · exact h
    · split
      · simp
      · split
        · simp
        · exact allR_len s f _ _ (by simp; omega)
theorem allD_len (s : ByteArray) : (allD s).1.length ≤ 60 := by
  unfold allD
  split
  · simp
  · exact allR_len s _ _ _ (by simp)
/-- The cells of a row of things. -/
def tCells (l : List (Int × ByteArray)) : List Value := l.flatMap fun p => [.int .i64 p.1, .string p.2]
theorem tCells_snoc (l : List (Int × ByteArray)) (p : Int × ByteArray) : tCells (l ++ [p]) = tCells l ++ [.int .i64 p.1, .string p.2] := by simp [tCells]
theorem tCells_len (l : List (Int × ByteArray)) : (tCells l).length = 2 * l.length := by
  induction l with
  | nil => rfl
  | cons p l ih => simp [tCells] at *; omega
theorem tCells_at : ∀ (l : List (Int × ByteArray)) (i : Nat) (p : Int × ByteArray), l[i]? = some p → (tCells l)[2 * i]? = some (.int .i64 p.1) ∧ (tCells l)[2 * i + 1]? = some (.string p.2)
  | [], i, p, h => by simp at h
  | q :: l, 0, p, h => by simp at h; subst h; exact ⟨rfl, rfl⟩
  | q :: l, i + 1, p, h => by
    have := tCells_at l i p (by simpa using h)
    have e : tCells (q :: l) = .int .i64 q.1 :: .string q.2 :: tCells l := rfl
    rw [e, show 2 * (i + 1) = 2 * i + 1 + 1 from by omega]
    exact ⟨by simpa using this.1, by simpa using this.2⟩
theorem tCells_one (l : List (Int × ByteArray)) : ∀ u ∈ tCells l, u.oneCell' = true := by
  intro u hu
  simp [tCells] at hu
  obtain ⟨a, b, _, h | h⟩ := hu <;> subst h <;> rfl
end Go.Proofs.YtochmolhpcidgahDoor
