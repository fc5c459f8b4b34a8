/- What GetText answers, by what is read as the length. -/
import Derived.Test.YtdckeokfcckemaaDoorNumC
import Derived.Test.YtdckeokfcckemaaDoorCopyStr
namespace Go.Proofs.YtdckeokfcckemaaDoor
open Go.RowKit Go.Lib

theorem getR_at (s : ByteArray) (p f i u : Nat) : (getR s p f i u).code = 0 → 0 < (getR s p f i u).at' ∧ (getR s p f i u).at' ≤ s.size := by
  induction f generalizing i u with
  | zero => intro h; simp [getR, NumR.bad] at h
  | succ f ih =>
    rw [getR]
    split
    · intro h; simp [NumR.bad] at h
    · split
      · intro h; simp [NumR.bad] at h
      · split
        · split
          · intro h; simp [NumR.bad] at h
          · intro _; simp only; omega
        · exact ih _ _
theorem numAt_at {s : ByteArray} {p : Int} (h : (numAt s p).code = 0) : s.size ≤ 20000 ∧ 0 < (numAt s p).at' ∧ (numAt s p).at' ≤ s.size := by
  unfold numAt at *
  split at h
  · simp [NumR.bad] at h
  · rename_i h1
    split at h
    · simp [NumR.bad] at h
    · rename_i h2
      rw [if_neg h1, if_neg h2]
      exact ⟨by omega, getR_at s _ _ _ _ h⟩
/-- What GetText answers, by what is read as the length. -/
def textR (s : ByteArray) (R : NumR) : Value :=
  if R.code ≠ 0 then outV ByteArray.empty 0 R.code else if R.n < 0 ∨ 20000 < R.n then outV ByteArray.empty 0 3
  else if (s.size : Int) - R.n < R.at' then outV ByteArray.empty 0 4 else outV (s.extract R.at'.toNat (R.at' + R.n).toNat) (R.at' + R.n) 0
end Go.Proofs.YtdckeokfcckemaaDoor
