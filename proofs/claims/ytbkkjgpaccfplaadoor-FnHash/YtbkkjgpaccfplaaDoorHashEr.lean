/- The state that eight numbers tell; what HashEnd answers. -/
import Derived.Test.YtbkkjgpaccfplaaDoorHashBr
import Derived.Test.YtbkkjgpaccfplaaDoorShaQ
import Derived.Test.YtbkkjgpaccfplaaDoorShaH
import Derived.Test.YtbkkjgpaccfplaaDoorShaI
namespace Go.Proofs.YtbkkjgpaccfplaaDoor
open Go.RowKit

def uOf (z : Int) : U := BitVec.ofNat 32 z.toNat
theorem uI_uOf {z : Int} (h0 : 0 ≤ z) (h1 : z ≤ 4294967295) : uI (uOf z) = z := by
  unfold uI uOf
  rw [BitVec.toNat_ofNat, Nat.mod_eq_of_lt (by omega)]
  omega
/-- The state that eight numbers tell. -/
def stOf (zs : List Int) : St := ⟨uOf (zs.getD 0 0), uOf (zs.getD 1 0), uOf (zs.getD 2 0), uOf (zs.getD 3 0), uOf (zs.getD 4 0), uOf (zs.getD 5 0), uOf (zs.getD 6 0), uOf (zs.getD 7 0)⟩
theorem stOf_at (zs : List Int) (j : Nat) (h : j < 8) : (stOf zs).row.getD j 0 = uOf (zs.getD j 0) := by
  rcases (by omega : j = 0 ∨ j = 1 ∨ j = 2 ∨ j = 3 ∨ j = 4 ∨ j = 5 ∨ j = 6 ∨ j = 7) with rfl | rfl | rfl | rfl | rfl | rfl | rfl | rfl <;> rfl
theorem stOf_cells {zs : List Int} (hl : zs.length = 8) (hz : ∀ i, i < 8 → 0 ≤ zs.getD i 0 ∧ zs.getD i 0 ≤ 4294967295) : iCells (stOf zs) = lCells zs := by
  apply List.ext_getElem?
  intro j
  by_cases hj : j < 8
  · rw [iCells_at _ j hj, stOf_at zs j hj, uI_uOf (hz j hj).1 (hz j hj).2]
    simp [lCells, List.getD, show j < zs.length by omega]
  · rw [List.getElem?_eq_none (show 8 ≤ j by omega), List.getElem?_eq_none (by simp [lCells]; omega)]
theorem stOf_range {w : World} {a : Option Addr} {zs : List Int} (hl : zs.length = 8) (hz : ∀ i, i < 8 → 0 ≤ zs.getD i 0 ∧ zs.getD i 0 ≤ 4294967295) {g : Nat} (ha : a = some ⟨g, 0, none⟩) (h : IsInts w a zs) : w.rangeAt g 0 (iCells (stOf zs)) := by
  intro j v hv
  rw [stOf_cells hl hz] at hv
  rcases h with rfl | ⟨b, o, hb, hc⟩
  · simp at hl
  · rw [ha] at hb
    simp only [Option.some.injEq, Addr.mk.injEq, and_true] at hb
    obtain ⟨rfl, rfl⟩ := hb
    have hj : j < zs.length := by
      rcases Nat.lt_or_ge j zs.length with h' | h'
      · exact h'
      · rw [List.getElem?_eq_none (by simp [lCells]; omega)] at hv; cases hv
    rw [hc j hj, ← hv]
    simp [lCells, List.getD, hj]
/-- What HashEnd answers. -/
def endOf (zs : List Int) (r : ByteArray) (z : Int) : ByteArray := if rightB zs r.size z then strOfNums (digL (endSt (stOf zs) r z.toNat)) else ByteArray.empty
end Go.Proofs.YtbkkjgpaccfplaaDoor
