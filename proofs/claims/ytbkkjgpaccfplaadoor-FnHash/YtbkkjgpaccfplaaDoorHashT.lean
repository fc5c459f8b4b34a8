/- A text taken in parts: impl.HashMore and impl.HashEnd at a Hash that some first part has left. -/
import Derived.Test.YtbkkjgpaccfplaaDoorHashFI
import Derived.Test.YtbkkjgpaccfplaaDoorHashD
namespace Go.Proofs.YtbkkjgpaccfplaaDoor
open Go.RowKit

theorem uOf_uI (x : U) : uOf (uI x) = x := by
  unfold uOf uI
  rw [Int.toNat_natCast, BitVec.ofNat_toNat, BitVec.setWidth_eq]
theorem stOf_row (s : St) : stOf (s.row.map uI) = s := by
  have h : ∀ j, j < 8 → uOf ((s.row.map uI).getD j 0) = s.row.getD j 0 := fun j hj => by
    rw [List.getD, List.getD, List.getElem?_map, List.getElem?_eq_getElem (show j < s.row.length from hj)]
    exact uOf_uI _
  cases s with
  | mk a b c d e f g h' =>
    unfold stOf
    rw [h 0 (by omega), h 1 (by omega), h 2 (by omega), h 3 (by omega), h 4 (by omega), h 5 (by omega), h 6 (by omega), h 7 (by omega)]
    rfl
theorem row_ints (s : St) : iCells s = lCells (s.row.map uI) := by simp [iCells, lCells]
theorem right_row (s : St) (p : ByteArray) (h : p.size ≤ 20000) : rightB (s.row.map uI) (restOf p).size (p.size : Int) = true := by
  refine right_true ⟨rfl, by omega, by omega, ?_, fun i hi => ?_⟩
  · rw [size_restOf]; omega
  · rw [List.getD, List.getElem?_map, List.getElem?_eq_getElem (show i < s.row.length from hi)]
    exact ⟨uI_nonneg _, uI_le _⟩
/-- The Hash that the first part p has left, its numbers in the row g. -/
def Took (w : World) (g : Nat) (p : ByteArray) : Prop := w.heap[g]? = some (.cells (iCells (more st0 p)).toArray 2 (0, 0))
theorem Took.ints {w : World} {g : Nat} {p : ByteArray} (h : Took w g p) : IsInts w (some ⟨g, 0, none⟩) ((more st0 p).row.map uI) :=
  .row (t := 2) (rest := []) (by rw [← row_ints, List.append_nil]; exact h)
theorem Took.below {w w' : World} {g N : Nat} {p : ByteArray} (h : Took w g p) (hb : Below N w w') (hN : w.heap.size ≤ N) : Took w' g p := by
  unfold Took
  rw [hb.block _ (Nat.lt_of_lt_of_le (heap_lt h) hN)]; exact h
theorem moreAt (g : Nat) (p x : ByteArray) (w : World) (hp : p.size ≤ 20000) (hx : x.size ≤ 20000) (hg : Took w g p) (hk : Keys w) :
    Calls Tryd.prog 18 #[hashV (some ⟨g, 0, none⟩) 8 8 (restOf p) (p.size : Int), .string x] w fun e w' => ∃ q, e = .returned (hashV (some ⟨q, 0, none⟩) 8 8 (restOf (p ++ x)) ((p ++ x).size : Int)) ∧ w.heap.size ≤ q ∧ Took w' q (p ++ x) ∧ Below w.heap.size w w' := by
  refine (implHashMore g ((more st0 p).row.map uI) 8 (restOf p) x p.size w hx (right_row _ p hp) (by omega) hg.ints hk).mono ?_
  rintro e w' ⟨q, rfl, hq, hr, hb⟩
  refine ⟨q, ?_, hq, ?_, hb⟩
  · rw [rest_more, size_append, Int.natCast_add]
  · unfold Took
    rw [hr, stOf_row, more_more]
theorem endAt (g : Nat) (p : ByteArray) (w : World) (hp : p.size ≤ 20000) (hg : Took w g p) (hk : Keys w) :
    Calls Tryd.prog 20 #[hashV (some ⟨g, 0, none⟩) 8 8 (restOf p) (p.size : Int)] w fun e w' => e = .returned (.string (digOf p)) ∧ Below w.heap.size w w' := by
  have hr := size_restOf p
  refine (implHashEnd g ((more st0 p).row.map uI) 8 (restOf p) p.size w (show 8 ≤ 1048576 by omega) (by omega) (by omega) (by omega) hg.ints hk).mono ?_
  rintro e w' ⟨rfl, hb⟩
  refine ⟨?_, hb⟩
  unfold endOf
  rw [right_row _ p hp, stOf_row, Int.toNat_natCast]
  rfl
theorem rightAt (g : Nat) (p : ByteArray) (w : World) (hp : p.size ≤ 20000) (hg : Took w g p) :
    Calls Tryd.prog 19 #[hashV (some ⟨g, 0, none⟩) 8 8 (restOf p) (p.size : Int)] w fun e w' => e = .returned (.bool true) ∧ Below w.heap.size w w' := by
  have hr := size_restOf p
  have h := implRight (some ⟨g, 0, none⟩) ((more st0 p).row.map uI) 8 (restOf p) p.size w (show 8 ≤ 1048576 by omega) (by omega) (by omega) (by omega) hg.ints
  rw [right_row _ p hp] at h
  exact h
theorem beginAt (w : World) :
    Calls Tryd.prog 16 #[] w fun e w' => ∃ g, e = .returned (hashV (some ⟨g, 0, none⟩) 8 8 (restOf ByteArray.empty) (ByteArray.empty.size : Int)) ∧ w.heap.size ≤ g ∧ Took w' g ByteArray.empty ∧ Below w.heap.size w w' := by
  refine (implBegin w).mono ?_
  rintro e w' ⟨g, rfl, hg, hr, hb⟩
  exact ⟨g, rfl, hg, hr, hb⟩
end Go.Proofs.YtbkkjgpaccfplaaDoor
