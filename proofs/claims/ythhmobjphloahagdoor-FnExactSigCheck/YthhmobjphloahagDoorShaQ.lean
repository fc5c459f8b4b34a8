/- A text taken in parts is the text taken as a whole: plain mathematics, no program is named here. -/
import Derived.Test.YthhmobjphloahagDoorShaP
namespace Go.Proofs.YthhmobjphloahagDoor
open Go.RowKit

theorem wAt_congr {M M' : Nat → U} (h : ∀ i, i < 16 → M i = M' i) (i : Nat) : wAt M i = wAt M' i := by
  induction i using Nat.strongRecOn with
  | _ i ih =>
    by_cases hi : i < 16
    · rw [wAt_low M hi, wAt_low M' hi, h i hi]
    · rw [wAt_high M (by omega), wAt_high M' (by omega), ih (i - 16) (by omega), ih (i - 15) (by omega), ih (i - 7) (by omega), ih (i - 2) (by omega)]
theorem rnds_congr {M M' : Nat → U} (h : ∀ i, i < 16 → M i = M' i) (s : St) (n : Nat) : rnds s M n = rnds s M' n := by
  induction n with
  | zero => rfl
  | succ n ih => rw [rnds, rnds, ih, wAt_congr h]
theorem blk_congr {M M' : Nat → U} (h : ∀ i, i < 16 → M i = M' i) (s : St) : blk s M = blk s M' := by
  unfold blk; rw [rnds_congr h]
theorem wordAt_congr {t t' : ByteArray} {o o' i : Nat} (h : ∀ j, j < 4 → byteAt t (o + 4 * i + j) = byteAt t' (o' + 4 * i + j)) : wordAt t o i = wordAt t' o' i := by
  have h0 := h 0 (by omega)
  have h1 := h 1 (by omega)
  have h2 := h 2 (by omega)
  have h3 := h 3 (by omega)
  unfold wordAt
  rw [Nat.add_zero, Nat.add_zero] at h0
  rw [h0, h1, h2, h3]
theorem blks_congr {t t' : ByteArray} (s : St) (n : Nat) (h : ∀ j, j < 64 * n → byteAt t j = byteAt t' j) : blks s t n = blks s t' n := by
  induction n with
  | zero => rfl
  | succ n ih =>
    rw [blks, blks, ih (fun j hj => h j (by omega))]
    exact blk_congr (fun i hi => wordAt_congr (fun j hj => h _ (by omega))) _
theorem blks_add {t t' : ByteArray} (s : St) (n k : Nat) (h : ∀ j, j < 64 * k → byteAt t' j = byteAt t (64 * n + j)) : blks s t (n + k) = blks (blks s t n) t' k := by
  induction k with
  | zero => rfl
  | succ k ih =>
    rw [← Nat.add_assoc, blks, blks, ih (fun j hj => h j (by omega))]
    refine blk_congr (fun i hi => wordAt_congr (fun j hj => ?_)) _
    rw [h _ (by omega)]
    congr 1
    omega
/-- The state behind all whole blocks of a text, and what is left of it. -/
def more (s : St) (t : ByteArray) : St := blks s t (t.size / 64)
def restOf (t : ByteArray) : ByteArray := t.extract (64 * (t.size / 64)) t.size
theorem size_restOf (t : ByteArray) : (restOf t).size = t.size % 64 := by
  unfold restOf
  rw [ByteArray.size_extract]
  omega
theorem size_append (a b : ByteArray) : (a ++ b).size = a.size + b.size := ByteArray.size_append
theorem list_append (a b : ByteArray) : (a ++ b).data.toList = a.data.toList ++ b.data.toList := by
  simp
theorem list_extract (a : ByteArray) (i j : Nat) : (a.extract i j).data.toList = (a.data.toList.take j).drop i := by
  simp [List.drop_take]
theorem byteAt_left (a b : ByteArray) {j : Nat} (h : j < a.size) : byteAt (a ++ b) j = byteAt a j := by
  unfold byteAt
  rw [list_append, List.getD, List.getD, List.getElem?_append_left (by simpa using h)]
theorem byteAt_right (a b : ByteArray) (j : Nat) : byteAt (a ++ b) (a.size + j) = byteAt b j := by
  unfold byteAt
  rw [list_append, List.getD, List.getD, List.getElem?_append_right (by simp)]
  simp
theorem byteAt_rest (a : ByteArray) (o j : Nat) : byteAt (a.extract o a.size) j = byteAt a (o + j) := by
  unfold byteAt
  rw [list_extract, List.take_of_length_le (by simp), List.getD, List.getD, List.getElem?_drop]
theorem byteAt_restB (t b : ByteArray) {o : Nat} (ho : o ≤ t.size) (j : Nat) : byteAt (t.extract o t.size ++ b) j = byteAt (t ++ b) (o + j) := by
  have hs : (t.extract o t.size).size = t.size - o := by rw [ByteArray.size_extract]; omega
  by_cases h : j < t.size - o
  · rw [byteAt_left _ _ (by omega), byteAt_rest, byteAt_left _ _ (by omega)]
  · have e1 := byteAt_right (t.extract o t.size) b (j - (t.size - o))
    have e2 := byteAt_right t b (j - (t.size - o))
    rw [hs, show t.size - o + (j - (t.size - o)) = j by omega] at e1
    rw [show t.size + (j - (t.size - o)) = o + j by omega] at e2
    rw [e1, e2]
theorem more_more (s : St) (t b : ByteArray) : more (more s t) (restOf t ++ b) = more s (t ++ b) := by
  have hs : (restOf t ++ b).size = t.size % 64 + b.size := by rw [size_append, size_restOf]
  have hf : (t ++ b).size / 64 = t.size / 64 + (t.size % 64 + b.size) / 64 := by rw [size_append]; omega
  unfold more
  rw [hs, hf, blks_add (t := t ++ b) (t' := restOf t ++ b) s _ _ (fun j _ => byteAt_restB t b (by omega) j)]
  rw [blks_congr (t := t) (t' := t ++ b) s _ (fun j hj => (byteAt_left t b (by omega)).symm)]
theorem rest_more (t b : ByteArray) : restOf (restOf t ++ b) = restOf (t ++ b) := by
  have hs : (restOf t ++ b).size = t.size % 64 + b.size := by rw [size_append, size_restOf]
  have e : ((restOf (restOf t ++ b)).data.toList) = (restOf (t ++ b)).data.toList := by
    unfold restOf at *
    rw [hs, list_extract, list_append, list_extract, list_extract, list_append, size_append]
    have l1 : t.data.toList.length = t.size := by simp
    have l2 : b.data.toList.length = b.size := by simp
    generalize t.data.toList = T at *
    generalize b.data.toList = B at *
    rw [List.take_of_length_le (l := T) (by omega), List.take_of_length_le (l := T ++ B) (by simp; omega), List.take_of_length_le (l := List.drop _ T ++ B) (by simp; omega)]
    rw [show List.drop (64 * (t.size / 64)) T ++ B = List.drop (64 * (t.size / 64)) (T ++ B) from by
      rw [List.drop_append_of_le_length (by omega)]]
    rw [List.drop_drop]
    congr 1
    omega
  exact ByteArray.ext (Array.ext' e)
theorem more_nil (s : St) {r : ByteArray} (h : r.size < 64) : more s r = s ∧ restOf r = r := by
  unfold more restOf
  rw [show r.size / 64 = 0 by omega]
  exact ⟨rfl, by simp [ByteArray.extract_zero_size]⟩
/-- What fills a text of n bytes up to the end of a block. -/
def zerosOf (n : Nat) : Nat := 63 - (n + 8) % 64
def beF (x : Nat) (k : Nat) : List Int := (List.range k).map fun j => ((x / 256 ^ (k - 1 - j) % 256 : Nat) : Int)
def padL (n : Nat) : List Int := 128 :: (List.replicate (zerosOf n) 0 ++ beF (8 * n) 8)
theorem padL_len (n : Nat) : (padL n).length = 9 + zerosOf n := by simp [padL, beF]; omega
/-- The bytes of the eight numbers, the highest first. -/
def digU (x : U) : List Int := [uI x / 16777216, uI x / 65536 % 256, uI x / 256 % 256, uI x % 256]
def digL (s : St) : List Int := s.row.flatMap digU
def uCells (s : St) : List Value := s.row.map fun x => Value.int .u32 (uI x)
def iCells (s : St) : List Value := s.row.map fun x => Value.int .i64 (uI x)
theorem iCells_at (s : St) (j : Nat) (h : j < 8) : (iCells s)[j]? = some (.int .i64 (uI (s.row.getD j 0))) := by
  unfold iCells
  rw [List.getElem?_map, List.getD, List.getElem?_eq_getElem (show j < s.row.length from h)]
  rfl
theorem row_at (T : St) (k : Nat) (h : k < 8) : (uCells T)[k]? = some (.int .u32 (uI (T.row.getD k 0))) := by
  unfold uCells
  rw [List.getElem?_map, List.getD, List.getElem?_eq_getElem (show k < T.row.length from h)]
  rfl
theorem uI_i64 (x : U) : IntKind.i64.wrap (uI x) = uI x := by
  have := uI_nonneg x
  have := uI_lt x
  rw [IntKind.wrap_i64]; omega
end Go.Proofs.YthhmobjphloahagDoor
