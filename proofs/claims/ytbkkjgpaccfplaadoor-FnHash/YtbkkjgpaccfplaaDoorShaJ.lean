/- impl.Digest, walked. -/
import Derived.Test.YtbkkjgpaccfplaaDoorShaI
import Derived.Test.YtbkkjgpaccfplaaDoorLong
namespace Go.Proofs.YtbkkjgpaccfplaaDoor
open Go.RowKit

theorem beginW (w : World) :
    Calls Tryd.prog 35 #[] w fun e w' => e = .returned (.agg #[.int .u32 1779033703, .int .u32 3144134277, .int .u32 1013904242, .int .u32 2773480762, .int .u32 1359893119, .int .u32 2600822924, .int .u32 528734635, .int .u32 1541459225, .string ⟨#[]⟩, .int .i64 0]) ∧ Below w.heap.size w w' := by
  go_enter Tryd.func35, Tryd.ntmps35
  go_wp2
  go_returns
  exact ⟨rfl, (Below.refl _ w).alloc (Nat.le_refl _) _⟩
/-- The digest of a text. -/
def digOf (t : ByteArray) : ByteArray := strOfNums (digL (endSt (more st0 t) (restOf t) t.size))
theorem empty_append (t : ByteArray) : ByteArray.empty ++ t = t := by
  apply ByteArray.ext
  simp
set_option maxHeartbeats 1000000 in
set_option maxRecDepth 100000 in
theorem implDigest (t : ByteArray) (w : World) (ht : t.size ≤ 20000) (hk : Keys w) :
    Calls Tryd.prog 14 #[.string t] w fun e w' => e = .returned (.string (digOf t)) ∧ Below w.heap.size w w' := by
  have hkp := hk.pos
  have hd : decide (20000 < t.size) = false := by simp; omega
  go_enter Tryd.func14, Tryd.ntmps14
  go_wp2_with fail
  refine (tooLong t _ (by unfold maxLen; omega)).mono ?_
  rintro e w' ⟨rfl, rfl⟩
  go_wp2_with fail
  refine (beginW w').mono ?_
  rintro e w1 ⟨rfl, hb1⟩
  have hs1 := hb1.size
  have HB1 : Hid (Below w'.heap.size w' w1) := hb1
  clear hb1
  go_wp2_with fail
  generalize hw2 : w1.alloc _ = w2
  have hg2 : w2.heap[w1.heap.size]? = some (.cells (workCells st0 ByteArray.empty 0).toArray 67 (0, 0)) := by rw [← hw2]; exact heap_alloc_new w1 _
  have hb2 : Below w'.heap.size w' w2 := by rw [← hw2]; exact HB1.out.alloc hs1 _
  refine (takeW st0 ByteArray.empty t 0 w2 w' w1.heap.size w'.heap.size 67 (by simp) (by omega) (by omega) (by omega) hg2 hb2 hs1 hk hkp).mono ?_
  rintro e w3 ⟨rfl, hg3, hb3⟩
  rw [empty_append] at hg3
  have hg3' : w3.heap[w1.heap.size]? = some (.cells (workCells (more st0 t) (restOf t) (t.size : Nat)).toArray 67 (0, 0)) := by simpa using hg3
  have HG3 : Hid _ := hg3'
  have HB3 : Hid (Below w'.heap.size w' w3) := hb3
  have HK : Hid (Keys w') := hk
  clear hg3 hg3' hb3 hg2 hb2 hw2 hk
  go_wp2_with fail
  refine (endW (more st0 t) (restOf t) t.size w3 w' w1.heap.size w'.heap.size 67 (by rw [size_restOf]; omega) (by omega) HG3.out HB3.out hs1 HK.out hkp).mono ?_
  rintro e w4 ⟨rfl, hb4⟩
  have HB4 : Hid (Below w'.heap.size w' w4) := hb4
  clear hb4
  go_wp2
  go_ret
  exact ⟨rfl, HB4.out⟩
theorem implDigest_long (t : ByteArray) (w : World) (hs : 20000 < t.size) (hm : t.size ≤ maxLen) :
    Calls Tryd.prog 14 #[.string t] w fun e w' => e = .returned (.string ByteArray.empty) ∧ Below w.heap.size w w' := by
  have hd : decide (20000 < t.size) = true := by simp; omega
  go_enter Tryd.func14, Tryd.ntmps14
  go_wp2_with fail
  refine (tooLong t _ hm).mono ?_
  rintro e w' ⟨rfl, rfl⟩
  go_wp2
  go_ret
  exact ⟨rfl, Below.refl _ _⟩
end Go.Proofs.YtbkkjgpaccfplaaDoor
