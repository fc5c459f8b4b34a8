/- spec.Digest, walked. -/
import Derived.Test.YtbkkjgpaccfplaaDoorShaM
import Derived.Test.YtbkkjgpaccfplaaDoorShaJ
namespace Go.Proofs.YtbkkjgpaccfplaaDoor
open Go.RowKit

theorem specBegin0 (w : World) :
    Calls Tryd.prog 40 #[] w fun e w' => ∃ g, e = .returned (.agg #[.slice (some ⟨g, 0, none⟩) 8 8, .string ByteArray.empty, .int .i64 0]) ∧ w.heap.size ≤ g ∧ w'.heap[g]? = some (.cells (iCells st0).toArray 2 (0, 0)) ∧ Below w.heap.size w w' := by
  go_enter Tryd.func40, Tryd.ntmps40
  go_wp2
  go_returns
  exact ⟨w.heap.size + 1, rfl, by omega, heap_alloc2 w _ _, ((Below.refl _ w).alloc (Nat.le_refl _) _).alloc (by simp) _⟩
set_option maxHeartbeats 1000000 in
set_option maxRecDepth 100000 in
theorem specDigest (t : ByteArray) (w : World) (ht : t.size ≤ 20000) :
    Calls Tryd.prog 15 #[.string t] w fun e w' => e = .returned (.string (digOf t)) ∧ Below w.heap.size w w' := by
  go_enter Tryd.func15, Tryd.ntmps15
  go_wp2_with fail
  refine (specBegin0 w).mono ?_
  rintro e w1 ⟨g, rfl, hg, hr, hb1⟩
  have HR : Hid _ := rangeRow hr
  have HB1 : Hid (Below w.heap.size w w1) := hb1
  clear hr hb1
  go_wp2_with fail
  refine (specMore st0 ByteArray.empty t 0 w1 g 8 (by simp) (by omega) (by omega) (by omega) HR.out).mono ?_
  rintro e w2 ⟨v, rfl, hown, hb2⟩
  rw [empty_append] at hown ⊢
  obtain ⟨G, cG, rfl⟩ := owns_form hown (by omega)
  have HO : Hid _ := owns_range hown
  have HB2 : Hid (Below w.heap.size w w2) := HB1.out.trans (hb2.mono HB1.out.size)
  have e0 : (0 : Int) + (t.size : Int) = ((t.size : Nat) : Int) := by omega
  rw [e0]
  clear hown hb2 e0
  go_wp2_with fail
  refine (specEnd (more st0 t) (restOf t) t.size w2 G cG (by rw [size_restOf]; omega) (by omega) HO.out).mono ?_
  rintro e w3 ⟨rfl, hb3⟩
  have HB3 : Hid (Below w.heap.size w w3) := HB2.out.trans (hb3.mono HB2.out.size)
  clear hb3
  go_wp2
  go_ret
  exact ⟨rfl, HB3.out⟩
theorem specDigest_long (t : ByteArray) (w : World) (hs : 20000 < t.size) (hm : t.size ≤ maxLen) :
    Calls Tryd.prog 15 #[.string t] w fun e w' => e = .returned (.string ByteArray.empty) ∧ Below w.heap.size w w' := by
  unfold maxLen at hm
  go_enter Tryd.func15, Tryd.ntmps15
  go_wp2
  go_ret
  exact ⟨rfl, Below.refl _ _⟩
end Go.Proofs.YtbkkjgpaccfplaaDoor
