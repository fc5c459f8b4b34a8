/- The begin of a hash: spec.HashBegin, impl.HashBegin, walked. -/
import Derived.Test.YtbkkjgpaccfplaaDoorHashC
namespace Go.Proofs.YtbkkjgpaccfplaaDoor
open Go.RowKit

theorem beginWork (w : World) :
    Calls Tryd.prog 35 #[] w fun e w' => e = .returned (.agg #[.int .u32 1779033703, .int .u32 3144134277, .int .u32 1013904242, .int .u32 2773480762, .int .u32 1359893119, .int .u32 2600822924, .int .u32 528734635, .int .u32 1541459225, .string ⟨#[]⟩, .int .i64 0]) ∧ Below w.heap.size w w' := by
  go_enter Tryd.func35, Tryd.ntmps35
  go_wp2
  go_returns
  exact ⟨rfl, (Below.refl _ w).alloc (Nat.le_refl _) _⟩
theorem specBegin (w : World) :
    Calls Tryd.prog 40 #[] w fun e w' => ∃ g, e = .returned (hashV (some ⟨g, 0, none⟩) 8 8 ByteArray.empty 0) ∧ w.heap.size ≤ g ∧ w'.heap[g]? = some (.cells (iCells st0).toArray 2 (0, 0)) ∧ Below w.heap.size w w' := by
  go_enter Tryd.func40, Tryd.ntmps40
  go_wp2
  go_returns
  exact ⟨w.heap.size + 1, rfl, by omega, heap_alloc2 w _ _, ((Below.refl _ w).alloc (Nat.le_refl _) _).alloc (by simp) _⟩
theorem sizeWork : (Tryd.prog.info? 67).map (·.size) = some 10 := by kernel_rfl
theorem implBegin (w : World) :
    Calls Tryd.prog 16 #[] w fun e w' => ∃ g, e = .returned (hashV (some ⟨g, 0, none⟩) 8 8 ByteArray.empty 0) ∧ w.heap.size ≤ g ∧ w'.heap[g]? = some (.cells (iCells st0).toArray 2 (0, 0)) ∧ Below w.heap.size w w' := by
  go_enter Tryd.func16, Tryd.ntmps16
  go_wp2_with fail
  have hA : ∀ o, Below w.heap.size w (w.alloc o) := fun o => (Below.refl _ w).alloc (Nat.le_refl _) o
  generalize hw1 : w.alloc _ = w1
  have hb1 : Below w.heap.size w w1 := by rw [← hw1]; exact hA _
  have hs1 : w1.heap.size = w.heap.size + 1 := by rw [← hw1]; simp
  have hR1 : w1.heap[w.heap.size]? = some (.cells [Value.slice none 0 0, .string ⟨#[]⟩, .int .i64 0].toArray 36 (0, 0)) := by rw [← hw1]; exact heap_alloc_new w _
  refine (beginWork w1).mono ?_
  rintro e w2 ⟨rfl, hb2⟩
  have hR2 : w2.heap[w.heap.size]? = some (.cells [Value.slice none 0 0, .string ⟨#[]⟩, .int .i64 0].toArray 36 (0, 0)) := by rw [hb2.block _ (by omega)]; exact hR1
  have hs2 : w.heap.size + 1 ≤ w2.heap.size := by have := hb2.size; omega
  have HB2 : Hid (Below w.heap.size w w2) := hb1.trans (hb2.mono (by omega))
  have HR2 : Hid _ := hR2
  clear hw1 hR1 hb1 hb2 hR2 hA hs1
  go_wp2_with fail
  refine (workHash st0 ByteArray.empty 0 _ w2.heap.size 67 (heap_alloc_new w2 _)).mono ?_
  rintro e w4 ⟨q, rfl, hq, hgq, hb4⟩
  have hR4 : w4.heap[w.heap.size]? = some (.cells [Value.slice none 0 0, .string ⟨#[]⟩, .int .i64 0].toArray 36 (0, 0)) := by
    rw [hb4.block _ (by simp; omega), Below.heap_alloc w2 _ _ (by omega), HR2.out]
  have m0 := rowFacts hR4 0 _ rfl
  have m1 := rowFacts hR4 1 _ rfl
  have m2 := rowFacts hR4 2 _ rfl
  have z0 := frozen_of_row w4 _ 0 _ _ hR4
  have z1 := frozen_of_row w4 _ 1 _ _ hR4
  have z2 := frozen_of_row w4 _ 2 _ _ hR4
  have hq2 : w.heap.size + 1 ≤ q := by simp at hq; omega
  have HB4 : Hid (Below w.heap.size w w4) := (HB2.out.alloc (by omega) _).trans (hb4.mono (by simp; omega))
  have HR4 : Hid _ := hR4
  have HQ : Hid (w4.heap[q]? = some (.cells (iCells st0).toArray 2 (0, 0))) := hgq
  clear hb4 hR4 hgq hq
  go_wp2
  refine bodyPost_ret (v := hashV (some ⟨q, 0, none⟩) 8 8 ByteArray.empty 0) ?_ rfl ?_
  · have hrow := row3 HR4.out (.slice (some ⟨q, 0, none⟩) 8 8) (.string ByteArray.empty) (.int .i64 0)
    have hl3 := run_loadVar_mid (P := Tryd.prog) _ w.heap.size 0 36 _ _ (rangeRow hrow) Tryd.underlying36 rfl sizeHash
    simp [results, Tryd.results16, asAddr, hl3]
  · refine ⟨_, rfl, by omega, ?_, ((HB4.out.setCell (Nat.le_refl _) _).setCell (Nat.le_refl _) _).setCell (Nat.le_refl _) _⟩
    have hne : q ≠ w.heap.size := by omega
    repeat rw [heap_setCell_other _ _ _ _ hne]
    exact HQ.out

end Go.Proofs.YtbkkjgpaccfplaaDoor
