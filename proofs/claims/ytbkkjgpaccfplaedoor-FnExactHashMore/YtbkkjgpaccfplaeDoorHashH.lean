/- impl.HashMore of a hash that is handed back as it is, walked. -/
import Derived.Test.YtbkkjgpaccfplaeDoorHashFI
import Derived.Test.YtbkkjgpaccfplaeDoorHashG
namespace Go.Proofs.YtbkkjgpaccfplaeDoor
open Go.RowKit

set_option maxHeartbeats 1000000 in
set_option maxRecDepth 100000 in
theorem implHashKeep (g : Nat) (zs : List Int) (c : Nat) (r text : ByteArray) (z : Int) (w : World) (ht : text.size ≤ 20000) (hl : zs.length ≤ 1048576) (hr : r.size ≤ 1048576) (z0 : -9223372036854775808 ≤ z) (z1 : z ≤ 9223372036854775807) (hno : rightB zs r.size z = false ∨ (rightB zs r.size z = true ∧ 0 ≤ z ∧ z ≤ 1099511627776 ∧ 1099511627776 < z + text.size)) (ha : IsInts w (some ⟨g, 0, none⟩) zs) :
    Calls Tryd.prog 9 #[hashV (some ⟨g, 0, none⟩) zs.length c r z, .string text] w fun e w' => ∃ q cq L, e = .returned (hashV (some ⟨q, 0, none⟩) zs.length cq r z) ∧ w.heap.size ≤ q ∧ w'.heap[q]? = some (.cells (lCells zs ++ L).toArray 2 (0, 0)) ∧ Below w.heap.size w w' := by
  have hA : ∀ x y, Below w.heap.size w ((w.alloc x).alloc y) := fun x y => ((Below.refl _ w).alloc (Nat.le_refl _) x).alloc (by simp) y
  have hd : decide (20000 < text.size) = false := by simp; omega
  go_enter Tryd.func9, Tryd.ntmps9
  go_wp2_with fail
  refine (tooLong text _ (by unfold maxLen; omega)).mono ?_
  rintro e w' ⟨rfl, rfl⟩
  go_wp2_with fail
  generalize hw1 : (w.alloc (.cells #[.slice (some ⟨g, 0, none⟩) zs.length c, .string r, .int .i64 z] 26 (0, 0))).alloc (.cells #[.slice none 0 0, .string ⟨#[]⟩, .int .i64 0] 26 (0, 0)) = w1
  have hb1 : Below w.heap.size w w1 := by rw [← hw1]; exact hA _ _
  have hs1 : w1.heap.size = w.heap.size + 2 := by rw [← hw1]; simp
  have p0 : w1.cell? ⟨w.heap.size, 0, none⟩ = some (.slice (some ⟨g, 0, none⟩) zs.length c) := by rw [← hw1]; simp
  have p1 : w1.cell? ⟨w.heap.size, 1, none⟩ = some (.string r) := by rw [← hw1]; simp
  have p2 : w1.cell? ⟨w.heap.size, 2, none⟩ = some (.int .i64 z) := by rw [← hw1]; simp
  have hR1 : w1.heap[w.heap.size + 1]? = some (.cells [Value.slice none 0 0, .string ⟨#[]⟩, .int .i64 0].toArray 26 (0, 0)) := by rw [← hw1]; exact heap_alloc2 w _ _
  have ha1 := ha.below hb1 ha.lt
  refine (implRight (some ⟨g, 0, none⟩) zs c r z w1 hl hr z0 z1 ha1).mono ?_
  rintro e w2 ⟨rfl, hb2⟩
  have ha2 := ha1.below hb2 ha1.lt
  rw [← hb2.cell (p := ⟨w.heap.size, 0, none⟩) (show w.heap.size < w1.heap.size by omega)] at p0
  rw [← hb2.cell (p := ⟨w.heap.size, 1, none⟩) (show w.heap.size < w1.heap.size by omega)] at p1
  rw [← hb2.cell (p := ⟨w.heap.size, 2, none⟩) (show w.heap.size < w1.heap.size by omega)] at p2
  have hR2 : w2.heap[w.heap.size + 1]? = some (.cells [Value.slice none 0 0, .string ⟨#[]⟩, .int .i64 0].toArray 26 (0, 0)) := by rw [hb2.block _ (by omega)]; exact hR1
  have HB2 : Hid (Below w.heap.size w w2) := hb1.trans (hb2.mono (by omega))
  have HI : Hid (IsInts w2 (some ⟨g, 0, none⟩) zs) := ha2
  have HR2 : Hid _ := hR2
  have HS2 : Hid (w.heap.size + 2 ≤ w2.heap.size) := by have := hb2.size; show _ ≤ _; omega
  clear hb1 hb2 ha ha1 ha2 hw1 hA hs1 hR1 hR2
  have HC : Hid (Calls Tryd.prog 23 #[hashV (some ⟨g, 0, none⟩) zs.length c r z] w2 fun e w3 => ∃ q cq L, e = .returned (hashV (some ⟨q, 0, none⟩) zs.length cq r z) ∧ w2.heap.size ≤ q ∧ w3.heap[q]? = some (.cells (lCells zs ++ L).toArray 2 (0, 0)) ∧ Below w2.heap.size w2 w3) := copyHash g c zs r z w2 hl hr HI.out
  rcases hno with hno | ⟨hno, n0, n1, n2⟩
  all_goals
    rw [hno]
    clear hno
    go_wp2_with fail
    refine HC.out.mono ?_
    rintro e w3 ⟨q, cq, L, rfl, hq, hg, hb3⟩
    have h2 := HS2.out
    have hR3 : w3.heap[w.heap.size + 1]? = some (.cells [Value.slice none 0 0, .string ⟨#[]⟩, .int .i64 0].toArray 26 (0, 0)) := by rw [hb3.block _ (by omega)]; exact HR2.out
    have m0 := rowFacts hR3 0 _ rfl
    have m1 := rowFacts hR3 1 _ rfl
    have m2 := rowFacts hR3 2 _ rfl
    have y0 := frozen_of_row w3 _ 0 _ _ hR3
    have y1 := frozen_of_row w3 _ 1 _ _ hR3
    have y2 := frozen_of_row w3 _ 2 _ _ hR3
    have HB3 : Hid (Below w.heap.size w w3) := HB2.out.trans (hb3.mono HB2.out.size)
    have HG : Hid (w3.heap[q]? = some (.cells (lCells zs ++ L).toArray 2 (0, 0))) := hg
    have HR3 : Hid _ := hR3
    have hne : q ≠ w.heap.size + 1 := by omega
    have hle : w.heap.size ≤ q := by omega
    clear hg hb3 hR3 hq p0 p1 p2 HC
    go_wp2
    refine bodyPost_ret (v := hashV (some ⟨q, 0, none⟩) zs.length cq r z) ?_ rfl ?_
    · have hrow := row3 HR3.out (.slice (some ⟨q, 0, none⟩) zs.length cq) (.string r) (.int .i64 z)
      have hl3 := run_loadVar_mid (P := Tryd.prog) _ (w.heap.size + 1) 0 26 _ _ (rangeRow hrow) Tryd.underlying26 rfl sizeHash
      simp [results, Tryd.results9, asAddr, hl3]
    · exact ⟨q, cq, L, rfl, hle, by rw [heap_setCell_other _ _ _ _ hne, heap_setCell_other _ _ _ _ hne, heap_setCell_other _ _ _ _ hne]; exact HG.out, ((HB3.out.setCell (by simp) _).setCell (by simp) _).setCell (by simp) _⟩
end Go.Proofs.YtbkkjgpaccfplaeDoor
