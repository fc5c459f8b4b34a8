/- spec.HashMore of a right hash that stays within its bounds, walked. -/
import Derived.Test.YtbkkjgpaccfplaeDoorHashES
namespace Go.Proofs.YtbkkjgpaccfplaeDoor
open Go.RowKit

set_option maxHeartbeats 1000000 in
set_option maxRecDepth 100000 in
theorem specHashMore (g : Nat) (zs : List Int) (c : Nat) (r text : ByteArray) (z : Int) (w : World) (ht : text.size ≤ 20000) (hR : rightB zs r.size z = true) (hs : z + text.size ≤ 1099511627776) (ha : IsInts w (some ⟨g, 0, none⟩) zs) :
    Calls Tryd.prog 7 #[hashV (some ⟨g, 0, none⟩) 8 c r z, .string text] w fun e w' => ∃ G cG, e = .returned (hashV (some ⟨G, 0, none⟩) 8 cG (restOf (r ++ text)) (z + text.size)) ∧ w'.ownsRow w.heap.size 2 1 (.slice (some ⟨G, 0, none⟩) 8 cG) 8 (iCells (more (stOf zs) (r ++ text))) ∧ Below w.heap.size w w' := by
  have hA : ∀ x y, Below w.heap.size w ((w.alloc x).alloc y) := fun x y => ((Below.refl _ w).alloc (Nat.le_refl _) x).alloc (by simp) y
  obtain ⟨h8, hz0, hz1, hrs, hall⟩ := (right_iff zs r.size z).1 hR
  have HR : Hid (rightB zs r.size z = true) := hR
  have HALL : Hid (∀ i, i < 8 → 0 ≤ zs.getD i 0 ∧ zs.getD i 0 ≤ 4294967295) := hall
  have H8 : Hid (zs.length = 8) := h8
  have hr64 : r.size < 64 := by omega
  clear hR hall h8
  go_enter Tryd.func7, Tryd.ntmps7
  go_wp2_with fail
  generalize hw1 : (w.alloc (.cells #[.slice (some ⟨g, 0, none⟩) 8 c, .string r, .int .i64 z] 26 (0, 0))).alloc (.cells #[.slice none 0 0, .string ⟨#[]⟩, .int .i64 0] 26 (0, 0)) = w1
  have hb1 : Below w.heap.size w w1 := by rw [← hw1]; exact hA _ _
  have hs1 : w1.heap.size = w.heap.size + 2 := by rw [← hw1]; simp
  have p0 : w1.cell? ⟨w.heap.size, 0, none⟩ = some (.slice (some ⟨g, 0, none⟩) 8 c) := by rw [← hw1]; simp
  have p1 : w1.cell? ⟨w.heap.size, 1, none⟩ = some (.string r) := by rw [← hw1]; simp
  have p2 : w1.cell? ⟨w.heap.size, 2, none⟩ = some (.int .i64 z) := by rw [← hw1]; simp
  have hR1 : w1.heap[w.heap.size + 1]? = some (.cells [Value.slice none 0 0, .string ⟨#[]⟩, .int .i64 0].toArray 26 (0, 0)) := by rw [← hw1]; exact heap_alloc2 w _ _
  have ha1 := ha.below hb1 ha.lt
  have hcall := specRight (some ⟨g, 0, none⟩) zs c r z w1 (by rw [H8.out]; omega) (by omega) (by omega) (by omega) ha1
  rw [H8.out, HR.out] at hcall
  refine hcall.mono ?_
  clear hcall
  rintro e w2 ⟨rfl, hb2⟩
  have ha2 := ha1.below hb2 ha1.lt
  rw [← hb2.cell (p := ⟨w.heap.size, 0, none⟩) (show w.heap.size < w1.heap.size by omega)] at p0
  rw [← hb2.cell (p := ⟨w.heap.size, 1, none⟩) (show w.heap.size < w1.heap.size by omega)] at p1
  rw [← hb2.cell (p := ⟨w.heap.size, 2, none⟩) (show w.heap.size < w1.heap.size by omega)] at p2
  have hR2 : w2.heap[w.heap.size + 1]? = some (.cells [Value.slice none 0 0, .string ⟨#[]⟩, .int .i64 0].toArray 26 (0, 0)) := by rw [hb2.block _ (by omega)]; exact hR1
  have HB2 : Hid (Below w.heap.size w w2) := hb1.trans (hb2.mono (by omega))
  have HI : Hid (IsInts w2 (some ⟨g, 0, none⟩) zs) := ha2
  have HR2 : Hid _ := hR2
  have HS2 : Hid (w.heap.size + 2 ≤ w2.heap.size) := by have := hb2.size; show _ ≤ _; omega
  clear hb1 hb2 ha ha1 ha2 hw1 hA hs1 hR1 hR2
  go_wp2_with fail
  refine (specMore (stOf zs) r text z w2 g c (by omega) (by omega) hz0 (by omega) (stOf_range H8.out HALL.out rfl HI.out)).mono ?_
  rintro e w3 ⟨v, rfl, hown, hb3⟩
  obtain ⟨G, cG, rfl⟩ := owns_form hown (by omega)
  have hR3 : w3.heap[w.heap.size + 1]? = some (.cells [Value.slice none 0 0, .string ⟨#[]⟩, .int .i64 0].toArray 26 (0, 0)) := by rw [hb3.block _ (by have := HS2.out; omega)]; exact HR2.out
  have m0 := rowFacts hR3 0 _ rfl
  have m1 := rowFacts hR3 1 _ rfl
  have m2 := rowFacts hR3 2 _ rfl
  have y0 := frozen_of_row w3 _ 0 _ _ hR3
  have y1 := frozen_of_row w3 _ 1 _ _ hR3
  have y2 := frozen_of_row w3 _ 2 _ _ hR3
  have HB3 : Hid (Below w.heap.size w w3) := HB2.out.trans (hb3.mono HB2.out.size)
  have HO : Hid (w3.ownsRow w2.heap.size 2 1 (.slice (some ⟨G, 0, none⟩) 8 cG) 8 (iCells (more (stOf zs) (r ++ text)))) := hown
  have HR3 : Hid _ := hR3
  clear hown hb3 hR3 p0 p1 p2
  go_wp2
  refine bodyPost_ret (v := hashV (some ⟨G, 0, none⟩) 8 cG (restOf (r ++ text)) (z + text.size)) ?_ rfl ?_
  · have hrow := row3 HR3.out (.slice (some ⟨G, 0, none⟩) 8 cG) (.string (restOf (r ++ text))) (.int .i64 (z + text.size))
    have hl3 := run_loadVar_mid (P := Tryd.prog) _ (w.heap.size + 1) 0 26 _ _ (rangeRow hrow) Tryd.underlying26 rfl sizeHash
    simp [results, Tryd.results7, asAddr, hl3]
  · have hne : G ≠ w.heap.size + 1 := by
      have h1 := HS2.out
      rcases HO.out.2 with ⟨h', _⟩ | ⟨g', c', cur, h', hb, _⟩
      · simp at h'
      · simp only [Value.slice.injEq, Option.some.injEq, Addr.mk.injEq, and_true, true_and] at h'
        obtain ⟨rfl, rfl⟩ := h'
        omega
    refine ⟨G, cG, rfl, ?_, ((HB3.out.setCell (by simp) _).setCell (by simp) _).setCell (by simp) _⟩
    have ho := owns_other (w' := ((w3.setCell ⟨w.heap.size + 1, 0, none⟩ (.slice (some ⟨G, 0, none⟩) 8 cG)).setCell ⟨w.heap.size + 1, 1, none⟩ (.string (restOf (r ++ text)))).setCell ⟨w.heap.size + 1, 2, none⟩ (.int .i64 (z + text.size))) HO.out (by rw [heap_setCell_other _ _ _ _ hne, heap_setCell_other _ _ _ _ hne, heap_setCell_other _ _ _ _ hne])
    refine ⟨ho.1, ?_⟩
    rcases ho.2 with h | ⟨g3, c3, cur3, h3, hb3, hr3⟩
    · exact .inl h
    · exact .inr ⟨g3, c3, cur3, h3, Nat.le_trans HB2.out.size hb3, hr3⟩
end Go.Proofs.YtbkkjgpaccfplaeDoor
