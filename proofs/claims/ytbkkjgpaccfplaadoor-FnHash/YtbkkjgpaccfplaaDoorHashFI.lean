/- impl.HashMore of a right hash that stays within its bounds, walked. -/
import Derived.Test.YtbkkjgpaccfplaaDoorHashEI
import Derived.Test.YtbkkjgpaccfplaaDoorHashC
namespace Go.Proofs.YtbkkjgpaccfplaaDoor
open Go.RowKit

set_option maxHeartbeats 1000000 in
set_option maxRecDepth 100000 in
theorem implHashMore (g : Nat) (zs : List Int) (c : Nat) (r text : ByteArray) (z : Int) (w : World) (ht : text.size ≤ 20000) (hR : rightB zs r.size z = true) (hs : z + text.size ≤ 1099511627776) (ha : IsInts w (some ⟨g, 0, none⟩) zs) (hk : Keys w) :
    Calls Tryd.prog 18 #[hashV (some ⟨g, 0, none⟩) 8 c r z, .string text] w fun e w' => ∃ q, e = .returned (hashV (some ⟨q, 0, none⟩) 8 8 (restOf (r ++ text)) (z + text.size)) ∧ w.heap.size ≤ q ∧ w'.heap[q]? = some (.cells (iCells (more (stOf zs) (r ++ text))).toArray 2 (0, 0)) ∧ Below w.heap.size w w' := by
  have hA : ∀ x y, Below w.heap.size w ((w.alloc x).alloc y) := fun x y => ((Below.refl _ w).alloc (Nat.le_refl _) x).alloc (by simp) y
  obtain ⟨h8, hz0, hz1, hrs, hall⟩ := (right_iff zs r.size z).1 hR
  have HR : Hid (rightB zs r.size z = true) := hR
  have HALL : Hid (∀ i, i < 8 → 0 ≤ zs.getD i 0 ∧ zs.getD i 0 ≤ 4294967295) := hall
  have H8 : Hid (zs.length = 8) := h8
  have hr64 : r.size < 64 := by omega
  have hd : decide (20000 < text.size) = false := by simp; omega
  have hkp := hk.pos
  have HK : Hid (Keys w) := hk
  clear hR hall h8 hk
  go_enter Tryd.func18, Tryd.ntmps18
  go_wp2_with fail
  refine (tooLong text _ (by unfold maxLen; omega)).mono ?_
  rintro e w' ⟨rfl, rfl⟩
  go_wp2_with fail
  generalize hw1 : (w.alloc (.cells #[.slice (some ⟨g, 0, none⟩) 8 c, .string r, .int .i64 z] 36 (0, 0))).alloc (.cells #[.slice none 0 0, .string ⟨#[]⟩, .int .i64 0] 36 (0, 0)) = w1
  have hb1 : Below w.heap.size w w1 := by rw [← hw1]; exact hA _ _
  have hs1 : w1.heap.size = w.heap.size + 2 := by rw [← hw1]; simp
  have p0 : w1.cell? ⟨w.heap.size, 0, none⟩ = some (.slice (some ⟨g, 0, none⟩) 8 c) := by rw [← hw1]; simp
  have p1 : w1.cell? ⟨w.heap.size, 1, none⟩ = some (.string r) := by rw [← hw1]; simp
  have p2 : w1.cell? ⟨w.heap.size, 2, none⟩ = some (.int .i64 z) := by rw [← hw1]; simp
  have hR1 : w1.heap[w.heap.size + 1]? = some (.cells [Value.slice none 0 0, .string ⟨#[]⟩, .int .i64 0].toArray 36 (0, 0)) := by rw [← hw1]; exact heap_alloc2 w _ _
  have ha1 := ha.below hb1 ha.lt
  have hcall := implRight (some ⟨g, 0, none⟩) zs c r z w1 (by rw [H8.out]; omega) (by omega) (by omega) (by omega) ha1
  rw [H8.out, HR.out] at hcall
  refine hcall.mono ?_
  clear hcall
  rintro e w2 ⟨rfl, hb2⟩
  have ha2 := ha1.below hb2 ha1.lt
  rw [← hb2.cell (p := ⟨w.heap.size, 0, none⟩) (show w.heap.size < w1.heap.size by omega)] at p0
  rw [← hb2.cell (p := ⟨w.heap.size, 1, none⟩) (show w.heap.size < w1.heap.size by omega)] at p1
  rw [← hb2.cell (p := ⟨w.heap.size, 2, none⟩) (show w.heap.size < w1.heap.size by omega)] at p2
  have hR2 : w2.heap[w.heap.size + 1]? = some (.cells [Value.slice none 0 0, .string ⟨#[]⟩, .int .i64 0].toArray 36 (0, 0)) := by rw [hb2.block _ (by omega)]; exact hR1
  have HB2 : Hid (Below w.heap.size w w2) := hb1.trans (hb2.mono (by omega))
  have HI : Hid (IsInts w2 (some ⟨g, 0, none⟩) zs) := ha2
  have HR2 : Hid _ := hR2
  have HS2 : Hid (w.heap.size + 2 ≤ w2.heap.size) := by have := hb2.size; show _ ≤ _; omega
  clear hb1 hb2 ha ha1 ha2 hw1 hA hs1 hR1 hR2
  go_wp2_with fail
  refine (workOf g zs c r z w2 H8.out HALL.out HI.out).mono ?_
  rintro e w3 ⟨rfl, hb3⟩
  have hR3 : w3.heap[w.heap.size + 1]? = some (.cells [Value.slice none 0 0, .string ⟨#[]⟩, .int .i64 0].toArray 36 (0, 0)) := by rw [hb3.block _ (by have := HS2.out; omega)]; exact HR2.out
  have HB3 : Hid (Below w.heap.size w w3) := HB2.out.trans (hb3.mono HB2.out.size)
  have HS3 : Hid (w.heap.size + 2 ≤ w3.heap.size) := by have := hb3.size; have := HS2.out; show _ ≤ _; omega
  have HR3 : Hid _ := hR3
  have e10 : (workCells (stOf zs) r z).toArray = #[.int .u32 (uI (stOf zs).a), .int .u32 (uI (stOf zs).b), .int .u32 (uI (stOf zs).c), .int .u32 (uI (stOf zs).d), .int .u32 (uI (stOf zs).e), .int .u32 (uI (stOf zs).f), .int .u32 (uI (stOf zs).g), .int .u32 (uI (stOf zs).h), .string r, .int .i64 z] := rfl
  rw [e10]
  clear hb3 hR3 p0 p1 p2 e10
  go_wp2_with fail
  generalize hw4 : w3.alloc _ = w4
  have hg4 : w4.heap[w3.heap.size]? = some (.cells (workCells (stOf zs) r z).toArray 67 (0, 0)) := by rw [← hw4]; exact heap_alloc_new w3 _
  have hb4 : Below (w.heap.size + 2) w3 w4 := by rw [← hw4]; exact (Below.refl _ w3).alloc HS3.out _
  have hk3 : Keys w3 := HK.out.below HB3.out hkp
  refine (takeW (stOf zs) r text z w4 w3 w3.heap.size (w.heap.size + 2) 67 (by omega) (by omega) hz0 (by omega) hg4 hb4 HS3.out hk3 (by omega)).mono ?_
  rintro e w5 ⟨rfl, hg5, hb5⟩
  have hR5 : w5.heap[w.heap.size + 1]? = some (.cells [Value.slice none 0 0, .string ⟨#[]⟩, .int .i64 0].toArray 36 (0, 0)) := by rw [hb5.block _ (by omega)]; exact HR3.out
  have HB5 : Hid (Below w.heap.size w w5) := HB3.out.trans (hb5.mono (by omega))
  have HG5 : Hid _ := hg5
  have HR5 : Hid _ := hR5
  have hl5 := heap_lt hg5
  clear hg5 hb5 hR5 hg4 hb4 hw4 hk3
  go_wp2_with fail
  refine (workHash (more (stOf zs) (r ++ text)) (restOf (r ++ text)) (z + text.size) w5 w3.heap.size 67 HG5.out).mono ?_
  rintro e w6 ⟨q, rfl, hq, hgq, hb6⟩
  have h3 := HS3.out
  have hR6 : w6.heap[w.heap.size + 1]? = some (.cells [Value.slice none 0 0, .string ⟨#[]⟩, .int .i64 0].toArray 36 (0, 0)) := by rw [hb6.block _ (by omega)]; exact HR5.out
  have m0 := rowFacts hR6 0 _ rfl
  have m1 := rowFacts hR6 1 _ rfl
  have m2 := rowFacts hR6 2 _ rfl
  have y0 := frozen_of_row w6 _ 0 _ _ hR6
  have y1 := frozen_of_row w6 _ 1 _ _ hR6
  have y2 := frozen_of_row w6 _ 2 _ _ hR6
  have HB6 : Hid (Below w.heap.size w w6) := HB5.out.trans (hb6.mono HB5.out.size)
  have HQ : Hid (w6.heap[q]? = some (.cells (iCells (more (stOf zs) (r ++ text))).toArray 2 (0, 0))) := hgq
  have hne : q ≠ w.heap.size + 1 := by omega
  have hq2 : w.heap.size ≤ q := by omega
  have HR6 : Hid _ := hR6
  clear hb6 hgq hR6 hq
  go_wp2
  refine bodyPost_ret (v := hashV (some ⟨q, 0, none⟩) 8 8 (restOf (r ++ text)) (z + text.size)) ?_ rfl ?_
  · have hrow := row3 HR6.out (.slice (some ⟨q, 0, none⟩) 8 8) (.string (restOf (r ++ text))) (.int .i64 (z + text.size))
    have hl3 := run_loadVar_mid (P := Tryd.prog) _ (w.heap.size + 1) 0 36 _ _ (rangeRow hrow) Tryd.underlying36 rfl sizeHash
    simp [results, Tryd.results18, asAddr, hl3]
  · exact ⟨q, rfl, hq2, by rw [heap_setCell_other _ _ _ _ hne, heap_setCell_other _ _ _ _ hne, heap_setCell_other _ _ _ _ hne]; exact HQ.out, ((HB6.out.setCell (by simp) _).setCell (by simp) _).setCell (by simp) _⟩
end Go.Proofs.YtbkkjgpaccfplaaDoor
