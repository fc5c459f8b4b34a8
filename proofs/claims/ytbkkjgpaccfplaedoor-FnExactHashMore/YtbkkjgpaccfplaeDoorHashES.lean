/- spec.HashEnd, walked. -/
import Derived.Test.YtbkkjgpaccfplaeDoorShaN
import Derived.Test.YtbkkjgpaccfplaeDoorHashBS
import Derived.Test.YtbkkjgpaccfplaeDoorHashEr
namespace Go.Proofs.YtbkkjgpaccfplaeDoor
open Go.RowKit

set_option maxHeartbeats 1000000 in
set_option maxRecDepth 100000 in
theorem specHashEnd (g : Nat) (zs : List Int) (c : Nat) (r : ByteArray) (z : Int) (w : World) (hl : zs.length ≤ 1048576) (hr : r.size ≤ 1048576) (z0 : -9223372036854775808 ≤ z) (z1 : z ≤ 9223372036854775807) (ha : IsInts w (some ⟨g, 0, none⟩) zs) :
    Calls Tryd.prog 13 #[hashV (some ⟨g, 0, none⟩) zs.length c r z] w fun e w' => e = .returned (.string (endOf zs r z)) ∧ Below w.heap.size w w' := by
  have hA : ∀ o, Below w.heap.size w (w.alloc o) := fun o => (Below.refl _ w).alloc (Nat.le_refl _) o
  go_enter Tryd.func13, Tryd.ntmps13
  go_wp2_with fail
  generalize hw1 : w.alloc _ = w1
  have hb1 : Below w.heap.size w w1 := by rw [← hw1]; exact hA _
  have hs1 : w1.heap.size = w.heap.size + 1 := by rw [← hw1]; simp
  have p0 : w1.cell? ⟨w.heap.size, 0, none⟩ = some (.slice (some ⟨g, 0, none⟩) zs.length c) := by rw [← hw1]; simp
  have p1 : w1.cell? ⟨w.heap.size, 1, none⟩ = some (.string r) := by rw [← hw1]; simp
  have p2 : w1.cell? ⟨w.heap.size, 2, none⟩ = some (.int .i64 z) := by rw [← hw1]; simp
  have ha1 := ha.below hb1 ha.lt
  refine (specRight (some ⟨g, 0, none⟩) zs c r z w1 hl hr z0 z1 ha1).mono ?_
  rintro e w2 ⟨rfl, hb2⟩
  have ha2 := ha1.below hb2 ha1.lt
  rw [← hb2.cell (p := ⟨w.heap.size, 0, none⟩) (show w.heap.size < w1.heap.size by omega)] at p0
  rw [← hb2.cell (p := ⟨w.heap.size, 1, none⟩) (show w.heap.size < w1.heap.size by omega)] at p1
  rw [← hb2.cell (p := ⟨w.heap.size, 2, none⟩) (show w.heap.size < w1.heap.size by omega)] at p2
  have HB2 : Hid (Below w.heap.size w w2) := hb1.trans (hb2.mono (by omega))
  have HI : Hid (IsInts w2 (some ⟨g, 0, none⟩) zs) := ha2
  clear hb1 hb2 ha ha1 ha2 hw1 hA hs1
  cases hR : rightB zs r.size z with
  | false =>
    have HE : Hid (endOf zs r z = ByteArray.empty) := by show _ = _; simp [endOf, hR]
    clear hR
    go_wp2
    go_ret
    exact ⟨by rw [HE.out]; rfl, HB2.out⟩
  | true =>
    have HE : Hid (endOf zs r z = strOfNums (digL (endSt (stOf zs) r z.toNat))) := by show _ = _; simp [endOf, hR]
    obtain ⟨h8, hz0, hz1, hrs, hall⟩ := (right_iff zs r.size z).1 hR
    have hrg := stOf_range h8 hall rfl HI.out
    have HRG : Hid _ := hrg
    obtain ⟨zn, rfl⟩ := Int.eq_ofNat_of_zero_le hz0
    have hz' : zn ≤ 1900000000000 := by omega
    have HE2 : Hid (endOf zs r (zn : Int) = strOfNums (digL (endSt (stOf zs) r zn))) := HE.out
    rw [h8] at p0
    clear hR hall hrg HE
    go_wp2_with fail
    refine (specEnd (stOf zs) r zn w2 g c (by omega) hz' HRG.out).mono ?_
    rintro e w3 ⟨rfl, hb3⟩
    have HB3 : Hid (Below w.heap.size w w3) := HB2.out.trans (hb3.mono HB2.out.size)
    clear hb3 p0 p1 p2
    go_wp2
    go_ret
    exact ⟨by rw [HE2.out]; rfl, HB3.out⟩
end Go.Proofs.YtbkkjgpaccfplaeDoor
