/- impl.Short, walked. -/
import Derived.Test.YtbkkjgpaccfplaaDoorShaJ
import Derived.Test.YtbkkjgpaccfplaaDoorHexB
namespace Go.Proofs.YtbkkjgpaccfplaaDoor
open Go.RowKit
theorem digOf_size (t : ByteArray) : (digOf t).size = 32 := by unfold digOf; rw [strOfNums_size]; rfl
theorem hexL_four (l : List UInt8) (h : 4 ≤ l.length) : hexL (l.take 4) = (hexL l).take 8 := by
  match l, h with
  | a :: b :: c :: d :: r, _ => simp [hexL]
/-- The first eight digits of a digest's. -/
def shortS (d : ByteArray) : ByteArray := strOfNums (hexL (d.extract 0 4).data.toList)
theorem shortS_eq (d : ByteArray) : strOfNums (hexL (d.extract 0 4).data.toList) = shortS d := rfl
theorem short_eq (d : ByteArray) (h : d.size = 32) : (strOfNums (hexL d.data.toList)).extract 0 8 = shortS d := by
  have hl : d.data.toList.length = d.size := by simp
  unfold shortS
  apply ByteArray.ext
  apply Array.ext'
  rw [list_extract, List.drop_zero, strOfNums_data, strOfNums_data, list_extract, List.drop_zero, hexL_four _ (by omega), List.map_take]
theorem hexSize (d : ByteArray) (h : d.size = 32) : (strOfNums (hexL d.data.toList)).size = 64 := by
  rw [strOfNums_size, hexL_len]
  have : d.data.toList.length = d.size := by simp
  omega
set_option maxHeartbeats 1000000 in
set_option maxRecDepth 100000 in
theorem implShort (t : ByteArray) (w : World) (ht : t.size ≤ 20000) (hk : Keys w) :
    Calls Tryd.prog 21 #[.string t] w fun e w' => e = .returned (.string (shortS (digOf t))) ∧ Below w.heap.size w w' := by
  have hs := digOf_size t
  have hd : decide (20000 < t.size) = false := by simp; omega
  have HK : Hid (Keys w) := hk
  clear hk
  go_enter Tryd.func21, Tryd.ntmps21
  go_wp2_with fail
  refine (tooLong t _ (by unfold maxLen; omega)).mono ?_
  rintro e w' ⟨rfl, rfl⟩
  go_wp2_with fail
  refine (implDigest t w' ht HK.out).mono ?_
  rintro e w1 ⟨rfl, hb1⟩
  generalize hD : digOf t = d at hs ⊢
  have HD : Hid (digOf t = d) := hD
  clear hD
  have HB1 : Hid (Below w'.heap.size w' w1) := hb1
  clear hb1
  go_wp2_with fail
  refine (implHex d w1 (by omega)).mono ?_
  rintro e w2 ⟨rfl, hb2⟩
  have HB2 : Hid (Below w'.heap.size w' w2) := HB1.out.trans (hb2.mono HB1.out.size)
  have hx := hexSize d hs
  have HE : Hid _ := short_eq d hs
  clear hb2
  generalize strOfNums (hexL d.data.toList) = x at hx HE ⊢
  go_wp2
  go_ret
  exact ⟨by rw [HD.out, ← HE.out]; rfl, HB2.out⟩
theorem implShort_long (t : ByteArray) (w : World) (hs : 20000 < t.size) (hm : t.size ≤ maxLen) :
    Calls Tryd.prog 21 #[.string t] w fun e w' => e = .returned (.string ByteArray.empty) ∧ Below w.heap.size w w' := by
  have hd : decide (20000 < t.size) = true := by simp; omega
  go_enter Tryd.func21, Tryd.ntmps21
  go_wp2_with fail
  refine (tooLong t _ hm).mono ?_
  rintro e w' ⟨rfl, rfl⟩
  go_wp2
  go_ret
  exact ⟨rfl, Below.refl _ _⟩
end Go.Proofs.YtbkkjgpaccfplaaDoor
