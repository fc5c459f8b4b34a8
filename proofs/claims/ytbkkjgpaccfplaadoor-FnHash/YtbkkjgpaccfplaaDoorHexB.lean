/- impl.Hex, walked. -/
import Derived.Test.YtbkkjgpaccfplaaDoorHexZ
import Derived.Test.YtbkkjgpaccfplaaDoorLong
namespace Go.Proofs.YtbkkjgpaccfplaaDoor
open Go.RowKit Go.Lib


set_option maxHeartbeats 1000000 in
set_option maxRecDepth 100000 in
theorem implHex (s : ByteArray) (w : World) (hs : s.size ≤ 20000) :
    Calls Tryd.prog 22 #[.string s] w fun e w' => e = .returned (.string (strOfNums (hexL s.data.toList))) ∧ Below w.heap.size w w' := by
  obtain ⟨i0, hi, hz0, hz1, hz2⟩ := info_parts infoByte
  have hd : decide (20000 < s.size) = false := by simp; omega
  go_enter Tryd.func22, Tryd.ntmps22
  go_wp2_with fail
  refine (tooLong s _ (by unfold maxLen; omega)).mono ?_
  rintro e w' ⟨rfl, rfl⟩
  go_wp2_with (at_make; refine wpList_make_full _ rfl _ _ 22 rfl w'.heap.size 5 i0 (.int .u8 0) 1 Tryd.underlying22 hi hz0 hz1 .i64 .i64 _ _ (2 * s.size) rfl rfl ?c1 ?c2 ?c3 ?c4 ?c5 ?_)
  case c1 => omega
  case c2 => omega
  case c3 => rw [hz2]; omega
  case c4 => unfold maxLen; omega
  case c5 => exact Nat.le_refl _
  intro w1 hown hgrow
  have hB1 : Below w'.heap.size w' w1 := (Below.refl _ w').grown hgrow (Nat.le_refl _) (fun k hk => by cases hk)
  generalize (madeCells #[Value.int IntKind.u8 0] (2 * s.size)).toList = L at hown
  have HO : Hid _ := hown
  clear hgrow hown
  go_wp2_with fail
  go_loopw [4] (fun i wr => ∃ (k : Nat) (M : List Value), k ≤ s.size ∧ i = .int .i64 k ∧ wr.ownsRow w'.heap.size 5 1 (.slice (some ⟨w'.heap.size, 0, none⟩) (2 * s.size) (2 * s.size)) (2 * s.size) M ∧
      (∀ j, j < 2 * k → M[j]? = some (.int .u8 ((hexL (s.data.toList.take k)).getD j 0))) ∧ Below w'.heap.size w' wr)
    (fun i _ => s.size - (intOf i).toNat)
  case atStart => exact ⟨0, L, Nat.zero_le _, rfl, HO.out, fun j hj => by omega, hB1⟩
  case round =>
    obtain ⟨k, M, hk, rfl, hown, hM, hbel⟩ := hrel
    have HM : Hid (∀ j, j < 2 * k → M[j]? = some (.int .u8 ((hexL (s.data.toList.take k)).getD j 0))) := hM
    clear hM HO hB1
    by_cases hlt : k < s.size
    · have hlM : M.length = 2 * s.size := by simpa using hown.1
      have hv0 := hown.cellAt (2 * k) (by omega)
      have hv1 := hown.cellAt (2 * k + 1) (by omega)
      rw [List.getElem?_eq_getElem (by omega)] at hv0 hv1
      have hf0 := hown.frozenAt (2 * k)
      have hf1 := hown.frozenAt (2 * k + 1)
      have HS : Hid (∀ x y, ((wr.setCell ⟨w'.heap.size, 2 * k, none⟩ x).setCell ⟨w'.heap.size, 2 * k + 1, none⟩ y).ownsRow w'.heap.size 5 1 (.slice (some ⟨w'.heap.size, 0, none⟩) (2 * s.size) (2 * s.size)) (2 * s.size) ((M.set (2 * k) x).set (2 * k + 1) y)) :=
        fun x y => (((hown.stored (2 * k) x).1).stored (2 * k + 1) y).1
      have HB : Hid (∀ x y, Below w'.heap.size w' ((wr.setCell ⟨w'.heap.size, 2 * k, none⟩ x).setCell ⟨w'.heap.size, 2 * k + 1, none⟩ y)) := fun x y => (hbel.setCell (Nat.le_refl _) x).setCell (Nat.le_refl _) y
      have HR : Hid (∀ j, j < 2 * (k + 1) → ((M.set (2 * k) (.int .u8 (hexN (s[k].toNat / 16)))).set (2 * k + 1) (.int .u8 (hexN (s[k].toNat % 16))))[j]? = some (.int .u8 ((hexL (s.data.toList.take (k + 1))).getD j 0))) := by
        rw [hexL_take s k hlt]
        exact hexStep (hexL_takeLen s k hk) (by omega) HM.out
      generalize M[2 * k] = v0 at hv0
      generalize M[2 * k + 1] = v1 at hv1
      have hu := u8_lt s[k]
      have e1 := idxHi s[k]
      have e2 := idxLo s[k]
      clear hown hbel hlM HM
      go_wp2
      go_roundw
      case rel => exact ⟨k + 1, _, by omega, by go_num, HS.out _ _, HR.out, HB.out _ _⟩
      case measure => simp [intOf]; omega
    · obtain rfl : k = s.size := by omega
      have ht : s.data.toList.take s.size = s.data.toList := List.take_of_length_le (by rw [← size_eq]; exact Nat.le_refl _)
      have hM2 := HM.out
      rw [ht] at hM2
      have hlL := hexL_len s.data.toList
      rw [← size_eq] at hlL
      have hcv := run_convert_bytes_arg wr 22 5 Tryd.underlying22 Tryd.underlying5 w'.heap.size 0 (2 * s.size) (2 * s.size) (hexL s.data.toList) hlL
        (fun j hj => by rw [Nat.zero_add, hown.cellAt j (by omega)]; exact hM2 j hj) 9 Tryd.underlying9
      clear hM2 HM hown ht
      go_wp2
      go_ret
      exact ⟨rfl, hbel⟩
theorem implHex_long (s : ByteArray) (w : World) (hs : 20000 < s.size) (hm : s.size ≤ maxLen) :
    Calls Tryd.prog 22 #[.string s] w fun e w' => e = .returned (.string ByteArray.empty) ∧ w' = w := by
  have hd : decide (20000 < s.size) = true := by simp; omega
  go_enter Tryd.func22, Tryd.ntmps22
  go_wp2_with fail
  refine (tooLong s _ hm).mono ?_
  rintro e w' ⟨rfl, rfl⟩
  go_wp2
  go_ret
  exact ⟨rfl, rfl⟩
end Go.Proofs.YtbkkjgpaccfplaaDoor
