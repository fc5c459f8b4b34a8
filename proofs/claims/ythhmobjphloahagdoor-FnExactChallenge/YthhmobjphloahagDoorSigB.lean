/- spec.l04Num, walked: the number of a text's digest. -/
import Derived.Test.YthhmobjphloahagDoorSigQ
import Derived.Test.YthhmobjphloahagDoorShaNb
namespace Go.Proofs.YthhmobjphloahagDoor
open Go.RowKit

set_option maxHeartbeats 1000000 in
set_option maxRecDepth 100000 in
theorem specNum (t : ByteArray) (w : World) (ht : t.size ≤ 30000) :
    Calls Tryd.prog 22 #[.string t] w fun e w' => e = .returned (.int .i64 (dnum t : Nat)) ∧ Below w.heap.size w w' := by
  go_enter Tryd.func22, Tryd.ntmps22
  go_wp2_with fail
  refine (specBegin0 w).mono ?_
  rintro e w1 ⟨g, rfl, hg, hr, hb1⟩
  have HR : Hid _ := rangeRow hr
  have HB1 : Hid (Below w.heap.size w w1) := hb1
  clear hr hb1
  go_wp2_with fail
  refine (specMore st0 ByteArray.empty t 0 w1 g 8 (by simp) (by omega) (by omega) (by omega) HR.out).mono ?_
  rintro e w2 ⟨v, rfl, hown, hb2⟩
  rw [empty_append] at hown ⊢
  obtain ⟨G, cG, rfl⟩ := owns_form hown (by omega)
  have HO : Hid _ := owns_range hown
  have HB2 : Hid (Below w.heap.size w w2) := HB1.out.trans (hb2.mono HB1.out.size)
  have e0 : (0 : Int) + (t.size : Int) = ((t.size : Nat) : Int) := by omega
  rw [e0]
  clear hown hb2 e0
  go_wp2_with fail
  refine (specEnd (more st0 t) (restOf t) t.size w2 G cG (by rw [size_restOf]; omega) (by omega) HO.out).mono ?_
  rintro e w3 ⟨rfl, hb3⟩
  have HB3 : Hid (Below w.heap.size w w3) := HB2.out.trans (hb3.mono HB2.out.size)
  clear hb3 HB2 HO HB1 HR
  have hd := digOf_size t
  obtain ⟨D, hD⟩ : ∃ D, strOfNums (digL (endSt (more st0 t) (restOf t) t.size)) = D := ⟨_, rfl⟩
  have HD : Hid (digOf t = D) := hD
  rw [show digOf t = D from hD] at hd
  rw [hD]
  clear hD
  go_wp2_with fail
  go_loopw [4, 5] (fun n i wr => ∃ k : Nat, k ≤ 7 ∧ i = .int .i64 k ∧ n = .int .i64 (bnum D k : Nat) ∧ wr = w3) (fun _ i _ => 7 - (intOf i).toNat)
  case atStart => exact ⟨0, by omega, rfl, rfl, rfl⟩
  case round =>
    obtain ⟨k, hk7, rfl, rfl, rfl⟩ := hrel
    by_cases hlt : k < 7
    · have hb := bnum_le D (k := k) (by omega)
      have hc := (byteAt D k).toNat_lt
      have hg : byteAt D k = D[k] := byteAt_get D k (by omega)
      have HN : Hid (bnum D (k + 1) = 256 * bnum D k + (byteAt D k).toNat) := rfl
      have HG : Hid (byteAt D k = D[k]) := hg
      clear hg
      have hb' : (bnum D k : Int) ≤ 281474976710655 := by omega
      have hb0 : (0 : Int) ≤ (bnum D k : Int) := by omega
      obtain ⟨y, hy⟩ : ∃ y : Int, y = (bnum D k : Int) := ⟨_, rfl⟩
      have HY : Hid (y = (bnum D k : Int)) := hy
      have hc' := u8_lt D[k]
      rw [← hy] at hb' hb0 ⊢
      clear hb hy hc
      go_wp2
      go_roundw
      case rel => exact ⟨k + 1, by omega, by go_num, by rw [HN.out, HG.out, HY.out]; go_num, trivial⟩
      case measure => simp [intOf]; omega
    · go_wp2
      go_ret
      exact ⟨ret_int (by unfold dnum; rw [HD.out, show k = 7 from by omega]), HB3.out⟩
end Go.Proofs.YthhmobjphloahagDoor
