/- impl.digestNumber, walked: the number of the digest of two texts, the one behind the other. -/
import Derived.Test.YthhmobjphloahagDoorSigQ
namespace Go.Proofs.YthhmobjphloahagDoor
open Go.RowKit

set_option maxHeartbeats 1000000 in
set_option maxRecDepth 100000 in
theorem digestNumber (h t : ByteArray) (w : World) (hh : h.size ≤ 100) (ht : t.size ≤ 20000) (hk : Keys w) :
    Calls Tryd.prog 18 #[.string h, .string t] w fun e w' => e = .returned (.int .i64 (dnum (h ++ t) : Nat)) ∧ Below w.heap.size w w' := by
  have hkp := hk.pos
  go_enter Tryd.func18, Tryd.ntmps18
  go_wp2_with fail
  refine (beginW w).mono ?_
  rintro e w1 ⟨rfl, hb1⟩
  have hs1 := hb1.size
  have HB1 : Hid (Below w.heap.size w w1) := hb1
  clear hb1
  go_wp2_with fail
  generalize hw2 : w1.alloc _ = w2
  have hg2 : w2.heap[w1.heap.size]? = some (.cells (workCells st0 ByteArray.empty 0).toArray 51 (0, 0)) := by rw [← hw2]; exact heap_alloc_new w1 _
  have hb2 : Below w.heap.size w w2 := by rw [← hw2]; exact HB1.out.alloc hs1 _
  refine (takeW st0 ByteArray.empty h 0 w2 w w1.heap.size w.heap.size 51 (by simp) (by omega) (by omega) (by omega) hg2 hb2 hs1 hk hkp).mono ?_
  rintro e w3 ⟨rfl, hg3, hb3⟩
  rw [empty_append] at hg3
  have hg3' : w3.heap[w1.heap.size]? = some (.cells (workCells (more st0 h) (restOf h) (h.size : Nat)).toArray 51 (0, 0)) := by simpa using hg3
  have HG3 : Hid _ := hg3'
  have HB3 : Hid (Below w.heap.size w w3) := hb3
  have HK : Hid (Keys w) := hk
  clear hg3 hg3' hb3 hg2 hb2 hw2 hk
  go_wp2_with fail
  refine (takeW (more st0 h) (restOf h) t (h.size : Nat) w3 w w1.heap.size w.heap.size 51 (by rw [size_restOf]; omega) (by omega) (by omega) (by omega) HG3.out HB3.out hs1 HK.out hkp).mono ?_
  rintro e w4 ⟨rfl, hg4, hb4⟩
  rw [more_more, rest_more] at hg4
  have hg4' : w4.heap[w1.heap.size]? = some (.cells (workCells (more st0 (h ++ t)) (restOf (h ++ t)) ((h ++ t).size : Nat)).toArray 51 (0, 0)) := by rw [size_append]; simpa using hg4
  have HG4 : Hid _ := hg4'
  have HB4 : Hid (Below w.heap.size w w4) := hb4
  clear hg4 hg4' hb4
  go_wp2_with fail
  refine (endW (more st0 (h ++ t)) (restOf (h ++ t)) (h ++ t).size w4 w w1.heap.size w.heap.size 51 (by rw [size_restOf]; omega) (by rw [size_append]; omega) HG4.out HB4.out hs1 HK.out hkp).mono ?_
  rintro e w5 ⟨rfl, hb5⟩
  have HB5 : Hid (Below w.heap.size w w5) := hb5
  clear hb5 HG3 HG4 HB3 HB4 HK HB1
  have hd := digOf_size (h ++ t)
  obtain ⟨D, hD⟩ : ∃ D, strOfNums (digL (endSt (more st0 (h ++ t)) (restOf (h ++ t)) (h ++ t).size)) = D := ⟨_, rfl⟩
  have HD : Hid (digOf (h ++ t) = D) := hD
  rw [show digOf (h ++ t) = D from hD] at hd
  rw [hD]
  clear hD
  go_wp2_with fail
  go_loopw [15, 7] (fun i n wr => ∃ k : Nat, k ≤ 7 ∧ i = .int .i64 k ∧ n = .int .i64 (bnum D k : Nat) ∧ wr = w5) (fun i _ _ => 7 - (intOf i).toNat)
  case atStart => exact ⟨0, by omega, rfl, rfl, rfl⟩
  case round =>
    obtain ⟨k, hk7, rfl, rfl, rfl⟩ := hrel
    by_cases hlt : k < 7
    · have hb := bnum_le D (k := k) (by omega)
      have hc := (byteAt D k).toNat_lt
      have hj := i64_join (bnum D k) (byteAt D k).toNat hb (by omega)
      have hg : byteAt D k = D[k] := byteAt_get D k (by omega)
      have HN : Hid (bnum D (k + 1) = 256 * bnum D k + (byteAt D k).toNat) := rfl
      rw [hg] at hj
      have HG : Hid (byteAt D k = D[k]) := hg
      clear hg hc
      have hb' : (bnum D k : Int) ≤ 281474976710655 := by omega
      have hb0 : (0 : Int) ≤ (bnum D k : Int) := by omega
      obtain ⟨y, hy⟩ : ∃ y : Int, y = (bnum D k : Int) := ⟨_, rfl⟩
      have HY : Hid (y = (bnum D k : Int)) := hy
      obtain ⟨v, hv⟩ : ∃ v : Int, v = ((256 * bnum D k + D[k].toNat : Nat) : Int) := ⟨_, rfl⟩
      have HV : Hid (v = ((256 * bnum D k + D[k].toNat : Nat) : Int)) := hv
      rw [← hv] at hj
      rw [← hy] at hb' hb0 hj ⊢
      have hc' := u8_lt D[k]
      clear hb hy hv
      go_wp2
      go_roundw
      case rel => exact ⟨k + 1, by omega, by go_num, by rw [HN.out, HG.out, HV.out], trivial⟩
      case measure => simp [intOf]; omega
    · go_wp2
      go_ret
      exact ⟨ret_int (by unfold dnum; rw [HD.out, show k = 7 from by omega]), HB5.out⟩
end Go.Proofs.YthhmobjphloahagDoor
