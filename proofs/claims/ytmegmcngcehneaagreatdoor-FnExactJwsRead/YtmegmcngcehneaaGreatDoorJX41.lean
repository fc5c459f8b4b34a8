/- impl.isRemainder, impl.SigRight, walked. impl.GroupPow, walked. impl.ModMul, walked. impl.GroupMul and impl.GroupPow, walked. impl.digestNumber, walked: the number of the digest of two texts, the one behind the other. impl.Challenge, walked. The method challenge of impl.signedText, walked. -/
import Derived.Test.YtmegmcngcehneaaGreatDoorJX04
import Derived.Test.YtmegmcngcehneaaGreatDoorJX03
import Derived.Test.YtmegmcngcehneaaGreatDoorJX09
import Derived.Test.YtmegmcngcehneaaGreatDoorJX07
import Derived.Test.YtmegmcngcehneaaGreatDoorJX29
namespace Go.Proofs.YtmegmcngcehneaaGreatDoor
open Go.RowKit

theorem implRem (n : Int) (w : World) :
    Calls Tryz.prog 39 #[.int .i64 n] w fun e w' => e = .returned (.bool (remB n)) ∧ w' = w := by
  by_cases h1 : 0 ≤ n
  · by_cases h2 : n < 1073741789
    · have e : remB n = true := decide_eq_true ⟨h1, h2⟩
      rw [e]
      go_enter Tryz.func39, Tryz.ntmps39
      go_wp2
      go_ret
      exact ⟨rfl, rfl⟩
    · have e : remB n = false := decide_eq_false (by omega)
      rw [e]
      go_enter Tryz.func39, Tryz.ntmps39
      go_wp2
      go_ret
      exact ⟨rfl, rfl⟩
  · have e : remB n = false := decide_eq_false (by omega)
    rw [e]
    go_enter Tryz.func39, Tryz.ntmps39
    go_wp2
    go_ret
    exact ⟨rfl, rfl⟩
set_option maxHeartbeats 1000000 in
set_option maxRecDepth 100000 in
theorem implSigRight (k e s : Int) (w : World) :
    Calls Tryz.prog 15 #[.agg #[.int .i64 k, .int .i64 e, .int .i64 s]] w fun r w' => r = .returned (.bool (sigRB k e s)) ∧ Below w.heap.size w w' := by
  go_enter Tryz.func15, Tryz.ntmps15
  go_wp2_with fail
  refine (implGroupRight k _).mono ?_
  rintro e1 w1 ⟨rfl, hb1⟩
  have HB : Hid (Below w.heap.size w w1) := ((Below.refl _ w).alloc (Nat.le_refl _) _).trans (hb1.mono (by simp))
  have c1 : w1.cell? ⟨w.heap.size, 1, none⟩ = some (.int .i64 e) := by rw [hb1.cell (p := ⟨w.heap.size, 1, none⟩) (by simp)]; simp
  have c2 : w1.cell? ⟨w.heap.size, 2, none⟩ = some (.int .i64 s) := by rw [hb1.cell (p := ⟨w.heap.size, 2, none⟩) (by simp)]; simp
  clear hb1
  by_cases h1 : rightG k = true
  · rw [h1]
    go_wp2_with fail
    refine (implRem e _).mono ?_
    rintro e2 w2 ⟨rfl, rfl⟩
    by_cases h2 : remB e = true
    · rw [h2]
      go_wp2_with fail
      refine (implRem s _).mono ?_
      rintro e3 w3 ⟨rfl, rfl⟩
      generalize hb3 : remB s = b
      go_wp2
      go_ret
      exact ⟨by simp [sigRB, *], HB.out⟩
    · rw [Bool.not_eq_true] at h2
      rw [h2]
      go_wp2
      go_ret
      exact ⟨by simp [sigRB, *], HB.out⟩
  · rw [Bool.not_eq_true] at h1
    rw [h1]
    go_wp2
    go_ret
    exact ⟨by simp [sigRB, *], HB.out⟩
end Go.Proofs.YtmegmcngcehneaaGreatDoor
namespace Go.Proofs.YtmegmcngcehneaaGreatDoor
open Go.RowKit

set_option maxHeartbeats 1000000 in
set_option maxRecDepth 100000 in
theorem implGroupPow (y n : Int) (w : World) (hn : n ≤ 9223372036854775807) :
    Calls Tryz.prog 64 #[.int .i64 y, .int .i64 n] w fun e w' => e = .returned (.int .i64 (gpowA y n)) ∧ Below w.heap.size w w' := by
  by_cases h1 : unitB y = true
  · by_cases h2 : n < 0
    · have ea : Hid (gpowA y n = 0) := by
        show _ = _
        rw [gpowA, if_neg (by omega)]
      go_enter Tryz.func64, Tryz.ntmps64
      go_wp2_with fail
      refine (implUnit y _).mono ?_
      rintro e w' ⟨rfl, rfl⟩
      rw [h1]
      go_wp2
      go_ret
      exact ⟨ret_int ea.out.symm, Below.refl _ _⟩
    · obtain ⟨x, rfl, x1, x2⟩ := unitB_nat h1
      obtain ⟨k, rfl⟩ := nat_of h2
      rw [gpowA_nat x k h1]
      have t1 : (k : Int).tmod 1073741789 = ((k % 1073741789 : Nat) : Int) := tmodN k 1073741789
      have hb1 : k % 1073741789 ≤ 9223372036854775807 := by omega
      generalize k % 1073741789 = j at *
      have HC : Hid (∀ v : World, Calls Tryz.prog 59 #[.int .i64 (x : Int), .int .i64 (j : Int), .int .i64 2147483579] v fun e w' => e = .returned (.int .i64 ((pm x j 2147483579 : Nat) : Int)) ∧ Below v.heap.size v w') := fun v => by
        have h := implModPow x j 2147483579 v (by omega)
        rw [show (2147483579 : Int) = ((2147483579 : Nat) : Int) from rfl, powA_nat x j 2147483579 modP] at h
        exact h
      generalize pm x j 2147483579 = z at *
      go_enter Tryz.func64, Tryz.ntmps64
      go_wp2_with fail
      refine (implUnit x _).mono ?_
      rintro e w' ⟨rfl, rfl⟩
      rw [h1]
      go_wp2_with fail
      refine (HC.out _).mono ?_
      rintro e w' ⟨rfl, hb⟩
      have HB : Hid _ := hb
      clear hb
      go_wp2
      go_ret
      exact ⟨rfl, HB.out⟩
  · rw [Bool.not_eq_true] at h1
    have ea : Hid (gpowA y n = 0) := by
      show _ = _
      rw [gpowA, if_neg (by rw [h1]; simp)]
    go_enter Tryz.func64, Tryz.ntmps64
    go_wp2_with fail
    refine (implUnit y _).mono ?_
    rintro e w' ⟨rfl, rfl⟩
    rw [h1]
    go_wp2
    go_ret
    exact ⟨ret_int ea.out.symm, Below.refl _ _⟩
end Go.Proofs.YtmegmcngcehneaaGreatDoor
namespace Go.Proofs.YtmegmcngcehneaaGreatDoor
open Go.RowKit

set_option maxHeartbeats 1000000 in
set_option maxRecDepth 100000 in
theorem implModMul (a b m : Int) (w : World) :
    Calls Tryz.prog 81 #[.int .i64 a, .int .i64 b, .int .i64 m] w fun e w' => e = .returned (.int .i64 (mulA a b m)) ∧ Below w.heap.size w w' := by
  by_cases h1 : a < 0
  · have ea : Hid (mulA a b m = 0) := by
      show _ = _
      rw [mulA, if_neg (by omega)]
    go_enter Tryz.func81, Tryz.ntmps81
    go_wp2
    go_ret
    exact ⟨ret_int ea.out.symm, Below.refl _ _⟩
  by_cases h2 : b < 0
  · have ea : Hid (mulA a b m = 0) := by
      show _ = _
      rw [mulA, if_neg (by omega)]
    go_enter Tryz.func81, Tryz.ntmps81
    go_wp2
    go_ret
    exact ⟨ret_int ea.out.symm, Below.refl _ _⟩
  by_cases h3 : modB m = true
  · obtain ⟨k, rfl, k1, k2⟩ := modB_nat h3
    obtain ⟨x, rfl⟩ := nat_of h1
    obtain ⟨y, rfl⟩ := nat_of h2
    rw [mulA_nat x y k h3]
    clear h1 h2
    generalize hz : x * y % k = z
    go_enter Tryz.func81, Tryz.ntmps81
    go_wp2_with fail
    refine (implModRight k w).mono ?_
    rintro e w' ⟨rfl, rfl⟩
    rw [h3]
    go_wp2_with fail
    refine (implModulo k _).mono ?_
    rintro e w' ⟨rfl, rfl⟩
    go_wp2_with fail
    refine (implProduct _ x y k _ k1 k2 (newCell _ _ _)).mono ?_
    rintro e w' ⟨rfl, rfl⟩
    rw [hz]
    clear hz
    go_wp2
    go_ret
    exact ⟨rfl, allocBelow _ _⟩
  · rw [Bool.not_eq_true] at h3
    have ea : Hid (mulA a b m = 0) := by
      show _ = _
      rw [mulA, if_neg (by rw [h3]; simp)]
    go_enter Tryz.func81, Tryz.ntmps81
    go_wp2_with fail
    refine (implModRight m w).mono ?_
    rintro e w' ⟨rfl, rfl⟩
    rw [h3]
    go_wp2
    go_ret
    exact ⟨ret_int ea.out.symm, Below.refl _ _⟩
end Go.Proofs.YtmegmcngcehneaaGreatDoor
namespace Go.Proofs.YtmegmcngcehneaaGreatDoor
open Go.RowKit

set_option maxHeartbeats 1000000 in
set_option maxRecDepth 100000 in
theorem implGroupMul (a b : Int) (w : World) :
    Calls Tryz.prog 63 #[.int .i64 a, .int .i64 b] w fun e w' => e = .returned (.int .i64 (gmulA a b)) ∧ Below w.heap.size w w' := by
  by_cases h1 : unitB a = true
  · by_cases h2 : unitB b = true
    · obtain ⟨x, rfl, x1, x2⟩ := unitB_nat h1
      obtain ⟨y, rfl, y1, y2⟩ := unitB_nat h2
      rw [gmulA_nat x y h1 h2]
      have HC : Hid (∀ v : World, Calls Tryz.prog 81 #[.int .i64 (x : Int), .int .i64 (y : Int), .int .i64 2147483579] v fun e w' => e = .returned (.int .i64 ((x * y % 2147483579 : Nat) : Int)) ∧ Below v.heap.size v w') := fun v => by
        have h := implModMul x y 2147483579 v
        rw [show (2147483579 : Int) = ((2147483579 : Nat) : Int) from rfl, mulA_nat x y 2147483579 modP] at h
        exact h
      generalize x * y % 2147483579 = z at *
      go_enter Tryz.func63, Tryz.ntmps63
      go_wp2_with fail
      refine (implUnit x _).mono ?_
      rintro e w' ⟨rfl, rfl⟩
      rw [h1]
      go_wp2_with fail
      refine (implUnit y _).mono ?_
      rintro e w' ⟨rfl, rfl⟩
      rw [h2]
      go_wp2_with fail
      refine (HC.out _).mono ?_
      rintro e w' ⟨rfl, hb⟩
      have HB : Hid _ := hb
      clear hb
      go_wp2
      go_ret
      exact ⟨rfl, HB.out⟩
    · rw [Bool.not_eq_true] at h2
      have ea : Hid (gmulA a b = 0) := by
        show _ = _
        rw [gmulA, if_neg (by rw [h2]; simp)]
      go_enter Tryz.func63, Tryz.ntmps63
      go_wp2_with fail
      refine (implUnit a _).mono ?_
      rintro e w' ⟨rfl, rfl⟩
      rw [h1]
      go_wp2_with fail
      refine (implUnit b _).mono ?_
      rintro e w' ⟨rfl, rfl⟩
      rw [h2]
      go_wp2
      go_ret
      exact ⟨ret_int ea.out.symm, Below.refl _ _⟩
  · rw [Bool.not_eq_true] at h1
    have ea : Hid (gmulA a b = 0) := by
      show _ = _
      rw [gmulA, if_neg (by rw [h1]; simp)]
    go_enter Tryz.func63, Tryz.ntmps63
    go_wp2_with fail
    refine (implUnit a _).mono ?_
    rintro e w' ⟨rfl, rfl⟩
    rw [h1]
    go_wp2
    go_ret
    exact ⟨ret_int ea.out.symm, Below.refl _ _⟩
end Go.Proofs.YtmegmcngcehneaaGreatDoor
namespace Go.Proofs.YtmegmcngcehneaaGreatDoor
open Go.RowKit

set_option maxHeartbeats 1000000 in
set_option maxRecDepth 100000 in
theorem digestNumber (h t : ByteArray) (w : World) (hh : h.size ≤ 100) (ht : t.size ≤ 20000) (hk : Keys w) :
    Calls Tryz.prog 82 #[.string h, .string t] w fun e w' => e = .returned (.int .i64 (dnum (h ++ t) : Nat)) ∧ Below w.heap.size w w' := by
  have hkp := hk.pos
  go_enter Tryz.func82, Tryz.ntmps82
  go_wp2_with fail
  refine (beginW w).mono ?_
  rintro e w1 ⟨rfl, hb1⟩
  have hs1 := hb1.size
  have HB1 : Hid (Below w.heap.size w w1) := hb1
  clear hb1
  go_wp2_with fail
  generalize hw2 : w1.alloc _ = w2
  have hg2 : w2.heap[w1.heap.size]? = some (.cells (workCells st0 ByteArray.empty 0).toArray 137 (0, 0)) := by rw [← hw2]; exact heap_alloc_new w1 _
  have hb2 : Below w.heap.size w w2 := by rw [← hw2]; exact HB1.out.alloc hs1 _
  refine (takeW st0 ByteArray.empty h 0 w2 w w1.heap.size w.heap.size 137 (by simp) (by omega) (by omega) (by omega) hg2 hb2 hs1 hk hkp).mono ?_
  rintro e w3 ⟨rfl, hg3, hb3⟩
  rw [empty_append] at hg3
  have hg3' : w3.heap[w1.heap.size]? = some (.cells (workCells (more st0 h) (restOf h) (h.size : Nat)).toArray 137 (0, 0)) := by simpa using hg3
  have HG3 : Hid _ := hg3'
  have HB3 : Hid (Below w.heap.size w w3) := hb3
  have HK : Hid (Keys w) := hk
  clear hg3 hg3' hb3 hg2 hb2 hw2 hk
  go_wp2_with fail
  refine (takeW (more st0 h) (restOf h) t (h.size : Nat) w3 w w1.heap.size w.heap.size 137 (by rw [size_restOf]; omega) (by omega) (by omega) (by omega) HG3.out HB3.out hs1 HK.out hkp).mono ?_
  rintro e w4 ⟨rfl, hg4, hb4⟩
  rw [more_more, rest_more] at hg4
  have hg4' : w4.heap[w1.heap.size]? = some (.cells (workCells (more st0 (h ++ t)) (restOf (h ++ t)) ((h ++ t).size : Nat)).toArray 137 (0, 0)) := by rw [size_append]; simpa using hg4
  have HG4 : Hid _ := hg4'
  have HB4 : Hid (Below w.heap.size w w4) := hb4
  clear hg4 hg4' hb4
  go_wp2_with fail
  refine (endW (more st0 (h ++ t)) (restOf (h ++ t)) (h ++ t).size w4 w w1.heap.size w.heap.size 137 (by rw [size_restOf]; omega) (by rw [size_append]; omega) HG4.out HB4.out hs1 HK.out hkp).mono ?_
  rintro e w5 ⟨rfl, hb5⟩
  have HB5 : Hid (Below w.heap.size w w5) := hb5
  clear hb5 HG3 HG4 HB3 HB4 HK HB1
  have hd := digOf_size (h ++ t)
  obtain ⟨D, hD⟩ : ∃ D, strOfNums (digL (endSt (more st0 (h ++ t)) (restOf (h ++ t)) (h ++ t).size)) = D := ⟨_, rfl⟩
  have HD : Hid (digOf (h ++ t) = D) := hD
  rw [show digOf (h ++ t) = D from hD] at hd
  rw [hD]
  clear hD
  go_wp2_with fail
  go_loopw [15, 7] (fun i n wr => ∃ k : Nat, k ≤ 7 ∧ i = .int .i64 k ∧ n = .int .i64 (bnum D k : Nat) ∧ wr = w5) (fun i _ _ => 7 - (intOf i).toNat)
  case atStart => exact ⟨0, by omega, rfl, rfl, rfl⟩
  case round =>
    obtain ⟨k, hk7, rfl, rfl, rfl⟩ := hrel
    by_cases hlt : k < 7
    · have hb := bnum_le D (k := k) (by omega)
      have hc := (byteAt D k).toNat_lt
      have hj := i64_join (bnum D k) (byteAt D k).toNat hb (by omega)
      have hg : byteAt D k = D[k] := byteAt_get D k (by omega)
      have HN : Hid (bnum D (k + 1) = 256 * bnum D k + (byteAt D k).toNat) := rfl
      rw [hg] at hj
      have HG : Hid (byteAt D k = D[k]) := hg
      clear hg hc
      have hb' : (bnum D k : Int) ≤ 281474976710655 := by omega
      have hb0 : (0 : Int) ≤ (bnum D k : Int) := by omega
      obtain ⟨y, hy⟩ : ∃ y : Int, y = (bnum D k : Int) := ⟨_, rfl⟩
      have HY : Hid (y = (bnum D k : Int)) := hy
      obtain ⟨v, hv⟩ : ∃ v : Int, v = ((256 * bnum D k + D[k].toNat : Nat) : Int) := ⟨_, rfl⟩
      have HV : Hid (v = ((256 * bnum D k + D[k].toNat : Nat) : Int)) := hv
      rw [← hv] at hj
      rw [← hy] at hb' hb0 hj ⊢
      have hc' := u8_lt D[k]
      clear hb hy hv
      go_wp2
      go_roundw
      case rel => exact ⟨k + 1, by omega, by go_num, by rw [HN.out, HG.out, HV.out], trivial⟩
      case measure => simp [intOf]; omega
    · go_wp2
      go_ret
      exact ⟨ret_int (by unfold dnum; rw [HD.out, show k = 7 from by omega]), HB5.out⟩
end Go.Proofs.YtmegmcngcehneaaGreatDoor
namespace Go.Proofs.YtmegmcngcehneaaGreatDoor
open Go.RowKit

set_option maxHeartbeats 1000000 in
set_option maxRecDepth 100000 in
theorem implChallenge (r key : Int) (t : ByteArray) (w : World) (ht : t.size ≤ maxLen) (hk : Keys w) :
    Calls Tryz.prog 65 #[.int .i64 r, .int .i64 key, .string t] w fun e w' => e = .returned (.int .i64 (challA r key t)) ∧ Below w.heap.size w w' := by
  have HK : Hid (Keys w) := hk
  have hkp := hk.pos
  clear hk
  by_cases h1 : 20000 < t.size
  · have ea : Hid (challA r key t = 0) := by
      show _ = _
      rw [challA, if_neg (by omega)]
    have hd : decide (20000 < t.size) = true := decide_eq_true h1
    go_enter Tryz.func65, Tryz.ntmps65
    go_wp2_with fail
    refine (tooLong t _ ht).mono ?_
    rintro e w' ⟨rfl, rfl⟩
    rw [hd]
    clear h1 hd ht
    go_wp2
    go_ret
    exact ⟨ret_int ea.out.symm, Below.refl _ _⟩
  have hd : decide (20000 < t.size) = false := decide_eq_false h1
  by_cases h2 : unitB r = true
  · by_cases h3 : unitB key = true
    · have ea : Hid (challA r key t = (chal r key t : Int)) := by
        show _ = _
        rw [challA, if_pos ⟨by omega, h2, h3⟩]
      have b2 : 1 ≤ r ∧ r < 2147483579 := of_decide_eq_true h2
      have b3 : 1 ≤ key ∧ key < 2147483579 := of_decide_eq_true h3
      have s2 := putS_size r
      have s3 := putS_size key
      have P2 : Hid (∀ v : World, Calls Tryz.prog 42 #[.int .i64 r] v fun e w' => e = .returned (.string (putS r)) ∧ Below v.heap.size v w') := fun v => implPut r v (by omega) (by omega)
      have P3 : Hid (∀ v : World, Calls Tryz.prog 42 #[.int .i64 key] v fun e w' => e = .returned (.string (putS key)) ∧ Below v.heap.size v w') := fun v => implPut key v (by omega) (by omega)
      have EC : Hid ((dnum (putS r ++ putS key ++ t) % 1073741789 : Nat) = chal r key t) := rfl
      have ld := dnum_lt (putS r ++ putS key ++ t)
      have LD : Hid (∀ a b : ByteArray, a = putS r → b = putS key → dnum (a ++ b ++ t) < 72057594037927936 ∧ dnum (a ++ b ++ t) % 1073741789 = chal r key t) := fun a b ha hb => by subst ha hb; exact ⟨ld, EC.out⟩
      generalize hp : putS r = p at s2 P2
      generalize hq : putS key = q at s3 P3
      have LD' := LD.out p q hp.symm hq.symm
      have LE : Hid (dnum (p ++ q ++ t) < 72057594037927936 ∧ dnum (p ++ q ++ t) % 1073741789 = chal r key t) := LD'
      clear LD LD' ld EC hp hq
      go_enter Tryz.func65, Tryz.ntmps65
      go_wp2_with fail
      refine (tooLong t _ ht).mono ?_
      rintro e w' ⟨rfl, rfl⟩
      rw [hd]
      go_wp2_with fail
      refine (implUnit r _).mono ?_
      rintro e w' ⟨rfl, rfl⟩
      rw [h2]
      go_wp2_with fail
      refine (implUnit key _).mono ?_
      rintro e w' ⟨rfl, rfl⟩
      rw [h3]
      go_wp2_with fail
      refine (P2.out _).mono ?_
      rintro e w1 ⟨rfl, hb1⟩
      have B1 : Hid (Below w'.heap.size w' w1) := hb1
      have z1 := hb1.size
      clear hb1
      go_wp2_with fail
      refine (P3.out _).mono ?_
      rintro e w2 ⟨rfl, hb2⟩
      have B2 : Hid (Below w'.heap.size w' w2) := B1.out.trans (hb2.mono z1)
      have z2 := B2.out.size
      clear hb2
      go_wp2_with fail
      refine (joinTexts p q _ (by omega) (by omega)).mono ?_
      rintro e w3 ⟨rfl, hb3⟩
      have B3 : Hid (Below w'.heap.size w' w3) := B2.out.trans (hb3.mono z2)
      have z3 := B3.out.size
      have K3 : Hid (Keys w3) := HK.out.below B3.out hkp
      clear hb3
      go_wp2_with fail
      refine (digestNumber (p ++ q) t _ (by rw [size_append]; omega) (by omega) K3.out).mono ?_
      rintro e w4 ⟨rfl, hb4⟩
      have B4 : Hid (Below w'.heap.size w' w4) := B3.out.trans (hb4.mono z3)
      clear hb4
      obtain ⟨l1, l2⟩ := LE.out
      generalize dnum (p ++ q ++ t) = d at l1 l2
      have t1 : (d : Int).tmod 1073741789 = ((d % 1073741789 : Nat) : Int) := tmodN d 1073741789
      rw [l2] at t1
      clear LE l1 l2
      go_wp2
      go_ret
      exact ⟨ret_int ea.out.symm, B4.out⟩
    · rw [Bool.not_eq_true] at h3
      have ea : Hid (challA r key t = 0) := by
        show _ = _
        rw [challA, if_neg (by rw [h3]; simp)]
      go_enter Tryz.func65, Tryz.ntmps65
      go_wp2_with fail
      refine (tooLong t _ ht).mono ?_
      rintro e w' ⟨rfl, rfl⟩
      rw [hd]
      go_wp2_with fail
      refine (implUnit r _).mono ?_
      rintro e w' ⟨rfl, rfl⟩
      rw [h2]
      go_wp2_with fail
      refine (implUnit key _).mono ?_
      rintro e w' ⟨rfl, rfl⟩
      rw [h3]
      go_wp2
      go_ret
      exact ⟨ret_int ea.out.symm, Below.refl _ _⟩
  · rw [Bool.not_eq_true] at h2
    have ea : Hid (challA r key t = 0) := by
      show _ = _
      rw [challA, if_neg (by rw [h2]; simp)]
    go_enter Tryz.func65, Tryz.ntmps65
    go_wp2_with fail
    refine (tooLong t _ ht).mono ?_
    rintro e w' ⟨rfl, rfl⟩
    rw [hd]
    go_wp2_with fail
    refine (implUnit r _).mono ?_
    rintro e w' ⟨rfl, rfl⟩
    rw [h2]
    go_wp2
    go_ret
    exact ⟨ret_int ea.out.symm, Below.refl _ _⟩
end Go.Proofs.YtmegmcngcehneaaGreatDoor
namespace Go.Proofs.YtmegmcngcehneaaGreatDoor
open Go.RowKit

set_option maxHeartbeats 1000000 in
set_option maxRecDepth 100000 in
theorem askChallenge (key r : Int) (t : ByteArray) (w : World) (ht : t.size ≤ maxLen) (hk : Keys w) :
    Calls Tryz.prog 44 #[.agg #[.int .i64 key, .string t], .int .i64 r] w fun e w' => e = .returned (.int .i64 (challA r key t)) ∧ Below w.heap.size w w' := by
  have hkp := hk.pos
  have HK : Hid (∀ o, Keys (w.alloc o)) := fun o => hk.below (allocBelow w o) hkp
  clear hk
  go_enter Tryz.func44, Tryz.ntmps44
  go_wp2_with fail
  refine (implChallenge r key t _ ht (HK.out _)).mono ?_
  rintro e w1 ⟨rfl, hb1⟩
  have B1 : Hid (Below w.heap.size w w1) := (allocBelow w _).trans (hb1.mono (by simp))
  clear hb1
  generalize hz : challA r key t = z
  have HZ : Hid (challA r key t = z) := hz
  clear hz
  go_wp2
  go_ret
  exact ⟨ret_int HZ.out.symm, B1.out⟩
end Go.Proofs.YtmegmcngcehneaaGreatDoor
