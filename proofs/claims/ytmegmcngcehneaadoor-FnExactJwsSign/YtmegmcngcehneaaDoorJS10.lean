/- impl.digestNumber, walked: the number of the digest of two texts, the one behind the other. impl.GroupPow, walked. impl.Challenge, walked. The method challenge of impl.signedText, walked. impl.SecretRight, walked. impl.PublicOf, walked. impl.signPower, the method challenge, impl.SignText, walked. impl.JwsSign, walked. What the listed table gives the walks: the numbers of the rounds, each in its cell. -/
import Derived.Test.YtmegmcngcehneaaDoorJS04
import Derived.Test.YtmegmcngcehneaaDoorJS02
import Derived.Test.YtmegmcngcehneaaDoorJS03
import Derived.Test.YtmegmcngcehneaaDoorJS07
import Derived.Test.YtmegmcngcehneaaDoorJS09
import Derived.Test.YtmegmcngcehneaaDoorJS08
import Derived.ProofKit
import Derived.OpenShut
import Derived.LaidMore
import Derived.Stop.Joined
import Derived.OpenVars
import Derived.Lay
namespace Go.Proofs.YtmegmcngcehneaaDoor
open Go.RowKit

set_option maxHeartbeats 1000000 in
set_option maxRecDepth 100000 in
theorem digestNumber (h t : ByteArray) (w : World) (hh : h.size ≤ 100) (ht : t.size ≤ 20000) (hk : Keys w) :
    Calls Tryd.prog 44 #[.string h, .string t] w fun e w' => e = .returned (.int .i64 (dnum (h ++ t) : Nat)) ∧ Below w.heap.size w w' := by
  have hkp := hk.pos
  go_enter Tryd.func44, Tryd.ntmps44
  go_wp2_with fail
  refine (beginW w).mono ?_
  rintro e w1 ⟨rfl, hb1⟩
  have hs1 := hb1.size
  have HB1 : Hid (Below w.heap.size w w1) := hb1
  clear hb1
  go_wp2_with fail
  generalize hw2 : w1.alloc _ = w2
  have hg2 : w2.heap[w1.heap.size]? = some (.cells (workCells st0 ByteArray.empty 0).toArray 68 (0, 0)) := by rw [← hw2]; exact heap_alloc_new w1 _
  have hb2 : Below w.heap.size w w2 := by rw [← hw2]; exact HB1.out.alloc hs1 _
  refine (takeW st0 ByteArray.empty h 0 w2 w w1.heap.size w.heap.size 68 (by simp) (by omega) (by omega) (by omega) hg2 hb2 hs1 hk hkp).mono ?_
  rintro e w3 ⟨rfl, hg3, hb3⟩
  rw [empty_append] at hg3
  have hg3' : w3.heap[w1.heap.size]? = some (.cells (workCells (more st0 h) (restOf h) (h.size : Nat)).toArray 68 (0, 0)) := by simpa using hg3
  have HG3 : Hid _ := hg3'
  have HB3 : Hid (Below w.heap.size w w3) := hb3
  have HK : Hid (Keys w) := hk
  clear hg3 hg3' hb3 hg2 hb2 hw2 hk
  go_wp2_with fail
  refine (takeW (more st0 h) (restOf h) t (h.size : Nat) w3 w w1.heap.size w.heap.size 68 (by rw [size_restOf]; omega) (by omega) (by omega) (by omega) HG3.out HB3.out hs1 HK.out hkp).mono ?_
  rintro e w4 ⟨rfl, hg4, hb4⟩
  rw [more_more, rest_more] at hg4
  have hg4' : w4.heap[w1.heap.size]? = some (.cells (workCells (more st0 (h ++ t)) (restOf (h ++ t)) ((h ++ t).size : Nat)).toArray 68 (0, 0)) := by rw [size_append]; simpa using hg4
  have HG4 : Hid _ := hg4'
  have HB4 : Hid (Below w.heap.size w w4) := hb4
  clear hg4 hg4' hb4
  go_wp2_with fail
  refine (endW (more st0 (h ++ t)) (restOf (h ++ t)) (h ++ t).size w4 w w1.heap.size w.heap.size 68 (by rw [size_restOf]; omega) (by rw [size_append]; omega) HG4.out HB4.out hs1 HK.out hkp).mono ?_
  rintro e w5 ⟨rfl, hb5⟩
  have HB5 : Hid (Below w.heap.size w w5) := hb5
  clear hb5 HG3 HG4 HB3 HB4 HK HB1
  have hd := digOf_size (h ++ t)
  obtain ⟨D, hD⟩ : ∃ D, strOfNums (digL (endSt (more st0 (h ++ t)) (restOf (h ++ t)) (h ++ t).size)) = D := ⟨_, rfl⟩
  have HD : Hid (digOf (h ++ t) = D) := hD
  rw [show digOf (h ++ t) = D from hD] at hd
  rw [hD]
  clear hD
  go_wp2_with fail
  go_loopw [15, 7] (fun i n wr => ∃ k : Nat, k ≤ 7 ∧ i = .int .i64 k ∧ n = .int .i64 (bnum D k : Nat) ∧ wr = w5) (fun i _ _ => 7 - (intOf i).toNat)
  case atStart => exact ⟨0, by omega, rfl, rfl, rfl⟩
  case round =>
    obtain ⟨k, hk7, rfl, rfl, rfl⟩ := hrel
    by_cases hlt : k < 7
    · have hb := bnum_le D (k := k) (by omega)
      have hc := (byteAt D k).toNat_lt
      have hj := i64_join (bnum D k) (byteAt D k).toNat hb (by omega)
      have hg : byteAt D k = D[k] := byteAt_get D k (by omega)
      have HN : Hid (bnum D (k + 1) = 256 * bnum D k + (byteAt D k).toNat) := rfl
      rw [hg] at hj
      have HG : Hid (byteAt D k = D[k]) := hg
      clear hg hc
      have hb' : (bnum D k : Int) ≤ 281474976710655 := by omega
      have hb0 : (0 : Int) ≤ (bnum D k : Int) := by omega
      obtain ⟨y, hy⟩ : ∃ y : Int, y = (bnum D k : Int) := ⟨_, rfl⟩
      have HY : Hid (y = (bnum D k : Int)) := hy
      obtain ⟨v, hv⟩ : ∃ v : Int, v = ((256 * bnum D k + D[k].toNat : Nat) : Int) := ⟨_, rfl⟩
      have HV : Hid (v = ((256 * bnum D k + D[k].toNat : Nat) : Int)) := hv
      rw [← hv] at hj
      rw [← hy] at hb' hb0 hj ⊢
      have hc' := u8_lt D[k]
      clear hb hy hv
      go_wp2
      go_roundw
      case rel => exact ⟨k + 1, by omega, by go_num, by rw [HN.out, HG.out, HV.out], trivial⟩
      case measure => simp [intOf]; omega
    · go_wp2
      go_ret
      exact ⟨ret_int (by unfold dnum; rw [HD.out, show k = 7 from by omega]), HB5.out⟩
end Go.Proofs.YtmegmcngcehneaaDoor
namespace Go.Proofs.YtmegmcngcehneaaDoor
open Go.RowKit

set_option maxHeartbeats 1000000 in
set_option maxRecDepth 100000 in
theorem implGroupPow (y n : Int) (w : World) (hn : n ≤ 9223372036854775807) :
    Calls Tryd.prog 25 #[.int .i64 y, .int .i64 n] w fun e w' => e = .returned (.int .i64 (gpowA y n)) ∧ Below w.heap.size w w' := by
  by_cases h1 : unitB y = true
  · by_cases h2 : n < 0
    · have ea : Hid (gpowA y n = 0) := by
        show _ = _
        rw [gpowA, if_neg (by omega)]
      go_enter Tryd.func25, Tryd.ntmps25
      go_wp2_with fail
      refine (implUnit y _).mono ?_
      rintro e w' ⟨rfl, rfl⟩
      rw [h1]
      go_wp2
      go_ret
      exact ⟨ret_int ea.out.symm, Below.refl _ _⟩
    · obtain ⟨x, rfl, x1, x2⟩ := unitB_nat h1
      obtain ⟨k, rfl⟩ := nat_of h2
      rw [gpowA_nat x k h1]
      have t1 : (k : Int).tmod 1073741789 = ((k % 1073741789 : Nat) : Int) := tmodN k 1073741789
      have hb1 : k % 1073741789 ≤ 9223372036854775807 := by omega
      generalize k % 1073741789 = j at *
      have HC : Hid (∀ v : World, Calls Tryd.prog 41 #[.int .i64 (x : Int), .int .i64 (j : Int), .int .i64 2147483579] v fun e w' => e = .returned (.int .i64 ((pm x j 2147483579 : Nat) : Int)) ∧ Below v.heap.size v w') := fun v => by
        have h := implModPow x j 2147483579 v (by omega)
        rw [show (2147483579 : Int) = ((2147483579 : Nat) : Int) from rfl, powA_nat x j 2147483579 modP] at h
        exact h
      generalize pm x j 2147483579 = z at *
      go_enter Tryd.func25, Tryd.ntmps25
      go_wp2_with fail
      refine (implUnit x _).mono ?_
      rintro e w' ⟨rfl, rfl⟩
      rw [h1]
      go_wp2_with fail
      refine (HC.out _).mono ?_
      rintro e w' ⟨rfl, hb⟩
      have HB : Hid _ := hb
      clear hb
      go_wp2
      go_ret
      exact ⟨rfl, HB.out⟩
  · rw [Bool.not_eq_true] at h1
    have ea : Hid (gpowA y n = 0) := by
      show _ = _
      rw [gpowA, if_neg (by rw [h1]; simp)]
    go_enter Tryd.func25, Tryd.ntmps25
    go_wp2_with fail
    refine (implUnit y _).mono ?_
    rintro e w' ⟨rfl, rfl⟩
    rw [h1]
    go_wp2
    go_ret
    exact ⟨ret_int ea.out.symm, Below.refl _ _⟩
end Go.Proofs.YtmegmcngcehneaaDoor
namespace Go.Proofs.YtmegmcngcehneaaDoor
open Go.RowKit

set_option maxHeartbeats 1000000 in
set_option maxRecDepth 100000 in
theorem implChallenge (r key : Int) (t : ByteArray) (w : World) (ht : t.size ≤ maxLen) (hk : Keys w) :
    Calls Tryd.prog 45 #[.int .i64 r, .int .i64 key, .string t] w fun e w' => e = .returned (.int .i64 (challA r key t)) ∧ Below w.heap.size w w' := by
  have HK : Hid (Keys w) := hk
  have hkp := hk.pos
  clear hk
  by_cases h1 : 20000 < t.size
  · have ea : Hid (challA r key t = 0) := by
      show _ = _
      rw [challA, if_neg (by omega)]
    have hd : decide (20000 < t.size) = true := decide_eq_true h1
    go_enter Tryd.func45, Tryd.ntmps45
    go_wp2_with fail
    refine (tooLong t _ ht).mono ?_
    rintro e w' ⟨rfl, rfl⟩
    rw [hd]
    clear h1 hd ht
    go_wp2
    go_ret
    exact ⟨ret_int ea.out.symm, Below.refl _ _⟩
  have hd : decide (20000 < t.size) = false := decide_eq_false h1
  by_cases h2 : unitB r = true
  · by_cases h3 : unitB key = true
    · have ea : Hid (challA r key t = (chal r key t : Int)) := by
        show _ = _
        rw [challA, if_pos ⟨by omega, h2, h3⟩]
      have b2 : 1 ≤ r ∧ r < 2147483579 := of_decide_eq_true h2
      have b3 : 1 ≤ key ∧ key < 2147483579 := of_decide_eq_true h3
      have s2 := putS_size r
      have s3 := putS_size key
      have P2 : Hid (∀ v : World, Calls Tryd.prog 33 #[.int .i64 r] v fun e w' => e = .returned (.string (putS r)) ∧ Below v.heap.size v w') := fun v => implPut r v (by omega) (by omega)
      have P3 : Hid (∀ v : World, Calls Tryd.prog 33 #[.int .i64 key] v fun e w' => e = .returned (.string (putS key)) ∧ Below v.heap.size v w') := fun v => implPut key v (by omega) (by omega)
      have EC : Hid ((dnum (putS r ++ putS key ++ t) % 1073741789 : Nat) = chal r key t) := rfl
      have ld := dnum_lt (putS r ++ putS key ++ t)
      have LD : Hid (∀ a b : ByteArray, a = putS r → b = putS key → dnum (a ++ b ++ t) < 72057594037927936 ∧ dnum (a ++ b ++ t) % 1073741789 = chal r key t) := fun a b ha hb => by subst ha hb; exact ⟨ld, EC.out⟩
      generalize hp : putS r = p at s2 P2
      generalize hq : putS key = q at s3 P3
      have LD' := LD.out p q hp.symm hq.symm
      have LE : Hid (dnum (p ++ q ++ t) < 72057594037927936 ∧ dnum (p ++ q ++ t) % 1073741789 = chal r key t) := LD'
      clear LD LD' ld EC hp hq
      go_enter Tryd.func45, Tryd.ntmps45
      go_wp2_with fail
      refine (tooLong t _ ht).mono ?_
      rintro e w' ⟨rfl, rfl⟩
      rw [hd]
      go_wp2_with fail
      refine (implUnit r _).mono ?_
      rintro e w' ⟨rfl, rfl⟩
      rw [h2]
      go_wp2_with fail
      refine (implUnit key _).mono ?_
      rintro e w' ⟨rfl, rfl⟩
      rw [h3]
      go_wp2_with fail
      refine (P2.out _).mono ?_
      rintro e w1 ⟨rfl, hb1⟩
      have B1 : Hid (Below w'.heap.size w' w1) := hb1
      have z1 := hb1.size
      clear hb1
      go_wp2_with fail
      refine (P3.out _).mono ?_
      rintro e w2 ⟨rfl, hb2⟩
      have B2 : Hid (Below w'.heap.size w' w2) := B1.out.trans (hb2.mono z1)
      have z2 := B2.out.size
      clear hb2
      go_wp2_with fail
      refine (joinTexts p q _ (by omega) (by omega)).mono ?_
      rintro e w3 ⟨rfl, hb3⟩
      have B3 : Hid (Below w'.heap.size w' w3) := B2.out.trans (hb3.mono z2)
      have z3 := B3.out.size
      have K3 : Hid (Keys w3) := HK.out.below B3.out hkp
      clear hb3
      go_wp2_with fail
      refine (digestNumber (p ++ q) t _ (by rw [size_append]; omega) (by omega) K3.out).mono ?_
      rintro e w4 ⟨rfl, hb4⟩
      have B4 : Hid (Below w'.heap.size w' w4) := B3.out.trans (hb4.mono z3)
      clear hb4
      obtain ⟨l1, l2⟩ := LE.out
      generalize dnum (p ++ q ++ t) = d at l1 l2
      have t1 : (d : Int).tmod 1073741789 = ((d % 1073741789 : Nat) : Int) := tmodN d 1073741789
      rw [l2] at t1
      clear LE l1 l2
      go_wp2
      go_ret
      exact ⟨ret_int ea.out.symm, B4.out⟩
    · rw [Bool.not_eq_true] at h3
      have ea : Hid (challA r key t = 0) := by
        show _ = _
        rw [challA, if_neg (by rw [h3]; simp)]
      go_enter Tryd.func45, Tryd.ntmps45
      go_wp2_with fail
      refine (tooLong t _ ht).mono ?_
      rintro e w' ⟨rfl, rfl⟩
      rw [hd]
      go_wp2_with fail
      refine (implUnit r _).mono ?_
      rintro e w' ⟨rfl, rfl⟩
      rw [h2]
      go_wp2_with fail
      refine (implUnit key _).mono ?_
      rintro e w' ⟨rfl, rfl⟩
      rw [h3]
      go_wp2
      go_ret
      exact ⟨ret_int ea.out.symm, Below.refl _ _⟩
  · rw [Bool.not_eq_true] at h2
    have ea : Hid (challA r key t = 0) := by
      show _ = _
      rw [challA, if_neg (by rw [h2]; simp)]
    go_enter Tryd.func45, Tryd.ntmps45
    go_wp2_with fail
    refine (tooLong t _ ht).mono ?_
    rintro e w' ⟨rfl, rfl⟩
    rw [hd]
    go_wp2_with fail
    refine (implUnit r _).mono ?_
    rintro e w' ⟨rfl, rfl⟩
    rw [h2]
    go_wp2
    go_ret
    exact ⟨ret_int ea.out.symm, Below.refl _ _⟩
end Go.Proofs.YtmegmcngcehneaaDoor
namespace Go.Proofs.YtmegmcngcehneaaDoor
open Go.RowKit

set_option maxHeartbeats 1000000 in
set_option maxRecDepth 100000 in
theorem askChallenge (key r : Int) (t : ByteArray) (w : World) (ht : t.size ≤ maxLen) (hk : Keys w) :
    Calls Tryd.prog 31 #[.agg #[.int .i64 key, .string t], .int .i64 r] w fun e w' => e = .returned (.int .i64 (challA r key t)) ∧ Below w.heap.size w w' := by
  have hkp := hk.pos
  have HK : Hid (∀ o, Keys (w.alloc o)) := fun o => hk.below (allocBelow w o) hkp
  clear hk
  go_enter Tryd.func31, Tryd.ntmps31
  go_wp2_with fail
  refine (implChallenge r key t _ ht (HK.out _)).mono ?_
  rintro e w1 ⟨rfl, hb1⟩
  have B1 : Hid (Below w.heap.size w w1) := (allocBelow w _).trans (hb1.mono (by simp))
  clear hb1
  generalize hz : challA r key t = z
  have HZ : Hid (challA r key t = z) := hz
  clear hz
  go_wp2
  go_ret
  exact ⟨ret_int HZ.out.symm, B1.out⟩
end Go.Proofs.YtmegmcngcehneaaDoor
namespace Go.Proofs.YtmegmcngcehneaaDoor
open Go.RowKit

theorem implSecret (x : Int) (w : World) :
    Calls Tryd.prog 24 #[.int .i64 x] w fun e w' => e = .returned (.bool (secB x)) ∧ w' = w := by
  by_cases h1 : 1 ≤ x
  · by_cases h2 : x < 1073741789
    · have e : secB x = true := decide_eq_true ⟨h1, h2⟩
      rw [e]
      go_enter Tryd.func24, Tryd.ntmps24
      go_wp2
      go_ret
      exact ⟨rfl, rfl⟩
    · have e : secB x = false := decide_eq_false (by omega)
      rw [e]
      go_enter Tryd.func24, Tryd.ntmps24
      go_wp2
      go_ret
      exact ⟨rfl, rfl⟩
  · have e : secB x = false := decide_eq_false (by omega)
    rw [e]
    go_enter Tryd.func24, Tryd.ntmps24
    go_wp2
    go_ret
    exact ⟨rfl, rfl⟩
end Go.Proofs.YtmegmcngcehneaaDoor
namespace Go.Proofs.YtmegmcngcehneaaDoor
open Go.RowKit

set_option maxHeartbeats 1000000 in
set_option maxRecDepth 100000 in
theorem implPublic (x : Int) (w : World) :
    Calls Tryd.prog 13 #[.int .i64 x] w fun e w' => e = .returned (.int .i64 (pubA x)) ∧ Below w.heap.size w w' := by
  by_cases h : secB x = true
  · obtain ⟨n, rfl, n1, n2⟩ := secB_nat h
    rw [pubA_nat n h]
    have HP : Hid (∀ v : World, Calls Tryd.prog 25 #[.int .i64 4, .int .i64 (n : Int)] v fun e w' => e = .returned (.int .i64 ((pm 4 n 2147483579 : Nat) : Int)) ∧ Below v.heap.size v w') := fun v => by
      rw [← gpow_in (y := 4) (by omega) pm4 n]; exact implGroupPow 4 n v (by omega)
    generalize pm 4 n 2147483579 = z at *
    go_enter Tryd.func13, Tryd.ntmps13
    go_wp2_with fail
    refine (implSecret n w).mono ?_
    rintro e w' ⟨rfl, rfl⟩
    rw [h]
    go_wp2_with fail
    refine (HP.out _).mono ?_
    rintro e w2 ⟨rfl, hb⟩
    have HB : Hid _ := hb
    clear hb
    go_wp2
    go_ret
    exact ⟨rfl, HB.out⟩
  · rw [Bool.not_eq_true] at h
    have ea : Hid (pubA x = 0) := by
      show _ = _
      rw [pubA, if_neg (by rw [h]; simp)]
    go_enter Tryd.func13, Tryd.ntmps13
    go_wp2_with fail
    refine (implSecret x w).mono ?_
    rintro e w' ⟨rfl, rfl⟩
    rw [h]
    go_wp2
    go_ret
    exact ⟨ret_int ea.out.symm, Below.refl _ _⟩
end Go.Proofs.YtmegmcngcehneaaDoor
namespace Go.Proofs.YtmegmcngcehneaaDoor
open Go.RowKit

set_option maxHeartbeats 1000000 in
set_option maxRecDepth 100000 in
theorem signPower (x : Int) (t : ByteArray) (w : World) (ht : t.size ≤ 20000) (x0 : -9223372036854775808 ≤ x) (x1 : x ≤ 9223372036854775807) (hk : Keys w) :
    Calls Tryd.prog 30 #[.int .i64 x, .string t] w fun e w' => e = .returned (.int .i64 (powK x t : Nat)) ∧ Below w.heap.size w w' := by
  have HK : Hid (Keys w) := hk
  have hkp := hk.pos
  have s2 := putS_size x
  have P2 : Hid (∀ v : World, Calls Tryd.prog 33 #[.int .i64 x] v fun e w' => e = .returned (.string (putS x)) ∧ Below v.heap.size v w') := fun v => implPut x v x0 x1
  generalize hp : putS x = p at s2 P2
  have l2 := powK_eq x t p hp
  have L2 : Hid (dnum (⟨#[75]⟩ ++ p ++ t) % 1073741788 + 1 = powK x t) := l2
  clear l2 hp hk x0 x1
  have n0 : (ByteArray.mk #[75]).size = 1 := rfl
  obtain ⟨q, hq⟩ : ∃ q : ByteArray, ⟨#[75]⟩ ++ p = q := ⟨_, rfl⟩
  have sq : q.size ≤ 100 := by rw [← hq, size_append]; omega
  have J2 : Hid (∀ v : World, Calls Tryd.prog 32 #[.string ⟨#[75]⟩, .string p] v fun e w' => e = .returned (.string q) ∧ Below v.heap.size v w') := fun v => by rw [← hq]; exact joinTexts ⟨#[75]⟩ p v (by omega) (by omega)
  have L4 : Hid (dnum (q ++ t) % 1073741788 + 1 = powK x t) := by rw [← hq]; exact L2.out
  clear L2 hq n0
  go_enter Tryd.func30, Tryd.ntmps30
  go_wp2_with fail
  refine (P2.out _).mono ?_
  rintro e w1 ⟨rfl, hb1⟩
  have B1 : Hid (Below w.heap.size w w1) := hb1
  have z1 := hb1.size
  clear hb1
  go_wp2_with fail
  refine (J2.out _).mono ?_
  rintro e w3 ⟨rfl, hb3⟩
  have B3 : Hid (Below w.heap.size w w3) := B1.out.trans (hb3.mono z1)
  have z3 := B3.out.size
  have K3 : Hid (Keys w3) := HK.out.below B3.out hkp
  clear hb3
  go_wp2_with fail
  refine (digestNumber q t _ sq (by omega) K3.out).mono ?_
  rintro e w4 ⟨rfl, hb4⟩
  have B4 : Hid (Below w.heap.size w w4) := B3.out.trans (hb4.mono z3)
  clear hb4
  have l2 := L4.out
  generalize dnum (q ++ t) = d at l2
  have t1 : (d : Int).tmod 1073741788 = ((d % 1073741788 : Nat) : Int) := tmodN d 1073741788
  have hm := Nat.mod_lt d (show 0 < 1073741788 by omega)
  generalize d % 1073741788 = m at *
  have hm' : (m : Int) < 1073741788 := by omega
  have L3 : Hid (m + 1 = powK x t) := l2
  clear L4 l2 hm
  go_wp2
  go_ret
  exact ⟨ret_int (by rw [← L3.out]; omega), B4.out⟩
set_option maxHeartbeats 1000000 in
set_option maxRecDepth 100000 in
theorem implSign (x : Int) (t : ByteArray) (w : World) (ht : t.size ≤ maxLen) (hk : Keys w) :
    Calls Tryd.prog 15 #[.int .i64 x, .string t] w fun e w' => e = .returned (signV x t) ∧ Below w.heap.size w w' := by
  have HK : Hid (Keys w) := hk
  have hkp := hk.pos
  clear hk
  by_cases h1 : 20000 < t.size
  · have ea : Hid (signV x t = sigV 0 0 0) := signV_no (by omega)
    have hd : decide (20000 < t.size) = true := decide_eq_true h1
    go_enter Tryd.func15, Tryd.ntmps15
    go_wp2_with fail
    refine (tooLong t _ ht).mono ?_
    rintro e w' ⟨rfl, rfl⟩
    rw [hd]
    clear h1 hd ht
    go_wp2
    go_returns
    exact ⟨by rw [ea.out]; rfl, allocBelow _ _⟩
  have hd : decide (20000 < t.size) = false := decide_eq_false h1
  by_cases h2 : secB x = true
  · obtain ⟨n, rfl, n1, n2⟩ := secB_nat h2
    have ea : Hid (signV n t = sigV ((pm 4 n 2147483579 : Nat) : Int) (signE n t) (signS n t)) := signV_nat (by omega) h2
    have ht2 : t.size ≤ 20000 := by omega
    have hpk := powK_lt n t
    have he := chal_lt ((pm 4 (powK n t) 2147483579 : Nat) : Int) ((pm 4 n 2147483579 : Nat) : Int) t
    have S1 : Hid (∀ v : World, Keys v → Calls Tryd.prog 30 #[.int .i64 (n : Int), .string t] v fun e w' => e = .returned (.int .i64 (powK n t : Nat)) ∧ Below v.heap.size v w') := fun v hv => signPower n t v ht2 (by omega) (by omega) hv
    have S2 : Hid (∀ v : World, Calls Tryd.prog 13 #[.int .i64 (n : Int)] v fun e w' => e = .returned (.int .i64 ((pm 4 n 2147483579 : Nat) : Int)) ∧ Below v.heap.size v w') := fun v => by rw [← pubA_nat n h2]; exact implPublic n v
    have S3 : Hid (∀ v : World, Calls Tryd.prog 25 #[.int .i64 4, .int .i64 (powK n t : Nat)] v fun e w' => e = .returned (.int .i64 ((pm 4 (powK n t) 2147483579 : Nat) : Int)) ∧ Below v.heap.size v w') := fun v => by
      rw [← gpow_in (y := 4) (by omega) pm4 (powK n t)]; exact implGroupPow 4 (powK n t : Nat) v (by omega)
    have S4 : Hid (∀ v : World, Keys v → Calls Tryd.prog 31 #[.agg #[.int .i64 ((pm 4 n 2147483579 : Nat) : Int), .string t], .int .i64 ((pm 4 (powK n t) 2147483579 : Nat) : Int)] v fun e w' => e = .returned (.int .i64 (signE n t : Nat)) ∧ Below v.heap.size v w') := fun v hv => by
      have h := askChallenge ((pm 4 n 2147483579 : Nat) : Int) ((pm 4 (powK n t) 2147483579 : Nat) : Int) t v ht hv
      rw [challA, if_pos ⟨ht2, unit_pow pm4 _, unit_pow pm4 _⟩] at h
      exact h
    have S5 : Hid ((powK n t + signE n t * n) % 1073741789 = signS n t) := rfl
    change signE n t < 1073741789 at he
    generalize signS n t = s at *
    generalize signE n t = e at *
    generalize pm 4 (powK n t) 2147483579 = y at *
    generalize powK n t = k at *
    generalize pm 4 n 2147483579 = key at *
    obtain ⟨p, hp, ep, lp, up⟩ := prod_bd e n (by omega) (by omega)
    have t1 : ((k : Int) + (p : Int)).tmod 1073741789 = (s : Int) := by
      have h := S5.out
      rw [← hp] at h
      rw [← h, ← tmodN]
      simp
    clear S5 hp
    go_enter Tryd.func15, Tryd.ntmps15
    go_wp2_with fail
    refine (tooLong t _ ht).mono ?_
    rintro e1 w' ⟨rfl, rfl⟩
    rw [hd]
    go_wp2_with fail
    refine (implSecret n _).mono ?_
    rintro e1 w' ⟨rfl, rfl⟩
    rw [h2]
    go_wp2_with fail
    obtain ⟨w0, hw0⟩ : ∃ w0, w.alloc (.cells #[.int .i64 0, .int .i64 0, .int .i64 0] 29 (0, 0)) = w0 := ⟨_, rfl⟩
    have hg0 : w0.heap[w.heap.size]? = some (.cells #[.int .i64 0, .int .i64 0, .int .i64 0] 29 (0, 0)) := by rw [← hw0]; exact heap_alloc_new w _
    have hb0 : Below w.heap.size w w0 := by rw [← hw0]; exact allocBelow w _
    have hs0 : w0.heap.size = w.heap.size + 1 := by rw [← hw0]; simp
    rw [hw0]
    have K0 : Hid (Keys w0) := HK.out.below hb0 hkp
    have hk0 := K0.out.pos
    have G0 : Hid (w0.heap[w.heap.size]? = some (.cells #[.int .i64 0, .int .i64 0, .int .i64 0] 29 (0, 0))) := hg0
    have B0 : Hid (Below w.heap.size w w0) := hb0
    have HS0 : Hid (w0.heap.size = w.heap.size + 1) := hs0
    clear hg0 hb0 hw0 hs0
    refine (S1.out w0 K0.out).mono ?_
    rintro e1 w1 ⟨rfl, hb1⟩
    have b1 : Hid (Below w0.heap.size w0 w1) := hb1
    have z1 := b1.out.size
    clear hb1
    go_wp2_with fail
    refine (S2.out _).mono ?_
    rintro e1 w2 ⟨rfl, hb2⟩
    have b2 : Hid (Below w0.heap.size w0 w2) := b1.out.trans (hb2.mono z1)
    have z2 := b2.out.size
    clear hb2
    go_wp2_with fail
    refine (S3.out _).mono ?_
    rintro e1 w3 ⟨rfl, hb3⟩
    have b3 : Hid (Below w0.heap.size w0 w3) := b2.out.trans (hb3.mono z2)
    have z3 := b3.out.size
    have K3 : Hid (Keys w3) := K0.out.below b3.out hk0
    clear hb3
    go_wp2_with fail
    refine (S4.out _ K3.out).mono ?_
    rintro e1 w4 ⟨rfl, hb4⟩
    have b4 : Hid (Below w0.heap.size w0 w4) := b3.out.trans (hb4.mono z3)
    clear hb4
    have hg4 : w4.heap[w.heap.size]? = some (.cells [.int .i64 0, .int .i64 0, .int .i64 0].toArray 29 (0, 0)) := by
      rw [b4.out.block w.heap.size (by rw [HS0.out]; omega)]; exact G0.out
    have c0 := rowFacts hg4 0 (.int .i64 0) rfl
    have c1 := rowFacts hg4 1 (.int .i64 0) rfl
    have c2 := rowFacts hg4 2 (.int .i64 0) rfl
    have f0 := frozen_of_row w4 _ 0 _ _ hg4
    have f1 := frozen_of_row w4 _ 1 _ _ hg4
    have f2 := frozen_of_row w4 _ 2 _ _ hg4
    have BB : Hid (∀ a b c, Below w.heap.size w (((w4.setCell ⟨w.heap.size, 0, none⟩ a).setCell ⟨w.heap.size, 1, none⟩ b).setCell ⟨w.heap.size, 2, none⟩ c)) := fun a b c =>
      (((B0.out.trans (b4.out.mono B0.out.size)).setCell (Nat.le_refl _) a).setCell (Nat.le_refl _) b).setCell (Nat.le_refl _) c
    have G4 : Hid (w4.heap[w.heap.size]? = some (.cells [.int .i64 0, .int .i64 0, .int .i64 0].toArray 29 (0, 0))) := hg4
    clear hg4 b1 b2 b3 b4 S1 S2 S3 S4 HS0 B0 K0 K3 G0 HK z1 z2 z3
    go_wp2
    refine bodyPost_ret (v := sigV key e s) ?_ rfl ⟨by rw [ea.out], BB.out _ _ _⟩
    have hrow := sigRow G4.out (.int .i64 (key : Int)) (.int .i64 (e : Int)) (.int .i64 (s : Int))
    have hl3 := run_loadVar_mid (P := Tryd.prog) _ w.heap.size 0 29 _ _ (rangeRow hrow) Tryd.underlying29 rfl sizeSig
    simp [results, Tryd.results15, asAddr, hl3, sigV]
  · rw [Bool.not_eq_true] at h2
    have ea : Hid (signV x t = sigV 0 0 0) := signV_no (by rw [h2]; simp)
    go_enter Tryd.func15, Tryd.ntmps15
    go_wp2_with fail
    refine (tooLong t _ ht).mono ?_
    rintro e w' ⟨rfl, rfl⟩
    rw [hd]
    go_wp2_with fail
    refine (implSecret x _).mono ?_
    rintro e w' ⟨rfl, rfl⟩
    rw [h2]
    go_wp2
    go_returns
    exact ⟨by rw [ea.out]; rfl, allocBelow _ _⟩
end Go.Proofs.YtmegmcngcehneaaDoor
namespace Go.Proofs.YtmegmcngcehneaaDoor
open Go.RowKit Go.Lib

set_option linter.unusedSimpArgs false in
set_option maxHeartbeats 4000000 in
set_option maxRecDepth 100000 in
theorem implJwsSign (x nonce : Int) (url body : ByteArray) (w : World) (n0 : -9223372036854775808 ≤ nonce) (n1 : nonce ≤ 9223372036854775807) (hu : url.size ≤ maxLen) (hbb : body.size ≤ maxLen) (hk : Keys w) :
    Calls Tryd.prog 5 #[.int .i64 x, .int .i64 nonce, .string url, .string body] w fun e w' => e = .returned (.string (jSign x nonce url body)) ∧ Below w.heap.size w w' := by
  obtain ⟨w1, hw1⟩ : ∃ y, y = w := ⟨_, rfl⟩
  have hkp := hk.pos
  have HKy : Hid (∀ V, Below w.heap.size w V → Keys V) := fun V hV => hk.below hV hkp
  obtain ⟨P, hP⟩ : ∃ P, P = askB (pubA x) nonce url body := ⟨_, rfl⟩
  have HA : Hid (∀ V, Calls Tryd.prog 14 #[.agg #[.int .i64 (pubA x), .int .i64 nonce, .string url, .string body, .int .i64 0, .int .i64 0, .int .i64 0]] V fun e w' => e = .returned (.bool P) ∧ Below V.heap.size V w') := fun V => by rw [hP]; exact implAsked (pubA x) nonce url body 0 0 0 V hu hbb
  have hPs : P = true ↔ (secB x = true ∧ timeB nonce = true ∧ nameB url = true ∧ body.size ≤ 2000) := by
    rw [hP, pub_askB]
    simp [Bool.and_eq_true]
  have HPub : Hid (∀ V, Calls Tryd.prog 13 #[.int .i64 x] V fun e w' => e = .returned (.int .i64 (pubA x)) ∧ Below V.heap.size V w') := fun V => implPublic x V
  cases P with
  | false =>
    have HF : Hid (jSign x nonce url body = ⟨#[]⟩) := by
      show _ = _
      rw [jSign, if_neg]
      intro h
      have := hPs.2 h
      cases this
    generalize pubA x = pk at *
    rw [HF.out]
    clear HF hPs hP hk hkp HKy hw1 hu hbb
    go_enter Tryd.func5, Tryd.ntmps5
    go_wp2_with fail
    refine (HPub.out w).mono ?_
    rintro e w2 ⟨rfl, b2⟩
    obtain ⟨w3, hw3⟩ : ∃ y, y = w2.alloc (.cells #[.int .i64 pk, .int .i64 nonce, .string url, .string body, .int .i64 0, .int .i64 0, .int .i64 0] 31 (0, 0)) := ⟨_, rfl⟩
    have g3 : w3.heap[w2.heap.size]? = some (.cells [Value.int .i64 pk, .int .i64 nonce, .string url, .string body, .int .i64 0, .int .i64 0, .int .i64 0].toArray 31 (0, 0)) := by rw [hw3]; exact heap_alloc_new w2 _
    have B3 : Hid (Below w.heap.size w w3) := by rw [hw3]; exact b2.alloc b2.size _
    have d0 := rowFacts g3 0 _ rfl
    have d1 := rowFacts g3 1 _ rfl
    have d2 := rowFacts g3 2 _ rfl
    have d3 := rowFacts g3 3 _ rfl
    have d4 := rowFacts g3 4 _ rfl
    have d5 := rowFacts g3 5 _ rfl
    have d6 := rowFacts g3 6 _ rfl
    clear b2 g3
    go_upto_region 2 with fail
    rw [← hw3]
    clear hw3
    go_wp2_with fail
    refine (HA.out _).mono ?_
    rintro e w4 ⟨rfl, b4⟩
    have B4 : Hid (Below w.heap.size w w4) := B3.out.trans (b4.mono B3.out.size)
    clear b4 d0 d1 d2 d3 d4 d5 d6
    go_wp2
    go_ret
    exact ⟨rfl, B4.out⟩
  | true =>
  obtain ⟨hs, ht, hn, hb⟩ := hPs.1 rfl
  clear hP hPs
  obtain ⟨pk, hpk⟩ : ∃ p, p = pubA x := ⟨_, rfl⟩
  have hp1 : 0 ≤ pk ∧ pk < 2147483579 := by
    rw [hpk]
    obtain ⟨n, rfl, h1, h2⟩ := secB_nat hs
    rw [pubA_nat n hs]
    have := pm_lt 4 n (m := 2147483579) (by omega)
    omega
  have hut := name_size hn
  obtain ⟨TW, hTW⟩ : ∃ t, t = jTwo pk nonce url body := ⟨_, rfl⟩
  have hTz : TW.size ≤ 5000 := by have := jTwo_size pk nonce url body; rw [hTW]; omega
  obtain ⟨E, hE⟩ : ∃ e, e = signE x.toNat TW := ⟨_, rfl⟩
  obtain ⟨SS, hSS⟩ : ∃ e, e = signS x.toNat TW := ⟨_, rfl⟩
  have hE1 : E < 1073741789 := by rw [hE]; exact chal_lt _ _ _
  have hS1 : SS < 1073741789 := by rw [hSS]; exact Nat.mod_lt _ (by omega)
  have hSV : signV x TW = .agg #[.int .i64 pk, .int .i64 E, .int .i64 SS] := by
    rw [signV, if_pos ⟨by omega, hs⟩, hE, hSS, hpk, pubA, if_pos hs]
    rfl
  have ht' := timeB_in ht
  have HF : Hid (jSign x nonce url body = jText pk nonce url body E SS) := by
    show _ = _
    rw [jSign, if_pos ⟨hs, ht, hn, hb⟩, hE, hSS, hTW, hpk]
  rw [← hpk] at HA HPub
  have HH : Hid (∀ V, Calls Tryd.prog 16 #[.agg #[.int .i64 pk, .int .i64 nonce, .string url, .string body, .int .i64 0, .int .i64 0, .int .i64 0]] V fun e w' => e = .returned (.string TW) ∧ Below V.heap.size V w') := fun V => by rw [hTW]; exact implTwo pk nonce url body 0 0 0 V (by omega) (by omega) hut hb
  have HG : Hid (∀ V, Keys V → Calls Tryd.prog 15 #[.int .i64 x, .string TW] V fun e w' => e = .returned (.agg #[.int .i64 pk, .int .i64 E, .int .i64 SS]) ∧ Below V.heap.size V w') := fun V hV => by rw [← hSV]; exact implSign x TW V (by unfold maxLen; omega) hV
  have HX : Hid (∀ V, Calls Tryd.prog 17 #[.agg #[.int .i64 pk, .int .i64 nonce, .string url, .string body, .int .i64 pk, .int .i64 E, .int .i64 SS]] V fun e w' => e = .returned (.string (jText pk nonce url body E SS)) ∧ Below V.heap.size V w') := fun V => implLay pk nonce url body pk E SS V (by omega) (by omega) hut hb (by omega) (by omega)
  rw [HF.out]
  clear HF hSV hpk hTW hTz hE hSS hE1 hS1 ht' hut hs ht hn hp1 hk hkp hu hbb
  generalize jText pk nonce url body E SS = R at *
  go_enter Tryd.func5, Tryd.ntmps5
  go_wp2_with fail
  refine (HPub.out w).mono ?_
  rintro e w2 ⟨rfl, b2⟩
  rw [← hw1] at b2 HKy
  obtain ⟨w3, hw3⟩ : ∃ y, y = w2.alloc (.cells #[.int .i64 pk, .int .i64 nonce, .string url, .string body, .int .i64 0, .int .i64 0, .int .i64 0] 31 (0, 0)) := ⟨_, rfl⟩
  have g3 : w3.heap[w2.heap.size]? = some (.cells [Value.int .i64 pk, .int .i64 nonce, .string url, .string body, .int .i64 0, .int .i64 0, .int .i64 0].toArray 31 (0, 0)) := by rw [hw3]; exact heap_alloc_new w2 _
  have bb3 : Below w2.heap.size w2 w3 := by rw [hw3]; exact (Below.refl _ _).alloc (Nat.le_refl _) _
  have B2 : Hid (Below w1.heap.size w1 w2) := b2
  have B3 : Hid (Below w2.heap.size w2 w3) := bb3
  have G3 : Hid _ := g3
  have d0 := rowFacts g3 0 _ rfl
  have d1 := rowFacts g3 1 _ rfl
  have d2 := rowFacts g3 2 _ rfl
  have d3 := rowFacts g3 3 _ rfl
  have d4 := rowFacts g3 4 _ rfl
  have d5 := rowFacts g3 5 _ rfl
  have d6 := rowFacts g3 6 _ rfl
  clear b2 bb3 g3
  go_upto_region 2 with fail
  rw [← hw3]
  clear hw3
  go_wp2_with fail
  refine (HA.out _).mono ?_
  rintro e w4 ⟨rfl, b4⟩
  have B4 : Hid (Below w2.heap.size w2 w4) := B3.out.trans (b4.mono B3.out.size)
  have G4 : Hid _ := (b4.block _ (heap_lt G3.out)).trans G3.out
  clear b4 d0 d1 d2 d3 d4 d5 d6 G3 B3 HA
  have d0 := rowFacts G4.out 0 _ rfl
  have d1 := rowFacts G4.out 1 _ rfl
  have d2 := rowFacts G4.out 2 _ rfl
  have d3 := rowFacts G4.out 3 _ rfl
  have d4 := rowFacts G4.out 4 _ rfl
  have d5 := rowFacts G4.out 5 _ rfl
  have d6 := rowFacts G4.out 6 _ rfl
  go_wp2_with fail
  refine (HH.out _).mono ?_
  rintro e w4' ⟨rfl, b4⟩
  have B4' : Hid (Below w2.heap.size w2 w4') := B4.out.trans (b4.mono B4.out.size)
  have G4' : Hid _ := (b4.block _ (heap_lt G4.out)).trans G4.out
  have KV := HKy.out w4' (B2.out.trans (B4'.out.mono B2.out.size))
  have HKV : Hid (Keys w4') := KV
  clear b4 d0 d1 d2 d3 d4 d5 d6 G4 B4 HH KV HKy
  go_wp2_with fail
  refine (HG.out _ HKV.out).mono ?_
  rintro e w5 ⟨rfl, b5⟩
  have B5 : Hid (Below w2.heap.size w2 w5) := B4'.out.trans (b5.mono B4'.out.size)
  have g5 := (b5.block _ (heap_lt G4'.out)).trans G4'.out
  have p4 := rowFacts g5 4 _ rfl
  have p5 := rowFacts g5 5 _ rfl
  have p6 := rowFacts g5 6 _ rfl
  have q4 := rowFree g5 4
  have q5 := rowFree g5 5
  have q6 := rowFree g5 6
  obtain ⟨w6, hw6⟩ : ∃ y, y = (((w5.setCell ⟨w2.heap.size, 4, none⟩ (.int .i64 pk)).setCell ⟨w2.heap.size, 5, none⟩ (.int .i64 (E : Int))).setCell ⟨w2.heap.size, 6, none⟩ (.int .i64 (SS : Int))) := ⟨_, rfl⟩
  have g6 : w6.heap[w2.heap.size]? = some (.cells [Value.int .i64 pk, .int .i64 nonce, .string url, .string body, .int .i64 pk, .int .i64 E, .int .i64 SS].toArray 31 (0, 0)) := by rw [hw6]; exact rowSet (i := 6) _ (rowSet (i := 5) _ (rowSet (i := 4) _ g5))
  have B6 : Hid (Below w2.heap.size w2 w6) := by rw [hw6]; exact ((B5.out.setCell (Nat.le_refl _) _).setCell (Nat.le_refl _) _).setCell (Nat.le_refl _) _
  have G6 : Hid _ := g6
  clear g5 b5 G4' B4' B5 HG g6 HKV
  go_upto_region 5 with fail
  rw [← hw6]
  clear hw6 p4 p5 p6 q4 q5 q6
  have d0 := rowFacts G6.out 0 _ rfl
  have d1 := rowFacts G6.out 1 _ rfl
  have d2 := rowFacts G6.out 2 _ rfl
  have d3 := rowFacts G6.out 3 _ rfl
  have d4 := rowFacts G6.out 4 _ rfl
  have d5 := rowFacts G6.out 5 _ rfl
  have d6 := rowFacts G6.out 6 _ rfl
  go_wp2_with fail
  refine (HX.out _).mono ?_
  rintro e w7 ⟨rfl, b7⟩
  have B7 : Hid (Below w1.heap.size w1 w7) := B2.out.trans ((B6.out.trans (b7.mono B6.out.size)).mono B2.out.size)
  clear b7 d0 d1 d2 d3 d4 d5 d6
  go_wp2
  go_ret
  exact ⟨rfl, by rw [← hw1]; exact B7.out⟩
end Go.Proofs.YtmegmcngcehneaaDoor
namespace Go.Proofs.YtmegmcngcehneaaDoor
open Go.ChangeShapes Go.WideShapes Go.ChangeAt Go.RowKit

theorem key_gv : Tryd.prog.globalNamed "loop.example/g00371/impl.roundNumbers" = some 0 := by kernel_rfl
theorem key_gt : (Tryd.prog.globals[0]?).map (·.type) = some 77 := by kernel_rfl
theorem key_c : Tryd.prog.cellsOf 64 = 1 := by kernel_rfl
theorem keyLaid {H : Type} : (Rows.laid_loop_example_g00371_impl_roundNumbers : DataW H) = .agg (keyL.map fun n : Nat => .lit (.int .u32 (n : Int))) := rfl
theorem key_num (k : Nat) (h : k < 64) : ((keyL.getD k 0 : Nat) : Int) = uI (kAt k) := by
  have hl : k < keyL.length := h
  have hb : ∀ n ∈ keyL, n < 4294967296 := by decide
  have := hb _ (List.getElem_mem hl)
  unfold kAt uI
  rw [BitVec.toNat_ofNat, List.getD, List.getElem?_eq_getElem hl]
  simp only [Option.getD_some]
  rw [Nat.mod_eq_of_lt (by simpa using this)]
theorem keys_of_trod {W : World} {enc : TypeId × Value → Unit} {base g0 : Nat} {sp : Nat → Bool} {t0 : TypeId} {cs0 : Array Value} {f0 : Nat} {p0 : List MemPlace}
    (hg0 : Tryd.prog.globalNamed "loop.example/g00371/impl.roundNumbers" = some g0) (ht0 : (Tryd.prog.globals[g0]?).map (·.type) = some t0) (hv0 : W.var? Tryd.prog "loop.example/g00371/impl.roundNumbers" = some cs0)
    (hd0 : DataW.trod enc Tryd.prog W base sp false f0 t0 cs0.toList = some (Rows.laid_loop_example_g00371_impl_roundNumbers, p0)) : Keys W := by
  obtain rfl := Option.some.inj (key_gv.symm.trans hg0)
  obtain rfl := Option.some.inj (key_gt.symm.trans ht0)
  obtain ⟨xs, m1, rfl, hx1, hlen, hn, hel⟩ := DataW.trod_array Tryd.underlying77 hd0
  rw [keyLaid] at hx1
  simp only [Prod.mk.injEq, DataW.agg.injEq] at hx1
  intro i hi
  have h1 := hel i hi
  have hxi : i < xs.length := by omega
  rw [List.getElem?_eq_getElem hxi] at h1
  obtain ⟨k, e1, e2, _⟩ := DataW.trod_int Tryd.underlying64 h1
  have h2 : xs[i].1 = .lit (.int .u32 (uI (kAt i))) := by
    have h3 : (xs.map (·.1))[i]? = (keyL.map fun n : Nat => DataW.lit (.int .u32 (n : Int)))[i]? := by rw [← hx1.1]
    rw [List.getElem?_map, List.getElem?_map, List.getElem?_eq_getElem hxi, List.getElem?_eq_getElem (show i < keyL.length from hi)] at h3
    have h4 : xs[i].1 = _ := Option.some.inj h3
    rw [h4, ← key_num i hi, List.getD, List.getElem?_eq_getElem (show i < keyL.length from hi)]
    rfl
  rw [e2] at h2
  have hk : k = uI (kAt i) := by simpa using h2
  subst hk
  have hc := World.var?_cell hg0 hv0 i
  rw [hc]
  rw [key_c, Nat.mul_one] at e1
  have h5 := congrArg (fun l => l[0]?) e1
  simp only [List.getElem?_take, List.getElem?_drop] at h5
  simpa using h5
theorem keys_of_laid {W : World} (h : laidMetH Tryd.prog [("loop.example/g00371/impl.roundNumbers", Rows.laid_loop_example_g00371_impl_roundNumbers)] W) : Keys W := by
  rw [MakeChecks.laidMetH_plain _ _ _ (by kernel_rfl)] at h
  obtain ⟨ps, ⟨g0, t0, cs0, f0, p0, q0, hg0, ht0, hv0, hd0, _⟩, _⟩ := h
  exact keys_of_trod hg0 ht0 hv0 hd0
end Go.Proofs.YtmegmcngcehneaaDoor
