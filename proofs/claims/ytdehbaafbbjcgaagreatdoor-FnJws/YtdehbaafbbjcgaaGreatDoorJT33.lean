/- impl.GroupPow, walked. impl.Challenge, walked. The method challenge of impl.signedText, walked. impl.SecretRight, walked. impl.PublicOf, walked. impl.signPower, the method challenge, impl.SignText, walked. -/
import Derived.Test.YtdehbaafbbjcgaaGreatDoorJT06
import Derived.Test.YtdehbaafbbjcgaaGreatDoorJT05
import Derived.Test.YtdehbaafbbjcgaaGreatDoorJT32
import Derived.Test.YtdehbaafbbjcgaaGreatDoorJT10
import Derived.Test.YtdehbaafbbjcgaaGreatDoorJT08
import Derived.Test.YtdehbaafbbjcgaaGreatDoorJT22
import Derived.Test.YtdehbaafbbjcgaaGreatDoorJT09
namespace Go.Proofs.YtdehbaafbbjcgaaGreatDoor
open Go.RowKit

set_option maxHeartbeats 1000000 in
set_option maxRecDepth 100000 in
theorem implGroupPow (y n : Int) (w : World) (hn : n ≤ 9223372036854775807) :
    Calls Tryz.prog 51 #[.int .i64 y, .int .i64 n] w fun e w' => e = .returned (.int .i64 (gpowA y n)) ∧ Below w.heap.size w w' := by
  by_cases h1 : unitB y = true
  · by_cases h2 : n < 0
    · have ea : Hid (gpowA y n = 0) := by
        show _ = _
        rw [gpowA, if_neg (by omega)]
      go_enter Tryz.func51, Tryz.ntmps51
      go_wp2_with fail
      refine (implUnit y _).mono ?_
      rintro e w' ⟨rfl, rfl⟩
      rw [h1]
      go_wp2
      go_ret
      exact ⟨ret_int ea.out.symm, Below.refl _ _⟩
    · obtain ⟨x, rfl, x1, x2⟩ := unitB_nat h1
      obtain ⟨k, rfl⟩ := nat_of h2
      rw [gpowA_nat x k h1]
      have t1 : (k : Int).tmod 1073741789 = ((k % 1073741789 : Nat) : Int) := tmodN k 1073741789
      have hb1 : k % 1073741789 ≤ 9223372036854775807 := by omega
      generalize k % 1073741789 = j at *
      have HC : Hid (∀ v : World, Calls Tryz.prog 76 #[.int .i64 (x : Int), .int .i64 (j : Int), .int .i64 2147483579] v fun e w' => e = .returned (.int .i64 ((pm x j 2147483579 : Nat) : Int)) ∧ Below v.heap.size v w') := fun v => by
        have h := implModPow x j 2147483579 v (by omega)
        rw [show (2147483579 : Int) = ((2147483579 : Nat) : Int) from rfl, powA_nat x j 2147483579 modP] at h
        exact h
      generalize pm x j 2147483579 = z at *
      go_enter Tryz.func51, Tryz.ntmps51
      go_wp2_with fail
      refine (implUnit x _).mono ?_
      rintro e w' ⟨rfl, rfl⟩
      rw [h1]
      go_wp2_with fail
      refine (HC.out _).mono ?_
      rintro e w' ⟨rfl, hb⟩
      have HB : Hid _ := hb
      clear hb
      go_wp2
      go_ret
      exact ⟨rfl, HB.out⟩
  · rw [Bool.not_eq_true] at h1
    have ea : Hid (gpowA y n = 0) := by
      show _ = _
      rw [gpowA, if_neg (by rw [h1]; simp)]
    go_enter Tryz.func51, Tryz.ntmps51
    go_wp2_with fail
    refine (implUnit y _).mono ?_
    rintro e w' ⟨rfl, rfl⟩
    rw [h1]
    go_wp2
    go_ret
    exact ⟨ret_int ea.out.symm, Below.refl _ _⟩
end Go.Proofs.YtdehbaafbbjcgaaGreatDoor
namespace Go.Proofs.YtdehbaafbbjcgaaGreatDoor
open Go.RowKit

set_option maxHeartbeats 1000000 in
set_option maxRecDepth 100000 in
theorem implChallenge (r key : Int) (t : ByteArray) (w : World) (ht : t.size ≤ maxLen) (hk : Keys w) :
    Calls Tryz.prog 80 #[.int .i64 r, .int .i64 key, .string t] w fun e w' => e = .returned (.int .i64 (challA r key t)) ∧ Below w.heap.size w w' := by
  have HK : Hid (Keys w) := hk
  have hkp := hk.pos
  clear hk
  by_cases h1 : 20000 < t.size
  · have ea : Hid (challA r key t = 0) := by
      show _ = _
      rw [challA, if_neg (by omega)]
    have hd : decide (20000 < t.size) = true := decide_eq_true h1
    go_enter Tryz.func80, Tryz.ntmps80
    go_wp2_with fail
    refine (tooLong t _ ht).mono ?_
    rintro e w' ⟨rfl, rfl⟩
    rw [hd]
    clear h1 hd ht
    go_wp2
    go_ret
    exact ⟨ret_int ea.out.symm, Below.refl _ _⟩
  have hd : decide (20000 < t.size) = false := decide_eq_false h1
  by_cases h2 : unitB r = true
  · by_cases h3 : unitB key = true
    · have ea : Hid (challA r key t = (chal r key t : Int)) := by
        show _ = _
        rw [challA, if_pos ⟨by omega, h2, h3⟩]
      have b2 : 1 ≤ r ∧ r < 2147483579 := of_decide_eq_true h2
      have b3 : 1 ≤ key ∧ key < 2147483579 := of_decide_eq_true h3
      have s2 := putS_size r
      have s3 := putS_size key
      have P2 : Hid (∀ v : World, Calls Tryz.prog 58 #[.int .i64 r] v fun e w' => e = .returned (.string (putS r)) ∧ Below v.heap.size v w') := fun v => implPut r v (by omega) (by omega)
      have P3 : Hid (∀ v : World, Calls Tryz.prog 58 #[.int .i64 key] v fun e w' => e = .returned (.string (putS key)) ∧ Below v.heap.size v w') := fun v => implPut key v (by omega) (by omega)
      have EC : Hid ((dnum (putS r ++ putS key ++ t) % 1073741789 : Nat) = chal r key t) := rfl
      have ld := dnum_lt (putS r ++ putS key ++ t)
      have LD : Hid (∀ a b : ByteArray, a = putS r → b = putS key → dnum (a ++ b ++ t) < 72057594037927936 ∧ dnum (a ++ b ++ t) % 1073741789 = chal r key t) := fun a b ha hb => by subst ha hb; exact ⟨ld, EC.out⟩
      generalize hp : putS r = p at s2 P2
      generalize hq : putS key = q at s3 P3
      have LD' := LD.out p q hp.symm hq.symm
      have LE : Hid (dnum (p ++ q ++ t) < 72057594037927936 ∧ dnum (p ++ q ++ t) % 1073741789 = chal r key t) := LD'
      clear LD LD' ld EC hp hq
      go_enter Tryz.func80, Tryz.ntmps80
      go_wp2_with fail
      refine (tooLong t _ ht).mono ?_
      rintro e w' ⟨rfl, rfl⟩
      rw [hd]
      go_wp2_with fail
      refine (implUnit r _).mono ?_
      rintro e w' ⟨rfl, rfl⟩
      rw [h2]
      go_wp2_with fail
      refine (implUnit key _).mono ?_
      rintro e w' ⟨rfl, rfl⟩
      rw [h3]
      go_wp2_with fail
      refine (P2.out _).mono ?_
      rintro e w1 ⟨rfl, hb1⟩
      have B1 : Hid (Below w'.heap.size w' w1) := hb1
      have z1 := hb1.size
      clear hb1
      go_wp2_with fail
      refine (P3.out _).mono ?_
      rintro e w2 ⟨rfl, hb2⟩
      have B2 : Hid (Below w'.heap.size w' w2) := B1.out.trans (hb2.mono z1)
      have z2 := B2.out.size
      clear hb2
      go_wp2_with fail
      refine (joinTexts p q _ (by omega) (by omega)).mono ?_
      rintro e w3 ⟨rfl, hb3⟩
      have B3 : Hid (Below w'.heap.size w' w3) := B2.out.trans (hb3.mono z2)
      have z3 := B3.out.size
      have K3 : Hid (Keys w3) := HK.out.below B3.out hkp
      clear hb3
      go_wp2_with fail
      refine (digestNumber (p ++ q) t _ (by rw [size_append]; omega) (by omega) K3.out).mono ?_
      rintro e w4 ⟨rfl, hb4⟩
      have B4 : Hid (Below w'.heap.size w' w4) := B3.out.trans (hb4.mono z3)
      clear hb4
      obtain ⟨l1, l2⟩ := LE.out
      generalize dnum (p ++ q ++ t) = d at l1 l2
      have t1 : (d : Int).tmod 1073741789 = ((d % 1073741789 : Nat) : Int) := tmodN d 1073741789
      rw [l2] at t1
      clear LE l1 l2
      go_wp2
      go_ret
      exact ⟨ret_int ea.out.symm, B4.out⟩
    · rw [Bool.not_eq_true] at h3
      have ea : Hid (challA r key t = 0) := by
        show _ = _
        rw [challA, if_neg (by rw [h3]; simp)]
      go_enter Tryz.func80, Tryz.ntmps80
      go_wp2_with fail
      refine (tooLong t _ ht).mono ?_
      rintro e w' ⟨rfl, rfl⟩
      rw [hd]
      go_wp2_with fail
      refine (implUnit r _).mono ?_
      rintro e w' ⟨rfl, rfl⟩
      rw [h2]
      go_wp2_with fail
      refine (implUnit key _).mono ?_
      rintro e w' ⟨rfl, rfl⟩
      rw [h3]
      go_wp2
      go_ret
      exact ⟨ret_int ea.out.symm, Below.refl _ _⟩
  · rw [Bool.not_eq_true] at h2
    have ea : Hid (challA r key t = 0) := by
      show _ = _
      rw [challA, if_neg (by rw [h2]; simp)]
    go_enter Tryz.func80, Tryz.ntmps80
    go_wp2_with fail
    refine (tooLong t _ ht).mono ?_
    rintro e w' ⟨rfl, rfl⟩
    rw [hd]
    go_wp2_with fail
    refine (implUnit r _).mono ?_
    rintro e w' ⟨rfl, rfl⟩
    rw [h2]
    go_wp2
    go_ret
    exact ⟨ret_int ea.out.symm, Below.refl _ _⟩
end Go.Proofs.YtdehbaafbbjcgaaGreatDoor
namespace Go.Proofs.YtdehbaafbbjcgaaGreatDoor
open Go.RowKit

set_option maxHeartbeats 1000000 in
set_option maxRecDepth 100000 in
theorem askChallenge (key r : Int) (t : ByteArray) (w : World) (ht : t.size ≤ maxLen) (hk : Keys w) :
    Calls Tryz.prog 56 #[.agg #[.int .i64 key, .string t], .int .i64 r] w fun e w' => e = .returned (.int .i64 (challA r key t)) ∧ Below w.heap.size w w' := by
  have hkp := hk.pos
  have HK : Hid (∀ o, Keys (w.alloc o)) := fun o => hk.below (allocBelow w o) hkp
  clear hk
  go_enter Tryz.func56, Tryz.ntmps56
  go_wp2_with fail
  refine (implChallenge r key t _ ht (HK.out _)).mono ?_
  rintro e w1 ⟨rfl, hb1⟩
  have B1 : Hid (Below w.heap.size w w1) := (allocBelow w _).trans (hb1.mono (by simp))
  clear hb1
  generalize hz : challA r key t = z
  have HZ : Hid (challA r key t = z) := hz
  clear hz
  go_wp2
  go_ret
  exact ⟨ret_int HZ.out.symm, B1.out⟩
end Go.Proofs.YtdehbaafbbjcgaaGreatDoor
namespace Go.Proofs.YtdehbaafbbjcgaaGreatDoor
open Go.RowKit

theorem implSecret (x : Int) (w : World) :
    Calls Tryz.prog 50 #[.int .i64 x] w fun e w' => e = .returned (.bool (secB x)) ∧ w' = w := by
  by_cases h1 : 1 ≤ x
  · by_cases h2 : x < 1073741789
    · have e : secB x = true := decide_eq_true ⟨h1, h2⟩
      rw [e]
      go_enter Tryz.func50, Tryz.ntmps50
      go_wp2
      go_ret
      exact ⟨rfl, rfl⟩
    · have e : secB x = false := decide_eq_false (by omega)
      rw [e]
      go_enter Tryz.func50, Tryz.ntmps50
      go_wp2
      go_ret
      exact ⟨rfl, rfl⟩
  · have e : secB x = false := decide_eq_false (by omega)
    rw [e]
    go_enter Tryz.func50, Tryz.ntmps50
    go_wp2
    go_ret
    exact ⟨rfl, rfl⟩
end Go.Proofs.YtdehbaafbbjcgaaGreatDoor
namespace Go.Proofs.YtdehbaafbbjcgaaGreatDoor
open Go.RowKit

set_option maxHeartbeats 1000000 in
set_option maxRecDepth 100000 in
theorem implPublic (x : Int) (w : World) :
    Calls Tryz.prog 29 #[.int .i64 x] w fun e w' => e = .returned (.int .i64 (pubA x)) ∧ Below w.heap.size w w' := by
  by_cases h : secB x = true
  · obtain ⟨n, rfl, n1, n2⟩ := secB_nat h
    rw [pubA_nat n h]
    have HP : Hid (∀ v : World, Calls Tryz.prog 51 #[.int .i64 4, .int .i64 (n : Int)] v fun e w' => e = .returned (.int .i64 ((pm 4 n 2147483579 : Nat) : Int)) ∧ Below v.heap.size v w') := fun v => by
      rw [← gpow_in (y := 4) (by omega) pm4 n]; exact implGroupPow 4 n v (by omega)
    generalize pm 4 n 2147483579 = z at *
    go_enter Tryz.func29, Tryz.ntmps29
    go_wp2_with fail
    refine (implSecret n w).mono ?_
    rintro e w' ⟨rfl, rfl⟩
    rw [h]
    go_wp2_with fail
    refine (HP.out _).mono ?_
    rintro e w2 ⟨rfl, hb⟩
    have HB : Hid _ := hb
    clear hb
    go_wp2
    go_ret
    exact ⟨rfl, HB.out⟩
  · rw [Bool.not_eq_true] at h
    have ea : Hid (pubA x = 0) := by
      show _ = _
      rw [pubA, if_neg (by rw [h]; simp)]
    go_enter Tryz.func29, Tryz.ntmps29
    go_wp2_with fail
    refine (implSecret x w).mono ?_
    rintro e w' ⟨rfl, rfl⟩
    rw [h]
    go_wp2
    go_ret
    exact ⟨ret_int ea.out.symm, Below.refl _ _⟩
end Go.Proofs.YtdehbaafbbjcgaaGreatDoor
namespace Go.Proofs.YtdehbaafbbjcgaaGreatDoor
open Go.RowKit

set_option maxHeartbeats 1000000 in
set_option maxRecDepth 100000 in
theorem signPower (x : Int) (t : ByteArray) (w : World) (ht : t.size ≤ 20000) (x0 : -9223372036854775808 ≤ x) (x1 : x ≤ 9223372036854775807) (hk : Keys w) :
    Calls Tryz.prog 55 #[.int .i64 x, .string t] w fun e w' => e = .returned (.int .i64 (powK x t : Nat)) ∧ Below w.heap.size w w' := by
  have HK : Hid (Keys w) := hk
  have hkp := hk.pos
  have s2 := putS_size x
  have P2 : Hid (∀ v : World, Calls Tryz.prog 58 #[.int .i64 x] v fun e w' => e = .returned (.string (putS x)) ∧ Below v.heap.size v w') := fun v => implPut x v x0 x1
  generalize hp : putS x = p at s2 P2
  have l2 := powK_eq x t p hp
  have L2 : Hid (dnum (⟨#[75]⟩ ++ p ++ t) % 1073741788 + 1 = powK x t) := l2
  clear l2 hp hk x0 x1
  have n0 : (ByteArray.mk #[75]).size = 1 := rfl
  obtain ⟨q, hq⟩ : ∃ q : ByteArray, ⟨#[75]⟩ ++ p = q := ⟨_, rfl⟩
  have sq : q.size ≤ 100 := by rw [← hq, size_append]; omega
  have J2 : Hid (∀ v : World, Calls Tryz.prog 57 #[.string ⟨#[75]⟩, .string p] v fun e w' => e = .returned (.string q) ∧ Below v.heap.size v w') := fun v => by rw [← hq]; exact joinTexts ⟨#[75]⟩ p v (by omega) (by omega)
  have L4 : Hid (dnum (q ++ t) % 1073741788 + 1 = powK x t) := by rw [← hq]; exact L2.out
  clear L2 hq n0
  go_enter Tryz.func55, Tryz.ntmps55
  go_wp2_with fail
  refine (P2.out _).mono ?_
  rintro e w1 ⟨rfl, hb1⟩
  have B1 : Hid (Below w.heap.size w w1) := hb1
  have z1 := hb1.size
  clear hb1
  go_wp2_with fail
  refine (J2.out _).mono ?_
  rintro e w3 ⟨rfl, hb3⟩
  have B3 : Hid (Below w.heap.size w w3) := B1.out.trans (hb3.mono z1)
  have z3 := B3.out.size
  have K3 : Hid (Keys w3) := HK.out.below B3.out hkp
  clear hb3
  go_wp2_with fail
  refine (digestNumber q t _ sq (by omega) K3.out).mono ?_
  rintro e w4 ⟨rfl, hb4⟩
  have B4 : Hid (Below w.heap.size w w4) := B3.out.trans (hb4.mono z3)
  clear hb4
  have l2 := L4.out
  generalize dnum (q ++ t) = d at l2
  have t1 : (d : Int).tmod 1073741788 = ((d % 1073741788 : Nat) : Int) := tmodN d 1073741788
  have hm := Nat.mod_lt d (show 0 < 1073741788 by omega)
  generalize d % 1073741788 = m at *
  have hm' : (m : Int) < 1073741788 := by omega
  have L3 : Hid (m + 1 = powK x t) := l2
  clear L4 l2 hm
  go_wp2
  go_ret
  exact ⟨ret_int (by rw [← L3.out]; omega), B4.out⟩
set_option maxHeartbeats 1000000 in
set_option maxRecDepth 100000 in
theorem implSign (x : Int) (t : ByteArray) (w : World) (ht : t.size ≤ maxLen) (hk : Keys w) :
    Calls Tryz.prog 31 #[.int .i64 x, .string t] w fun e w' => e = .returned (signV x t) ∧ Below w.heap.size w w' := by
  have HK : Hid (Keys w) := hk
  have hkp := hk.pos
  clear hk
  by_cases h1 : 20000 < t.size
  · have ea : Hid (signV x t = sigV 0 0 0) := signV_no (by omega)
    have hd : decide (20000 < t.size) = true := decide_eq_true h1
    go_enter Tryz.func31, Tryz.ntmps31
    go_wp2_with fail
    refine (tooLong t _ ht).mono ?_
    rintro e w' ⟨rfl, rfl⟩
    rw [hd]
    clear h1 hd ht
    go_wp2
    go_returns
    exact ⟨by rw [ea.out]; rfl, allocBelow _ _⟩
  have hd : decide (20000 < t.size) = false := decide_eq_false h1
  by_cases h2 : secB x = true
  · obtain ⟨n, rfl, n1, n2⟩ := secB_nat h2
    have ea : Hid (signV n t = sigV ((pm 4 n 2147483579 : Nat) : Int) (signE n t) (signS n t)) := signV_nat (by omega) h2
    have ht2 : t.size ≤ 20000 := by omega
    have hpk := powK_lt n t
    have he := chal_lt ((pm 4 (powK n t) 2147483579 : Nat) : Int) ((pm 4 n 2147483579 : Nat) : Int) t
    have S1 : Hid (∀ v : World, Keys v → Calls Tryz.prog 55 #[.int .i64 (n : Int), .string t] v fun e w' => e = .returned (.int .i64 (powK n t : Nat)) ∧ Below v.heap.size v w') := fun v hv => signPower n t v ht2 (by omega) (by omega) hv
    have S2 : Hid (∀ v : World, Calls Tryz.prog 29 #[.int .i64 (n : Int)] v fun e w' => e = .returned (.int .i64 ((pm 4 n 2147483579 : Nat) : Int)) ∧ Below v.heap.size v w') := fun v => by rw [← pubA_nat n h2]; exact implPublic n v
    have S3 : Hid (∀ v : World, Calls Tryz.prog 51 #[.int .i64 4, .int .i64 (powK n t : Nat)] v fun e w' => e = .returned (.int .i64 ((pm 4 (powK n t) 2147483579 : Nat) : Int)) ∧ Below v.heap.size v w') := fun v => by
      rw [← gpow_in (y := 4) (by omega) pm4 (powK n t)]; exact implGroupPow 4 (powK n t : Nat) v (by omega)
    have S4 : Hid (∀ v : World, Keys v → Calls Tryz.prog 56 #[.agg #[.int .i64 ((pm 4 n 2147483579 : Nat) : Int), .string t], .int .i64 ((pm 4 (powK n t) 2147483579 : Nat) : Int)] v fun e w' => e = .returned (.int .i64 (signE n t : Nat)) ∧ Below v.heap.size v w') := fun v hv => by
      have h := askChallenge ((pm 4 n 2147483579 : Nat) : Int) ((pm 4 (powK n t) 2147483579 : Nat) : Int) t v ht hv
      rw [challA, if_pos ⟨ht2, unit_pow pm4 _, unit_pow pm4 _⟩] at h
      exact h
    have S5 : Hid ((powK n t + signE n t * n) % 1073741789 = signS n t) := rfl
    change signE n t < 1073741789 at he
    generalize signS n t = s at *
    generalize signE n t = e at *
    generalize pm 4 (powK n t) 2147483579 = y at *
    generalize powK n t = k at *
    generalize pm 4 n 2147483579 = key at *
    obtain ⟨p, hp, ep, lp, up⟩ := prod_bd e n (by omega) (by omega)
    have t1 : ((k : Int) + (p : Int)).tmod 1073741789 = (s : Int) := by
      have h := S5.out
      rw [← hp] at h
      rw [← h, ← tmodN]
      simp
    clear S5 hp
    go_enter Tryz.func31, Tryz.ntmps31
    go_wp2_with fail
    refine (tooLong t _ ht).mono ?_
    rintro e1 w' ⟨rfl, rfl⟩
    rw [hd]
    go_wp2_with fail
    refine (implSecret n _).mono ?_
    rintro e1 w' ⟨rfl, rfl⟩
    rw [h2]
    go_wp2_with fail
    obtain ⟨w0, hw0⟩ : ∃ w0, w.alloc (.cells #[.int .i64 0, .int .i64 0, .int .i64 0] 32 (0, 0)) = w0 := ⟨_, rfl⟩
    have hg0 : w0.heap[w.heap.size]? = some (.cells #[.int .i64 0, .int .i64 0, .int .i64 0] 32 (0, 0)) := by rw [← hw0]; exact heap_alloc_new w _
    have hb0 : Below w.heap.size w w0 := by rw [← hw0]; exact allocBelow w _
    have hs0 : w0.heap.size = w.heap.size + 1 := by rw [← hw0]; simp
    rw [hw0]
    have K0 : Hid (Keys w0) := HK.out.below hb0 hkp
    have hk0 := K0.out.pos
    have G0 : Hid (w0.heap[w.heap.size]? = some (.cells #[.int .i64 0, .int .i64 0, .int .i64 0] 32 (0, 0))) := hg0
    have B0 : Hid (Below w.heap.size w w0) := hb0
    have HS0 : Hid (w0.heap.size = w.heap.size + 1) := hs0
    clear hg0 hb0 hw0 hs0
    refine (S1.out w0 K0.out).mono ?_
    rintro e1 w1 ⟨rfl, hb1⟩
    have b1 : Hid (Below w0.heap.size w0 w1) := hb1
    have z1 := b1.out.size
    clear hb1
    go_wp2_with fail
    refine (S2.out _).mono ?_
    rintro e1 w2 ⟨rfl, hb2⟩
    have b2 : Hid (Below w0.heap.size w0 w2) := b1.out.trans (hb2.mono z1)
    have z2 := b2.out.size
    clear hb2
    go_wp2_with fail
    refine (S3.out _).mono ?_
    rintro e1 w3 ⟨rfl, hb3⟩
    have b3 : Hid (Below w0.heap.size w0 w3) := b2.out.trans (hb3.mono z2)
    have z3 := b3.out.size
    have K3 : Hid (Keys w3) := K0.out.below b3.out hk0
    clear hb3
    go_wp2_with fail
    refine (S4.out _ K3.out).mono ?_
    rintro e1 w4 ⟨rfl, hb4⟩
    have b4 : Hid (Below w0.heap.size w0 w4) := b3.out.trans (hb4.mono z3)
    clear hb4
    have hg4 : w4.heap[w.heap.size]? = some (.cells [.int .i64 0, .int .i64 0, .int .i64 0].toArray 32 (0, 0)) := by
      rw [b4.out.block w.heap.size (by rw [HS0.out]; omega)]; exact G0.out
    have c0 := rowFacts hg4 0 (.int .i64 0) rfl
    have c1 := rowFacts hg4 1 (.int .i64 0) rfl
    have c2 := rowFacts hg4 2 (.int .i64 0) rfl
    have f0 := frozen_of_row w4 _ 0 _ _ hg4
    have f1 := frozen_of_row w4 _ 1 _ _ hg4
    have f2 := frozen_of_row w4 _ 2 _ _ hg4
    have BB : Hid (∀ a b c, Below w.heap.size w (((w4.setCell ⟨w.heap.size, 0, none⟩ a).setCell ⟨w.heap.size, 1, none⟩ b).setCell ⟨w.heap.size, 2, none⟩ c)) := fun a b c =>
      (((B0.out.trans (b4.out.mono B0.out.size)).setCell (Nat.le_refl _) a).setCell (Nat.le_refl _) b).setCell (Nat.le_refl _) c
    have G4 : Hid (w4.heap[w.heap.size]? = some (.cells [.int .i64 0, .int .i64 0, .int .i64 0].toArray 32 (0, 0))) := hg4
    clear hg4 b1 b2 b3 b4 S1 S2 S3 S4 HS0 B0 K0 K3 G0 HK z1 z2 z3
    go_wp2
    refine bodyPost_ret (v := sigV key e s) ?_ rfl ⟨by rw [ea.out], BB.out _ _ _⟩
    have hrow := sigRow G4.out (.int .i64 (key : Int)) (.int .i64 (e : Int)) (.int .i64 (s : Int))
    have hl3 := run_loadVar_mid (P := Tryz.prog) _ w.heap.size 0 32 _ _ (rangeRow hrow) Tryz.underlying32 rfl sizeSig
    simp [results, Tryz.results31, asAddr, hl3, sigV]
  · rw [Bool.not_eq_true] at h2
    have ea : Hid (signV x t = sigV 0 0 0) := signV_no (by rw [h2]; simp)
    go_enter Tryz.func31, Tryz.ntmps31
    go_wp2_with fail
    refine (tooLong t _ ht).mono ?_
    rintro e w' ⟨rfl, rfl⟩
    rw [hd]
    go_wp2_with fail
    refine (implSecret x _).mono ?_
    rintro e w' ⟨rfl, rfl⟩
    rw [h2]
    go_wp2
    go_returns
    exact ⟨by rw [ea.out]; rfl, allocBelow _ _⟩
end Go.Proofs.YtdehbaafbbjcgaaGreatDoor
