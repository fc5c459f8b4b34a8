/- impl.SecretRight, walked. impl.PublicOf, walked. impl.signPower, the method challenge, impl.SignText, walked. impl.CertSign, walked. impl.copyCrl, walked. -/
import Derived.Test.YtegmmaomaegjjaaGreatDoorPT02
import Derived.Test.YtegmmaomaegjjaaGreatDoorPT03
import Derived.Test.YtegmmaomaegjjaaGreatDoorPT21
import Derived.Test.YtegmmaomaegjjaaGreatDoorPT22
import Derived.Test.YtegmmaomaegjjaaGreatDoorPT09
import Derived.Test.YtegmmaomaegjjaaGreatDoorPT05
import Derived.Test.YtegmmaomaegjjaaGreatDoorPT28
import Derived.Deep.Cut
import Derived.Test.YtegmmaomaegjjaaGreatDoorPT12
import Derived.Test.YtegmmaomaegjjaaGreatDoorPT04
import Derived.Test.YtegmmaomaegjjaaGreatDoorPT06
namespace Go.Proofs.YtegmmaomaegjjaaGreatDoor
open Go.RowKit

theorem implSecret (x : Int) (w : World) :
    Calls Tryz.prog 42 #[.int .i64 x] w fun e w' => e = .returned (.bool (secB x)) ∧ w' = w := by
  by_cases h1 : 1 ≤ x
  · by_cases h2 : x < 1073741789
    · have e : secB x = true := decide_eq_true ⟨h1, h2⟩
      rw [e]
      go_enter Tryz.func42, Tryz.ntmps42
      go_wp2
      go_ret
      exact ⟨rfl, rfl⟩
    · have e : secB x = false := decide_eq_false (by omega)
      rw [e]
      go_enter Tryz.func42, Tryz.ntmps42
      go_wp2
      go_ret
      exact ⟨rfl, rfl⟩
  · have e : secB x = false := decide_eq_false (by omega)
    rw [e]
    go_enter Tryz.func42, Tryz.ntmps42
    go_wp2
    go_ret
    exact ⟨rfl, rfl⟩
end Go.Proofs.YtegmmaomaegjjaaGreatDoor
namespace Go.Proofs.YtegmmaomaegjjaaGreatDoor
open Go.RowKit

set_option maxHeartbeats 1000000 in
set_option maxRecDepth 100000 in
theorem implPublic (x : Int) (w : World) :
    Calls Tryz.prog 73 #[.int .i64 x] w fun e w' => e = .returned (.int .i64 (pubA x)) ∧ Below w.heap.size w w' := by
  by_cases h : secB x = true
  · obtain ⟨n, rfl, n1, n2⟩ := secB_nat h
    rw [pubA_nat n h]
    have HP : Hid (∀ v : World, Calls Tryz.prog 75 #[.int .i64 4, .int .i64 (n : Int)] v fun e w' => e = .returned (.int .i64 ((pm 4 n 2147483579 : Nat) : Int)) ∧ Below v.heap.size v w') := fun v => by
      rw [← gpow_in (y := 4) (by omega) pm4 n]; exact implGroupPow 4 n v (by omega)
    generalize pm 4 n 2147483579 = z at *
    go_enter Tryz.func73, Tryz.ntmps73
    go_wp2_with fail
    refine (implSecret n w).mono ?_
    rintro e w' ⟨rfl, rfl⟩
    rw [h]
    go_wp2_with fail
    refine (HP.out _).mono ?_
    rintro e w2 ⟨rfl, hb⟩
    have HB : Hid _ := hb
    clear hb
    go_wp2
    go_ret
    exact ⟨rfl, HB.out⟩
  · rw [Bool.not_eq_true] at h
    have ea : Hid (pubA x = 0) := by
      show _ = _
      rw [pubA, if_neg (by rw [h]; simp)]
    go_enter Tryz.func73, Tryz.ntmps73
    go_wp2_with fail
    refine (implSecret x w).mono ?_
    rintro e w' ⟨rfl, rfl⟩
    rw [h]
    go_wp2
    go_ret
    exact ⟨ret_int ea.out.symm, Below.refl _ _⟩
end Go.Proofs.YtegmmaomaegjjaaGreatDoor
namespace Go.Proofs.YtegmmaomaegjjaaGreatDoor
open Go.RowKit

set_option maxHeartbeats 1000000 in
set_option maxRecDepth 100000 in
theorem signPower (x : Int) (t : ByteArray) (w : World) (ht : t.size ≤ 20000) (x0 : -9223372036854775808 ≤ x) (x1 : x ≤ 9223372036854775807) (hk : Keys w) :
    Calls Tryz.prog 72 #[.int .i64 x, .string t] w fun e w' => e = .returned (.int .i64 (powK x t : Nat)) ∧ Below w.heap.size w w' := by
  have HK : Hid (Keys w) := hk
  have hkp := hk.pos
  have s2 := putS_size x
  have P2 : Hid (∀ v : World, Calls Tryz.prog 104 #[.int .i64 x] v fun e w' => e = .returned (.string (putS x)) ∧ Below v.heap.size v w') := fun v => implPut x v x0 x1
  generalize hp : putS x = p at s2 P2
  have l2 := powK_eq x t p hp
  have L2 : Hid (dnum (⟨#[75]⟩ ++ p ++ t) % 1073741788 + 1 = powK x t) := l2
  clear l2 hp hk x0 x1
  have n0 : (ByteArray.mk #[75]).size = 1 := rfl
  obtain ⟨q, hq⟩ : ∃ q : ByteArray, ⟨#[75]⟩ ++ p = q := ⟨_, rfl⟩
  have sq : q.size ≤ 100 := by rw [← hq, size_append]; omega
  have J2 : Hid (∀ v : World, Calls Tryz.prog 103 #[.string ⟨#[75]⟩, .string p] v fun e w' => e = .returned (.string q) ∧ Below v.heap.size v w') := fun v => by rw [← hq]; exact joinTexts ⟨#[75]⟩ p v (by omega) (by omega)
  have L4 : Hid (dnum (q ++ t) % 1073741788 + 1 = powK x t) := by rw [← hq]; exact L2.out
  clear L2 hq n0
  go_enter Tryz.func72, Tryz.ntmps72
  go_wp2_with fail
  refine (P2.out _).mono ?_
  rintro e w1 ⟨rfl, hb1⟩
  have B1 : Hid (Below w.heap.size w w1) := hb1
  have z1 := hb1.size
  clear hb1
  go_wp2_with fail
  refine (J2.out _).mono ?_
  rintro e w3 ⟨rfl, hb3⟩
  have B3 : Hid (Below w.heap.size w w3) := B1.out.trans (hb3.mono z1)
  have z3 := B3.out.size
  have K3 : Hid (Keys w3) := HK.out.below B3.out hkp
  clear hb3
  go_wp2_with fail
  refine (digestNumber q t _ sq (by omega) K3.out).mono ?_
  rintro e w4 ⟨rfl, hb4⟩
  have B4 : Hid (Below w.heap.size w w4) := B3.out.trans (hb4.mono z3)
  clear hb4
  have l2 := L4.out
  generalize dnum (q ++ t) = d at l2
  have t1 : (d : Int).tmod 1073741788 = ((d % 1073741788 : Nat) : Int) := tmodN d 1073741788
  have hm := Nat.mod_lt d (show 0 < 1073741788 by omega)
  generalize d % 1073741788 = m at *
  have hm' : (m : Int) < 1073741788 := by omega
  have L3 : Hid (m + 1 = powK x t) := l2
  clear L4 l2 hm
  go_wp2
  go_ret
  exact ⟨ret_int (by rw [← L3.out]; omega), B4.out⟩
set_option maxHeartbeats 1000000 in
set_option maxRecDepth 100000 in
theorem implSign (x : Int) (t : ByteArray) (w : World) (ht : t.size ≤ maxLen) (hk : Keys w) :
    Calls Tryz.prog 45 #[.int .i64 x, .string t] w fun e w' => e = .returned (signV x t) ∧ Below w.heap.size w w' := by
  have HK : Hid (Keys w) := hk
  have hkp := hk.pos
  clear hk
  by_cases h1 : 20000 < t.size
  · have ea : Hid (signV x t = sigV 0 0 0) := signV_no (by omega)
    have hd : decide (20000 < t.size) = true := decide_eq_true h1
    go_enter Tryz.func45, Tryz.ntmps45
    go_wp2_with fail
    refine (tooLong t _ ht).mono ?_
    rintro e w' ⟨rfl, rfl⟩
    rw [hd]
    clear h1 hd ht
    go_wp2
    go_returns
    exact ⟨by rw [ea.out]; rfl, allocBelow _ _⟩
  have hd : decide (20000 < t.size) = false := decide_eq_false h1
  by_cases h2 : secB x = true
  · obtain ⟨n, rfl, n1, n2⟩ := secB_nat h2
    have ea : Hid (signV n t = sigV ((pm 4 n 2147483579 : Nat) : Int) (signE n t) (signS n t)) := signV_nat (by omega) h2
    have ht2 : t.size ≤ 20000 := by omega
    have hpk := powK_lt n t
    have he := chal_lt ((pm 4 (powK n t) 2147483579 : Nat) : Int) ((pm 4 n 2147483579 : Nat) : Int) t
    have S1 : Hid (∀ v : World, Keys v → Calls Tryz.prog 72 #[.int .i64 (n : Int), .string t] v fun e w' => e = .returned (.int .i64 (powK n t : Nat)) ∧ Below v.heap.size v w') := fun v hv => signPower n t v ht2 (by omega) (by omega) hv
    have S2 : Hid (∀ v : World, Calls Tryz.prog 73 #[.int .i64 (n : Int)] v fun e w' => e = .returned (.int .i64 ((pm 4 n 2147483579 : Nat) : Int)) ∧ Below v.heap.size v w') := fun v => by rw [← pubA_nat n h2]; exact implPublic n v
    have S3 : Hid (∀ v : World, Calls Tryz.prog 75 #[.int .i64 4, .int .i64 (powK n t : Nat)] v fun e w' => e = .returned (.int .i64 ((pm 4 (powK n t) 2147483579 : Nat) : Int)) ∧ Below v.heap.size v w') := fun v => by
      rw [← gpow_in (y := 4) (by omega) pm4 (powK n t)]; exact implGroupPow 4 (powK n t : Nat) v (by omega)
    have S4 : Hid (∀ v : World, Keys v → Calls Tryz.prog 74 #[.agg #[.int .i64 ((pm 4 n 2147483579 : Nat) : Int), .string t], .int .i64 ((pm 4 (powK n t) 2147483579 : Nat) : Int)] v fun e w' => e = .returned (.int .i64 (signE n t : Nat)) ∧ Below v.heap.size v w') := fun v hv => by
      have h := askChallenge ((pm 4 n 2147483579 : Nat) : Int) ((pm 4 (powK n t) 2147483579 : Nat) : Int) t v ht hv
      rw [challA, if_pos ⟨ht2, unit_pow pm4 _, unit_pow pm4 _⟩] at h
      exact h
    have S5 : Hid ((powK n t + signE n t * n) % 1073741789 = signS n t) := rfl
    change signE n t < 1073741789 at he
    generalize signS n t = s at *
    generalize signE n t = e at *
    generalize pm 4 (powK n t) 2147483579 = y at *
    generalize powK n t = k at *
    generalize pm 4 n 2147483579 = key at *
    obtain ⟨p, hp, ep, lp, up⟩ := prod_bd e n (by omega) (by omega)
    have t1 : ((k : Int) + (p : Int)).tmod 1073741789 = (s : Int) := by
      have h := S5.out
      rw [← hp] at h
      rw [← h, ← tmodN]
      simp
    clear S5 hp
    go_enter Tryz.func45, Tryz.ntmps45
    go_wp2_with fail
    refine (tooLong t _ ht).mono ?_
    rintro e1 w' ⟨rfl, rfl⟩
    rw [hd]
    go_wp2_with fail
    refine (implSecret n _).mono ?_
    rintro e1 w' ⟨rfl, rfl⟩
    rw [h2]
    go_wp2_with fail
    obtain ⟨w0, hw0⟩ : ∃ w0, w.alloc (.cells #[.int .i64 0, .int .i64 0, .int .i64 0] 25 (0, 0)) = w0 := ⟨_, rfl⟩
    have hg0 : w0.heap[w.heap.size]? = some (.cells #[.int .i64 0, .int .i64 0, .int .i64 0] 25 (0, 0)) := by rw [← hw0]; exact heap_alloc_new w _
    have hb0 : Below w.heap.size w w0 := by rw [← hw0]; exact allocBelow w _
    have hs0 : w0.heap.size = w.heap.size + 1 := by rw [← hw0]; simp
    rw [hw0]
    have K0 : Hid (Keys w0) := HK.out.below hb0 hkp
    have hk0 := K0.out.pos
    have G0 : Hid (w0.heap[w.heap.size]? = some (.cells #[.int .i64 0, .int .i64 0, .int .i64 0] 25 (0, 0))) := hg0
    have B0 : Hid (Below w.heap.size w w0) := hb0
    have HS0 : Hid (w0.heap.size = w.heap.size + 1) := hs0
    clear hg0 hb0 hw0 hs0
    refine (S1.out w0 K0.out).mono ?_
    rintro e1 w1 ⟨rfl, hb1⟩
    have b1 : Hid (Below w0.heap.size w0 w1) := hb1
    have z1 := b1.out.size
    clear hb1
    go_wp2_with fail
    refine (S2.out _).mono ?_
    rintro e1 w2 ⟨rfl, hb2⟩
    have b2 : Hid (Below w0.heap.size w0 w2) := b1.out.trans (hb2.mono z1)
    have z2 := b2.out.size
    clear hb2
    go_wp2_with fail
    refine (S3.out _).mono ?_
    rintro e1 w3 ⟨rfl, hb3⟩
    have b3 : Hid (Below w0.heap.size w0 w3) := b2.out.trans (hb3.mono z2)
    have z3 := b3.out.size
    have K3 : Hid (Keys w3) := K0.out.below b3.out hk0
    clear hb3
    go_wp2_with fail
    refine (S4.out _ K3.out).mono ?_
    rintro e1 w4 ⟨rfl, hb4⟩
    have b4 : Hid (Below w0.heap.size w0 w4) := b3.out.trans (hb4.mono z3)
    clear hb4
    have hg4 : w4.heap[w.heap.size]? = some (.cells [.int .i64 0, .int .i64 0, .int .i64 0].toArray 25 (0, 0)) := by
      rw [b4.out.block w.heap.size (by rw [HS0.out]; omega)]; exact G0.out
    have c0 := rowFacts hg4 0 (.int .i64 0) rfl
    have c1 := rowFacts hg4 1 (.int .i64 0) rfl
    have c2 := rowFacts hg4 2 (.int .i64 0) rfl
    have f0 := frozen_of_row w4 _ 0 _ _ hg4
    have f1 := frozen_of_row w4 _ 1 _ _ hg4
    have f2 := frozen_of_row w4 _ 2 _ _ hg4
    have BB : Hid (∀ a b c, Below w.heap.size w (((w4.setCell ⟨w.heap.size, 0, none⟩ a).setCell ⟨w.heap.size, 1, none⟩ b).setCell ⟨w.heap.size, 2, none⟩ c)) := fun a b c =>
      (((B0.out.trans (b4.out.mono B0.out.size)).setCell (Nat.le_refl _) a).setCell (Nat.le_refl _) b).setCell (Nat.le_refl _) c
    have G4 : Hid (w4.heap[w.heap.size]? = some (.cells [.int .i64 0, .int .i64 0, .int .i64 0].toArray 25 (0, 0))) := hg4
    clear hg4 b1 b2 b3 b4 S1 S2 S3 S4 HS0 B0 K0 K3 G0 HK z1 z2 z3
    go_wp2
    refine bodyPost_ret (v := sigV key e s) ?_ rfl ⟨by rw [ea.out], BB.out _ _ _⟩
    have hrow := sigRow G4.out (.int .i64 (key : Int)) (.int .i64 (e : Int)) (.int .i64 (s : Int))
    have hl3 := run_loadVar_mid (P := Tryz.prog) _ w.heap.size 0 25 _ _ (rangeRow hrow) Tryz.underlying25 rfl sizeSig
    simp [results, Tryz.results45, asAddr, hl3, sigV]
  · rw [Bool.not_eq_true] at h2
    have ea : Hid (signV x t = sigV 0 0 0) := signV_no (by rw [h2]; simp)
    go_enter Tryz.func45, Tryz.ntmps45
    go_wp2_with fail
    refine (tooLong t _ ht).mono ?_
    rintro e w' ⟨rfl, rfl⟩
    rw [hd]
    go_wp2_with fail
    refine (implSecret x _).mono ?_
    rintro e w' ⟨rfl, rfl⟩
    rw [h2]
    go_wp2
    go_returns
    exact ⟨by rw [ea.out]; rfl, allocBelow _ _⟩
end Go.Proofs.YtegmmaomaegjjaaGreatDoor
namespace Go.Proofs.YtegmmaomaegjjaaGreatDoor
open Go.RowKit

theorem zero_oneI : ∀ v ∈ [Value.int .i64 0, .string ⟨#[]⟩, .string ⟨#[]⟩, .int .i64 0, .int .i64 0, .int .i64 0, .slice none 0 0, .bool false, .int .i64 0, .int .i64 0, .int .i64 0], v.oneCell' = true := by simp [Value.oneCell']
set_option maxHeartbeats 4000000 in
set_option maxRecDepth 100000 in
theorem implSignC (x : Int) (c : Paper) (a : Option Addr) (cap : Nat) (k e s : Int) (w : World) (hi : c.issuer.size ≤ 1048576) (hs : c.subject.size ≤ 1048576) (hl : c.names.length ≤ 1048576) (ht : totS c.names c.names.length ≤ 1048576) (ha : IsStrs w a c.names) (hk : Keys w)
    (hv : secB x = true → paperB c = true → signV x (bodyD c) = .agg #[.int .i64 k, .int .i64 e, .int .i64 s]) :
    Calls Tryz.prog 11 #[.int .i64 x, c.val (.slice a c.names.length cap)] w fun r w' => ∃ v, r = .returned ((signP x c k e s).val v) ∧ OwnS w' w.heap.size v (signP x c k e s).names ∧ Below w.heap.size w w' := by
  have him : c.issuer.size ≤ maxLen := by unfold maxLen; omega
  have hsm : c.subject.size ≤ maxLen := by unfold maxLen; omega
  have hkp := hk.pos
  have HKy : Hid (∀ V, Below w.heap.size w V → Keys V) := fun V hV => hk.below hV hkp
  have HP : Hid (∀ V, IsStrs V a c.names → Calls Tryz.prog 43 #[c.val (.slice a c.names.length cap)] V fun e w' => e = .returned (.bool (paperB c)) ∧ Below V.heap.size V w') := fun V hV => implPaper c a cap V him hsm hl ht hV
  have HCp : Hid (∀ V, IsStrs V a c.names → Calls Tryz.prog 44 #[c.val (.slice a c.names.length cap)] V fun e w' => ∃ v, e = .returned (c.val v) ∧ OwnS w' V.heap.size v c.names ∧ Below V.heap.size V w') := fun V hV => copyCert c a cap V hi hs hl ht hV
  have HBo : Hid (paperB c = true → ∀ V, IsStrs V a c.names → Calls Tryz.prog 46 #[c.val (.slice a c.names.length cap)] V fun e w' => e = .returned (.string (bodyD c)) ∧ Below V.heap.size V w') := fun h V hV => by
    have q := implBody c a cap V him hsm hl ht hV
    unfold certBodyD at q
    rw [if_pos h] at q
    exact q
  have HSg : Hid (secB x = true → paperB c = true → ∀ V, Keys V → Calls Tryz.prog 45 #[.int .i64 x, .string (bodyD c)] V fun r w' => r = .returned (.agg #[.int .i64 k, .int .i64 e, .int .i64 s]) ∧ Below V.heap.size V w') := fun h1 h2 V hV => by
    have := implSign x (bodyD c) V (by have := bodyD_le (paper_fits h2); unfold maxLen; omega) hV
    rw [hv h1 h2] at this
    exact this
  have HY : Hid (secB x = true → paperB c = true → signP x c k e s = ⟨c.serial, c.issuer, c.subject, c.fr, c.till, c.key, c.names, c.ca, k, e, s⟩) := fun h1 h2 => signP_yes h1 h2 k e s
  have HNo : Hid (secB x = false ∨ paperB c = false → signP x c k e s = zeroP) := fun h => signP_no h k e s
  generalize signP x c k e s = R at *
  generalize paperB c = P at *
  generalize bodyD c = D at *
  clear hi hs ht hv him hsm hk
  obtain ⟨ser, iss, sub, fr, till, key, names, ca, sk, se, ss⟩ := c
  unfold Paper.val at HP HCp HBo
  simp only at HP HCp HBo HY hl ha
  show Calls _ _ #[.int .i64 x, .agg #[.int .i64 ser, .string iss, .string sub, .int .i64 fr, .int .i64 till, .int .i64 key, .slice a names.length cap, .bool ca, .int .i64 sk, .int .i64 se, .int .i64 ss]] _ _
  obtain ⟨nl, hnl⟩ : ∃ nl, nl = names.length := ⟨_, rfl⟩
  rw [← hnl] at HP HCp HBo ⊢
  have HNl : Hid (nl = names.length) := hnl
  clear hnl
  have HA : Hid (∀ V, Below w.heap.size w V → IsStrs V a names) := fun V hV => ha.keep hV
  obtain ⟨w1, hw1⟩ : ∃ w1, w1 = (w.alloc (.cells #[.int .i64 ser, .string iss, .string sub, .int .i64 fr, .int .i64 till, .int .i64 key, .slice a nl cap, .bool ca, .int .i64 sk, .int .i64 se, .int .i64 ss] 27 (0, 0))).alloc (.cells #[.int .i64 0, .string ⟨#[]⟩, .string ⟨#[]⟩, .int .i64 0, .int .i64 0, .int .i64 0, .slice none 0 0, .bool false, .int .i64 0, .int .i64 0, .int .i64 0] 27 (0, 0)) := ⟨_, rfl⟩
  have r0 : w1.heap[w.heap.size]? = some (.cells [Value.int .i64 ser, .string iss, .string sub, .int .i64 fr, .int .i64 till, .int .i64 key, .slice a nl cap, .bool ca, .int .i64 sk, .int .i64 se, .int .i64 ss].toArray 27 (0, 0)) := by rw [hw1, Below.heap_alloc _ _ _ (by simp)]; exact heap_alloc_new w _
  have r1 : w1.heap[w.heap.size + 1]? = some (.cells [Value.int .i64 0, .string ⟨#[]⟩, .string ⟨#[]⟩, .int .i64 0, .int .i64 0, .int .i64 0, .slice none 0 0, .bool false, .int .i64 0, .int .i64 0, .int .i64 0].toArray 27 (0, 0)) := by rw [hw1]; exact heap_alloc2 w _ _
  have K1 : Hid (Below w.heap.size w w1) := by rw [hw1]; exact ((Below.refl _ _).alloc (Nat.le_refl _) _).alloc (by simp) _
  clear ha hl
  go_enter Tryz.func11, Tryz.ntmps11
  go_upto_region 1 with fail
  rw [← hw1]
  clear hw1
  go_wp2_with fail
  refine (implSecret x _).mono ?_
  rintro r w1' ⟨rfl, rfl⟩
  have R0 : Hid _ := r0
  have R1 : Hid _ := r1
  cases hx : secB x with
  | false =>
    have HF : Hid (R = zeroP) := HNo.out (.inl hx)
    clear r0 r1
    have hR := R1.out
    have h1 := zero_oneI
    go_wp2_with (refine wpList_store_row rfl 27 _ _ rfl (w.heap.size + 1) _ [Value.int .i64 0, .string ⟨#[]⟩, .string ⟨#[]⟩, .int .i64 0, .int .i64 0, .int .i64 0, .slice none 0 0, .bool false, .int .i64 0, .int .i64 0, .int .i64 0] 27 rfl rfl hR rfl sizeCert h1 ?_)
    intro w8 hrow ho hs8 hbb
    have HROW : Hid _ := hrow
    have HB8 : Hid (Below w.heap.size w w8) := hbb _ _ (by omega) K1.out
    clear ho hs8 hbb hrow hR h1
    go_wp2
    refine bodyPost_ret (v := .agg [Value.int .i64 0, .string ⟨#[]⟩, .string ⟨#[]⟩, .int .i64 0, .int .i64 0, .int .i64 0, .slice none 0 0, .bool false, .int .i64 0, .int .i64 0, .int .i64 0].toArray) ?_ rfl ⟨.slice none 0 0, by rw [HF.out]; rfl, by rw [HF.out]; exact ownS_nil _ _, HB8.out⟩
    have hl3 := run_loadVar_mid (P := Tryz.prog) _ (w.heap.size + 1) 0 27 _ _ (rangeRow HROW.out) Tryz.underlying27 rfl sizeCert
    simp [results, Tryz.results11, asAddr, hl3]
  | true =>
    have c0 := rowFacts R0.out 0 _ rfl
    have c1 := rowFacts R0.out 1 _ rfl
    have c2 := rowFacts R0.out 2 _ rfl
    have c3 := rowFacts R0.out 3 _ rfl
    have c4 := rowFacts R0.out 4 _ rfl
    have c5 := rowFacts R0.out 5 _ rfl
    have c6 := rowFacts R0.out 6 _ rfl
    have c7 := rowFacts R0.out 7 _ rfl
    have c8 := rowFacts R0.out 8 _ rfl
    have c9 := rowFacts R0.out 9 _ rfl
    have c10 := rowFacts R0.out 10 _ rfl
    clear r0 r1
    go_wp2_with fail
    refine (HP.out _ (HA.out _ K1.out)).mono ?_
    rintro r w2 ⟨rfl, b2⟩
    have K2 : Hid (Below w.heap.size w w2) := K1.out.trans (b2.mono K1.out.size)
    have S0 : Hid (w2.heap[w.heap.size]? = some (.cells [Value.int .i64 ser, .string iss, .string sub, .int .i64 fr, .int .i64 till, .int .i64 key, .slice a nl cap, .bool ca, .int .i64 sk, .int .i64 se, .int .i64 ss].toArray 27 (0, 0))) := by show _ = _; rw [b2.block _ (heap_lt R0.out)]; exact R0.out
    have S1 : Hid (w2.heap[w.heap.size + 1]? = some (.cells [Value.int .i64 0, .string ⟨#[]⟩, .string ⟨#[]⟩, .int .i64 0, .int .i64 0, .int .i64 0, .slice none 0 0, .bool false, .int .i64 0, .int .i64 0, .int .i64 0].toArray 27 (0, 0))) := by show _ = _; rw [b2.block _ (heap_lt R1.out)]; exact R1.out
    clear b2 c0 c1 c2 c3 c4 c5 c6 c7 c8 c9 c10 R0 R1 K1 HP
    have R1 : Hid (w2.heap[w.heap.size + 1]? = some (.cells [Value.int .i64 0, .string ⟨#[]⟩, .string ⟨#[]⟩, .int .i64 0, .int .i64 0, .int .i64 0, .slice none 0 0, .bool false, .int .i64 0, .int .i64 0, .int .i64 0].toArray 27 (0, 0))) := S1
    cases P with
    | false =>
      have HF : Hid (R = zeroP) := HNo.out (.inr rfl)
      have hR := R1.out
      have h1 := zero_oneI
      go_wp2_with (refine wpList_store_row rfl 27 _ _ rfl (w.heap.size + 1) _ [Value.int .i64 0, .string ⟨#[]⟩, .string ⟨#[]⟩, .int .i64 0, .int .i64 0, .int .i64 0, .slice none 0 0, .bool false, .int .i64 0, .int .i64 0, .int .i64 0] 27 rfl rfl hR rfl sizeCert h1 ?_)
      intro w8 hrow ho hs8 hbb
      have HROW : Hid _ := hrow
      have HB8 : Hid (Below w.heap.size w w8) := hbb _ _ (by omega) K2.out
      clear ho hs8 hbb hrow hR h1
      go_wp2
      refine bodyPost_ret (v := .agg [Value.int .i64 0, .string ⟨#[]⟩, .string ⟨#[]⟩, .int .i64 0, .int .i64 0, .int .i64 0, .slice none 0 0, .bool false, .int .i64 0, .int .i64 0, .int .i64 0].toArray) ?_ rfl ⟨.slice none 0 0, by rw [HF.out]; rfl, by rw [HF.out]; exact ownS_nil _ _, HB8.out⟩
      have hl3 := run_loadVar_mid (P := Tryz.prog) _ (w.heap.size + 1) 0 27 _ _ (rangeRow HROW.out) Tryz.underlying27 rfl sizeCert
      simp [results, Tryz.results11, asAddr, hl3]
    | true =>
      have hY := HY.out hx rfl
      have HF : Hid (R = ⟨ser, iss, sub, fr, till, key, names, ca, k, e, s⟩) := hY
      have B' := HBo.out rfl
      have HBo' : Hid _ := B'
      have G' := HSg.out hx rfl
      have HSg' : Hid _ := G'
      clear HY HNo HBo HSg hY B' G' R1
      have c0 := rowFacts S0.out 0 _ rfl
      have c1 := rowFacts S0.out 1 _ rfl
      have c2 := rowFacts S0.out 2 _ rfl
      have c3 := rowFacts S0.out 3 _ rfl
      have c4 := rowFacts S0.out 4 _ rfl
      have c5 := rowFacts S0.out 5 _ rfl
      have c6 := rowFacts S0.out 6 _ rfl
      have c7 := rowFacts S0.out 7 _ rfl
      have c8 := rowFacts S0.out 8 _ rfl
      have c9 := rowFacts S0.out 9 _ rfl
      have c10 := rowFacts S0.out 10 _ rfl
      go_wp2_with fail
      refine (HCp.out _ (HA.out _ K2.out)).mono ?_
      rintro r w3 ⟨v, rfl, o3, b3⟩
      have K3 : Hid (Below w.heap.size w w3) := K2.out.trans (b3.mono K2.out.size)
      have T0 : Hid (w3.heap[w.heap.size]? = some (.cells [Value.int .i64 ser, .string iss, .string sub, .int .i64 fr, .int .i64 till, .int .i64 key, .slice a nl cap, .bool ca, .int .i64 sk, .int .i64 se, .int .i64 ss].toArray 27 (0, 0))) := by show _ = _; rw [b3.block _ (heap_lt S0.out)]; exact S0.out
      have T1 : Hid (w3.heap[w.heap.size + 1]? = some (.cells [Value.int .i64 0, .string ⟨#[]⟩, .string ⟨#[]⟩, .int .i64 0, .int .i64 0, .int .i64 0, .slice none 0 0, .bool false, .int .i64 0, .int .i64 0, .int .i64 0].toArray 27 (0, 0))) := by show _ = _; rw [b3.block _ (heap_lt S1.out)]; exact S1.out
      have zz : w.heap.size + 2 ≤ w2.heap.size := by have := heap_lt S1.out; omega
      have O3 : Hid (OwnS w3 (w.heap.size + 2) v names) := o3.mono zz
      obtain ⟨va, vc, hv', _⟩ := OwnS.form o3
      rw [← HNl.out] at hv'
      subst hv'
      clear b3 c0 c1 c2 c3 c4 c5 c6 c7 c8 c9 c10 S0 S1 K2 HCp o3 zz
      obtain ⟨w4, hw4⟩ : ∃ y, y = w3.alloc (.cells #[.int .i64 ser, .string iss, .string sub, .int .i64 fr, .int .i64 till, .int .i64 key, .slice va nl vc, .bool ca, .int .i64 sk, .int .i64 se, .int .i64 ss] 27 (0, 0)) := ⟨_, rfl⟩
      have b4 : Below w3.heap.size w3 w4 := by rw [hw4]; exact (Below.refl _ _).alloc (Nat.le_refl _) _
      have K4 : Hid (Below w.heap.size w w4) := K3.out.trans (b4.mono K3.out.size)
      have S0 : Hid (w4.heap[w.heap.size]? = some (.cells [Value.int .i64 ser, .string iss, .string sub, .int .i64 fr, .int .i64 till, .int .i64 key, .slice a nl cap, .bool ca, .int .i64 sk, .int .i64 se, .int .i64 ss].toArray 27 (0, 0))) := by show _ = _; rw [b4.block _ (heap_lt T0.out)]; exact T0.out
      have S1 : Hid (w4.heap[w.heap.size + 1]? = some (.cells [Value.int .i64 0, .string ⟨#[]⟩, .string ⟨#[]⟩, .int .i64 0, .int .i64 0, .int .i64 0, .slice none 0 0, .bool false, .int .i64 0, .int .i64 0, .int .i64 0].toArray 27 (0, 0))) := by show _ = _; rw [b4.block _ (heap_lt T1.out)]; exact T1.out
      have S2 : Hid (w4.heap[w3.heap.size]? = some (.cells [Value.int .i64 ser, .string iss, .string sub, .int .i64 fr, .int .i64 till, .int .i64 key, .slice va nl vc, .bool ca, .int .i64 sk, .int .i64 se, .int .i64 ss].toArray 27 (0, 0))) := by show _ = _; rw [hw4]; exact heap_alloc_new w3 _
      have O4 : Hid (OwnS w4 (w.heap.size + 2) (.slice va nl vc) names) := O3.out.keep b4
      have hne : w.heap.size + 2 ≤ w3.heap.size := by have := heap_lt T1.out; omega
      have hlt3 : ∀ q, (Value.slice va nl vc).ownBlock = some q → q < w3.heap.size := fun q hq => (O3.out.ge hq).2
      have HLt : Hid (∀ q, (Value.slice va nl vc).ownBlock = some q → q < w3.heap.size) := hlt3
      have HNe : Hid (w.heap.size + 2 ≤ w3.heap.size) := hne
      clear b4 T0 T1 K3 O3 hne hlt3
      go_upto_region 4 with fail
      rw [← hw4]
      clear hw4
      have c0 := rowFacts S0.out 0 _ rfl
      have c1 := rowFacts S0.out 1 _ rfl
      have c2 := rowFacts S0.out 2 _ rfl
      have c3 := rowFacts S0.out 3 _ rfl
      have c4 := rowFacts S0.out 4 _ rfl
      have c5 := rowFacts S0.out 5 _ rfl
      have c6 := rowFacts S0.out 6 _ rfl
      have c7 := rowFacts S0.out 7 _ rfl
      have c8 := rowFacts S0.out 8 _ rfl
      have c9 := rowFacts S0.out 9 _ rfl
      have c10 := rowFacts S0.out 10 _ rfl
      go_wp2_with fail
      refine (HBo'.out _ (HA.out _ K4.out)).mono ?_
      rintro r w5 ⟨rfl, b5⟩
      have K5 : Hid (Below w.heap.size w w5) := K4.out.trans (b5.mono K4.out.size)
      have T1 : Hid (w5.heap[w.heap.size + 1]? = some (.cells [Value.int .i64 0, .string ⟨#[]⟩, .string ⟨#[]⟩, .int .i64 0, .int .i64 0, .int .i64 0, .slice none 0 0, .bool false, .int .i64 0, .int .i64 0, .int .i64 0].toArray 27 (0, 0))) := by show _ = _; rw [b5.block _ (heap_lt S1.out)]; exact S1.out
      have T2 : Hid (w5.heap[w3.heap.size]? = some (.cells [Value.int .i64 ser, .string iss, .string sub, .int .i64 fr, .int .i64 till, .int .i64 key, .slice va nl vc, .bool ca, .int .i64 sk, .int .i64 se, .int .i64 ss].toArray 27 (0, 0))) := by show _ = _; rw [b5.block _ (heap_lt S2.out)]; exact S2.out
      have O5 : Hid (OwnS w5 (w.heap.size + 2) (.slice va nl vc) names) := O4.out.keep b5
      clear b5 c0 c1 c2 c3 c4 c5 c6 c7 c8 c9 c10 S0 S1 S2 K4 O4 HBo'
      go_wp2_with fail
      refine (HSg'.out _ (HKy.out _ K5.out)).mono ?_
      rintro r w6 ⟨rfl, b6⟩
      have K6 : Hid (Below w.heap.size w w6) := K5.out.trans (b6.mono K5.out.size)
      have r1 : w6.heap[w.heap.size + 1]? = some (.cells [Value.int .i64 0, .string ⟨#[]⟩, .string ⟨#[]⟩, .int .i64 0, .int .i64 0, .int .i64 0, .slice none 0 0, .bool false, .int .i64 0, .int .i64 0, .int .i64 0].toArray 27 (0, 0)) := by rw [b6.block _ (heap_lt T1.out)]; exact T1.out
      have r2 : w6.heap[w3.heap.size]? = some (.cells [Value.int .i64 ser, .string iss, .string sub, .int .i64 fr, .int .i64 till, .int .i64 key, .slice va nl vc, .bool ca, .int .i64 sk, .int .i64 se, .int .i64 ss].toArray 27 (0, 0)) := by rw [b6.block _ (heap_lt T2.out)]; exact T2.out
      have O6 : Hid (OwnS w6 (w.heap.size + 2) (.slice va nl vc) names) := O5.out.keep b6
      clear b6 T1 T2 K5 O5 HSg'
      obtain ⟨w7, hw7⟩ : ∃ y, y = ((w6.setCell ⟨w3.heap.size, 8, none⟩ (.int .i64 k)).setCell ⟨w3.heap.size, 9, none⟩ (.int .i64 e)).setCell ⟨w3.heap.size, 10, none⟩ (.int .i64 s) := ⟨_, rfl⟩
      have oth : ∀ b, b ≠ w3.heap.size → w7.heap[b]? = w6.heap[b]? := fun b hb => by rw [hw7, heap_setCell_other _ _ _ _ hb, heap_setCell_other _ _ _ _ hb, heap_setCell_other _ _ _ _ hb]
      have t2 : w7.heap[w3.heap.size]? = some (.cells [Value.int .i64 ser, .string iss, .string sub, .int .i64 fr, .int .i64 till, .int .i64 key, .slice va nl vc, .bool ca, .int .i64 k, .int .i64 e, .int .i64 s].toArray 27 (0, 0)) := by rw [hw7]; exact rowSet (i := 10) _ (rowSet (i := 9) _ (rowSet (i := 8) _ r2))
      have t1 : w7.heap[w.heap.size + 1]? = some (.cells [Value.int .i64 0, .string ⟨#[]⟩, .string ⟨#[]⟩, .int .i64 0, .int .i64 0, .int .i64 0, .slice none 0 0, .bool false, .int .i64 0, .int .i64 0, .int .i64 0].toArray 27 (0, 0)) := by rw [oth _ (by have := HNe.out; omega)]; exact r1
      have K7 : Hid (Below w.heap.size w w7) := by
        have := HNe.out
        rw [hw7]; exact ((K6.out.setCell (by show _ ≤ w3.heap.size; omega) _).setCell (by show _ ≤ w3.heap.size; omega) _).setCell (by show _ ≤ w3.heap.size; omega) _
      have O7 : Hid (OwnS w7 (w.heap.size + 2) (.slice va nl vc) names) := by
        refine ⟨O6.out.1, ?_⟩
        rcases O6.out.2 with h | ⟨q, cp, cur, e1, h1, h2, h3⟩
        · exact .inl h
        · exact .inr ⟨q, cp, cur, e1, h1, by rw [oth q (by have := HLt.out q (by rw [e1]; rfl); omega)]; exact h2, h3⟩
      have p8 := rowFacts r2 8 _ rfl
      have p9 := rowFacts r2 9 _ rfl
      have p10 := rowFacts r2 10 _ rfl
      have q8 := rowFree r2 8
      have q9 := rowFree r2 9
      have q10 := rowFree r2 10
      have T2 : Hid _ := t2
      have T1 : Hid _ := t1
      clear r1 r2 t1 t2 K6 O6 oth
      go_upto_region 5 with fail
      rw [← hw7]
      clear hw7 p8 p9 p10 q8 q9 q10
      obtain ⟨C, hC⟩ : ∃ C, C = [Value.int .i64 ser, .string iss, .string sub, .int .i64 fr, .int .i64 till, .int .i64 key, .slice va nl vc, .bool ca, .int .i64 k, .int .i64 e, .int .i64 s] := ⟨_, rfl⟩
      have hr := rangeRow T2.out
      rw [← hC] at hr
      have hR := T1.out
      have h1 : ∀ v ∈ C, v.oneCell' = true := by rw [hC]; simp [Value.oneCell']
      have hi : (Tryz.prog.info? 27).map (·.size) = some C.length := by rw [hC]; exact sizeCert
      have HLen : Hid ([Value.int .i64 0, .string ⟨#[]⟩, .string ⟨#[]⟩, .int .i64 0, .int .i64 0, .int .i64 0, .slice none 0 0, .bool false, .int .i64 0, .int .i64 0, .int .i64 0].length = C.length) := by rw [hC]; rfl
      have HCC : Hid (C = [Value.int .i64 ser, .string iss, .string sub, .int .i64 fr, .int .i64 till, .int .i64 key, .slice va nl vc, .bool ca, .int .i64 k, .int .i64 e, .int .i64 s]) := hC
      clear hC
      go_wp2_with (first | (refine wpList_load_mid rfl 27 _ rfl (w3.heap.size) 0 rfl C _ hr Tryz.underlying27 rfl hi ?_) | (refine wpList_store_row rfl 27 _ _ rfl (w.heap.size + 1) _ C 27 rfl rfl hR HLen.out hi h1 ?_))
      intro w8 hrow ho hs8 hbb
      have HROW : Hid _ := hrow
      have HB8 : Hid (Below w.heap.size w w8) := hbb _ _ (by omega) K7.out
      have O8 : Hid (OwnS w8 (w.heap.size + 2) (.slice va nl vc) names) := O7.out.same fun b h1 h2 => ho b (by omega)
      clear ho hs8 hbb hrow hr hR h1
      go_wp2
      refine bodyPost_ret (v := .agg C.toArray) ?_ rfl ⟨.slice va nl vc, by rw [HF.out, HCC.out]; rfl, by rw [HF.out]; exact O8.out.mono (by omega), HB8.out⟩
      have hl3 := run_loadVar_mid (P := Tryz.prog) _ (w.heap.size + 1) 0 27 _ _ (rangeRow HROW.out) Tryz.underlying27 rfl hi
      simp [results, Tryz.results11, asAddr, hl3]
end Go.Proofs.YtegmmaomaegjjaaGreatDoor
namespace Go.Proofs.YtegmmaomaegjjaaGreatDoor
open Go.RowKit

set_option linter.unusedSimpArgs false in
set_option maxHeartbeats 4000000 in
set_option maxRecDepth 100000 in
theorem copyCrlG (c : Lst) (a : Option Addr) (cap : Nat) (w : World) (hi : c.issuer.size ≤ 1048576) (hl : c.serials.length ≤ 1048576) (hA : RowL w a cap c.serials) :
    Calls Tryz.prog 50 #[c.val (.slice a c.serials.length cap)] w fun e w' => ∃ v, e = .returned (c.val v) ∧ OwnL w' w.heap.size v c.serials ∧ Below w.heap.size w w' := by
  have HC' : Hid (∀ V (t : ByteArray), t.size ≤ 1048576 → Calls Tryz.prog 69 #[.string t] V fun e w' => e = .returned (.string t) ∧ Below V.heap.size V w') := fun V t h => copyText t V (by omega)
  obtain ⟨i0, hi0, hz0, hz1, hz2⟩ := info_parts infoLong
  have HN : Hid (∀ V, Below w.heap.size w V → SrcRow V a c.serials.length cap (lCells c.serials)) := fun V hV => (hA.keep hV).src
  clear hA
  obtain ⟨iss, fr, till, serials, sk, se, ss⟩ := c
  unfold Lst.val
  simp only at hi hl HN ⊢
  obtain ⟨nl, hnl⟩ : ∃ nl, nl = serials.length := ⟨_, rfl⟩
  rw [← hnl] at hl HN ⊢
  have HNl : Hid (nl = serials.length) := hnl
  clear hnl
  obtain ⟨w1, hw1⟩ : ∃ w1, w1 = (w.alloc (.cells #[.string iss, .int .i64 fr, .int .i64 till, .slice a nl cap, .int .i64 sk, .int .i64 se, .int .i64 ss] 30 (0, 0))).alloc (.cells #[.string ⟨#[]⟩, .int .i64 0, .int .i64 0, .slice none 0 0, .int .i64 0, .int .i64 0, .int .i64 0] 30 (0, 0)) := ⟨_, rfl⟩
  have r0 : w1.heap[w.heap.size]? = some (.cells [Value.string iss, .int .i64 fr, .int .i64 till, .slice a nl cap, .int .i64 sk, .int .i64 se, .int .i64 ss].toArray 30 (0, 0)) := by rw [hw1, Below.heap_alloc _ _ _ (by simp)]; exact heap_alloc_new w _
  have r1 : w1.heap[w.heap.size + 1]? = some (.cells [Value.string ⟨#[]⟩, .int .i64 0, .int .i64 0, .slice none 0 0, .int .i64 0, .int .i64 0, .int .i64 0].toArray 30 (0, 0)) := by rw [hw1]; exact heap_alloc2 w _ _
  have B1 : Hid (Below w.heap.size w w1) := by rw [hw1]; exact ((Below.refl _ _).alloc (Nat.le_refl _) _).alloc (by simp) _
  have HRw : Hid (∀ V, Below w1.heap.size w1 V → V.heap[w.heap.size]? = some (.cells [Value.string iss, .int .i64 fr, .int .i64 till, .slice a nl cap, .int .i64 sk, .int .i64 se, .int .i64 ss].toArray 30 (0, 0)) ∧ V.heap[w.heap.size + 1]? = some (.cells [Value.string ⟨#[]⟩, .int .i64 0, .int .i64 0, .slice none 0 0, .int .i64 0, .int .i64 0, .int .i64 0].toArray 30 (0, 0))) := fun V hV => ⟨(hV.block _ (heap_lt r0)).trans r0, (hV.block _ (heap_lt r1)).trans r1⟩
  have HC : Hid (∀ V : World, V.heap[w.heap.size]? = some (.cells [Value.string iss, .int .i64 fr, .int .i64 till, .slice a nl cap, .int .i64 sk, .int .i64 se, .int .i64 ss].toArray 30 (0, 0)) → V.cell? ⟨w.heap.size, 0, none⟩ = some (.string iss) ∧ V.cell? ⟨w.heap.size, 1, none⟩ = some (.int .i64 fr) ∧ V.cell? ⟨w.heap.size, 2, none⟩ = some (.int .i64 till) ∧ V.cell? ⟨w.heap.size, 3, none⟩ = some (.slice a nl cap) ∧ V.cell? ⟨w.heap.size, 4, none⟩ = some (.int .i64 sk) ∧ V.cell? ⟨w.heap.size, 5, none⟩ = some (.int .i64 se) ∧ V.cell? ⟨w.heap.size, 6, none⟩ = some (.int .i64 ss)) := fun V hP => ⟨rowFacts hP 0 _ rfl, rowFacts hP 1 _ rfl, rowFacts hP 2 _ rfl, rowFacts hP 3 _ rfl, rowFacts hP 4 _ rfl, rowFacts hP 5 _ rfl, rowFacts hP 6 _ rfl⟩
  have HK : Hid (∀ V, Below w1.heap.size w1 V → V.cell? ⟨w.heap.size, 0, none⟩ = some (.string iss) ∧ V.cell? ⟨w.heap.size, 1, none⟩ = some (.int .i64 fr) ∧ V.cell? ⟨w.heap.size, 2, none⟩ = some (.int .i64 till) ∧ V.cell? ⟨w.heap.size, 3, none⟩ = some (.slice a nl cap) ∧ V.cell? ⟨w.heap.size, 4, none⟩ = some (.int .i64 sk) ∧ V.cell? ⟨w.heap.size, 5, none⟩ = some (.int .i64 se) ∧ V.cell? ⟨w.heap.size, 6, none⟩ = some (.int .i64 ss)) := fun V hV => HC.out V (HRw.out V hV).1
  have HB : Hid (∀ V, Below w1.heap.size w1 V → Below w.heap.size w V) := fun V hV => B1.out.trans (hV.mono B1.out.size)
  have Z1 : Hid (w1.heap.size = w.heap.size + 2) := by show _ = _; rw [hw1]; simp
  have I1 : Hid (Below w1.heap.size w1 w1) := Below.refl _ _
  have D1 : Hid (Below w1.heap.size w1 w1.drew) := I1.out.drew
  clear r0 r1 B1
  go_enter Tryz.func50, Tryz.ntmps50
  go_upto_region 1 with fail
  rw [← hw1]
  clear hw1
  obtain ⟨c0, c1, c2, c3, c4, c5, c6⟩ := HK.out w1 I1.out
  go_wp2_with fail
  refine (HC'.out _ iss hi).mono ?_
  rintro e w2 ⟨rfl, b2⟩
  have K2 : Hid (Below w1.heap.size w1 w2) := b2
  clear b2 c0 c1 c2 c3 c4 c5 c6
  obtain ⟨r0, r1⟩ := HRw.out w2 K2.out
  obtain ⟨w3, hw3⟩ : ∃ y, y = w2.setCell ⟨w.heap.size, 0, none⟩ (.string iss) := ⟨_, rfl⟩
  have t0 : w3.heap[w.heap.size]? = some (.cells [Value.string iss, .int .i64 fr, .int .i64 till, .slice a nl cap, .int .i64 sk, .int .i64 se, .int .i64 ss].toArray 30 (0, 0)) := by rw [hw3]; exact rowSet (i := 0) _ r0
  have t1 : w3.heap[w.heap.size + 1]? = some (.cells [Value.string ⟨#[]⟩, .int .i64 0, .int .i64 0, .slice none 0 0, .int .i64 0, .int .i64 0, .int .i64 0].toArray 30 (0, 0)) := by rw [hw3, heap_setCell_other _ _ _ _ (by simp)]; exact r1
  have K3 : Hid (Below w.heap.size w w3) := by rw [hw3]; exact (HB.out _ K2.out).setCell (by simp) _
  have z3 : w.heap.size + 2 ≤ w3.heap.size := by rw [hw3]; have := K2.out.size; have := Z1.out; simp; omega
  have c6 := rowFacts r0 0 _ rfl
  have f6 := rowFree r0 0
  have S0 : Hid _ := t0
  have S1 : Hid _ := t1
  clear r0 r1 t0 t1
  go_upto_region 2 with fail
  rw [← hw3]
  clear hw3 c6 f6
  have c6 := rowFacts S0.out 3 _ rfl
  have hown : w3.ownsRow (w.heap.size + 2) 2 1 (.slice none 0 0) 0 [] := ⟨rfl, .inl ⟨rfl, rfl⟩⟩
  have hnews := HN.out _ K3.out
  have Z3 : Hid (w.heap.size + 2 ≤ w3.heap.size) := z3
  clear z3
  go_wp2_with (at_builtin; refine wpList_append_opt rfl _ _ 28 rfl (w.heap.size + 2) 2 i0 (.int .i64 0) 1 8 Tryz.underlying28 hi0 hz0 hz1 hz2 rfl (by decide) _ _ _ rfl hown a nl cap (lCells serials) rfl ?c0 hnews ?c2 ?c3 ?c4 ?c5 ?_)
  case c0 => rw [HNl.out]; simp [lCells]
  case c2 => exact oneCell_ints .i64 serials
  case c3 => unfold maxLen; omega
  case c4 => omega
  case c5 => have := Z3.out; omega
  intro v' w4 hown' hgrow hnil
  have hkeep : ∀ b, b < w.heap.size + 2 → w4.heap[b]? = w3.heap[b]? := fun b hb => hgrow.block b (by have := Z3.out; omega) (fun e => by have h := (hown.lt b e.symm).1; omega)
  have r0 : w4.heap[w.heap.size]? = some (.cells [Value.string iss, .int .i64 fr, .int .i64 till, .slice a nl cap, .int .i64 sk, .int .i64 se, .int .i64 ss].toArray 30 (0, 0)) := by rw [hkeep _ (by omega)]; exact S0.out
  have r1 : w4.heap[w.heap.size + 1]? = some (.cells [Value.string ⟨#[]⟩, .int .i64 0, .int .i64 0, .slice none 0 0, .int .i64 0, .int .i64 0, .int .i64 0].toArray 30 (0, 0)) := by rw [hkeep _ (by omega)]; exact S1.out
  have K4 : Hid (Below w.heap.size w w4) := K3.out.grown hgrow (by have := Z3.out; omega) (fun k hk => by have := (hown.lt k hk).1; omega)
  have O4 : Hid (OwnL w4 (w.heap.size + 2) v' serials) := by
    show World.ownsRow _ _ _ _ _ _ _
    rw [← HNl.out]
    simpa using hown'
  clear hown' hgrow hnil hkeep hown hnews c6 S0 S1 K2 K3 HN
  obtain ⟨va, vc, hv, _⟩ := OwnL.form O4.out
  rw [← HNl.out] at hv
  subst hv
  obtain ⟨w7, hw7⟩ : ∃ y, y = w4.setCell ⟨w.heap.size, 3, none⟩ (.slice va nl vc) := ⟨_, rfl⟩
  have t0 : w7.heap[w.heap.size]? = some (.cells [Value.string iss, .int .i64 fr, .int .i64 till, .slice va nl vc, .int .i64 sk, .int .i64 se, .int .i64 ss].toArray 30 (0, 0)) := by rw [hw7]; exact rowSet (i := 3) _ r0
  have t1 : w7.heap[w.heap.size + 1]? = some (.cells [Value.string ⟨#[]⟩, .int .i64 0, .int .i64 0, .slice none 0 0, .int .i64 0, .int .i64 0, .int .i64 0].toArray 30 (0, 0)) := by rw [hw7, heap_setCell_other _ _ _ _ (by simp)]; exact r1
  have K7 : Hid (Below w.heap.size w w7) := by rw [hw7]; exact K4.out.setCell (by simp) _
  have O7 : Hid (OwnL w7 (w.heap.size + 2) (.slice va nl vc) serials) := O4.out.same fun b h1 h2 => by rw [hw7, heap_setCell_other _ _ _ _ (by show b ≠ w.heap.size; omega)]
  have c6 := rowFacts r0 3 _ rfl
  have f6 := rowFree r0 3
  have T0 : Hid _ := t0
  have T1 : Hid _ := t1
  clear r0 r1 t0 t1 K4 O4
  go_upto_region 3 with fail
  rw [← hw7]
  clear hw7 c6 f6
  obtain ⟨C, hC⟩ : ∃ C, C = [Value.string iss, .int .i64 fr, .int .i64 till, .slice va nl vc, .int .i64 sk, .int .i64 se, .int .i64 ss] := ⟨_, rfl⟩
  have hr := rangeRow T0.out
  rw [← hC] at hr
  have hR := T1.out
  have h1 : ∀ v ∈ C, v.oneCell' = true := by rw [hC]; simp [Value.oneCell']
  have hi : (Tryz.prog.info? 30).map (·.size) = some C.length := by rw [hC]; exact sizeCrl
  have HLen : Hid ([Value.string ⟨#[]⟩, .int .i64 0, .int .i64 0, .slice none 0 0, .int .i64 0, .int .i64 0, .int .i64 0].length = C.length) := by rw [hC]; rfl
  have HCC : Hid (C = [Value.string iss, .int .i64 fr, .int .i64 till, .slice va nl vc, .int .i64 sk, .int .i64 se, .int .i64 ss]) := hC
  clear hC
  go_wp2_with (first | (refine wpList_load_mid rfl 30 _ rfl (w.heap.size) 0 rfl C _ hr Tryz.underlying30 rfl hi ?_) | (refine wpList_store_row rfl 30 _ _ rfl (w.heap.size + 1) _ C 30 rfl rfl hR HLen.out hi h1 ?_))
  intro w8 hrow ho hs8 hbb
  have HROW : Hid _ := hrow
  have HB8 : Hid (Below w.heap.size w w8) := hbb _ _ (by omega) K7.out
  have O8 : Hid (OwnL w8 (w.heap.size + 2) (.slice va nl vc) serials) := O7.out.same fun b h1 h2 => ho b (by omega)
  clear ho hs8 hbb hrow hr hR h1
  go_wp2
  refine bodyPost_ret (v := .agg C.toArray) ?_ rfl ⟨_, by rw [HCC.out], O8.out.mono (by omega), HB8.out⟩
  have hl3 := run_loadVar_mid (P := Tryz.prog) _ (w.heap.size + 1) 0 30 _ _ (rangeRow HROW.out) Tryz.underlying30 rfl hi
  simp [results, Tryz.results50, asAddr, hl3]
theorem copyCrl (c : Lst) (g o cap : Nat) (w : World) (hi : c.issuer.size ≤ 1048576) (hl : c.serials.length ≤ 1048576) (hgw : g < w.heap.size) (hc : ∀ i, i < c.serials.length → w.cell? ⟨g, o + i, none⟩ = some (.int .i64 (c.serials.getD i 0))) :
    Calls Tryz.prog 50 #[c.val (.slice (some ⟨g, o, none⟩) c.serials.length cap)] w fun e w' => ∃ v, e = .returned (c.val v) ∧ OwnL w' w.heap.size v c.serials ∧ Below w.heap.size w w' :=
  copyCrlG c _ cap w hi hl (.inr ⟨g, o, rfl, hgw, hc⟩)
end Go.Proofs.YtegmmaomaegjjaaGreatDoor
