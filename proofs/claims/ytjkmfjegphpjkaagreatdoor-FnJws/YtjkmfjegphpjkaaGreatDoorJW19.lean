/- impl.signPower, the method challenge, impl.SignText, walked. impl.JwsSign, walked. spec.GroupRight, walked. spec.l04In, spec.SigRight, walked. spec.l09Right, walked. spec.l04Check, spec.SigCheck, walked. -/
import Derived.Test.YtjkmfjegphpjkaaGreatDoorJW18
import Derived.Test.YtjkmfjegphpjkaaGreatDoorJW12
import Derived.Test.YtjkmfjegphpjkaaGreatDoorJW05
import Derived.Test.YtjkmfjegphpjkaaGreatDoorJW10
import Derived.Test.YtjkmfjegphpjkaaGreatDoorJW03
import Derived.Test.YtjkmfjegphpjkaaGreatDoorJW17
import Derived.Deep.Cut
import Derived.Deep.QuietTactic
import Derived.BigQuiet
import Derived.Deep.RegionHeld3
namespace Go.Proofs.YtjkmfjegphpjkaaGreatDoor
open Go.RowKit

set_option maxHeartbeats 1000000 in
set_option maxRecDepth 100000 in
theorem signPower (x : Int) (t : ByteArray) (w : World) (ht : t.size ≤ 20000) (x0 : -9223372036854775808 ≤ x) (x1 : x ≤ 9223372036854775807) (hk : Keys w) :
    Calls Tryz.prog 58 #[.int .i64 x, .string t] w fun e w' => e = .returned (.int .i64 (powK x t : Nat)) ∧ Below w.heap.size w w' := by
  have HK : Hid (Keys w) := hk
  have hkp := hk.pos
  have s2 := putS_size x
  have P2 : Hid (∀ v : World, Calls Tryz.prog 61 #[.int .i64 x] v fun e w' => e = .returned (.string (putS x)) ∧ Below v.heap.size v w') := fun v => implPut x v x0 x1
  generalize hp : putS x = p at s2 P2
  have l2 := powK_eq x t p hp
  have L2 : Hid (dnum (⟨#[75]⟩ ++ p ++ t) % 1073741788 + 1 = powK x t) := l2
  clear l2 hp hk x0 x1
  have n0 : (ByteArray.mk #[75]).size = 1 := rfl
  obtain ⟨q, hq⟩ : ∃ q : ByteArray, ⟨#[75]⟩ ++ p = q := ⟨_, rfl⟩
  have sq : q.size ≤ 100 := by rw [← hq, size_append]; omega
  have J2 : Hid (∀ v : World, Calls Tryz.prog 60 #[.string ⟨#[75]⟩, .string p] v fun e w' => e = .returned (.string q) ∧ Below v.heap.size v w') := fun v => by rw [← hq]; exact joinTexts ⟨#[75]⟩ p v (by omega) (by omega)
  have L4 : Hid (dnum (q ++ t) % 1073741788 + 1 = powK x t) := by rw [← hq]; exact L2.out
  clear L2 hq n0
  go_enter Tryz.func58, Tryz.ntmps58
  go_wp2_with fail
  refine (P2.out _).mono ?_
  rintro e w1 ⟨rfl, hb1⟩
  have B1 : Hid (Below w.heap.size w w1) := hb1
  have z1 := hb1.size
  clear hb1
  go_wp2_with fail
  refine (J2.out _).mono ?_
  rintro e w3 ⟨rfl, hb3⟩
  have B3 : Hid (Below w.heap.size w w3) := B1.out.trans (hb3.mono z1)
  have z3 := B3.out.size
  have K3 : Hid (Keys w3) := HK.out.below B3.out hkp
  clear hb3
  go_wp2_with fail
  refine (digestNumber q t _ sq (by omega) K3.out).mono ?_
  rintro e w4 ⟨rfl, hb4⟩
  have B4 : Hid (Below w.heap.size w w4) := B3.out.trans (hb4.mono z3)
  clear hb4
  have l2 := L4.out
  generalize dnum (q ++ t) = d at l2
  have t1 : (d : Int).tmod 1073741788 = ((d % 1073741788 : Nat) : Int) := tmodN d 1073741788
  have hm := Nat.mod_lt d (show 0 < 1073741788 by omega)
  generalize d % 1073741788 = m at *
  have hm' : (m : Int) < 1073741788 := by omega
  have L3 : Hid (m + 1 = powK x t) := l2
  clear L4 l2 hm
  go_wp2
  go_ret
  exact ⟨ret_int (by rw [← L3.out]; omega), B4.out⟩
set_option maxHeartbeats 1000000 in
set_option maxRecDepth 100000 in
theorem implSign (x : Int) (t : ByteArray) (w : World) (ht : t.size ≤ maxLen) (hk : Keys w) :
    Calls Tryz.prog 33 #[.int .i64 x, .string t] w fun e w' => e = .returned (signV x t) ∧ Below w.heap.size w w' := by
  have HK : Hid (Keys w) := hk
  have hkp := hk.pos
  clear hk
  by_cases h1 : 20000 < t.size
  · have ea : Hid (signV x t = sigV 0 0 0) := signV_no (by omega)
    have hd : decide (20000 < t.size) = true := decide_eq_true h1
    go_enter Tryz.func33, Tryz.ntmps33
    go_wp2_with fail
    refine (tooLong t _ ht).mono ?_
    rintro e w' ⟨rfl, rfl⟩
    rw [hd]
    clear h1 hd ht
    go_wp2
    go_returns
    exact ⟨by rw [ea.out]; rfl, allocBelow _ _⟩
  have hd : decide (20000 < t.size) = false := decide_eq_false h1
  by_cases h2 : secB x = true
  · obtain ⟨n, rfl, n1, n2⟩ := secB_nat h2
    have ea : Hid (signV n t = sigV ((pm 4 n 2147483579 : Nat) : Int) (signE n t) (signS n t)) := signV_nat (by omega) h2
    have ht2 : t.size ≤ 20000 := by omega
    have hpk := powK_lt n t
    have he := chal_lt ((pm 4 (powK n t) 2147483579 : Nat) : Int) ((pm 4 n 2147483579 : Nat) : Int) t
    have S1 : Hid (∀ v : World, Keys v → Calls Tryz.prog 58 #[.int .i64 (n : Int), .string t] v fun e w' => e = .returned (.int .i64 (powK n t : Nat)) ∧ Below v.heap.size v w') := fun v hv => signPower n t v ht2 (by omega) (by omega) hv
    have S2 : Hid (∀ v : World, Calls Tryz.prog 31 #[.int .i64 (n : Int)] v fun e w' => e = .returned (.int .i64 ((pm 4 n 2147483579 : Nat) : Int)) ∧ Below v.heap.size v w') := fun v => by rw [← pubA_nat n h2]; exact implPublic n v
    have S3 : Hid (∀ v : World, Calls Tryz.prog 54 #[.int .i64 4, .int .i64 (powK n t : Nat)] v fun e w' => e = .returned (.int .i64 ((pm 4 (powK n t) 2147483579 : Nat) : Int)) ∧ Below v.heap.size v w') := fun v => by
      rw [← gpow_in (y := 4) (by omega) pm4 (powK n t)]; exact implGroupPow 4 (powK n t : Nat) v (by omega)
    have S4 : Hid (∀ v : World, Keys v → Calls Tryz.prog 59 #[.agg #[.int .i64 ((pm 4 n 2147483579 : Nat) : Int), .string t], .int .i64 ((pm 4 (powK n t) 2147483579 : Nat) : Int)] v fun e w' => e = .returned (.int .i64 (signE n t : Nat)) ∧ Below v.heap.size v w') := fun v hv => by
      have h := askChallenge ((pm 4 n 2147483579 : Nat) : Int) ((pm 4 (powK n t) 2147483579 : Nat) : Int) t v ht hv
      rw [challA, if_pos ⟨ht2, unit_pow pm4 _, unit_pow pm4 _⟩] at h
      exact h
    have S5 : Hid ((powK n t + signE n t * n) % 1073741789 = signS n t) := rfl
    change signE n t < 1073741789 at he
    generalize signS n t = s at *
    generalize signE n t = e at *
    generalize pm 4 (powK n t) 2147483579 = y at *
    generalize powK n t = k at *
    generalize pm 4 n 2147483579 = key at *
    obtain ⟨p, hp, ep, lp, up⟩ := prod_bd e n (by omega) (by omega)
    have t1 : ((k : Int) + (p : Int)).tmod 1073741789 = (s : Int) := by
      have h := S5.out
      rw [← hp] at h
      rw [← h, ← tmodN]
      simp
    clear S5 hp
    go_enter Tryz.func33, Tryz.ntmps33
    go_wp2_with fail
    refine (tooLong t _ ht).mono ?_
    rintro e1 w' ⟨rfl, rfl⟩
    rw [hd]
    go_wp2_with fail
    refine (implSecret n _).mono ?_
    rintro e1 w' ⟨rfl, rfl⟩
    rw [h2]
    go_wp2_with fail
    obtain ⟨w0, hw0⟩ : ∃ w0, w.alloc (.cells #[.int .i64 0, .int .i64 0, .int .i64 0] 32 (0, 0)) = w0 := ⟨_, rfl⟩
    have hg0 : w0.heap[w.heap.size]? = some (.cells #[.int .i64 0, .int .i64 0, .int .i64 0] 32 (0, 0)) := by rw [← hw0]; exact heap_alloc_new w _
    have hb0 : Below w.heap.size w w0 := by rw [← hw0]; exact allocBelow w _
    have hs0 : w0.heap.size = w.heap.size + 1 := by rw [← hw0]; simp
    rw [hw0]
    have K0 : Hid (Keys w0) := HK.out.below hb0 hkp
    have hk0 := K0.out.pos
    have G0 : Hid (w0.heap[w.heap.size]? = some (.cells #[.int .i64 0, .int .i64 0, .int .i64 0] 32 (0, 0))) := hg0
    have B0 : Hid (Below w.heap.size w w0) := hb0
    have HS0 : Hid (w0.heap.size = w.heap.size + 1) := hs0
    clear hg0 hb0 hw0 hs0
    refine (S1.out w0 K0.out).mono ?_
    rintro e1 w1 ⟨rfl, hb1⟩
    have b1 : Hid (Below w0.heap.size w0 w1) := hb1
    have z1 := b1.out.size
    clear hb1
    go_wp2_with fail
    refine (S2.out _).mono ?_
    rintro e1 w2 ⟨rfl, hb2⟩
    have b2 : Hid (Below w0.heap.size w0 w2) := b1.out.trans (hb2.mono z1)
    have z2 := b2.out.size
    clear hb2
    go_wp2_with fail
    refine (S3.out _).mono ?_
    rintro e1 w3 ⟨rfl, hb3⟩
    have b3 : Hid (Below w0.heap.size w0 w3) := b2.out.trans (hb3.mono z2)
    have z3 := b3.out.size
    have K3 : Hid (Keys w3) := K0.out.below b3.out hk0
    clear hb3
    go_wp2_with fail
    refine (S4.out _ K3.out).mono ?_
    rintro e1 w4 ⟨rfl, hb4⟩
    have b4 : Hid (Below w0.heap.size w0 w4) := b3.out.trans (hb4.mono z3)
    clear hb4
    have hg4 : w4.heap[w.heap.size]? = some (.cells [.int .i64 0, .int .i64 0, .int .i64 0].toArray 32 (0, 0)) := by
      rw [b4.out.block w.heap.size (by rw [HS0.out]; omega)]; exact G0.out
    have c0 := rowFacts hg4 0 (.int .i64 0) rfl
    have c1 := rowFacts hg4 1 (.int .i64 0) rfl
    have c2 := rowFacts hg4 2 (.int .i64 0) rfl
    have f0 := frozen_of_row w4 _ 0 _ _ hg4
    have f1 := frozen_of_row w4 _ 1 _ _ hg4
    have f2 := frozen_of_row w4 _ 2 _ _ hg4
    have BB : Hid (∀ a b c, Below w.heap.size w (((w4.setCell ⟨w.heap.size, 0, none⟩ a).setCell ⟨w.heap.size, 1, none⟩ b).setCell ⟨w.heap.size, 2, none⟩ c)) := fun a b c =>
      (((B0.out.trans (b4.out.mono B0.out.size)).setCell (Nat.le_refl _) a).setCell (Nat.le_refl _) b).setCell (Nat.le_refl _) c
    have G4 : Hid (w4.heap[w.heap.size]? = some (.cells [.int .i64 0, .int .i64 0, .int .i64 0].toArray 32 (0, 0))) := hg4
    clear hg4 b1 b2 b3 b4 S1 S2 S3 S4 HS0 B0 K0 K3 G0 HK z1 z2 z3
    go_wp2
    refine bodyPost_ret (v := sigV key e s) ?_ rfl ⟨by rw [ea.out], BB.out _ _ _⟩
    have hrow := sigRow G4.out (.int .i64 (key : Int)) (.int .i64 (e : Int)) (.int .i64 (s : Int))
    have hl3 := run_loadVar_mid (P := Tryz.prog) _ w.heap.size 0 32 _ _ (rangeRow hrow) Tryz.underlying32 rfl sizeSig
    simp [results, Tryz.results33, asAddr, hl3, sigV]
  · rw [Bool.not_eq_true] at h2
    have ea : Hid (signV x t = sigV 0 0 0) := signV_no (by rw [h2]; simp)
    go_enter Tryz.func33, Tryz.ntmps33
    go_wp2_with fail
    refine (tooLong t _ ht).mono ?_
    rintro e w' ⟨rfl, rfl⟩
    rw [hd]
    go_wp2_with fail
    refine (implSecret x _).mono ?_
    rintro e w' ⟨rfl, rfl⟩
    rw [h2]
    go_wp2
    go_returns
    exact ⟨by rw [ea.out]; rfl, allocBelow _ _⟩
end Go.Proofs.YtjkmfjegphpjkaaGreatDoor
namespace Go.Proofs.YtjkmfjegphpjkaaGreatDoor
open Go.RowKit Go.Lib

set_option linter.unusedSimpArgs false in
set_option maxHeartbeats 4000000 in
set_option maxRecDepth 100000 in
theorem implJwsSign (x nonce : Int) (url body : ByteArray) (w : World) (n0 : -9223372036854775808 ≤ nonce) (n1 : nonce ≤ 9223372036854775807) (hu : url.size ≤ maxLen) (hbb : body.size ≤ maxLen) (hk : Keys w) :
    Calls Tryz.prog 12 #[.int .i64 x, .int .i64 nonce, .string url, .string body] w fun e w' => e = .returned (.string (jSign x nonce url body)) ∧ Below w.heap.size w w' := by
  obtain ⟨w1, hw1⟩ : ∃ y, y = w := ⟨_, rfl⟩
  have hkp := hk.pos
  have HKy : Hid (∀ V, Below w.heap.size w V → Keys V) := fun V hV => hk.below hV hkp
  obtain ⟨P, hP⟩ : ∃ P, P = rqB (pubA x) nonce url body := ⟨_, rfl⟩
  have HA : Hid (∀ V, Calls Tryz.prog 32 #[.agg #[.int .i64 (pubA x), .int .i64 nonce, .string url, .string body, .int .i64 0, .int .i64 0, .int .i64 0]] V fun e w' => e = .returned (.bool P) ∧ Below V.heap.size V w') := fun V => by rw [hP]; exact implAsked (pubA x) nonce url body 0 0 0 V hu hbb
  have hPs : P = true ↔ (secB x = true ∧ timeB nonce = true ∧ nameB url = true ∧ body.size ≤ 2000) := by
    rw [hP, pub_rqB]
    simp [Bool.and_eq_true]
  have HPub : Hid (∀ V, Calls Tryz.prog 31 #[.int .i64 x] V fun e w' => e = .returned (.int .i64 (pubA x)) ∧ Below V.heap.size V w') := fun V => implPublic x V
  cases P with
  | false =>
    have HF : Hid (jSign x nonce url body = ⟨#[]⟩) := by
      show _ = _
      rw [jSign, if_neg]
      intro h
      have := hPs.2 h
      cases this
    generalize pubA x = pk at *
    rw [HF.out]
    clear HF hPs hP hk hkp HKy hw1 hu hbb
    go_enter Tryz.func12, Tryz.ntmps12
    go_wp2_with fail
    refine (HPub.out w).mono ?_
    rintro e w2 ⟨rfl, b2⟩
    obtain ⟨w3, hw3⟩ : ∃ y, y = w2.alloc (.cells #[.int .i64 pk, .int .i64 nonce, .string url, .string body, .int .i64 0, .int .i64 0, .int .i64 0] 34 (0, 0)) := ⟨_, rfl⟩
    have g3 : w3.heap[w2.heap.size]? = some (.cells [Value.int .i64 pk, .int .i64 nonce, .string url, .string body, .int .i64 0, .int .i64 0, .int .i64 0].toArray 34 (0, 0)) := by rw [hw3]; exact heap_alloc_new w2 _
    have B3 : Hid (Below w.heap.size w w3) := by rw [hw3]; exact b2.alloc b2.size _
    have d0 := rowFacts g3 0 _ rfl
    have d1 := rowFacts g3 1 _ rfl
    have d2 := rowFacts g3 2 _ rfl
    have d3 := rowFacts g3 3 _ rfl
    have d4 := rowFacts g3 4 _ rfl
    have d5 := rowFacts g3 5 _ rfl
    have d6 := rowFacts g3 6 _ rfl
    clear b2 g3
    go_upto_region 2 with fail
    rw [← hw3]
    clear hw3
    go_wp2_with fail
    refine (HA.out _).mono ?_
    rintro e w4 ⟨rfl, b4⟩
    have B4 : Hid (Below w.heap.size w w4) := B3.out.trans (b4.mono B3.out.size)
    clear b4 d0 d1 d2 d3 d4 d5 d6
    go_wp2
    go_ret
    exact ⟨rfl, B4.out⟩
  | true =>
  obtain ⟨hs, ht, hn, hb⟩ := hPs.1 rfl
  clear hP hPs
  obtain ⟨pk, hpk⟩ : ∃ p, p = pubA x := ⟨_, rfl⟩
  have hp1 : 0 ≤ pk ∧ pk < 2147483579 := by
    rw [hpk]
    obtain ⟨n, rfl, h1, h2⟩ := secB_nat hs
    rw [pubA_nat n hs]
    have := pm_lt 4 n (m := 2147483579) (by omega)
    omega
  have hut := jurl_size hn
  obtain ⟨TW, hTW⟩ : ∃ t, t = jTwo pk nonce url body := ⟨_, rfl⟩
  have hTz : TW.size ≤ 5000 := by have := jTwo_size pk nonce url body; rw [hTW]; omega
  obtain ⟨E, hE⟩ : ∃ e, e = signE x.toNat TW := ⟨_, rfl⟩
  obtain ⟨SS, hSS⟩ : ∃ e, e = signS x.toNat TW := ⟨_, rfl⟩
  have hE1 : E < 1073741789 := by rw [hE]; exact chal_lt _ _ _
  have hS1 : SS < 1073741789 := by rw [hSS]; exact Nat.mod_lt _ (by omega)
  have hSV : signV x TW = .agg #[.int .i64 pk, .int .i64 E, .int .i64 SS] := by
    rw [signV, if_pos ⟨by omega, hs⟩, hE, hSS, hpk, pubA, if_pos hs]
    rfl
  have ht' := timeB_in ht
  have HF : Hid (jSign x nonce url body = jText pk nonce url body E SS) := by
    show _ = _
    rw [jSign, if_pos ⟨hs, ht, hn, hb⟩, hE, hSS, hTW, hpk]
  rw [← hpk] at HA HPub
  have HH : Hid (∀ V, Calls Tryz.prog 34 #[.agg #[.int .i64 pk, .int .i64 nonce, .string url, .string body, .int .i64 0, .int .i64 0, .int .i64 0]] V fun e w' => e = .returned (.string TW) ∧ Below V.heap.size V w') := fun V => by rw [hTW]; exact implTwo pk nonce url body 0 0 0 V (by omega) (by omega) hut hb
  have HG : Hid (∀ V, Keys V → Calls Tryz.prog 33 #[.int .i64 x, .string TW] V fun e w' => e = .returned (.agg #[.int .i64 pk, .int .i64 E, .int .i64 SS]) ∧ Below V.heap.size V w') := fun V hV => by rw [← hSV]; exact implSign x TW V (by unfold maxLen; omega) hV
  have HX : Hid (∀ V, Calls Tryz.prog 35 #[.agg #[.int .i64 pk, .int .i64 nonce, .string url, .string body, .int .i64 pk, .int .i64 E, .int .i64 SS]] V fun e w' => e = .returned (.string (jText pk nonce url body E SS)) ∧ Below V.heap.size V w') := fun V => implLay pk nonce url body pk E SS V (by omega) (by omega) hut hb (by omega) (by omega)
  rw [HF.out]
  clear HF hSV hpk hTW hTz hE hSS hE1 hS1 ht' hut hs ht hn hp1 hk hkp hu hbb
  generalize jText pk nonce url body E SS = R at *
  go_enter Tryz.func12, Tryz.ntmps12
  go_wp2_with fail
  refine (HPub.out w).mono ?_
  rintro e w2 ⟨rfl, b2⟩
  rw [← hw1] at b2 HKy
  obtain ⟨w3, hw3⟩ : ∃ y, y = w2.alloc (.cells #[.int .i64 pk, .int .i64 nonce, .string url, .string body, .int .i64 0, .int .i64 0, .int .i64 0] 34 (0, 0)) := ⟨_, rfl⟩
  have g3 : w3.heap[w2.heap.size]? = some (.cells [Value.int .i64 pk, .int .i64 nonce, .string url, .string body, .int .i64 0, .int .i64 0, .int .i64 0].toArray 34 (0, 0)) := by rw [hw3]; exact heap_alloc_new w2 _
  have bb3 : Below w2.heap.size w2 w3 := by rw [hw3]; exact (Below.refl _ _).alloc (Nat.le_refl _) _
  have B2 : Hid (Below w1.heap.size w1 w2) := b2
  have B3 : Hid (Below w2.heap.size w2 w3) := bb3
  have G3 : Hid _ := g3
  have d0 := rowFacts g3 0 _ rfl
  have d1 := rowFacts g3 1 _ rfl
  have d2 := rowFacts g3 2 _ rfl
  have d3 := rowFacts g3 3 _ rfl
  have d4 := rowFacts g3 4 _ rfl
  have d5 := rowFacts g3 5 _ rfl
  have d6 := rowFacts g3 6 _ rfl
  clear b2 bb3 g3
  go_upto_region 2 with fail
  rw [← hw3]
  clear hw3
  go_wp2_with fail
  refine (HA.out _).mono ?_
  rintro e w4 ⟨rfl, b4⟩
  have B4 : Hid (Below w2.heap.size w2 w4) := B3.out.trans (b4.mono B3.out.size)
  have G4 : Hid _ := (b4.block _ (heap_lt G3.out)).trans G3.out
  clear b4 d0 d1 d2 d3 d4 d5 d6 G3 B3 HA
  have d0 := rowFacts G4.out 0 _ rfl
  have d1 := rowFacts G4.out 1 _ rfl
  have d2 := rowFacts G4.out 2 _ rfl
  have d3 := rowFacts G4.out 3 _ rfl
  have d4 := rowFacts G4.out 4 _ rfl
  have d5 := rowFacts G4.out 5 _ rfl
  have d6 := rowFacts G4.out 6 _ rfl
  go_wp2_with fail
  refine (HH.out _).mono ?_
  rintro e w4' ⟨rfl, b4⟩
  have B4' : Hid (Below w2.heap.size w2 w4') := B4.out.trans (b4.mono B4.out.size)
  have G4' : Hid _ := (b4.block _ (heap_lt G4.out)).trans G4.out
  have KV := HKy.out w4' (B2.out.trans (B4'.out.mono B2.out.size))
  have HKV : Hid (Keys w4') := KV
  clear b4 d0 d1 d2 d3 d4 d5 d6 G4 B4 HH KV HKy
  go_wp2_with fail
  refine (HG.out _ HKV.out).mono ?_
  rintro e w5 ⟨rfl, b5⟩
  have B5 : Hid (Below w2.heap.size w2 w5) := B4'.out.trans (b5.mono B4'.out.size)
  have g5 := (b5.block _ (heap_lt G4'.out)).trans G4'.out
  have p4 := rowFacts g5 4 _ rfl
  have p5 := rowFacts g5 5 _ rfl
  have p6 := rowFacts g5 6 _ rfl
  have q4 := rowFree g5 4
  have q5 := rowFree g5 5
  have q6 := rowFree g5 6
  obtain ⟨w6, hw6⟩ : ∃ y, y = (((w5.setCell ⟨w2.heap.size, 4, none⟩ (.int .i64 pk)).setCell ⟨w2.heap.size, 5, none⟩ (.int .i64 (E : Int))).setCell ⟨w2.heap.size, 6, none⟩ (.int .i64 (SS : Int))) := ⟨_, rfl⟩
  have g6 : w6.heap[w2.heap.size]? = some (.cells [Value.int .i64 pk, .int .i64 nonce, .string url, .string body, .int .i64 pk, .int .i64 E, .int .i64 SS].toArray 34 (0, 0)) := by rw [hw6]; exact rowSet (i := 6) _ (rowSet (i := 5) _ (rowSet (i := 4) _ g5))
  have B6 : Hid (Below w2.heap.size w2 w6) := by rw [hw6]; exact ((B5.out.setCell (Nat.le_refl _) _).setCell (Nat.le_refl _) _).setCell (Nat.le_refl _) _
  have G6 : Hid _ := g6
  clear g5 b5 G4' B4' B5 HG g6 HKV
  go_upto_region 5 with fail
  rw [← hw6]
  clear hw6 p4 p5 p6 q4 q5 q6
  have d0 := rowFacts G6.out 0 _ rfl
  have d1 := rowFacts G6.out 1 _ rfl
  have d2 := rowFacts G6.out 2 _ rfl
  have d3 := rowFacts G6.out 3 _ rfl
  have d4 := rowFacts G6.out 4 _ rfl
  have d5 := rowFacts G6.out 5 _ rfl
  have d6 := rowFacts G6.out 6 _ rfl
  go_wp2_with fail
  refine (HX.out _).mono ?_
  rintro e w7 ⟨rfl, b7⟩
  have B7 : Hid (Below w1.heap.size w1 w7) := B2.out.trans ((B6.out.trans (b7.mono B6.out.size)).mono B2.out.size)
  clear b7 d0 d1 d2 d3 d4 d5 d6
  go_wp2
  go_ret
  exact ⟨rfl, by rw [← hw1]; exact B7.out⟩
end Go.Proofs.YtjkmfjegphpjkaaGreatDoor
namespace Go.Proofs.YtjkmfjegphpjkaaGreatDoor
open Go.RowKit

set_option maxHeartbeats 1000000 in
set_option maxRecDepth 100000 in
theorem specGroupRight (y : Int) (w : World) :
    Calls Tryz.prog 75 #[.int .i64 y] w fun e w' => e = .returned (.bool (rightG y)) ∧ w' = w := by
  by_cases h1 : 1 < y
  · by_cases h2 : y < 2147483579
    · obtain ⟨x, rfl⟩ := nat_of (show ¬ y < 0 by omega)
      have HC : Hid (∀ v : World, Calls Tryz.prog 45 #[.int .i64 (x : Int), .int .i64 1073741789, .int .i64 2147483579] v fun e w' => e = .returned (.int .i64 ((pm x 1073741789 2147483579 : Nat) : Int)) ∧ w' = v) := fun v => specPow x 1073741789 2147483579 v (by omega) (by omega) (by omega)
      have hrt := rightG_pos (x := x) (by omega) (by omega)
      have hrf := rightG_neg (x := x)
      generalize pm x 1073741789 2147483579 = z at *
      by_cases hz : z = 1
      · subst hz
        rw [hrt rfl]
        clear hrt hrf
        go_enter Tryz.func75, Tryz.ntmps75
        go_wp2_with fail
        refine (HC.out _).mono ?_
        rintro e w2 ⟨rfl, rfl⟩
        go_wp2
        go_ret
        exact ⟨rfl, rfl⟩
      · rw [hrf hz]
        clear hrt hrf
        have hz' : ((z : Int) == 1) = false := by rw [beq_eq_false_iff_ne]; omega
        go_enter Tryz.func75, Tryz.ntmps75
        go_wp2_with fail
        refine (HC.out _).mono ?_
        rintro e w2 ⟨rfl, rfl⟩
        go_wp2
        go_ret
        exact ⟨rfl, rfl⟩
    · rw [rightG_out (by omega)]
      go_enter Tryz.func75, Tryz.ntmps75
      go_wp2
      go_ret
      exact ⟨rfl, rfl⟩
  · rw [rightG_out (by omega)]
    go_enter Tryz.func75, Tryz.ntmps75
    go_wp2
    go_ret
    exact ⟨rfl, rfl⟩
end Go.Proofs.YtjkmfjegphpjkaaGreatDoor
namespace Go.Proofs.YtjkmfjegphpjkaaGreatDoor
open Go.RowKit

theorem specRem (n : Int) (w : World) :
    Calls Tryz.prog 95 #[.int .i64 n] w fun e w' => e = .returned (.bool (remB n)) ∧ w' = w := by
  by_cases h1 : 0 ≤ n
  · by_cases h2 : n < 1073741789
    · have e : remB n = true := decide_eq_true ⟨h1, h2⟩
      rw [e]
      go_enter Tryz.func95, Tryz.ntmps95
      go_wp2
      go_ret
      exact ⟨rfl, rfl⟩
    · have e : remB n = false := decide_eq_false (by omega)
      rw [e]
      go_enter Tryz.func95, Tryz.ntmps95
      go_wp2
      go_ret
      exact ⟨rfl, rfl⟩
  · have e : remB n = false := decide_eq_false (by omega)
    rw [e]
    go_enter Tryz.func95, Tryz.ntmps95
    go_wp2
    go_ret
    exact ⟨rfl, rfl⟩
set_option maxHeartbeats 1000000 in
set_option maxRecDepth 100000 in
theorem specSigRight (k e s : Int) (w : World) :
    Calls Tryz.prog 76 #[.agg #[.int .i64 k, .int .i64 e, .int .i64 s]] w fun r w' => r = .returned (.bool (sigRB k e s)) ∧ Below w.heap.size w w' := by
  go_enter Tryz.func76, Tryz.ntmps76
  go_wp2_with fail
  refine (specGroupRight k _).mono ?_
  rintro e1 w1 ⟨rfl, rfl⟩
  by_cases h1 : rightG k = true
  · rw [h1]
    go_wp2_with fail
    refine (specRem e _).mono ?_
    rintro e2 w2 ⟨rfl, rfl⟩
    by_cases h2 : remB e = true
    · rw [h2]
      go_wp2_with fail
      refine (specRem s _).mono ?_
      rintro e3 w3 ⟨rfl, rfl⟩
      generalize hb3 : remB s = b
      go_wp2
      go_ret
      exact ⟨by simp [sigRB, *], allocBelow _ _⟩
    · rw [Bool.not_eq_true] at h2
      rw [h2]
      go_wp2
      go_ret
      exact ⟨by simp [sigRB, *], allocBelow _ _⟩
  · rw [Bool.not_eq_true] at h1
    rw [h1]
    go_wp2
    go_ret
    exact ⟨by simp [sigRB, *], allocBelow _ _⟩
end Go.Proofs.YtjkmfjegphpjkaaGreatDoor
namespace Go.Proofs.YtjkmfjegphpjkaaGreatDoor
open Go.RowKit Go.Lib

theorem specNameJ (s : ByteArray) (w : World) (hs : s.size ≤ maxLen) :
    Calls Tryz.prog 38 #[.string s] w fun e w' => e = .returned (.bool (nameB s)) ∧ w' = w :=
  (specName s w hs).mono fun _ _ h => ⟨ans_name h.1, h.2⟩
set_option linter.unusedSimpArgs false in
set_option maxHeartbeats 4000000 in
set_option maxRecDepth 100000 in
theorem specRight (key nonce : Int) (url body : ByteArray) (se ss : Int) (w : World) (hu : url.size ≤ maxLen) (hb : body.size ≤ maxLen) :
    Calls Tryz.prog 47 #[jV key nonce url body key se ss] w fun r w' => r = .returned (.bool (rqB key nonce url body && sigRB key se ss)) ∧ Below w.heap.size w w' := by
  unfold jV
  obtain ⟨w1, hw1⟩ : ∃ w1, w1 = w.alloc (.cells #[.int .i64 key, .int .i64 nonce, .string url, .string body, .int .i64 key, .int .i64 se, .int .i64 ss] 34 (0, 0)) := ⟨_, rfl⟩
  have r0 : w1.heap[w.heap.size]? = some (.cells [Value.int .i64 key, .int .i64 nonce, .string url, .string body, .int .i64 key, .int .i64 se, .int .i64 ss].toArray 34 (0, 0)) := by rw [hw1]; exact heap_alloc_new w _
  have B1 : Hid (Below w.heap.size w w1) := by rw [hw1]; exact (Below.refl _ _).alloc (Nat.le_refl _) _
  have z1 : w.heap.size < w1.heap.size := by rw [hw1]; simp
  have HK : Hid (∀ V, Below w1.heap.size w1 V → V.cell? ⟨w.heap.size, 0, none⟩ = some (.int .i64 key) ∧ V.cell? ⟨w.heap.size, 1, none⟩ = some (.int .i64 nonce) ∧ V.cell? ⟨w.heap.size, 2, none⟩ = some (.string url) ∧ V.cell? ⟨w.heap.size, 3, none⟩ = some (.string body) ∧ V.cell? ⟨w.heap.size, 4, none⟩ = some (.int .i64 key) ∧ V.cell? ⟨w.heap.size, 5, none⟩ = some (.int .i64 se) ∧ V.cell? ⟨w.heap.size, 6, none⟩ = some (.int .i64 ss)) := fun V hV => by
    have hP := (hV.block _ z1).trans r0
    exact ⟨rowFacts hP 0 _ rfl, rowFacts hP 1 _ rfl, rowFacts hP 2 _ rfl, rowFacts hP 3 _ rfl, rowFacts hP 4 _ rfl, rowFacts hP 5 _ rfl, rowFacts hP 6 _ rfl⟩
  have HB : Hid (∀ V, Below w1.heap.size w1 V → Below w.heap.size w V) := fun V hV => B1.out.trans (hV.mono B1.out.size)
  have HG : Hid (∀ V, Calls Tryz.prog 75 #[.int .i64 key] V fun e w' => e = .returned (.bool (rightG key)) ∧ w' = V) := fun V => specGroupRight key V
  have HT : Hid (∀ V, Calls Tryz.prog 37 #[.int .i64 nonce, .int .i64 0, .int .i64 1000000000] V fun e w' => e = .returned (.bool (timeB nonce)) ∧ w' = V) := fun V => specIs nonce 0 1000000000 V
  have HN : Hid (∀ V, Calls Tryz.prog 38 #[.string url] V fun e w' => e = .returned (.bool (nameB url)) ∧ w' = V) := fun V => specNameJ url V hu
  have HS : Hid (∀ V, Calls Tryz.prog 76 #[.agg #[.int .i64 key, .int .i64 se, .int .i64 ss]] V fun e w' => e = .returned (.bool (sigRB key se ss)) ∧ Below V.heap.size V w') := fun V => specSigRight key se ss V
  obtain ⟨R, hR⟩ : ∃ R, R = (rqB key nonce url body && sigRB key se ss) := ⟨_, rfl⟩
  rw [← hR]
  have HR : Hid (R = ((rightG key && (timeB nonce && (nameB url && decide (body.size ≤ 2000)))) && sigRB key se ss)) := hR
  unfold maxLen at hb
  clear r0 z1 B1 hR hu
  obtain ⟨c0, c1, c2, c3, c4, c5, c6⟩ := HK.out w1 (Below.refl _ _)
  generalize rightG key = P1 at *
  generalize timeB nonce = P2 at *
  generalize nameB url = P3 at *
  generalize sigRB key se ss = P4 at *
  go_enter Tryz.func47, Tryz.ntmps47
  go_upto_region 1 with fail
  rw [← hw1]
  clear hw1
  cases P1 with
  | false =>
    have HF : Hid (R = false) := by show _ = _; rw [HR.out]; rfl
    go_wp2_with fail
    refine (HG.out _).mono ?_
    rintro e w2 ⟨rfl, rfl⟩
    go_wp2
    go_ret
    exact ⟨by rw [HF.out]; first | rfl | simp_all, HB.out _ (Below.refl _ _)⟩
  | true =>
  cases P2 with
  | false =>
    have HF : Hid (R = false) := by show _ = _; rw [HR.out]; rfl
    go_wp2_with fail
    refine (HG.out _).mono ?_
    rintro e w2 ⟨rfl, rfl⟩
    go_wp2_with fail
    refine (HT.out _).mono ?_
    rintro e w2 ⟨rfl, rfl⟩
    go_wp2
    go_ret
    exact ⟨by rw [HF.out]; first | rfl | simp_all, HB.out _ (Below.refl _ _)⟩
  | true =>
  cases P3 with
  | false =>
    have HF : Hid (R = false) := by show _ = _; rw [HR.out]; rfl
    go_wp2_with fail
    refine (HG.out _).mono ?_
    rintro e w2 ⟨rfl, rfl⟩
    go_wp2_with fail
    refine (HT.out _).mono ?_
    rintro e w2 ⟨rfl, rfl⟩
    go_wp2_with fail
    refine (HN.out _).mono ?_
    rintro e w2 ⟨rfl, rfl⟩
    go_wp2
    go_ret
    exact ⟨by rw [HF.out]; first | rfl | simp_all, HB.out _ (Below.refl _ _)⟩
  | true =>
  by_cases h4 : body.size ≤ 2000
  · have HF : Hid (R = P4) := by show _ = _; rw [HR.out]; simp [h4]
    have hd : decide ((body.size : Int) ≤ 2000) = true := decide_eq_true (by omega)
    go_wp2_with fail
    refine (HG.out _).mono ?_
    rintro e w2 ⟨rfl, rfl⟩
    go_wp2_with fail
    refine (HT.out _).mono ?_
    rintro e w2 ⟨rfl, rfl⟩
    go_wp2_with fail
    refine (HN.out _).mono ?_
    rintro e w2 ⟨rfl, rfl⟩
    cases P4 with
    | false =>
      go_wp2_with fail
      refine (HS.out _).mono ?_
      rintro e w3 ⟨rfl, b3⟩
      have B3 : Hid (Below w.heap.size w w3) := HB.out _ b3
      clear b3
      go_wp2
      go_ret
      exact ⟨by rw [HF.out]; first | rfl | simp_all, B3.out⟩
    | true =>
      go_wp2_with fail
      refine (HS.out _).mono ?_
      rintro e w3 ⟨rfl, b3⟩
      obtain ⟨d0, d1, d2, d3, d4, d5, d6⟩ := HK.out _ b3
      have B3 : Hid (Below w.heap.size w w3) := HB.out _ b3
      have hkk : (key == key) = true := beq_self_eq_true key
      clear b3 c0 c1 c2 c3 c4 c5 c6
      go_wp2
      go_ret
      exact ⟨by rw [HF.out]; first | rfl | simp_all, B3.out⟩
  · have HF : Hid (R = false) := by show _ = _; rw [HR.out]; simp [h4]
    have hd : decide ((body.size : Int) ≤ 2000) = false := decide_eq_false (by omega)
    go_wp2_with fail
    refine (HG.out _).mono ?_
    rintro e w2 ⟨rfl, rfl⟩
    go_wp2_with fail
    refine (HT.out _).mono ?_
    rintro e w2 ⟨rfl, rfl⟩
    go_wp2_with fail
    refine (HN.out _).mono ?_
    rintro e w2 ⟨rfl, rfl⟩
    go_wp2
    go_ret
    exact ⟨by rw [HF.out]; first | rfl | simp_all, HB.out _ (Below.refl _ _)⟩
end Go.Proofs.YtjkmfjegphpjkaaGreatDoor
namespace Go.Proofs.YtjkmfjegphpjkaaGreatDoor
open Go.RowKit

/-- A power modulo GroupP, of numbers as a call has them. -/
def powP (a n : Int) : Int := ((pm a.toNat n.toNat 2147483579 : Nat) : Int)
theorem powP_nat (a n : Nat) : powP a n = ((pm a n 2147483579 : Nat) : Int) := by unfold powP; rw [Int.toNat_natCast, Int.toNat_natCast]
theorem specPowP (a n : Int) (w : World) (ha : 0 ≤ a) (hn : 0 ≤ n) (hn2 : n ≤ 9223372036854775807) :
    Calls Tryz.prog 45 #[.int .i64 a, .int .i64 n, .int .i64 2147483579] w fun e w' => e = .returned (.int .i64 (powP a n)) ∧ w' = w := by
  obtain ⟨A, rfl⟩ := Int.eq_ofNat_of_zero_le ha
  obtain ⟨N, rfl⟩ := Int.eq_ofNat_of_zero_le hn
  rw [powP_nat]
  exact specPow A N 2147483579 w (by omega) (by omega) (by omega)
set_option maxHeartbeats 1000000 in
set_option maxRecDepth 100000 in
theorem specCheck (k e s : Nat) (t : ByteArray) (w : World) (ht : t.size ≤ 20000) (hk : k < 2147483579) (he : e < 1073741789) (hs : s < 1073741789) :
    Calls Tryz.prog 77 #[.agg #[.int .i64 (k : Int), .int .i64 (e : Int), .int .i64 (s : Int)], .string t] w fun r w' => r = .returned (.bool (decide ((chal (backR k e s : Nat) k t : Int) = (e : Int)))) ∧ Below w.heap.size w w' := by
  obtain ⟨j, hj⟩ : ∃ j : Nat, j = 1073741789 - e := ⟨_, rfl⟩
  obtain ⟨y1, hy1⟩ : ∃ y : Nat, y = pm 4 s 2147483579 := ⟨_, rfl⟩
  obtain ⟨y2, hy2⟩ : ∃ y : Nat, y = pm k j 2147483579 := ⟨_, rfl⟩
  have hb := backR_nat k e s
  rw [← hj, ← hy1, ← hy2] at hb
  have e1 : powP 4 (s : Int) = (y1 : Int) := by rw [hy1]; exact powP_nat 4 s
  have e2 : powP (k : Int) (j : Int) = (y2 : Int) := by rw [hy2]; exact powP_nat k j
  have q1 : y1 < 2147483579 := by rw [hy1]; exact pm_lt 4 s (by omega)
  have q2 : y2 < 2147483579 := by rw [hy2]; exact pm_lt k j (by omega)
  have hj' : (1073741789 : Int) - (e : Int) = (j : Int) := by omega
  obtain ⟨p, hp, ep, lp, up⟩ := prod_bd y1 y2 (by omega) (by omega)
  obtain ⟨b, hbb⟩ : ∃ b : Nat, b = backR k e s := ⟨_, rfl⟩
  rw [← hbb] at hb
  have hz : b < 2147483579 := by rw [hb]; exact Nat.mod_lt _ (by omega)
  have t0 : (p : Int).tmod 2147483579 = (b : Int) := by rw [hb, ← hp]; exact tmodN p 2147483579
  obtain ⟨c, hc⟩ : ∃ c : Nat, c = chal (b : Int) k t := ⟨_, rfl⟩
  have HX : Hid (∀ v : World, Calls Tryz.prog 65 #[.int .i64 (b : Int), .int .i64 (k : Int), .string t] v fun r w' => r = .returned (.int .i64 (c : Int)) ∧ Below v.heap.size v w') := fun v => by rw [hc]; exact specChal _ _ t v ht (by omega) (by omega) (by omega) (by omega)
  rw [← hbb, ← hc]
  clear hb hp q1 q2 hj hy1 hy2 hbb hc hz hk
  go_enter Tryz.func77, Tryz.ntmps77
  go_wp2_with fail
  go_quiet ((go_at_call 45; exact Calls.quiet_of_same (specPowP _ _ _ (by omega) (by omega) (by omega))))
  go_wp2_with fail
  obtain ⟨w1, hw1⟩ : ∃ w1, (w.alloc (.cells #[.int .i64 (k : Int), .int .i64 (e : Int), .int .i64 (s : Int)] 32 (0, 0))).drewN nq = w1 := ⟨_, rfl⟩
  have hg1 : w1.heap[w.heap.size]? = some (.cells [Value.int .i64 (k : Int), .int .i64 (e : Int), .int .i64 (s : Int)].toArray 32 (0, 0)) := by rw [← hw1]; exact heap_alloc_new w _
  have hb1 : Below w.heap.size w w1 := by rw [← hw1]; exact below_drewN (allocBelow w _) nq
  rw [hw1]
  have p0 := rowFacts hg1 0 _ rfl
  have p1 := rowFacts hg1 1 _ rfl
  have HT : Hid (Calls Tryz.prog 65 #[.int .i64 (b : Int), .int .i64 (k : Int), .string t] w1.drew fun r W => r = .returned (.int .i64 (c : Int)) ∧ Hid (Below w.heap.size w W) ∧ W.cell? ⟨w.heap.size, 0, none⟩ = some (.int .i64 (k : Int)) ∧ W.cell? ⟨w.heap.size, 1, none⟩ = some (.int .i64 (e : Int))) := by
    show Calls _ _ _ _ _
    refine (HX.out w1.drew).mono ?_
    rintro r W ⟨rfl, hb⟩
    have hl : w.heap.size < w1.drew.heap.size := heap_lt (show w1.drew.heap[w.heap.size]? = _ from hg1)
    exact ⟨rfl, hb1.drew.trans (hb.mono (Nat.le_of_lt hl)), by rw [hb.cell hl]; exact p0, by rw [hb.cell hl]; exact p1⟩
  clear hw1 hg1 hb1 HX e1 e2 hj' ep lp up t0
  go_region_held3 (fun V => V.cell? ⟨w.heap.size, 0, none⟩ = some (.int .i64 (k : Int)) ∧ V.cell? ⟨w.heap.size, 1, none⟩ = some (.int .i64 (e : Int))) (first | exact ⟨c0, c1⟩ | go_keep)
    (first | (go_at_call 65; refine HT.out.mono ?_; rintro r W ⟨rfl, kk, c0, c1⟩))
  all_goals
    go_wp2
    go_ret
    exact ⟨rfl, kk.out⟩
set_option maxHeartbeats 1000000 in
set_option maxRecDepth 100000 in
theorem specSigCheck (k e s : Int) (t : ByteArray) (w : World) (ht : t.size ≤ maxLen) :
    Calls Tryz.prog 48 #[.agg #[.int .i64 k, .int .i64 e, .int .i64 s], .string t] w fun r w' => r = .returned (.bool (sigCB k e s t)) ∧ Below w.heap.size w w' := by
  have htm := ht
  unfold maxLen at htm
  by_cases h1 : 20000 < t.size
  · have ea : Hid (sigCB k e s t = false) := sigCB_long h1
    go_enter Tryz.func48, Tryz.ntmps48
    go_wp2
    go_ret
    exact ⟨by rw [ea.out]; rfl, allocBelow _ _⟩
  have ht2 : t.size ≤ 20000 := by omega
  by_cases h2 : sigRB k e s = true
  · obtain ⟨K, E, S, rfl, rfl, rfl, hk, he, hs, _⟩ := sigRB_nat h2
    have ea : Hid (sigCB K E S t = decide ((chal (backR K E S : Nat) K t : Int) = (E : Int))) := sigCB_right ht2 h2
    have HX : Hid (∀ v : World, Calls Tryz.prog 77 #[.agg #[.int .i64 (K : Int), .int .i64 (E : Int), .int .i64 (S : Int)], .string t] v fun r w' => r = .returned (.bool (decide ((chal (backR K E S : Nat) K t : Int) = (E : Int)))) ∧ Below v.heap.size v w') := fun v => specCheck K E S t v ht2 hk he hs
    generalize decide ((chal (backR K E S : Nat) K t : Int) = (E : Int)) = b at *
    go_enter Tryz.func48, Tryz.ntmps48
    go_wp2_with fail
    refine (specSigRight K E S _).mono ?_
    rintro r w1 ⟨rfl, hb1⟩
    rw [h2]
    have c0 : w1.cell? ⟨w.heap.size, 0, none⟩ = some (.int .i64 (K : Int)) := by rw [hb1.cell (p := ⟨w.heap.size, 0, none⟩) (by simp)]; simp
    have c1 : w1.cell? ⟨w.heap.size, 1, none⟩ = some (.int .i64 (E : Int)) := by rw [hb1.cell (p := ⟨w.heap.size, 1, none⟩) (by simp)]; simp
    have c2 : w1.cell? ⟨w.heap.size, 2, none⟩ = some (.int .i64 (S : Int)) := by rw [hb1.cell (p := ⟨w.heap.size, 2, none⟩) (by simp)]; simp
    have B1 : Hid (Below w.heap.size w w1) := (allocBelow w _).trans (hb1.mono (by simp))
    clear hb1
    go_wp2_with fail
    refine (HX.out _).mono ?_
    rintro r w2 ⟨rfl, hb2⟩
    have B2 : Hid (Below w.heap.size w w2) := B1.out.trans (hb2.mono B1.out.size)
    clear hb2
    go_wp2
    go_ret
    exact ⟨by rw [ea.out]; rfl, B2.out⟩
  · rw [Bool.not_eq_true] at h2
    have ea : Hid (sigCB k e s t = false) := sigCB_wrong h2
    go_enter Tryz.func48, Tryz.ntmps48
    go_wp2_with fail
    refine (specSigRight k e s _).mono ?_
    rintro r w1 ⟨rfl, hb1⟩
    rw [h2]
    have B1 : Hid (Below w.heap.size w w1) := (allocBelow w _).trans (hb1.mono (by simp))
    clear hb1
    go_wp2
    go_ret
    exact ⟨by rw [ea.out]; rfl, B1.out⟩
end Go.Proofs.YtjkmfjegphpjkaaGreatDoor
