/- impl.JwsSign, walked. spec.GroupRight, walked. spec.l04In, spec.SigRight, walked. spec.l09Right, walked. -/
import Derived.Test.YtdehbaafbbjcgaaGreatDoorJT32
import Derived.Test.YtdehbaafbbjcgaaGreatDoorJT33
import Derived.Test.YtdehbaafbbjcgaaGreatDoorJT18
import Derived.Test.YtdehbaafbbjcgaaGreatDoorJT23
import Derived.Test.YtdehbaafbbjcgaaGreatDoorJT06
import Derived.Test.YtdehbaafbbjcgaaGreatDoorJT05
import Derived.Test.YtdehbaafbbjcgaaGreatDoorJT31
import Derived.Deep.Cut
namespace Go.Proofs.YtdehbaafbbjcgaaGreatDoor
open Go.RowKit Go.Lib

set_option linter.unusedSimpArgs false in
set_option maxHeartbeats 4000000 in
set_option maxRecDepth 100000 in
theorem implJwsSign (x nonce : Int) (url body : ByteArray) (w : World) (n0 : -9223372036854775808 ≤ nonce) (n1 : nonce ≤ 9223372036854775807) (hu : url.size ≤ maxLen) (hbb : body.size ≤ maxLen) (hk : Keys w) :
    Calls Tryz.prog 11 #[.int .i64 x, .int .i64 nonce, .string url, .string body] w fun e w' => e = .returned (.string (jSign x nonce url body)) ∧ Below w.heap.size w w' := by
  obtain ⟨w1, hw1⟩ : ∃ y, y = w := ⟨_, rfl⟩
  have hkp := hk.pos
  have HKy : Hid (∀ V, Below w.heap.size w V → Keys V) := fun V hV => hk.below hV hkp
  obtain ⟨P, hP⟩ : ∃ P, P = rqB (pubA x) nonce url body := ⟨_, rfl⟩
  have HA : Hid (∀ V, Calls Tryz.prog 30 #[.agg #[.int .i64 (pubA x), .int .i64 nonce, .string url, .string body, .int .i64 0, .int .i64 0, .int .i64 0]] V fun e w' => e = .returned (.bool P) ∧ Below V.heap.size V w') := fun V => by rw [hP]; exact implAsked (pubA x) nonce url body 0 0 0 V hu hbb
  have hPs : P = true ↔ (secB x = true ∧ timeB nonce = true ∧ nameB url = true ∧ body.size ≤ 2000) := by
    rw [hP, pub_rqB]
    simp [Bool.and_eq_true]
  have HPub : Hid (∀ V, Calls Tryz.prog 29 #[.int .i64 x] V fun e w' => e = .returned (.int .i64 (pubA x)) ∧ Below V.heap.size V w') := fun V => implPublic x V
  cases P with
  | false =>
    have HF : Hid (jSign x nonce url body = ⟨#[]⟩) := by
      show _ = _
      rw [jSign, if_neg]
      intro h
      have := hPs.2 h
      cases this
    generalize pubA x = pk at *
    rw [HF.out]
    clear HF hPs hP hk hkp HKy hw1 hu hbb
    go_enter Tryz.func11, Tryz.ntmps11
    go_wp2_with fail
    refine (HPub.out w).mono ?_
    rintro e w2 ⟨rfl, b2⟩
    obtain ⟨w3, hw3⟩ : ∃ y, y = w2.alloc (.cells #[.int .i64 pk, .int .i64 nonce, .string url, .string body, .int .i64 0, .int .i64 0, .int .i64 0] 34 (0, 0)) := ⟨_, rfl⟩
    have g3 : w3.heap[w2.heap.size]? = some (.cells [Value.int .i64 pk, .int .i64 nonce, .string url, .string body, .int .i64 0, .int .i64 0, .int .i64 0].toArray 34 (0, 0)) := by rw [hw3]; exact heap_alloc_new w2 _
    have B3 : Hid (Below w.heap.size w w3) := by rw [hw3]; exact b2.alloc b2.size _
    have d0 := rowFacts g3 0 _ rfl
    have d1 := rowFacts g3 1 _ rfl
    have d2 := rowFacts g3 2 _ rfl
    have d3 := rowFacts g3 3 _ rfl
    have d4 := rowFacts g3 4 _ rfl
    have d5 := rowFacts g3 5 _ rfl
    have d6 := rowFacts g3 6 _ rfl
    clear b2 g3
    go_upto_region 2 with fail
    rw [← hw3]
    clear hw3
    go_wp2_with fail
    refine (HA.out _).mono ?_
    rintro e w4 ⟨rfl, b4⟩
    have B4 : Hid (Below w.heap.size w w4) := B3.out.trans (b4.mono B3.out.size)
    clear b4 d0 d1 d2 d3 d4 d5 d6
    go_wp2
    go_ret
    exact ⟨rfl, B4.out⟩
  | true =>
  obtain ⟨hs, ht, hn, hb⟩ := hPs.1 rfl
  clear hP hPs
  obtain ⟨pk, hpk⟩ : ∃ p, p = pubA x := ⟨_, rfl⟩
  have hp1 : 0 ≤ pk ∧ pk < 2147483579 := by
    rw [hpk]
    obtain ⟨n, rfl, h1, h2⟩ := secB_nat hs
    rw [pubA_nat n hs]
    have := pm_lt 4 n (m := 2147483579) (by omega)
    omega
  have hut := jurl_size hn
  obtain ⟨TW, hTW⟩ : ∃ t, t = jTwo pk nonce url body := ⟨_, rfl⟩
  have hTz : TW.size ≤ 5000 := by have := jTwo_size pk nonce url body; rw [hTW]; omega
  obtain ⟨E, hE⟩ : ∃ e, e = signE x.toNat TW := ⟨_, rfl⟩
  obtain ⟨SS, hSS⟩ : ∃ e, e = signS x.toNat TW := ⟨_, rfl⟩
  have hE1 : E < 1073741789 := by rw [hE]; exact chal_lt _ _ _
  have hS1 : SS < 1073741789 := by rw [hSS]; exact Nat.mod_lt _ (by omega)
  have hSV : signV x TW = .agg #[.int .i64 pk, .int .i64 E, .int .i64 SS] := by
    rw [signV, if_pos ⟨by omega, hs⟩, hE, hSS, hpk, pubA, if_pos hs]
    rfl
  have ht' := timeB_in ht
  have HF : Hid (jSign x nonce url body = jText pk nonce url body E SS) := by
    show _ = _
    rw [jSign, if_pos ⟨hs, ht, hn, hb⟩, hE, hSS, hTW, hpk]
  rw [← hpk] at HA HPub
  have HH : Hid (∀ V, Calls Tryz.prog 32 #[.agg #[.int .i64 pk, .int .i64 nonce, .string url, .string body, .int .i64 0, .int .i64 0, .int .i64 0]] V fun e w' => e = .returned (.string TW) ∧ Below V.heap.size V w') := fun V => by rw [hTW]; exact implTwo pk nonce url body 0 0 0 V (by omega) (by omega) hut hb
  have HG : Hid (∀ V, Keys V → Calls Tryz.prog 31 #[.int .i64 x, .string TW] V fun e w' => e = .returned (.agg #[.int .i64 pk, .int .i64 E, .int .i64 SS]) ∧ Below V.heap.size V w') := fun V hV => by rw [← hSV]; exact implSign x TW V (by unfold maxLen; omega) hV
  have HX : Hid (∀ V, Calls Tryz.prog 33 #[.agg #[.int .i64 pk, .int .i64 nonce, .string url, .string body, .int .i64 pk, .int .i64 E, .int .i64 SS]] V fun e w' => e = .returned (.string (jText pk nonce url body E SS)) ∧ Below V.heap.size V w') := fun V => implLay pk nonce url body pk E SS V (by omega) (by omega) hut hb (by omega) (by omega)
  rw [HF.out]
  clear HF hSV hpk hTW hTz hE hSS hE1 hS1 ht' hut hs ht hn hp1 hk hkp hu hbb
  generalize jText pk nonce url body E SS = R at *
  go_enter Tryz.func11, Tryz.ntmps11
  go_wp2_with fail
  refine (HPub.out w).mono ?_
  rintro e w2 ⟨rfl, b2⟩
  rw [← hw1] at b2 HKy
  obtain ⟨w3, hw3⟩ : ∃ y, y = w2.alloc (.cells #[.int .i64 pk, .int .i64 nonce, .string url, .string body, .int .i64 0, .int .i64 0, .int .i64 0] 34 (0, 0)) := ⟨_, rfl⟩
  have g3 : w3.heap[w2.heap.size]? = some (.cells [Value.int .i64 pk, .int .i64 nonce, .string url, .string body, .int .i64 0, .int .i64 0, .int .i64 0].toArray 34 (0, 0)) := by rw [hw3]; exact heap_alloc_new w2 _
  have bb3 : Below w2.heap.size w2 w3 := by rw [hw3]; exact (Below.refl _ _).alloc (Nat.le_refl _) _
  have B2 : Hid (Below w1.heap.size w1 w2) := b2
  have B3 : Hid (Below w2.heap.size w2 w3) := bb3
  have G3 : Hid _ := g3
  have d0 := rowFacts g3 0 _ rfl
  have d1 := rowFacts g3 1 _ rfl
  have d2 := rowFacts g3 2 _ rfl
  have d3 := rowFacts g3 3 _ rfl
  have d4 := rowFacts g3 4 _ rfl
  have d5 := rowFacts g3 5 _ rfl
  have d6 := rowFacts g3 6 _ rfl
  clear b2 bb3 g3
  go_upto_region 2 with fail
  rw [← hw3]
  clear hw3
  go_wp2_with fail
  refine (HA.out _).mono ?_
  rintro e w4 ⟨rfl, b4⟩
  have B4 : Hid (Below w2.heap.size w2 w4) := B3.out.trans (b4.mono B3.out.size)
  have G4 : Hid _ := (b4.block _ (heap_lt G3.out)).trans G3.out
  clear b4 d0 d1 d2 d3 d4 d5 d6 G3 B3 HA
  have d0 := rowFacts G4.out 0 _ rfl
  have d1 := rowFacts G4.out 1 _ rfl
  have d2 := rowFacts G4.out 2 _ rfl
  have d3 := rowFacts G4.out 3 _ rfl
  have d4 := rowFacts G4.out 4 _ rfl
  have d5 := rowFacts G4.out 5 _ rfl
  have d6 := rowFacts G4.out 6 _ rfl
  go_wp2_with fail
  refine (HH.out _).mono ?_
  rintro e w4' ⟨rfl, b4⟩
  have B4' : Hid (Below w2.heap.size w2 w4') := B4.out.trans (b4.mono B4.out.size)
  have G4' : Hid _ := (b4.block _ (heap_lt G4.out)).trans G4.out
  have KV := HKy.out w4' (B2.out.trans (B4'.out.mono B2.out.size))
  have HKV : Hid (Keys w4') := KV
  clear b4 d0 d1 d2 d3 d4 d5 d6 G4 B4 HH KV HKy
  go_wp2_with fail
  refine (HG.out _ HKV.out).mono ?_
  rintro e w5 ⟨rfl, b5⟩
  have B5 : Hid (Below w2.heap.size w2 w5) := B4'.out.trans (b5.mono B4'.out.size)
  have g5 := (b5.block _ (heap_lt G4'.out)).trans G4'.out
  have p4 := rowFacts g5 4 _ rfl
  have p5 := rowFacts g5 5 _ rfl
  have p6 := rowFacts g5 6 _ rfl
  have q4 := rowFree g5 4
  have q5 := rowFree g5 5
  have q6 := rowFree g5 6
  obtain ⟨w6, hw6⟩ : ∃ y, y = (((w5.setCell ⟨w2.heap.size, 4, none⟩ (.int .i64 pk)).setCell ⟨w2.heap.size, 5, none⟩ (.int .i64 (E : Int))).setCell ⟨w2.heap.size, 6, none⟩ (.int .i64 (SS : Int))) := ⟨_, rfl⟩
  have g6 : w6.heap[w2.heap.size]? = some (.cells [Value.int .i64 pk, .int .i64 nonce, .string url, .string body, .int .i64 pk, .int .i64 E, .int .i64 SS].toArray 34 (0, 0)) := by rw [hw6]; exact rowSet (i := 6) _ (rowSet (i := 5) _ (rowSet (i := 4) _ g5))
  have B6 : Hid (Below w2.heap.size w2 w6) := by rw [hw6]; exact ((B5.out.setCell (Nat.le_refl _) _).setCell (Nat.le_refl _) _).setCell (Nat.le_refl _) _
  have G6 : Hid _ := g6
  clear g5 b5 G4' B4' B5 HG g6 HKV
  go_upto_region 5 with fail
  rw [← hw6]
  clear hw6 p4 p5 p6 q4 q5 q6
  have d0 := rowFacts G6.out 0 _ rfl
  have d1 := rowFacts G6.out 1 _ rfl
  have d2 := rowFacts G6.out 2 _ rfl
  have d3 := rowFacts G6.out 3 _ rfl
  have d4 := rowFacts G6.out 4 _ rfl
  have d5 := rowFacts G6.out 5 _ rfl
  have d6 := rowFacts G6.out 6 _ rfl
  go_wp2_with fail
  refine (HX.out _).mono ?_
  rintro e w7 ⟨rfl, b7⟩
  have B7 : Hid (Below w1.heap.size w1 w7) := B2.out.trans ((B6.out.trans (b7.mono B6.out.size)).mono B2.out.size)
  clear b7 d0 d1 d2 d3 d4 d5 d6
  go_wp2
  go_ret
  exact ⟨rfl, by rw [← hw1]; exact B7.out⟩
end Go.Proofs.YtdehbaafbbjcgaaGreatDoor
namespace Go.Proofs.YtdehbaafbbjcgaaGreatDoor
open Go.RowKit

set_option maxHeartbeats 1000000 in
set_option maxRecDepth 100000 in
theorem specGroupRight (y : Int) (w : World) :
    Calls Tryz.prog 72 #[.int .i64 y] w fun e w' => e = .returned (.bool (rightG y)) ∧ w' = w := by
  by_cases h1 : 1 < y
  · by_cases h2 : y < 2147483579
    · obtain ⟨x, rfl⟩ := nat_of (show ¬ y < 0 by omega)
      have HC : Hid (∀ v : World, Calls Tryz.prog 43 #[.int .i64 (x : Int), .int .i64 1073741789, .int .i64 2147483579] v fun e w' => e = .returned (.int .i64 ((pm x 1073741789 2147483579 : Nat) : Int)) ∧ w' = v) := fun v => specPow x 1073741789 2147483579 v (by omega) (by omega) (by omega)
      have hrt := rightG_pos (x := x) (by omega) (by omega)
      have hrf := rightG_neg (x := x)
      generalize pm x 1073741789 2147483579 = z at *
      by_cases hz : z = 1
      · subst hz
        rw [hrt rfl]
        clear hrt hrf
        go_enter Tryz.func72, Tryz.ntmps72
        go_wp2_with fail
        refine (HC.out _).mono ?_
        rintro e w2 ⟨rfl, rfl⟩
        go_wp2
        go_ret
        exact ⟨rfl, rfl⟩
      · rw [hrf hz]
        clear hrt hrf
        have hz' : ((z : Int) == 1) = false := by rw [beq_eq_false_iff_ne]; omega
        go_enter Tryz.func72, Tryz.ntmps72
        go_wp2_with fail
        refine (HC.out _).mono ?_
        rintro e w2 ⟨rfl, rfl⟩
        go_wp2
        go_ret
        exact ⟨rfl, rfl⟩
    · rw [rightG_out (by omega)]
      go_enter Tryz.func72, Tryz.ntmps72
      go_wp2
      go_ret
      exact ⟨rfl, rfl⟩
  · rw [rightG_out (by omega)]
    go_enter Tryz.func72, Tryz.ntmps72
    go_wp2
    go_ret
    exact ⟨rfl, rfl⟩
end Go.Proofs.YtdehbaafbbjcgaaGreatDoor
namespace Go.Proofs.YtdehbaafbbjcgaaGreatDoor
open Go.RowKit

theorem specRem (n : Int) (w : World) :
    Calls Tryz.prog 91 #[.int .i64 n] w fun e w' => e = .returned (.bool (remB n)) ∧ w' = w := by
  by_cases h1 : 0 ≤ n
  · by_cases h2 : n < 1073741789
    · have e : remB n = true := decide_eq_true ⟨h1, h2⟩
      rw [e]
      go_enter Tryz.func91, Tryz.ntmps91
      go_wp2
      go_ret
      exact ⟨rfl, rfl⟩
    · have e : remB n = false := decide_eq_false (by omega)
      rw [e]
      go_enter Tryz.func91, Tryz.ntmps91
      go_wp2
      go_ret
      exact ⟨rfl, rfl⟩
  · have e : remB n = false := decide_eq_false (by omega)
    rw [e]
    go_enter Tryz.func91, Tryz.ntmps91
    go_wp2
    go_ret
    exact ⟨rfl, rfl⟩
set_option maxHeartbeats 1000000 in
set_option maxRecDepth 100000 in
theorem specSigRight (k e s : Int) (w : World) :
    Calls Tryz.prog 73 #[.agg #[.int .i64 k, .int .i64 e, .int .i64 s]] w fun r w' => r = .returned (.bool (sigRB k e s)) ∧ Below w.heap.size w w' := by
  go_enter Tryz.func73, Tryz.ntmps73
  go_wp2_with fail
  refine (specGroupRight k _).mono ?_
  rintro e1 w1 ⟨rfl, rfl⟩
  by_cases h1 : rightG k = true
  · rw [h1]
    go_wp2_with fail
    refine (specRem e _).mono ?_
    rintro e2 w2 ⟨rfl, rfl⟩
    by_cases h2 : remB e = true
    · rw [h2]
      go_wp2_with fail
      refine (specRem s _).mono ?_
      rintro e3 w3 ⟨rfl, rfl⟩
      generalize hb3 : remB s = b
      go_wp2
      go_ret
      exact ⟨by simp [sigRB, *], allocBelow _ _⟩
    · rw [Bool.not_eq_true] at h2
      rw [h2]
      go_wp2
      go_ret
      exact ⟨by simp [sigRB, *], allocBelow _ _⟩
  · rw [Bool.not_eq_true] at h1
    rw [h1]
    go_wp2
    go_ret
    exact ⟨by simp [sigRB, *], allocBelow _ _⟩
end Go.Proofs.YtdehbaafbbjcgaaGreatDoor
namespace Go.Proofs.YtdehbaafbbjcgaaGreatDoor
open Go.RowKit Go.Lib

theorem specNameJ (s : ByteArray) (w : World) (hs : s.size ≤ maxLen) :
    Calls Tryz.prog 36 #[.string s] w fun e w' => e = .returned (.bool (nameB s)) ∧ w' = w :=
  (specName s w hs).mono fun _ _ h => ⟨ans_name h.1, h.2⟩
set_option linter.unusedSimpArgs false in
set_option maxHeartbeats 4000000 in
set_option maxRecDepth 100000 in
theorem specRight (key nonce : Int) (url body : ByteArray) (se ss : Int) (w : World) (hu : url.size ≤ maxLen) (hb : body.size ≤ maxLen) :
    Calls Tryz.prog 45 #[jV key nonce url body key se ss] w fun r w' => r = .returned (.bool (rqB key nonce url body && sigRB key se ss)) ∧ Below w.heap.size w w' := by
  unfold jV
  obtain ⟨w1, hw1⟩ : ∃ w1, w1 = w.alloc (.cells #[.int .i64 key, .int .i64 nonce, .string url, .string body, .int .i64 key, .int .i64 se, .int .i64 ss] 34 (0, 0)) := ⟨_, rfl⟩
  have r0 : w1.heap[w.heap.size]? = some (.cells [Value.int .i64 key, .int .i64 nonce, .string url, .string body, .int .i64 key, .int .i64 se, .int .i64 ss].toArray 34 (0, 0)) := by rw [hw1]; exact heap_alloc_new w _
  have B1 : Hid (Below w.heap.size w w1) := by rw [hw1]; exact (Below.refl _ _).alloc (Nat.le_refl _) _
  have z1 : w.heap.size < w1.heap.size := by rw [hw1]; simp
  have HK : Hid (∀ V, Below w1.heap.size w1 V → V.cell? ⟨w.heap.size, 0, none⟩ = some (.int .i64 key) ∧ V.cell? ⟨w.heap.size, 1, none⟩ = some (.int .i64 nonce) ∧ V.cell? ⟨w.heap.size, 2, none⟩ = some (.string url) ∧ V.cell? ⟨w.heap.size, 3, none⟩ = some (.string body) ∧ V.cell? ⟨w.heap.size, 4, none⟩ = some (.int .i64 key) ∧ V.cell? ⟨w.heap.size, 5, none⟩ = some (.int .i64 se) ∧ V.cell? ⟨w.heap.size, 6, none⟩ = some (.int .i64 ss)) := fun V hV => by
    have hP := (hV.block _ z1).trans r0
    exact ⟨rowFacts hP 0 _ rfl, rowFacts hP 1 _ rfl, rowFacts hP 2 _ rfl, rowFacts hP 3 _ rfl, rowFacts hP 4 _ rfl, rowFacts hP 5 _ rfl, rowFacts hP 6 _ rfl⟩
  have HB : Hid (∀ V, Below w1.heap.size w1 V → Below w.heap.size w V) := fun V hV => B1.out.trans (hV.mono B1.out.size)
  have HG : Hid (∀ V, Calls Tryz.prog 72 #[.int .i64 key] V fun e w' => e = .returned (.bool (rightG key)) ∧ w' = V) := fun V => specGroupRight key V
  have HT : Hid (∀ V, Calls Tryz.prog 35 #[.int .i64 nonce, .int .i64 0, .int .i64 1000000000] V fun e w' => e = .returned (.bool (timeB nonce)) ∧ w' = V) := fun V => specIs nonce 0 1000000000 V
  have HN : Hid (∀ V, Calls Tryz.prog 36 #[.string url] V fun e w' => e = .returned (.bool (nameB url)) ∧ w' = V) := fun V => specNameJ url V hu
  have HS : Hid (∀ V, Calls Tryz.prog 73 #[.agg #[.int .i64 key, .int .i64 se, .int .i64 ss]] V fun e w' => e = .returned (.bool (sigRB key se ss)) ∧ Below V.heap.size V w') := fun V => specSigRight key se ss V
  obtain ⟨R, hR⟩ : ∃ R, R = (rqB key nonce url body && sigRB key se ss) := ⟨_, rfl⟩
  rw [← hR]
  have HR : Hid (R = ((rightG key && (timeB nonce && (nameB url && decide (body.size ≤ 2000)))) && sigRB key se ss)) := hR
  unfold maxLen at hb
  clear r0 z1 B1 hR hu
  obtain ⟨c0, c1, c2, c3, c4, c5, c6⟩ := HK.out w1 (Below.refl _ _)
  generalize rightG key = P1 at *
  generalize timeB nonce = P2 at *
  generalize nameB url = P3 at *
  generalize sigRB key se ss = P4 at *
  go_enter Tryz.func45, Tryz.ntmps45
  go_upto_region 1 with fail
  rw [← hw1]
  clear hw1
  cases P1 with
  | false =>
    have HF : Hid (R = false) := by show _ = _; rw [HR.out]; rfl
    go_wp2_with fail
    refine (HG.out _).mono ?_
    rintro e w2 ⟨rfl, rfl⟩
    go_wp2
    go_ret
    exact ⟨by rw [HF.out]; first | rfl | simp_all, HB.out _ (Below.refl _ _)⟩
  | true =>
  cases P2 with
  | false =>
    have HF : Hid (R = false) := by show _ = _; rw [HR.out]; rfl
    go_wp2_with fail
    refine (HG.out _).mono ?_
    rintro e w2 ⟨rfl, rfl⟩
    go_wp2_with fail
    refine (HT.out _).mono ?_
    rintro e w2 ⟨rfl, rfl⟩
    go_wp2
    go_ret
    exact ⟨by rw [HF.out]; first | rfl | simp_all, HB.out _ (Below.refl _ _)⟩
  | true =>
  cases P3 with
  | false =>
    have HF : Hid (R = false) := by show _ = _; rw [HR.out]; rfl
    go_wp2_with fail
    refine (HG.out _).mono ?_
    rintro e w2 ⟨rfl, rfl⟩
    go_wp2_with fail
    refine (HT.out _).mono ?_
    rintro e w2 ⟨rfl, rfl⟩
    go_wp2_with fail
    refine (HN.out _).mono ?_
    rintro e w2 ⟨rfl, rfl⟩
    go_wp2
    go_ret
    exact ⟨by rw [HF.out]; first | rfl | simp_all, HB.out _ (Below.refl _ _)⟩
  | true =>
  by_cases h4 : body.size ≤ 2000
  · have HF : Hid (R = P4) := by show _ = _; rw [HR.out]; simp [h4]
    have hd : decide ((body.size : Int) ≤ 2000) = true := decide_eq_true (by omega)
    go_wp2_with fail
    refine (HG.out _).mono ?_
    rintro e w2 ⟨rfl, rfl⟩
    go_wp2_with fail
    refine (HT.out _).mono ?_
    rintro e w2 ⟨rfl, rfl⟩
    go_wp2_with fail
    refine (HN.out _).mono ?_
    rintro e w2 ⟨rfl, rfl⟩
    cases P4 with
    | false =>
      go_wp2_with fail
      refine (HS.out _).mono ?_
      rintro e w3 ⟨rfl, b3⟩
      have B3 : Hid (Below w.heap.size w w3) := HB.out _ b3
      clear b3
      go_wp2
      go_ret
      exact ⟨by rw [HF.out]; first | rfl | simp_all, B3.out⟩
    | true =>
      go_wp2_with fail
      refine (HS.out _).mono ?_
      rintro e w3 ⟨rfl, b3⟩
      obtain ⟨d0, d1, d2, d3, d4, d5, d6⟩ := HK.out _ b3
      have B3 : Hid (Below w.heap.size w w3) := HB.out _ b3
      have hkk : (key == key) = true := beq_self_eq_true key
      clear b3 c0 c1 c2 c3 c4 c5 c6
      go_wp2
      go_ret
      exact ⟨by rw [HF.out]; first | rfl | simp_all, B3.out⟩
  · have HF : Hid (R = false) := by show _ = _; rw [HR.out]; simp [h4]
    have hd : decide ((body.size : Int) ≤ 2000) = false := decide_eq_false (by omega)
    go_wp2_with fail
    refine (HG.out _).mono ?_
    rintro e w2 ⟨rfl, rfl⟩
    go_wp2_with fail
    refine (HT.out _).mono ?_
    rintro e w2 ⟨rfl, rfl⟩
    go_wp2_with fail
    refine (HN.out _).mono ?_
    rintro e w2 ⟨rfl, rfl⟩
    go_wp2
    go_ret
    exact ⟨by rw [HF.out]; first | rfl | simp_all, HB.out _ (Below.refl _ _)⟩
end Go.Proofs.YtdehbaafbbjcgaaGreatDoor
