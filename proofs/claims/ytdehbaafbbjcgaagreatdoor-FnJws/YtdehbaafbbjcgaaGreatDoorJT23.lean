/- spec.SignText, walked. spec.l05Is, walked. What a function returns in a variable of its own: the variable over a call. No program is named. spec.JwsSign, walked. Rows that are known whole, over calls, makings and stores. No program is named. -/
import Derived.Test.YtdehbaafbbjcgaaGreatDoorJT22
import Derived.Test.YtdehbaafbbjcgaaGreatDoorJT09
import Derived.Test.YtdehbaafbbjcgaaGreatDoorJT05
import Derived.Test.YtdehbaafbbjcgaaGreatDoorJT01
import Derived.Test.YtdehbaafbbjcgaaGreatDoorJT14
import Derived.Test.YtdehbaafbbjcgaaGreatDoorJT03
import Derived.Test.YtdehbaafbbjcgaaGreatDoorJT19
import Derived.Test.YtdehbaafbbjcgaaGreatDoorJT18
namespace Go.Proofs.YtdehbaafbbjcgaaGreatDoor
open Go.RowKit

set_option maxHeartbeats 1000000 in
set_option maxRecDepth 100000 in
theorem specSign (x : Int) (t : ByteArray) (w : World) (ht : t.size ≤ maxLen) :
    Calls Tryz.prog 37 #[.int .i64 x, .string t] w fun e w' => e = .returned (signV x t) ∧ Below w.heap.size w w' := by
  have htm := ht
  unfold maxLen at htm
  by_cases h1 : 20000 < t.size
  · have ea : Hid (signV x t = sigV 0 0 0) := signV_no (by omega)
    go_enter Tryz.func37, Tryz.ntmps37
    go_wp2
    go_returns
    exact ⟨by rw [ea.out]; rfl, allocBelow _ _⟩
  by_cases h2 : secB x = true
  · obtain ⟨n, rfl, n1, n2⟩ := secB_nat h2
    have ea : Hid (signV n t = sigV ((pm 4 n 2147483579 : Nat) : Int) (signE n t) (signS n t)) := signV_nat (by omega) h2
    have ht2 : t.size ≤ 20000 := by omega
    have hpk := powK_lt n t
    have he := chal_lt ((pm 4 (powK n t) 2147483579 : Nat) : Int) ((pm 4 n 2147483579 : Nat) : Int) t
    have q1 := pm_lt 4 n (m := 2147483579) (by omega)
    have q2 := pm_lt 4 (powK n t) (m := 2147483579) (by omega)
    have s2 := putS_size n
    have P2 : Hid (∀ v : World, Calls Tryz.prog 61 #[.int .i64 (n : Int)] v fun e w' => e = .returned (.string (putS n)) ∧ Below v.heap.size v w') := fun v => specPut n v (by omega) (by omega)
    obtain ⟨pS, hp⟩ : ∃ p : ByteArray, putS n = p := ⟨_, rfl⟩
    have l2 := powK_eq n t pS hp
    rw [hp] at s2 P2
    obtain ⟨q, hq⟩ : ∃ q : ByteArray, ⟨#[75]⟩ ++ pS = q := ⟨_, rfl⟩
    rw [hq] at l2
    have sq : q.size ≤ 100 := by rw [← hq, size_append, show (ByteArray.mk #[75]).size = 1 from rfl]; omega
    have sqt : (q ++ t).size = q.size + t.size := size_append q t
    have N2 : Hid (∀ v : World, Calls Tryz.prog 60 #[.string (q ++ t)] v fun e w' => e = .returned (.int .i64 (dnum (q ++ t) : Nat)) ∧ Below v.heap.size v w') := fun v => specNum (q ++ t) v (by omega)
    have ld := dnum_lt (q ++ t)
    have S2 : Hid (∀ v : World, Calls Tryz.prog 14 #[.int .i64 (n : Int)] v fun e w' => e = .returned (.int .i64 ((pm 4 n 2147483579 : Nat) : Int)) ∧ w' = v) := fun v => by rw [← pubA_nat n h2]; exact specPublic n v
    have S3 : Hid (∀ v : World, Calls Tryz.prog 43 #[.int .i64 4, .int .i64 (powK n t : Nat), .int .i64 2147483579] v fun e w' => e = .returned (.int .i64 ((pm 4 (powK n t) 2147483579 : Nat) : Int)) ∧ w' = v) := fun v => specPow 4 (powK n t) 2147483579 v (by omega) (by omega) (by omega)
    have S4 : Hid (∀ v : World, Calls Tryz.prog 62 #[.int .i64 ((pm 4 (powK n t) 2147483579 : Nat) : Int), .int .i64 ((pm 4 n 2147483579 : Nat) : Int), .string t] v fun e w' => e = .returned (.int .i64 (signE n t : Nat)) ∧ Below v.heap.size v w') := fun v => specChal _ _ t v ht2 (by omega) (by omega) (by omega) (by omega)
    have S5 : Hid ((powK n t + signE n t * n) % 1073741789 = signS n t) := rfl
    change signE n t < 1073741789 at he
    generalize signS n t = s at *
    generalize signE n t = e at *
    generalize pm 4 (powK n t) 2147483579 = y at *
    generalize powK n t = k at *
    generalize pm 4 n 2147483579 = key at *
    generalize dnum (q ++ t) = d at *
    obtain ⟨p, hp', ep, lp, up⟩ := prod_bd e n (by omega) (by omega)
    have t0 : (p : Int).tmod 1073741789 = ((p % 1073741789 : Nat) : Int) := tmodN p 1073741789
    have hm := Nat.mod_lt p (show 0 < 1073741789 by omega)
    have t1 : ((k : Int) + ((p % 1073741789 : Nat) : Int)).tmod 1073741789 = (s : Int) := by
      have h := S5.out
      rw [← hp'] at h
      rw [← h, show (k : Int) + ((p % 1073741789 : Nat) : Int) = ((k + p % 1073741789 : Nat) : Int) from by omega]
      have h3 := tmodN (k + p % 1073741789) 1073741789
      rw [Nat.add_mod_mod] at h3
      exact h3
    generalize p % 1073741789 = pq at *
    have t3 : (d : Int).tmod 1073741788 = ((d % 1073741788 : Nat) : Int) := tmodN d 1073741788
    have hdm := Nat.mod_lt d (show 0 < 1073741788 by omega)
    generalize d % 1073741788 = m at *
    have hk1 : (1 : Int) + (m : Int) = (k : Int) := by omega
    have hm' : (m : Int) < 1073741788 := by omega
    have hpq' : (pq : Int) < 1073741789 := by omega
    have hk' : (k : Int) < 1073741789 := by omega
    have F1 : Hid ((d : Int).tmod 1073741788 = (m : Int) ∧ (1 : Int) + (m : Int) = (k : Int) ∧ (m : Int) < 1073741788) := ⟨t3, hk1, hm'⟩
    have F2 : Hid ((e : Int) * (n : Int) = (p : Int) ∧ ((0 : Int) ≤ (p : Int) ∧ (p : Int) ≤ 4611686018427387904) ∧ (p : Int).tmod 1073741789 = (pq : Int) ∧ ((k : Int) + (pq : Int)).tmod 1073741789 = (s : Int) ∧ (pq : Int) < 1073741789 ∧ (k : Int) < 1073741789) := ⟨ep, ⟨lp, up⟩, t0, t1, hpq', hk'⟩
    clear S5 hp hp' l2 hdm hm ld q1 q2 t3 hk1 hm' ep lp up t0 t1 hpq' hk' hpk he
    go_enter Tryz.func37, Tryz.ntmps37
    go_wp2_with fail
    refine (specSecret n _).mono ?_
    rintro e1 w' ⟨rfl, rfl⟩
    rw [h2]
    go_wp2_with fail
    obtain ⟨w0, hw0⟩ : ∃ w0, w.alloc (.cells #[.int .i64 0, .int .i64 0, .int .i64 0] 32 (0, 0)) = w0 := ⟨_, rfl⟩
    have hg0 : w0.heap[w.heap.size]? = some (.cells #[.int .i64 0, .int .i64 0, .int .i64 0] 32 (0, 0)) := by rw [← hw0]; exact heap_alloc_new w _
    have hb0 : Below w.heap.size w w0 := by rw [← hw0]; exact allocBelow w _
    have hs0 : w0.heap.size = w.heap.size + 1 := by rw [← hw0]; simp
    rw [hw0]
    have G0 : Hid (w0.heap[w.heap.size]? = some (.cells #[.int .i64 0, .int .i64 0, .int .i64 0] 32 (0, 0))) := hg0
    have B0 : Hid (Below w.heap.size w w0) := hb0
    have HS0 : Hid (w0.heap.size = w.heap.size + 1) := hs0
    clear hg0 hb0 hw0 hs0
    refine (P2.out w0).mono ?_
    rintro e1 w1 ⟨rfl, hb1⟩
    have b1 : Hid (Below w0.heap.size w0 w1) := hb1
    have z1 := b1.out.size
    clear hb1
    go_wp2_with fail
    refine (N2.out _).mono ?_
    rintro e1 w2 ⟨rfl, hb2⟩
    have b2 : Hid (Below w0.heap.size w0 w2) := b1.out.trans (hb2.mono z1)
    have z2 := b2.out.size
    clear hb2
    obtain ⟨t3, hk1, hm'⟩ := F1.out
    go_wp2_with fail
    refine (S2.out _).mono ?_
    rintro e1 w3 ⟨rfl, rfl⟩
    clear t3 hk1 hm' F1
    go_wp2_with fail
    refine (S3.out _).mono ?_
    rintro e1 w3 ⟨rfl, rfl⟩
    go_wp2_with fail
    refine (S4.out _).mono ?_
    rintro e1 w4 ⟨rfl, hb4⟩
    have b4 : Hid (Below w0.heap.size w0 w4) := b2.out.trans (hb4.mono z2)
    clear hb4
    have hg4 : w4.heap[w.heap.size]? = some (.cells [.int .i64 0, .int .i64 0, .int .i64 0].toArray 32 (0, 0)) := by
      rw [b4.out.block w.heap.size (by rw [HS0.out]; omega)]; exact G0.out
    have c0 := rowFacts hg4 0 (.int .i64 0) rfl
    have c1 := rowFacts hg4 1 (.int .i64 0) rfl
    have c2 := rowFacts hg4 2 (.int .i64 0) rfl
    have f0 := frozen_of_row w4 _ 0 _ _ hg4
    have f1 := frozen_of_row w4 _ 1 _ _ hg4
    have f2 := frozen_of_row w4 _ 2 _ _ hg4
    have BB : Hid (∀ a b c, Below w.heap.size w (((w4.setCell ⟨w.heap.size, 0, none⟩ a).setCell ⟨w.heap.size, 1, none⟩ b).setCell ⟨w.heap.size, 2, none⟩ c)) := fun a b c =>
      (((B0.out.trans (b4.out.mono B0.out.size)).setCell (Nat.le_refl _) a).setCell (Nat.le_refl _) b).setCell (Nat.le_refl _) c
    have G4 : Hid (w4.heap[w.heap.size]? = some (.cells [.int .i64 0, .int .i64 0, .int .i64 0].toArray 32 (0, 0))) := hg4
    clear hg4 b1 b2 b4 S2 S3 S4 P2 N2 HS0 B0 G0 z1 z2
    obtain ⟨ep, ⟨lp, up⟩, t0, t1, hpq', hk'⟩ := F2.out
    clear F2
    go_wp2
    refine bodyPost_ret (v := sigV key e s) ?_ rfl ⟨by rw [ea.out], BB.out _ _ _⟩
    have hrow := sigRow G4.out (.int .i64 (key : Int)) (.int .i64 (e : Int)) (.int .i64 (s : Int))
    have hl3 := run_loadVar_mid (P := Tryz.prog) _ w.heap.size 0 32 _ _ (rangeRow hrow) Tryz.underlying32 rfl sizeSig
    simp [results, Tryz.results37, asAddr, hl3, sigV]
  · rw [Bool.not_eq_true] at h2
    have ea : Hid (signV x t = sigV 0 0 0) := signV_no (by rw [h2]; simp)
    go_enter Tryz.func37, Tryz.ntmps37
    go_wp2_with fail
    refine (specSecret x _).mono ?_
    rintro e w' ⟨rfl, rfl⟩
    rw [h2]
    go_wp2
    go_returns
    exact ⟨by rw [ea.out]; rfl, allocBelow _ _⟩
end Go.Proofs.YtdehbaafbbjcgaaGreatDoor
namespace Go.Proofs.YtdehbaafbbjcgaaGreatDoor
open Go.RowKit Go.Lib

theorem specIs (n l h : Int) (w : World) :
    Calls Tryz.prog 35 #[.int .i64 n, .int .i64 l, .int .i64 h] w fun e w' => e = .returned (.bool (decide (l ≤ n) && decide (n ≤ h))) ∧ w' = w := by
  by_cases h1 : l ≤ n
  · go_enter Tryz.func35, Tryz.ntmps35
    go_wp2
    go_ret
    exact ⟨by simp [h1], rfl⟩
  · go_enter Tryz.func35, Tryz.ntmps35
    go_wp2
    go_ret
    exact ⟨by simp; omega, rfl⟩
end Go.Proofs.YtdehbaafbbjcgaaGreatDoor
namespace Go.Proofs.YtdehbaafbbjcgaaGreatDoor
open Go.RowKit

theorem resKeep {w w1 : World} {cs : List Value} {T : Nat} (hb : Below (w.alloc (.cells cs.toArray T (0, 0))).heap.size (w.alloc (.cells cs.toArray T (0, 0))) w1) :
    w1.heap[w.heap.size]? = some (.cells cs.toArray T (0, 0)) ∧ Below w.heap.size w w1 ∧ w.heap.size < w1.heap.size := by
  have hs : (w.alloc (.cells cs.toArray T (0, 0))).heap.size = w.heap.size + 1 := by simp
  have hl := hb.size
  refine ⟨?_, ((Below.refl _ w).alloc (Nat.le_refl _) _).trans (hb.mono (by omega)), by omega⟩
  rw [hb.block w.heap.size (by omega)]
  exact heap_alloc_new w _
theorem rowFree {w : World} {g : Nat} {cs : List Value} {t : TypeId} (hg : w.heap[g]? = some (.cells cs.toArray t (0, 0))) (j : Nat) : w.frozen? ⟨g, j, none⟩ = false := frozen_of_row w g j _ t hg
/-- Three cells of a variable. -/
theorem cells3 {w : World} {g : Nat} {a b c : Value} {t : TypeId} (h : w.heap[g]? = some (.cells [a, b, c].toArray t (0, 0))) :
    (w.cell? ⟨g, 0, none⟩ = some a ∧ w.cell? ⟨g, 1, none⟩ = some b ∧ w.cell? ⟨g, 2, none⟩ = some c) ∧ w.frozen? ⟨g, 0, none⟩ = false ∧ w.frozen? ⟨g, 1, none⟩ = false ∧ w.frozen? ⟨g, 2, none⟩ = false :=
  ⟨⟨rowFacts h 0 _ rfl, rowFacts h 1 _ rfl, rowFacts h 2 _ rfl⟩, rowFree h 0, rowFree h 1, rowFree h 2⟩
theorem cells2 {w : World} {g : Nat} {a b : Value} {t : TypeId} (h : w.heap[g]? = some (.cells [a, b].toArray t (0, 0))) :
    (w.cell? ⟨g, 0, none⟩ = some a ∧ w.cell? ⟨g, 1, none⟩ = some b) ∧ w.frozen? ⟨g, 0, none⟩ = false ∧ w.frozen? ⟨g, 1, none⟩ = false :=
  ⟨⟨rowFacts h 0 _ rfl, rowFacts h 1 _ rfl⟩, rowFree h 0, rowFree h 1⟩
theorem cells4 {w : World} {g : Nat} {a b c d : Value} {t : TypeId} (h : w.heap[g]? = some (.cells [a, b, c, d].toArray t (0, 0))) :
    (w.cell? ⟨g, 0, none⟩ = some a ∧ w.cell? ⟨g, 1, none⟩ = some b ∧ w.cell? ⟨g, 2, none⟩ = some c ∧ w.cell? ⟨g, 3, none⟩ = some d) ∧ w.frozen? ⟨g, 0, none⟩ = false ∧ w.frozen? ⟨g, 1, none⟩ = false ∧ w.frozen? ⟨g, 2, none⟩ = false ∧ w.frozen? ⟨g, 3, none⟩ = false :=
  ⟨⟨rowFacts h 0 _ rfl, rowFacts h 1 _ rfl, rowFacts h 2 _ rfl, rowFacts h 3 _ rfl⟩, rowFree h 0, rowFree h 1, rowFree h 2, rowFree h 3⟩
end Go.Proofs.YtdehbaafbbjcgaaGreatDoor
namespace Go.Proofs.YtdehbaafbbjcgaaGreatDoor
open Go.RowKit Go.Lib

theorem specNameB (s : ByteArray) (w : World) (hs : s.size ≤ maxLen) :
    Calls Tryz.prog 36 #[.string s] w fun e w' => e = .returned (.bool (nameB s)) ∧ w' = w :=
  (specName s w hs).mono fun _ _ h => ⟨ans_name h.1, h.2⟩
set_option linter.unusedSimpArgs false in
set_option maxHeartbeats 4000000 in
set_option maxRecDepth 100000 in
theorem specJwsSign (x nonce : Int) (url body : ByteArray) (w : World) (x0 : -9223372036854775808 ≤ x) (x1 : x ≤ 9223372036854775807) (n0 : -9223372036854775808 ≤ nonce) (n1 : nonce ≤ 9223372036854775807) (hu : url.size ≤ 1048576) (hbb : body.size ≤ 1048576) :
    Calls Tryz.prog 12 #[.int .i64 x, .int .i64 nonce, .string url, .string body] w fun e w' => e = .returned (.string (jSign x nonce url body)) ∧ Below w.heap.size w w' := by
  have HSc : Hid (∀ V, Calls Tryz.prog 34 #[.int .i64 x] V fun e w' => e = .returned (.bool (secB x)) ∧ w' = V) := fun V => specSecret x V
  have HTm : Hid (∀ V, Calls Tryz.prog 35 #[.int .i64 nonce, .int .i64 0, .int .i64 1000000000] V fun e w' => e = .returned (.bool (timeB nonce)) ∧ w' = V) := fun V => specIs nonce 0 1000000000 V
  have HNm : Hid (∀ V, Calls Tryz.prog 36 #[.string url] V fun e w' => e = .returned (.bool (nameB url)) ∧ w' = V) := fun V => specNameB url V (by unfold maxLen; omega)
  have HNo : Hid (¬ (secB x = true ∧ timeB nonce = true ∧ nameB url = true ∧ body.size ≤ 2000) → jSign x nonce url body = ⟨#[]⟩) := fun h => by rw [jSign, if_neg h]
  have HU : Hid (nameB url = true → url.size ≤ 40) := jurl_size
  go_enter Tryz.func12, Tryz.ntmps12
  by_cases u1 : 20000 < url.size
  · have HF : Hid _ := HNo.out (fun h => by have := HU.out h.2.2.1; omega)
    go_wp2
    go_ret
    exact ⟨by rw [HF.out]; rfl, Below.refl _ _⟩
  by_cases u2 : 20000 < body.size
  · have HF : Hid _ := HNo.out (fun h => by omega)
    go_wp2
    go_ret
    exact ⟨by rw [HF.out]; rfl, Below.refl _ _⟩
  cases hs : secB x with
  | false =>
    have HF : Hid _ := HNo.out (fun h => by rw [hs] at h; cases h.1)
    rw [hs] at HSc
    clear HNo
    go_wp2_with fail
    refine (HSc.out w).mono ?_
    rintro e w' ⟨rfl, rfl⟩
    go_wp2
    go_ret
    exact ⟨by rw [HF.out]; rfl, Below.refl _ _⟩
  | true =>
  cases ht : timeB nonce with
  | false =>
    have HF : Hid _ := HNo.out (fun h => by rw [ht] at h; cases h.2.1)
    rw [hs] at HSc
    rw [ht] at HTm
    clear HNo
    go_wp2_with fail
    refine (HSc.out w).mono ?_
    rintro e w' ⟨rfl, rfl⟩
    go_wp2_with fail
    refine (HTm.out _).mono ?_
    rintro e w' ⟨rfl, rfl⟩
    go_wp2
    go_ret
    exact ⟨by rw [HF.out]; rfl, Below.refl _ _⟩
  | true =>
  cases hn : nameB url with
  | false =>
    have HF : Hid _ := HNo.out (fun h => by rw [hn] at h; cases h.2.2.1)
    rw [hs] at HSc
    rw [ht] at HTm
    rw [hn] at HNm
    clear HNo
    go_wp2_with fail
    refine (HSc.out w).mono ?_
    rintro e w' ⟨rfl, rfl⟩
    go_wp2_with fail
    refine (HTm.out _).mono ?_
    rintro e w' ⟨rfl, rfl⟩
    go_wp2_with fail
    refine (HNm.out _).mono ?_
    rintro e w' ⟨rfl, rfl⟩
    go_wp2
    go_ret
    exact ⟨by rw [HF.out]; rfl, Below.refl _ _⟩
  | true =>
  by_cases hb : body.size ≤ 2000
  rotate_left
  · have HF : Hid _ := HNo.out (fun h => hb h.2.2.2)
    rw [hs] at HSc
    rw [ht] at HTm
    rw [hn] at HNm
    clear HNo
    go_wp2_with fail
    refine (HSc.out w).mono ?_
    rintro e w' ⟨rfl, rfl⟩
    go_wp2_with fail
    refine (HTm.out _).mono ?_
    rintro e w' ⟨rfl, rfl⟩
    go_wp2_with fail
    refine (HNm.out _).mono ?_
    rintro e w' ⟨rfl, rfl⟩
    go_wp2
    go_ret
    exact ⟨by rw [HF.out]; rfl, Below.refl _ _⟩
  obtain ⟨pk, hpk⟩ : ∃ p, p = pubA x := ⟨_, rfl⟩
  have hp1 : 0 ≤ pk ∧ pk < 2147483579 := by
    rw [hpk]
    obtain ⟨n, rfl, h1, h2⟩ := secB_nat hs
    rw [pubA_nat n hs]
    have := pm_lt 4 n (m := 2147483579) (by omega)
    omega
  have hut := jurl_size hn
  obtain ⟨TW, hTW⟩ : ∃ t, t = jTwo pk nonce url body := ⟨_, rfl⟩
  have hTz : TW.size ≤ 5000 := by have := jTwo_size pk nonce url body; rw [hTW]; omega
  obtain ⟨E, hE⟩ : ∃ e, e = signE x.toNat TW := ⟨_, rfl⟩
  obtain ⟨SS, hSS⟩ : ∃ e, e = signS x.toNat TW := ⟨_, rfl⟩
  have hE1 : E < 1073741789 := by rw [hE]; exact chal_lt _ _ _
  have hS1 : SS < 1073741789 := by rw [hSS]; exact Nat.mod_lt _ (by omega)
  have hSV : signV x TW = .agg #[.int .i64 pk, .int .i64 E, .int .i64 SS] := by
    rw [signV, if_pos ⟨by omega, hs⟩, hE, hSS, hpk, pubA, if_pos hs]
    rfl
  have ht' := timeB_in ht
  have HF : Hid (jSign x nonce url body = jText pk nonce url body E SS) := by
    show _ = _
    rw [jSign, if_pos ⟨hs, ht, hn, hb⟩, hE, hSS, hTW, hpk]
  have HP : Hid (∀ V, Calls Tryz.prog 14 #[.int .i64 x] V fun e w' => e = .returned (.int .i64 pk) ∧ Below V.heap.size V w') := fun V => by rw [hpk]; exact (specPublic x V).mono fun e W h => ⟨h.1, by rw [h.2]; exact Below.refl _ _⟩
  have HH : Hid (∀ V, Calls Tryz.prog 38 #[.agg #[.int .i64 pk, .int .i64 nonce, .string url, .string body, .int .i64 0, .int .i64 0, .int .i64 0]] V fun e w' => e = .returned (.string TW) ∧ Below V.heap.size V w') := fun V => by rw [hTW]; exact specHead pk nonce url body 0 0 0 V (by omega) (by omega) hut hb
  have HG : Hid (∀ V, Calls Tryz.prog 37 #[.int .i64 x, .string TW] V fun e w' => e = .returned (.agg #[.int .i64 pk, .int .i64 E, .int .i64 SS]) ∧ Below V.heap.size V w') := fun V => by rw [← hSV]; exact specSign x TW V (by unfold maxLen; omega)
  have HX : Hid (∀ V, Calls Tryz.prog 39 #[.agg #[.int .i64 pk, .int .i64 nonce, .string url, .string body, .int .i64 pk, .int .i64 E, .int .i64 SS]] V fun e w' => e = .returned (.string (jText pk nonce url body E SS)) ∧ Below V.heap.size V w') := fun V => specText pk nonce url body pk E SS V (by omega) (by omega) hut hb (by omega) (by omega)
  rw [HF.out]
  rw [hs] at HSc
  rw [ht] at HTm
  rw [hn] at HNm
  have hb' : ¬ 2000 < body.size := by omega
  clear HNo HF HU hSV hpk hTW hTz hE hSS hE1 hS1 ht' hut hs ht hn hp1
  generalize jText pk nonce url body E SS = R at *
  go_wp2_with fail
  refine (HSc.out w).mono ?_
  rintro e w' ⟨rfl, rfl⟩
  go_wp2_with fail
  refine (HTm.out _).mono ?_
  rintro e w' ⟨rfl, rfl⟩
  go_wp2_with fail
  refine (HNm.out _).mono ?_
  rintro e w1 ⟨rfl, rfl⟩
  go_wp2_with fail
  refine (HP.out _).mono ?_
  rintro e w2 ⟨rfl, b2⟩
  obtain ⟨w3, hw3⟩ : ∃ y, y = w2.alloc (.cells #[.int .i64 pk, .int .i64 nonce, .string url, .string body, .int .i64 0, .int .i64 0, .int .i64 0] 34 (0, 0)) := ⟨_, rfl⟩
  have g3 : w3.heap[w2.heap.size]? = some (.cells [Value.int .i64 pk, .int .i64 nonce, .string url, .string body, .int .i64 0, .int .i64 0, .int .i64 0].toArray 34 (0, 0)) := by rw [hw3]; exact heap_alloc_new w2 _
  have bb3 : Below w2.heap.size w2 w3 := by rw [hw3]; exact (Below.refl _ _).alloc (Nat.le_refl _) _
  have B2 : Hid (Below w1.heap.size w1 w2) := b2
  have B3 : Hid (Below w2.heap.size w2 w3) := bb3
  have G3 : Hid _ := g3
  have d0 := rowFacts g3 0 _ rfl
  have d1 := rowFacts g3 1 _ rfl
  have d2 := rowFacts g3 2 _ rfl
  have d3 := rowFacts g3 3 _ rfl
  have d4 := rowFacts g3 4 _ rfl
  have d5 := rowFacts g3 5 _ rfl
  have d6 := rowFacts g3 6 _ rfl
  clear b2 bb3 g3
  go_upto_region 4 with fail
  rw [← hw3]
  clear hw3
  go_wp2_with fail
  refine (HH.out _).mono ?_
  rintro e w4 ⟨rfl, b4⟩
  have B4 : Hid (Below w2.heap.size w2 w4) := B3.out.trans (b4.mono B3.out.size)
  have G4 : Hid _ := (b4.block _ (heap_lt G3.out)).trans G3.out
  clear b4 d0 d1 d2 d3 d4 d5 d6 G3 B3 HH
  go_wp2_with fail
  refine (HG.out _).mono ?_
  rintro e w5 ⟨rfl, b5⟩
  have B5 : Hid (Below w2.heap.size w2 w5) := B4.out.trans (b5.mono B4.out.size)
  have g5 := (b5.block _ (heap_lt G4.out)).trans G4.out
  have p4 := rowFacts g5 4 _ rfl
  have p5 := rowFacts g5 5 _ rfl
  have p6 := rowFacts g5 6 _ rfl
  have q4 := rowFree g5 4
  have q5 := rowFree g5 5
  have q6 := rowFree g5 6
  obtain ⟨w6, hw6⟩ : ∃ y, y = (((w5.setCell ⟨w2.heap.size, 4, none⟩ (.int .i64 pk)).setCell ⟨w2.heap.size, 5, none⟩ (.int .i64 (E : Int))).setCell ⟨w2.heap.size, 6, none⟩ (.int .i64 (SS : Int))) := ⟨_, rfl⟩
  have g6 : w6.heap[w2.heap.size]? = some (.cells [Value.int .i64 pk, .int .i64 nonce, .string url, .string body, .int .i64 pk, .int .i64 E, .int .i64 SS].toArray 34 (0, 0)) := by rw [hw6]; exact rowSet (i := 6) _ (rowSet (i := 5) _ (rowSet (i := 4) _ g5))
  have B6 : Hid (Below w2.heap.size w2 w6) := by rw [hw6]; exact ((B5.out.setCell (Nat.le_refl _) _).setCell (Nat.le_refl _) _).setCell (Nat.le_refl _) _
  have G6 : Hid _ := g6
  clear g5 b5 G4 B4 B5 HG g6
  go_upto_region 5 with fail
  rw [← hw6]
  clear hw6 p4 p5 p6 q4 q5 q6
  have d0 := rowFacts G6.out 0 _ rfl
  have d1 := rowFacts G6.out 1 _ rfl
  have d2 := rowFacts G6.out 2 _ rfl
  have d3 := rowFacts G6.out 3 _ rfl
  have d4 := rowFacts G6.out 4 _ rfl
  have d5 := rowFacts G6.out 5 _ rfl
  have d6 := rowFacts G6.out 6 _ rfl
  go_wp2_with fail
  refine (HX.out _).mono ?_
  rintro e w7 ⟨rfl, b7⟩
  have B7 : Hid (Below w1.heap.size w1 w7) := B2.out.trans ((B6.out.trans (b7.mono B6.out.size)).mono B2.out.size)
  clear b7 d0 d1 d2 d3 d4 d5 d6
  go_wp2
  go_ret
  exact ⟨rfl, B7.out⟩
end Go.Proofs.YtdehbaafbbjcgaaGreatDoor
namespace Go.Proofs.YtdehbaafbbjcgaaGreatDoor
open Go.RowKit

/-- These blocks hold these cells. -/
def HasB (w : World) (l : List (Nat × List Value × TypeId)) : Prop := ∀ p ∈ l, w.heap[p.1]? = some (.cells p.2.1.toArray p.2.2 (0, 0))
theorem HasB.nil (w : World) : HasB w [] := fun p hp => by cases hp
theorem HasB.head {w : World} {b : Nat} {cs : List Value} {t : TypeId} {l : List (Nat × List Value × TypeId)} (h : HasB w ((b, cs, t) :: l)) : w.heap[b]? = some (.cells cs.toArray t (0, 0)) := h (b, cs, t) (List.mem_cons_self ..)
theorem HasB.tail {w : World} {p : Nat × List Value × TypeId} {l : List (Nat × List Value × TypeId)} (h : HasB w (p :: l)) : HasB w l := fun q hq => h q (List.mem_cons_of_mem _ hq)
theorem HasB.cons {w : World} {b : Nat} {cs : List Value} {t : TypeId} {l : List (Nat × List Value × TypeId)} (h : HasB w l) (hb : w.heap[b]? = some (.cells cs.toArray t (0, 0))) : HasB w ((b, cs, t) :: l) := fun q hq => by
  rcases List.mem_cons.1 hq with rfl | hq
  · exact hb
  · exact h q hq
theorem HasB.keep {w w' : World} {l : List (Nat × List Value × TypeId)} (h : HasB w l) (hb : Below w.heap.size w w') : HasB w' l := fun p hp => by
  rw [hb.block _ (heap_lt (h p hp))]; exact h p hp
theorem HasB.alloc {w : World} {l : List (Nat × List Value × TypeId)} (h : HasB w l) (cs : List Value) (t : TypeId) : HasB (w.alloc (.cells cs.toArray t (0, 0))) ((w.heap.size, cs, t) :: l) :=
  (h.keep ((Below.refl _ w).alloc (Nat.le_refl _) _)).cons (heap_alloc_new w _)
/-- A store into the first of them; it is none of the others. -/
theorem HasB.put {w : World} {b : Nat} {cs : List Value} {t : TypeId} {l : List (Nat × List Value × TypeId)} (h : HasB w ((b, cs, t) :: l)) (hn : ∀ p ∈ l, p.1 ≠ b) (k : Nat) (v : Value) : HasB (w.setCell ⟨b, k, none⟩ v) ((b, cs.set k v, t) :: l) :=
  HasB.cons (fun p hp => by rw [heap_setCell_other w _ _ _ (hn p hp)]; exact h.tail p hp) (rowSet _ h.head)
theorem HasB.lt {w : World} {l : List (Nat × List Value × TypeId)} (h : HasB w l) : ∀ p ∈ l, p.1 < w.heap.size := fun p hp => heap_lt (h p hp)
end Go.Proofs.YtdehbaafbbjcgaaGreatDoor
