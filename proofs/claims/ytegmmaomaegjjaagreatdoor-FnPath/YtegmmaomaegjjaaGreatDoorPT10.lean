/- spec.SignText, walked. spec.CertSign, walked. What SignText hands back has three numbers. Plain mathematics: no program is named here. What is known of a paper as the draws make it. Plain. A paper in a variable, as the draws make it. -/
import Derived.Test.YtegmmaomaegjjaaGreatDoorPT09
import Derived.Test.YtegmmaomaegjjaaGreatDoorPT05
import Derived.Test.YtegmmaomaegjjaaGreatDoorPT02
import Derived.Test.YtegmmaomaegjjaaGreatDoorPT06
import Derived.Test.YtegmmaomaegjjaaGreatDoorPT08
import Derived.Test.YtegmmaomaegjjaaGreatDoorPT03
import Derived.Deep.Cut
namespace Go.Proofs.YtegmmaomaegjjaaGreatDoor
open Go.RowKit

set_option maxHeartbeats 1000000 in
set_option maxRecDepth 100000 in
theorem specSign (x : Int) (t : ByteArray) (w : World) (ht : t.size ≤ maxLen) :
    Calls Tryz.prog 53 #[.int .i64 x, .string t] w fun e w' => e = .returned (signV x t) ∧ Below w.heap.size w w' := by
  have htm := ht
  unfold maxLen at htm
  by_cases h1 : 20000 < t.size
  · have ea : Hid (signV x t = sigV 0 0 0) := signV_no (by omega)
    go_enter Tryz.func53, Tryz.ntmps53
    go_wp2
    go_returns
    exact ⟨by rw [ea.out]; rfl, allocBelow _ _⟩
  by_cases h2 : secB x = true
  · obtain ⟨n, rfl, n1, n2⟩ := secB_nat h2
    have ea : Hid (signV n t = sigV ((pm 4 n 2147483579 : Nat) : Int) (signE n t) (signS n t)) := signV_nat (by omega) h2
    have ht2 : t.size ≤ 20000 := by omega
    have hpk := powK_lt n t
    have he := chal_lt ((pm 4 (powK n t) 2147483579 : Nat) : Int) ((pm 4 n 2147483579 : Nat) : Int) t
    have q1 := pm_lt 4 n (m := 2147483579) (by omega)
    have q2 := pm_lt 4 (powK n t) (m := 2147483579) (by omega)
    have s2 := putS_size n
    have P2 : Hid (∀ v : World, Calls Tryz.prog 85 #[.int .i64 (n : Int)] v fun e w' => e = .returned (.string (putS n)) ∧ Below v.heap.size v w') := fun v => specPut n v (by omega) (by omega)
    obtain ⟨pS, hp⟩ : ∃ p : ByteArray, putS n = p := ⟨_, rfl⟩
    have l2 := powK_eq n t pS hp
    rw [hp] at s2 P2
    obtain ⟨q, hq⟩ : ∃ q : ByteArray, ⟨#[75]⟩ ++ pS = q := ⟨_, rfl⟩
    rw [hq] at l2
    have sq : q.size ≤ 100 := by rw [← hq, size_append, show (ByteArray.mk #[75]).size = 1 from rfl]; omega
    have sqt : (q ++ t).size = q.size + t.size := size_append q t
    have N2 : Hid (∀ v : World, Calls Tryz.prog 84 #[.string (q ++ t)] v fun e w' => e = .returned (.int .i64 (dnum (q ++ t) : Nat)) ∧ Below v.heap.size v w') := fun v => specNum (q ++ t) v (by omega)
    have ld := dnum_lt (q ++ t)
    have S2 : Hid (∀ v : World, Calls Tryz.prog 12 #[.int .i64 (n : Int)] v fun e w' => e = .returned (.int .i64 ((pm 4 n 2147483579 : Nat) : Int)) ∧ w' = v) := fun v => by rw [← pubA_nat n h2]; exact specPublic n v
    have S3 : Hid (∀ v : World, Calls Tryz.prog 48 #[.int .i64 4, .int .i64 (powK n t : Nat), .int .i64 2147483579] v fun e w' => e = .returned (.int .i64 ((pm 4 (powK n t) 2147483579 : Nat) : Int)) ∧ w' = v) := fun v => specPow 4 (powK n t) 2147483579 v (by omega) (by omega) (by omega)
    have S4 : Hid (∀ v : World, Calls Tryz.prog 86 #[.int .i64 ((pm 4 (powK n t) 2147483579 : Nat) : Int), .int .i64 ((pm 4 n 2147483579 : Nat) : Int), .string t] v fun e w' => e = .returned (.int .i64 (signE n t : Nat)) ∧ Below v.heap.size v w') := fun v => specChal _ _ t v ht2 (by omega) (by omega) (by omega) (by omega)
    have S5 : Hid ((powK n t + signE n t * n) % 1073741789 = signS n t) := rfl
    change signE n t < 1073741789 at he
    generalize signS n t = s at *
    generalize signE n t = e at *
    generalize pm 4 (powK n t) 2147483579 = y at *
    generalize powK n t = k at *
    generalize pm 4 n 2147483579 = key at *
    generalize dnum (q ++ t) = d at *
    obtain ⟨p, hp', ep, lp, up⟩ := prod_bd e n (by omega) (by omega)
    have t0 : (p : Int).tmod 1073741789 = ((p % 1073741789 : Nat) : Int) := tmodN p 1073741789
    have hm := Nat.mod_lt p (show 0 < 1073741789 by omega)
    have t1 : ((k : Int) + ((p % 1073741789 : Nat) : Int)).tmod 1073741789 = (s : Int) := by
      have h := S5.out
      rw [← hp'] at h
      rw [← h, show (k : Int) + ((p % 1073741789 : Nat) : Int) = ((k + p % 1073741789 : Nat) : Int) from by omega]
      have h3 := tmodN (k + p % 1073741789) 1073741789
      rw [Nat.add_mod_mod] at h3
      exact h3
    generalize p % 1073741789 = pq at *
    have t3 : (d : Int).tmod 1073741788 = ((d % 1073741788 : Nat) : Int) := tmodN d 1073741788
    have hdm := Nat.mod_lt d (show 0 < 1073741788 by omega)
    generalize d % 1073741788 = m at *
    have hk1 : (1 : Int) + (m : Int) = (k : Int) := by omega
    have hm' : (m : Int) < 1073741788 := by omega
    have hpq' : (pq : Int) < 1073741789 := by omega
    have hk' : (k : Int) < 1073741789 := by omega
    have F1 : Hid ((d : Int).tmod 1073741788 = (m : Int) ∧ (1 : Int) + (m : Int) = (k : Int) ∧ (m : Int) < 1073741788) := ⟨t3, hk1, hm'⟩
    have F2 : Hid ((e : Int) * (n : Int) = (p : Int) ∧ ((0 : Int) ≤ (p : Int) ∧ (p : Int) ≤ 4611686018427387904) ∧ (p : Int).tmod 1073741789 = (pq : Int) ∧ ((k : Int) + (pq : Int)).tmod 1073741789 = (s : Int) ∧ (pq : Int) < 1073741789 ∧ (k : Int) < 1073741789) := ⟨ep, ⟨lp, up⟩, t0, t1, hpq', hk'⟩
    clear S5 hp hp' l2 hdm hm ld q1 q2 t3 hk1 hm' ep lp up t0 t1 hpq' hk' hpk he
    go_enter Tryz.func53, Tryz.ntmps53
    go_wp2_with fail
    refine (specSecret n _).mono ?_
    rintro e1 w' ⟨rfl, rfl⟩
    rw [h2]
    go_wp2_with fail
    obtain ⟨w0, hw0⟩ : ∃ w0, w.alloc (.cells #[.int .i64 0, .int .i64 0, .int .i64 0] 25 (0, 0)) = w0 := ⟨_, rfl⟩
    have hg0 : w0.heap[w.heap.size]? = some (.cells #[.int .i64 0, .int .i64 0, .int .i64 0] 25 (0, 0)) := by rw [← hw0]; exact heap_alloc_new w _
    have hb0 : Below w.heap.size w w0 := by rw [← hw0]; exact allocBelow w _
    have hs0 : w0.heap.size = w.heap.size + 1 := by rw [← hw0]; simp
    rw [hw0]
    have G0 : Hid (w0.heap[w.heap.size]? = some (.cells #[.int .i64 0, .int .i64 0, .int .i64 0] 25 (0, 0))) := hg0
    have B0 : Hid (Below w.heap.size w w0) := hb0
    have HS0 : Hid (w0.heap.size = w.heap.size + 1) := hs0
    clear hg0 hb0 hw0 hs0
    refine (P2.out w0).mono ?_
    rintro e1 w1 ⟨rfl, hb1⟩
    have b1 : Hid (Below w0.heap.size w0 w1) := hb1
    have z1 := b1.out.size
    clear hb1
    go_wp2_with fail
    refine (N2.out _).mono ?_
    rintro e1 w2 ⟨rfl, hb2⟩
    have b2 : Hid (Below w0.heap.size w0 w2) := b1.out.trans (hb2.mono z1)
    have z2 := b2.out.size
    clear hb2
    obtain ⟨t3, hk1, hm'⟩ := F1.out
    go_wp2_with fail
    refine (S2.out _).mono ?_
    rintro e1 w3 ⟨rfl, rfl⟩
    clear t3 hk1 hm' F1
    go_wp2_with fail
    refine (S3.out _).mono ?_
    rintro e1 w3 ⟨rfl, rfl⟩
    go_wp2_with fail
    refine (S4.out _).mono ?_
    rintro e1 w4 ⟨rfl, hb4⟩
    have b4 : Hid (Below w0.heap.size w0 w4) := b2.out.trans (hb4.mono z2)
    clear hb4
    have hg4 : w4.heap[w.heap.size]? = some (.cells [.int .i64 0, .int .i64 0, .int .i64 0].toArray 25 (0, 0)) := by
      rw [b4.out.block w.heap.size (by rw [HS0.out]; omega)]; exact G0.out
    have c0 := rowFacts hg4 0 (.int .i64 0) rfl
    have c1 := rowFacts hg4 1 (.int .i64 0) rfl
    have c2 := rowFacts hg4 2 (.int .i64 0) rfl
    have f0 := frozen_of_row w4 _ 0 _ _ hg4
    have f1 := frozen_of_row w4 _ 1 _ _ hg4
    have f2 := frozen_of_row w4 _ 2 _ _ hg4
    have BB : Hid (∀ a b c, Below w.heap.size w (((w4.setCell ⟨w.heap.size, 0, none⟩ a).setCell ⟨w.heap.size, 1, none⟩ b).setCell ⟨w.heap.size, 2, none⟩ c)) := fun a b c =>
      (((B0.out.trans (b4.out.mono B0.out.size)).setCell (Nat.le_refl _) a).setCell (Nat.le_refl _) b).setCell (Nat.le_refl _) c
    have G4 : Hid (w4.heap[w.heap.size]? = some (.cells [.int .i64 0, .int .i64 0, .int .i64 0].toArray 25 (0, 0))) := hg4
    clear hg4 b1 b2 b4 S2 S3 S4 P2 N2 HS0 B0 G0 z1 z2
    obtain ⟨ep, ⟨lp, up⟩, t0, t1, hpq', hk'⟩ := F2.out
    clear F2
    go_wp2
    refine bodyPost_ret (v := sigV key e s) ?_ rfl ⟨by rw [ea.out], BB.out _ _ _⟩
    have hrow := sigRow G4.out (.int .i64 (key : Int)) (.int .i64 (e : Int)) (.int .i64 (s : Int))
    have hl3 := run_loadVar_mid (P := Tryz.prog) _ w.heap.size 0 25 _ _ (rangeRow hrow) Tryz.underlying25 rfl sizeSig
    simp [results, Tryz.results53, asAddr, hl3, sigV]
  · rw [Bool.not_eq_true] at h2
    have ea : Hid (signV x t = sigV 0 0 0) := signV_no (by rw [h2]; simp)
    go_enter Tryz.func53, Tryz.ntmps53
    go_wp2_with fail
    refine (specSecret x _).mono ?_
    rintro e w' ⟨rfl, rfl⟩
    rw [h2]
    go_wp2
    go_returns
    exact ⟨by rw [ea.out]; rfl, allocBelow _ _⟩
end Go.Proofs.YtegmmaomaegjjaaGreatDoor
namespace Go.Proofs.YtegmmaomaegjjaaGreatDoor
open Go.RowKit

theorem zero_one : ∀ v ∈ [Value.int .i64 0, .string ⟨#[]⟩, .string ⟨#[]⟩, .int .i64 0, .int .i64 0, .int .i64 0, .slice none 0 0, .bool false, .int .i64 0, .int .i64 0, .int .i64 0], v.oneCell' = true := by simp [Value.oneCell']
theorem size11 : (Tryz.prog.info? 27).map (·.size) = some [Value.int .i64 0, .string ⟨#[]⟩, .string ⟨#[]⟩, .int .i64 0, .int .i64 0, .int .i64 0, .slice none 0 0, .bool false, .int .i64 0, .int .i64 0, .int .i64 0].length := sizeCert
set_option maxHeartbeats 4000000 in
set_option maxRecDepth 100000 in
theorem specSignR (x : Int) (c : Paper) (a : Option Addr) (cap : Nat) (k e s : Int) (w : World) (hi : c.issuer.size ≤ maxLen) (hs : c.subject.size ≤ maxLen) (hl : c.names.length ≤ 1048576) (ht : totS c.names c.names.length ≤ 1048576) (ha : IsStrs w a c.names)
    (hc : paperB c = true → RowT w a cap c.names)
    (hv : secB x = true → paperB c = true → signV x (bodyD c) = .agg #[.int .i64 k, .int .i64 e, .int .i64 s]) :
    Calls Tryz.prog 19 #[.int .i64 x, c.val (.slice a c.names.length cap)] w fun r w' => ∃ v, r = .returned ((signP x c k e s).val v) ∧ OwnS w' w.heap.size v (signP x c k e s).names ∧ Below w.heap.size w w' ∧ (v = .slice none 0 0 → signP x c k e s = zeroP) := by
  have HP : Hid (∀ V a' cap', IsStrs V a' c.names → Calls Tryz.prog 51 #[c.val (.slice a' c.names.length cap')] V fun e w' => e = .returned (.bool (paperB c)) ∧ Below V.heap.size V w') := fun V a' cap' hV => specPaper c a' cap' V hi hs hl ht hV
  have HCp : Hid (paperB c = true → ∀ V, Below w.heap.size w V → Calls Tryz.prog 52 #[c.val (.slice a c.names.length cap)] V fun e w' => ∃ v, e = .returned (c.val v) ∧ OwnS w' V.heap.size v c.names ∧ Below V.heap.size V w' ∧ v ≠ .slice none 0 0) := fun hp V hV => by
    exact specCopyR c a cap V hl ((hc hp).keep hV)
  have HBo : Hid (paperB c = true → ∀ V a' cap', IsStrs V a' c.names → Calls Tryz.prog 54 #[c.val (.slice a' c.names.length cap')] V fun e w' => e = .returned (.string (bodyD c)) ∧ Below V.heap.size V w') := fun h V a' cap' hV => specBody c a' cap' V (paper_fits h) hV
  have HSg : Hid (secB x = true → paperB c = true → ∀ V, Calls Tryz.prog 53 #[.int .i64 x, .string (bodyD c)] V fun r w' => r = .returned (.agg #[.int .i64 k, .int .i64 e, .int .i64 s]) ∧ Below V.heap.size V w') := fun h1 h2 V => by
    have := specSign x (bodyD c) V (by have := bodyD_le (paper_fits h2); unfold maxLen; omega)
    rw [hv h1 h2] at this
    exact this
  have HY : Hid (secB x = true → paperB c = true → signP x c k e s = ⟨c.serial, c.issuer, c.subject, c.fr, c.till, c.key, c.names, c.ca, k, e, s⟩) := fun h1 h2 => signP_yes h1 h2 k e s
  have HNo : Hid (secB x = false ∨ paperB c = false → signP x c k e s = zeroP) := fun h => signP_no h k e s
  generalize signP x c k e s = R at *
  generalize paperB c = P at *
  generalize bodyD c = D at *
  clear hi hs ht hc hv
  obtain ⟨ser, iss, sub, fr, till, key, names, ca, sk, se, ss⟩ := c
  unfold Paper.val at HP HCp HBo
  simp only at HP HCp HBo HY hl ha
  show Calls _ _ #[.int .i64 x, .agg #[.int .i64 ser, .string iss, .string sub, .int .i64 fr, .int .i64 till, .int .i64 key, .slice a names.length cap, .bool ca, .int .i64 sk, .int .i64 se, .int .i64 ss]] _ _
  obtain ⟨nl, hnl⟩ : ∃ nl, nl = names.length := ⟨_, rfl⟩
  rw [← hnl] at HP HCp HBo ⊢
  have HNl : Hid (nl = names.length) := hnl
  clear hnl
  obtain ⟨w1, hw1⟩ : ∃ w1, w1 = (w.alloc (.cells #[.int .i64 ser, .string iss, .string sub, .int .i64 fr, .int .i64 till, .int .i64 key, .slice a nl cap, .bool ca, .int .i64 sk, .int .i64 se, .int .i64 ss] 27 (0, 0))).alloc (.cells #[.int .i64 0, .string ⟨#[]⟩, .string ⟨#[]⟩, .int .i64 0, .int .i64 0, .int .i64 0, .slice none 0 0, .bool false, .int .i64 0, .int .i64 0, .int .i64 0] 27 (0, 0)) := ⟨_, rfl⟩
  have r0 : w1.heap[w.heap.size]? = some (.cells [Value.int .i64 ser, .string iss, .string sub, .int .i64 fr, .int .i64 till, .int .i64 key, .slice a nl cap, .bool ca, .int .i64 sk, .int .i64 se, .int .i64 ss].toArray 27 (0, 0)) := by rw [hw1, Below.heap_alloc _ _ _ (by simp)]; exact heap_alloc_new w _
  have r1 : w1.heap[w.heap.size + 1]? = some (.cells [Value.int .i64 0, .string ⟨#[]⟩, .string ⟨#[]⟩, .int .i64 0, .int .i64 0, .int .i64 0, .slice none 0 0, .bool false, .int .i64 0, .int .i64 0, .int .i64 0].toArray 27 (0, 0)) := by rw [hw1]; exact heap_alloc2 w _ _
  have K1 : Hid (Below w.heap.size w w1) := by rw [hw1]; exact ((Below.refl _ _).alloc (Nat.le_refl _) _).alloc (by simp) _
  have A1 : Hid (IsStrs w1 a names) := ha.keep K1.out
  clear ha hl
  go_enter Tryz.func19, Tryz.ntmps19
  go_upto_region 1 with fail
  rw [← hw1]
  clear hw1
  go_wp2_with fail
  refine (specSecret x _).mono ?_
  rintro r w1' ⟨rfl, rfl⟩
  have R0 : Hid _ := r0
  have R1 : Hid _ := r1
  cases hx : secB x with
  | false =>
    have HF : Hid (R = zeroP) := HNo.out (.inl hx)
    have hR := R1.out
    have h1 := zero_one
    clear r0 r1
    go_wp2_with (refine wpList_store_row rfl 27 _ _ rfl (w.heap.size + 1) _ [Value.int .i64 0, .string ⟨#[]⟩, .string ⟨#[]⟩, .int .i64 0, .int .i64 0, .int .i64 0, .slice none 0 0, .bool false, .int .i64 0, .int .i64 0, .int .i64 0] 27 rfl rfl hR rfl size11 h1 ?_)
    intro w8 hrow ho hs8 hbb
    have HROW : Hid _ := hrow
    have HB8 : Hid (Below w.heap.size w w8) := hbb _ _ (by omega) K1.out
    clear ho hs8 hbb hrow hR h1
    go_wp2
    refine bodyPost_ret (v := .agg [Value.int .i64 0, .string ⟨#[]⟩, .string ⟨#[]⟩, .int .i64 0, .int .i64 0, .int .i64 0, .slice none 0 0, .bool false, .int .i64 0, .int .i64 0, .int .i64 0].toArray) ?_ rfl ⟨.slice none 0 0, by rw [HF.out]; rfl, by rw [HF.out]; exact ownS_nil _ _, HB8.out, fun _ => HF.out⟩
    have hl3 := run_loadVar_mid (P := Tryz.prog) _ (w.heap.size + 1) 0 27 _ _ (rangeRow HROW.out) Tryz.underlying27 rfl size11
    simp [results, Tryz.results19, asAddr, hl3]
  | true =>
    have c0 := rowFacts R0.out 0 _ rfl
    have c1 := rowFacts R0.out 1 _ rfl
    have c2 := rowFacts R0.out 2 _ rfl
    have c3 := rowFacts R0.out 3 _ rfl
    have c4 := rowFacts R0.out 4 _ rfl
    have c5 := rowFacts R0.out 5 _ rfl
    have c6 := rowFacts R0.out 6 _ rfl
    have c7 := rowFacts R0.out 7 _ rfl
    have c8 := rowFacts R0.out 8 _ rfl
    have c9 := rowFacts R0.out 9 _ rfl
    have c10 := rowFacts R0.out 10 _ rfl
    clear r0 r1
    go_wp2_with fail
    refine (HP.out _ _ _ A1.out).mono ?_
    rintro r w2 ⟨rfl, b2⟩
    have K2 : Hid (Below w.heap.size w w2) := K1.out.trans (b2.mono K1.out.size)
    have S0 : Hid (w2.heap[w.heap.size]? = some (.cells [Value.int .i64 ser, .string iss, .string sub, .int .i64 fr, .int .i64 till, .int .i64 key, .slice a nl cap, .bool ca, .int .i64 sk, .int .i64 se, .int .i64 ss].toArray 27 (0, 0))) := by show _ = _; rw [b2.block _ (heap_lt R0.out)]; exact R0.out
    have S1 : Hid (w2.heap[w.heap.size + 1]? = some (.cells [Value.int .i64 0, .string ⟨#[]⟩, .string ⟨#[]⟩, .int .i64 0, .int .i64 0, .int .i64 0, .slice none 0 0, .bool false, .int .i64 0, .int .i64 0, .int .i64 0].toArray 27 (0, 0))) := by show _ = _; rw [b2.block _ (heap_lt R1.out)]; exact R1.out
    clear b2 c0 c1 c2 c3 c4 c5 c6 c7 c8 c9 c10 R0 R1 K1 A1 HP
    have R1 : Hid (w2.heap[w.heap.size + 1]? = some (.cells [Value.int .i64 0, .string ⟨#[]⟩, .string ⟨#[]⟩, .int .i64 0, .int .i64 0, .int .i64 0, .slice none 0 0, .bool false, .int .i64 0, .int .i64 0, .int .i64 0].toArray 27 (0, 0))) := S1
    cases P with
    | false =>
      have HF : Hid (R = zeroP) := HNo.out (.inr rfl)
      have hR := R1.out
      have h1 := zero_one
      go_wp2_with (refine wpList_store_row rfl 27 _ _ rfl (w.heap.size + 1) _ [Value.int .i64 0, .string ⟨#[]⟩, .string ⟨#[]⟩, .int .i64 0, .int .i64 0, .int .i64 0, .slice none 0 0, .bool false, .int .i64 0, .int .i64 0, .int .i64 0] 27 rfl rfl hR rfl size11 h1 ?_)
      intro w8 hrow ho hs8 hbb
      have HROW : Hid _ := hrow
      have HB8 : Hid (Below w.heap.size w w8) := hbb _ _ (by omega) K2.out
      clear ho hs8 hbb hrow hR h1
      go_wp2
      refine bodyPost_ret (v := .agg [Value.int .i64 0, .string ⟨#[]⟩, .string ⟨#[]⟩, .int .i64 0, .int .i64 0, .int .i64 0, .slice none 0 0, .bool false, .int .i64 0, .int .i64 0, .int .i64 0].toArray) ?_ rfl ⟨.slice none 0 0, by rw [HF.out]; rfl, by rw [HF.out]; exact ownS_nil _ _, HB8.out, fun _ => HF.out⟩
      have hl3 := run_loadVar_mid (P := Tryz.prog) _ (w.heap.size + 1) 0 27 _ _ (rangeRow HROW.out) Tryz.underlying27 rfl size11
      simp [results, Tryz.results19, asAddr, hl3]
    | true =>
      have hY := HY.out hx rfl
      have HF : Hid (R = ⟨ser, iss, sub, fr, till, key, names, ca, k, e, s⟩) := hY
      have B' := HBo.out rfl
      have HBo' : Hid _ := B'
      have G' := HSg.out hx rfl
      have HSg' : Hid _ := G'
      clear HY HNo HBo HSg hY B' G' R1
      have c0 := rowFacts S0.out 0 _ rfl
      have c1 := rowFacts S0.out 1 _ rfl
      have c2 := rowFacts S0.out 2 _ rfl
      have c3 := rowFacts S0.out 3 _ rfl
      have c4 := rowFacts S0.out 4 _ rfl
      have c5 := rowFacts S0.out 5 _ rfl
      have c6 := rowFacts S0.out 6 _ rfl
      have c7 := rowFacts S0.out 7 _ rfl
      have c8 := rowFacts S0.out 8 _ rfl
      have c9 := rowFacts S0.out 9 _ rfl
      have c10 := rowFacts S0.out 10 _ rfl
      go_wp2_with fail
      refine (HCp.out (by trivial) _ K2.out).mono ?_
      rintro r w3 ⟨v, rfl, o3, b3, hvn⟩
      have K3 : Hid (Below w.heap.size w w3) := K2.out.trans (b3.mono K2.out.size)
      have T0 : Hid (w3.heap[w.heap.size]? = some (.cells [Value.int .i64 ser, .string iss, .string sub, .int .i64 fr, .int .i64 till, .int .i64 key, .slice a nl cap, .bool ca, .int .i64 sk, .int .i64 se, .int .i64 ss].toArray 27 (0, 0))) := by show _ = _; rw [b3.block _ (heap_lt S0.out)]; exact S0.out
      have T1 : Hid (w3.heap[w.heap.size + 1]? = some (.cells [Value.int .i64 0, .string ⟨#[]⟩, .string ⟨#[]⟩, .int .i64 0, .int .i64 0, .int .i64 0, .slice none 0 0, .bool false, .int .i64 0, .int .i64 0, .int .i64 0].toArray 27 (0, 0))) := by show _ = _; rw [b3.block _ (heap_lt S1.out)]; exact S1.out
      have zz : w.heap.size + 2 ≤ w2.heap.size := by have := heap_lt S1.out; omega
      have O3 : Hid (OwnS w3 (w.heap.size + 2) v names) := o3.mono zz
      obtain ⟨va, vc, hv', _⟩ := OwnS.form o3
      rw [← HNl.out] at hv'
      subst hv'
      have HVN : Hid (Value.slice va nl vc ≠ .slice none 0 0) := hvn
      clear hvn
      clear b3 c0 c1 c2 c3 c4 c5 c6 c7 c8 c9 c10 S0 S1 K2 HCp o3 zz
      have hR0 := T0.out
      have hone1 : ∀ v ∈ [Value.int .i64 ser, .string iss, .string sub, .int .i64 fr, .int .i64 till, .int .i64 key, .slice va nl vc, .bool ca, .int .i64 sk, .int .i64 se, .int .i64 ss], v.oneCell' = true := by simp [Value.oneCell']
      go_wp2_with (refine wpList_store_row rfl 27 _ _ rfl (w.heap.size) _ [Value.int .i64 ser, .string iss, .string sub, .int .i64 fr, .int .i64 till, .int .i64 key, .slice va nl vc, .bool ca, .int .i64 sk, .int .i64 se, .int .i64 ss] 27 rfl rfl hR0 rfl sizeCert hone1 ?_)
      intro w4 hrow4 ho4 hs4 hbb4
      have K4 : Hid (Below w.heap.size w w4) := hbb4 _ _ (by omega) K3.out
      have S0 : Hid (w4.heap[w.heap.size]? = some (.cells [Value.int .i64 ser, .string iss, .string sub, .int .i64 fr, .int .i64 till, .int .i64 key, .slice va nl vc, .bool ca, .int .i64 sk, .int .i64 se, .int .i64 ss].toArray 27 (0, 0))) := hrow4
      have S1 : Hid (w4.heap[w.heap.size + 1]? = some (.cells [Value.int .i64 0, .string ⟨#[]⟩, .string ⟨#[]⟩, .int .i64 0, .int .i64 0, .int .i64 0, .slice none 0 0, .bool false, .int .i64 0, .int .i64 0, .int .i64 0].toArray 27 (0, 0))) := by show _ = _; rw [ho4 _ (by omega)]; exact T1.out
      have O4 : Hid (OwnS w4 (w.heap.size + 2) (.slice va nl vc) names) := O3.out.same fun b h1 h2 => ho4 b (by omega)
      clear hrow4 ho4 hs4 hbb4 T0 T1 K3 O3 hR0 hone1
      have c0 := rowFacts S0.out 0 _ rfl
      have c1 := rowFacts S0.out 1 _ rfl
      have c2 := rowFacts S0.out 2 _ rfl
      have c3 := rowFacts S0.out 3 _ rfl
      have c4 := rowFacts S0.out 4 _ rfl
      have c5 := rowFacts S0.out 5 _ rfl
      have c6 := rowFacts S0.out 6 _ rfl
      have c7 := rowFacts S0.out 7 _ rfl
      have c8 := rowFacts S0.out 8 _ rfl
      have c9 := rowFacts S0.out 9 _ rfl
      have c10 := rowFacts S0.out 10 _ rfl
      go_wp2_with fail
      refine (HBo'.out _ _ _ (OwnS.strs O4.out)).mono ?_
      rintro r w5 ⟨rfl, b5⟩
      have K5 : Hid (Below w.heap.size w w5) := K4.out.trans (b5.mono K4.out.size)
      have T0 : Hid (w5.heap[w.heap.size]? = some (.cells [Value.int .i64 ser, .string iss, .string sub, .int .i64 fr, .int .i64 till, .int .i64 key, .slice va nl vc, .bool ca, .int .i64 sk, .int .i64 se, .int .i64 ss].toArray 27 (0, 0))) := by show _ = _; rw [b5.block _ (heap_lt S0.out)]; exact S0.out
      have T1 : Hid (w5.heap[w.heap.size + 1]? = some (.cells [Value.int .i64 0, .string ⟨#[]⟩, .string ⟨#[]⟩, .int .i64 0, .int .i64 0, .int .i64 0, .slice none 0 0, .bool false, .int .i64 0, .int .i64 0, .int .i64 0].toArray 27 (0, 0))) := by show _ = _; rw [b5.block _ (heap_lt S1.out)]; exact S1.out
      have O5 : Hid (OwnS w5 (w.heap.size + 2) (.slice va nl vc) names) := O4.out.keep b5
      clear b5 c0 c1 c2 c3 c4 c5 c6 c7 c8 c9 c10 S0 S1 K4 O4 HBo'
      go_wp2_with fail
      refine (HSg'.out _).mono ?_
      rintro r w6 ⟨rfl, b6⟩
      have K6 : Hid (Below w.heap.size w w6) := K5.out.trans (b6.mono K5.out.size)
      have r0 : w6.heap[w.heap.size]? = some (.cells [Value.int .i64 ser, .string iss, .string sub, .int .i64 fr, .int .i64 till, .int .i64 key, .slice va nl vc, .bool ca, .int .i64 sk, .int .i64 se, .int .i64 ss].toArray 27 (0, 0)) := by rw [b6.block _ (heap_lt T0.out)]; exact T0.out
      have r1 : w6.heap[w.heap.size + 1]? = some (.cells [Value.int .i64 0, .string ⟨#[]⟩, .string ⟨#[]⟩, .int .i64 0, .int .i64 0, .int .i64 0, .slice none 0 0, .bool false, .int .i64 0, .int .i64 0, .int .i64 0].toArray 27 (0, 0)) := by rw [b6.block _ (heap_lt T1.out)]; exact T1.out
      have O6 : Hid (OwnS w6 (w.heap.size + 2) (.slice va nl vc) names) := O5.out.keep b6
      clear b6 T0 T1 K5 O5 HSg'
      obtain ⟨w7, hw7⟩ : ∃ y, y = ((w6.setCell ⟨w.heap.size, 8, none⟩ (.int .i64 k)).setCell ⟨w.heap.size, 9, none⟩ (.int .i64 e)).setCell ⟨w.heap.size, 10, none⟩ (.int .i64 s) := ⟨_, rfl⟩
      have t0 : w7.heap[w.heap.size]? = some (.cells [Value.int .i64 ser, .string iss, .string sub, .int .i64 fr, .int .i64 till, .int .i64 key, .slice va nl vc, .bool ca, .int .i64 k, .int .i64 e, .int .i64 s].toArray 27 (0, 0)) := by rw [hw7]; exact rowSet (i := 10) _ (rowSet (i := 9) _ (rowSet (i := 8) _ r0))
      have t1 : w7.heap[w.heap.size + 1]? = some (.cells [Value.int .i64 0, .string ⟨#[]⟩, .string ⟨#[]⟩, .int .i64 0, .int .i64 0, .int .i64 0, .slice none 0 0, .bool false, .int .i64 0, .int .i64 0, .int .i64 0].toArray 27 (0, 0)) := by rw [hw7, heap_setCell_other _ _ _ _ (by simp), heap_setCell_other _ _ _ _ (by simp), heap_setCell_other _ _ _ _ (by simp)]; exact r1
      have K7 : Hid (Below w.heap.size w w7) := by rw [hw7]; exact ((K6.out.setCell (by simp) _).setCell (by simp) _).setCell (by simp) _
      have O7 : Hid (OwnS w7 (w.heap.size + 2) (.slice va nl vc) names) := O6.out.same fun b h1 h2 => by rw [hw7, heap_setCell_other _ _ _ _ (by show b ≠ w.heap.size; omega), heap_setCell_other _ _ _ _ (by show b ≠ w.heap.size; omega), heap_setCell_other _ _ _ _ (by show b ≠ w.heap.size; omega)]
      have p8 := rowFacts r0 8 _ rfl
      have p9 := rowFacts r0 9 _ rfl
      have p10 := rowFacts r0 10 _ rfl
      have q8 := rowFree r0 8
      have q9 := rowFree r0 9
      have q10 := rowFree r0 10
      have T0 : Hid _ := t0
      have T1 : Hid _ := t1
      clear r0 r1 t0 t1 K6 O6
      go_upto_region 5 with fail
      rw [← hw7]
      clear hw7 p8 p9 p10 q8 q9 q10
      obtain ⟨C, hC⟩ : ∃ C, C = [Value.int .i64 ser, .string iss, .string sub, .int .i64 fr, .int .i64 till, .int .i64 key, .slice va nl vc, .bool ca, .int .i64 k, .int .i64 e, .int .i64 s] := ⟨_, rfl⟩
      have hr := rangeRow T0.out
      rw [← hC] at hr
      have hR := T1.out
      have h1 : ∀ v ∈ C, v.oneCell' = true := by rw [hC]; simp [Value.oneCell']
      have hi : (Tryz.prog.info? 27).map (·.size) = some C.length := by rw [hC]; exact sizeCert
      have HLen : Hid ([Value.int .i64 0, .string ⟨#[]⟩, .string ⟨#[]⟩, .int .i64 0, .int .i64 0, .int .i64 0, .slice none 0 0, .bool false, .int .i64 0, .int .i64 0, .int .i64 0].length = C.length) := by rw [hC]; rfl
      have HCC : Hid (C = [Value.int .i64 ser, .string iss, .string sub, .int .i64 fr, .int .i64 till, .int .i64 key, .slice va nl vc, .bool ca, .int .i64 k, .int .i64 e, .int .i64 s]) := hC
      clear hC
      go_wp2_with (first | (refine wpList_load_mid rfl 27 _ rfl (w.heap.size) 0 rfl C _ hr Tryz.underlying27 rfl hi ?_) | (refine wpList_store_row rfl 27 _ _ rfl (w.heap.size + 1) _ C 27 rfl rfl hR HLen.out hi h1 ?_))
      intro w8 hrow ho hs8 hbb
      have HROW : Hid _ := hrow
      have HB8 : Hid (Below w.heap.size w w8) := hbb _ _ (by omega) K7.out
      have O8 : Hid (OwnS w8 (w.heap.size + 2) (.slice va nl vc) names) := O7.out.same fun b h1 h2 => ho b (by omega)
      clear ho hs8 hbb hrow hr hR h1
      go_wp2
      refine bodyPost_ret (v := .agg C.toArray) ?_ rfl ⟨.slice va nl vc, by rw [HF.out, HCC.out]; rfl, by rw [HF.out]; exact O8.out.mono (by omega), HB8.out, fun e => absurd e HVN.out⟩
      have hl3 := run_loadVar_mid (P := Tryz.prog) _ (w.heap.size + 1) 0 27 _ _ (rangeRow HROW.out) Tryz.underlying27 rfl hi
      simp [results, Tryz.results19, asAddr, hl3]
theorem specSignG (x : Int) (c : Paper) (a : Option Addr) (cap : Nat) (k e s : Int) (w : World) (hi : c.issuer.size ≤ maxLen) (hs : c.subject.size ≤ maxLen) (hl : c.names.length ≤ 1048576) (ht : totS c.names c.names.length ≤ 1048576) (ha : IsStrs w a c.names)
    (hc : paperB c = true → ∃ g o, a = some ⟨g, o, none⟩ ∧ g < w.heap.size ∧ ∀ i, i < c.names.length → w.cell? ⟨g, o + i, none⟩ = some (.string (tAt c.names i)))
    (hv : secB x = true → paperB c = true → signV x (bodyD c) = .agg #[.int .i64 k, .int .i64 e, .int .i64 s]) :
    Calls Tryz.prog 19 #[.int .i64 x, c.val (.slice a c.names.length cap)] w fun r w' => ∃ v, r = .returned ((signP x c k e s).val v) ∧ OwnS w' w.heap.size v (signP x c k e s).names ∧ Below w.heap.size w w' ∧ (v = .slice none 0 0 → signP x c k e s = zeroP) :=
  specSignR x c a cap k e s w hi hs hl ht ha (fun hp => .inr (hc hp)) hv
theorem specSignC (x : Int) (c : Paper) (g o cap : Nat) (k e s : Int) (w : World) (hi : c.issuer.size ≤ maxLen) (hs : c.subject.size ≤ maxLen) (hl : c.names.length ≤ 1048576) (ht : totS c.names c.names.length ≤ 1048576) (hgw : g < w.heap.size) (hc : ∀ i, i < c.names.length → w.cell? ⟨g, o + i, none⟩ = some (.string (tAt c.names i)))
    (hv : secB x = true → paperB c = true → signV x (bodyD c) = .agg #[.int .i64 k, .int .i64 e, .int .i64 s]) :
    Calls Tryz.prog 19 #[.int .i64 x, c.val (.slice (some ⟨g, o, none⟩) c.names.length cap)] w fun r w' => ∃ v, r = .returned ((signP x c k e s).val v) ∧ OwnS w' w.heap.size v (signP x c k e s).names ∧ Below w.heap.size w w' :=
  (specSignG x c _ cap k e s w hi hs hl ht (.inr ⟨g, o, rfl, hc⟩) (fun _ => ⟨g, o, rfl, hgw, hc⟩) hv).mono fun _ _ ⟨v, h1, h2, h3, _⟩ => ⟨v, h1, h2, h3⟩
end Go.Proofs.YtegmmaomaegjjaaGreatDoor
namespace Go.Proofs.YtegmmaomaegjjaaGreatDoor
open Go.RowKit

theorem signV_is (x : Int) (t : ByteArray) : ∃ k e s : Int, signV x t = .agg #[.int .i64 k, .int .i64 e, .int .i64 s] := by
  by_cases h : t.size ≤ 20000 ∧ secB x = true
  · obtain ⟨n, rfl, _, _⟩ := secB_nat h.2
    exact ⟨_, _, _, signV_nat h.1 h.2⟩
  · exact ⟨0, 0, 0, signV_no h⟩
theorem zero_len : zeroP.names.length = 0 := rfl
theorem signP_len (x : Int) (c : Paper) (k e s : Int) : (signP x c k e s).names.length ≤ c.names.length := by
  unfold signP
  split
  · exact Nat.le_refl _
  · exact Nat.zero_le _
end Go.Proofs.YtegmmaomaegjjaaGreatDoor
namespace Go.Proofs.YtegmmaomaegjjaaGreatDoor
open Go.RowKit

/-- A machine word holds it. -/
def inW (n : Int) : Prop := -9223372036854775808 ≤ n ∧ n ≤ 9223372036854775807
instance (n : Int) : Decidable (inW n) := by unfold inW; infer_instance
structure PMay (c : Paper) : Prop where
  iss : c.issuer.size ≤ 10
  sub : c.subject.size ≤ 10
  len : c.names.length ≤ 5
  each : ∀ t ∈ c.names, t.size ≤ 6
  ser : inW c.serial
  fr : inW c.fr
  till : inW c.till
  key : inW c.key
  sk : inW c.sk
  se : inW c.se
  ss : inW c.ss
theorem pubA_in (x : Int) : inW (pubA x) := by
  unfold pubA inW
  split
  · have := pm_lt 4 x.toNat (m := 2147483579) (by omega); omega
  · omega
theorem totS_may : ∀ (ss : List ByteArray) (k : Nat), (∀ t ∈ ss, t.size ≤ 6) → totS ss k ≤ 6 * k
  | _, 0, _ => Nat.le_refl _
  | ss, k + 1, h => by
    have h1 := totS_may ss k h
    have h2 : (tAt ss k).size ≤ 6 := by
      unfold tAt
      rw [List.getD_eq_getElem?_getD]
      cases hk : ss[k]? with
      | none => exact Nat.zero_le _
      | some t => exact h t (List.mem_of_getElem? hk)
    show totS ss k + (tAt ss k).size ≤ _
    omega
theorem PMay.tot {c : Paper} (h : PMay c) : totS c.names c.names.length ≤ 40 := by
  have h1 := totS_may c.names c.names.length h.each
  have h2 := h.len
  omega
theorem zero_may : PMay zeroP := ⟨by decide, by decide, by decide, fun t ht => (by cases ht), by decide, by decide, by decide, by decide, by decide, by decide, by decide⟩
theorem zero_inW : inW 0 := by decide
theorem signV_may (x : Int) (t : ByteArray) : ∃ k e s : Int, signV x t = .agg #[.int .i64 k, .int .i64 e, .int .i64 s] ∧ inW k ∧ inW e ∧ inW s := by
  by_cases h : t.size ≤ 20000 ∧ secB x = true
  · obtain ⟨n, rfl, _, _⟩ := secB_nat h.2
    have he : signE n t < 1073741789 := chal_lt _ _ _
    have hs : signS n t < 1073741789 := Nat.mod_lt _ (by omega)
    have hp := pm_lt 4 n (m := 2147483579) (by omega)
    exact ⟨_, _, _, signV_nat h.1 h.2, by unfold inW; omega, by unfold inW; omega, by unfold inW; omega⟩
  · exact ⟨0, 0, 0, signV_no h, by decide, by decide, by decide⟩
theorem sign_may {x k e s : Int} {c : Paper} (h : PMay c) (hk : inW k) (he : inW e) (hs : inW s) : PMay (signP x c k e s) := by
  by_cases hh : secB x = true ∧ paperB c = true
  · rw [signP_yes hh.1 hh.2]; exact ⟨h.iss, h.sub, h.len, h.each, h.ser, h.fr, h.till, h.key, hk, he, hs⟩
  · have e : signP x c k e s = zeroP := if_neg hh
    rw [e]; exact zero_may
open Classical in
theorem paper_named {c : Paper} (h : paperB c = true) : c.issuer.size ≠ 0 := by
  unfold paperB at h
  simp only [Bool.and_eq_true] at h
  have hn := h.1.1.1.1.1.1.2
  unfold nameB at hn
  have := (of_decide_eq_true hn).1
  omega
end Go.Proofs.YtegmmaomaegjjaaGreatDoor
namespace Go.Proofs.YtegmmaomaegjjaaGreatDoor
open Go.RowKit

/-- In block q lies the paper c, its names behind v; the source stands; else all is as it was at w1. -/
structure CV (w : World) (a : Option Addr) (len cap : Nat) (w1 : World) (q : Nat) (V : World) (c : Paper) (v : Value) : Prop where
  row : V.heap[q]? = some (.cells (c.cells v).toArray 27 (0, 0))
  own : OwnS V w1.heap.size v c.names
  off : v.ownBlock ≠ some q
  may : PMay c
  named : v = .slice none 0 0 → c.issuer.size = 0
  ss : SS w a len cap V
  grows : Grows w.heap.size w1 V
section
variable {w w1 V V' : World} {a : Option Addr} {len cap q : Nat} {c : Paper} {v : Value}
theorem CV.keep (h : CV w a len cap w1 q V c v) (hq : w.heap.size < q) (h1 : w.heap.size < w1.heap.size) (hs : SS w a len cap V') (hg : Grows w.heap.size V V') : CV w a len cap w1 q V' c v :=
  ⟨by rw [hg.keepBlock (heap_lt h.row) (by omega)]; exact h.row, h.own.grow hg h1, h.off, h.may, h.named, hs, h.grows.trans hg⟩
/-- One cell of it set anew, not that of the names. -/
theorem CV.set (h : CV w a len cap w1 q V c v) (hq : w.heap.size < q) (h1 : w1.heap.size ≤ q) (j : Nat) (u : Value) (c' : Paper) (hr : (c.cells v).set j u = c'.cells v) (hn : c'.names = c.names) (hm : PMay c') (hi : c'.issuer = c.issuer) : CV w a len cap w1 q (V.setCell ⟨q, j, none⟩ u) c' v := by
  have hg := grown_cell V q j u
  refine ⟨by rw [← hr]; exact rowSet (i := j) u h.row, by rw [hn]; exact h.own.rowOff hg h.off, h.off, hm, fun e => by rw [hi]; exact h.named e, h.ss.row hg hq, h.grows.row hg h1⟩
end
end Go.Proofs.YtegmmaomaegjjaaGreatDoor
