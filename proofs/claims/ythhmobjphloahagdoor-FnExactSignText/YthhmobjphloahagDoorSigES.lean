/- spec.SignText, walked. -/
import Derived.Test.YthhmobjphloahagDoorSigCS
import Derived.Test.YthhmobjphloahagDoorPubS
import Derived.Test.YthhmobjphloahagDoorSigR
import Derived.Test.YthhmobjphloahagDoorSigT
import Derived.Test.YthhmobjphloahagDoorGrpC
namespace Go.Proofs.YthhmobjphloahagDoor
open Go.RowKit

set_option maxHeartbeats 1000000 in
set_option maxRecDepth 100000 in
theorem specSign (x : Int) (t : ByteArray) (w : World) (ht : t.size ≤ maxLen) :
    Calls Tryd.prog 8 #[.int .i64 x, .string t] w fun e w' => e = .returned (signV x t) ∧ Below w.heap.size w w' := by
  have htm := ht
  unfold maxLen at htm
  by_cases h1 : 20000 < t.size
  · have ea : Hid (signV x t = sigV 0 0 0) := signV_no (by omega)
    go_enter Tryd.func8, Tryd.ntmps8
    go_wp2
    go_returns
    exact ⟨by rw [ea.out]; rfl, allocBelow _ _⟩
  by_cases h2 : secB x = true
  · obtain ⟨n, rfl, n1, n2⟩ := secB_nat h2
    have ea : Hid (signV n t = sigV ((pm 4 n 2147483579 : Nat) : Int) (signE n t) (signS n t)) := signV_nat (by omega) h2
    have ht2 : t.size ≤ 20000 := by omega
    have hpk := powK_lt n t
    have he := chal_lt ((pm 4 (powK n t) 2147483579 : Nat) : Int) ((pm 4 n 2147483579 : Nat) : Int) t
    have q1 := pm_lt 4 n (m := 2147483579) (by omega)
    have q2 := pm_lt 4 (powK n t) (m := 2147483579) (by omega)
    have s2 := putS_size n
    have P2 : Hid (∀ v : World, Calls Tryd.prog 23 #[.int .i64 (n : Int)] v fun e w' => e = .returned (.string (putS n)) ∧ Below v.heap.size v w') := fun v => specPut n v (by omega) (by omega)
    obtain ⟨pS, hp⟩ : ∃ p : ByteArray, putS n = p := ⟨_, rfl⟩
    have l2 := powK_eq n t pS hp
    rw [hp] at s2 P2
    obtain ⟨q, hq⟩ : ∃ q : ByteArray, ⟨#[75]⟩ ++ pS = q := ⟨_, rfl⟩
    rw [hq] at l2
    have sq : q.size ≤ 100 := by rw [← hq, size_append, show (ByteArray.mk #[75]).size = 1 from rfl]; omega
    have sqt : (q ++ t).size = q.size + t.size := size_append q t
    have N2 : Hid (∀ v : World, Calls Tryd.prog 22 #[.string (q ++ t)] v fun e w' => e = .returned (.int .i64 (dnum (q ++ t) : Nat)) ∧ Below v.heap.size v w') := fun v => specNum (q ++ t) v (by omega)
    have ld := dnum_lt (q ++ t)
    have S2 : Hid (∀ v : World, Calls Tryd.prog 24 #[.int .i64 (n : Int)] v fun e w' => e = .returned (.int .i64 ((pm 4 n 2147483579 : Nat) : Int)) ∧ w' = v) := fun v => by rw [← pubA_nat n h2]; exact specPublic n v
    have S3 : Hid (∀ v : World, Calls Tryd.prog 25 #[.int .i64 4, .int .i64 (powK n t : Nat), .int .i64 2147483579] v fun e w' => e = .returned (.int .i64 ((pm 4 (powK n t) 2147483579 : Nat) : Int)) ∧ w' = v) := fun v => specPow 4 (powK n t) 2147483579 v (by omega) (by omega) (by omega)
    have S4 : Hid (∀ v : World, Calls Tryd.prog 15 #[.int .i64 ((pm 4 (powK n t) 2147483579 : Nat) : Int), .int .i64 ((pm 4 n 2147483579 : Nat) : Int), .string t] v fun e w' => e = .returned (.int .i64 (signE n t : Nat)) ∧ Below v.heap.size v w') := fun v => specChal _ _ t v ht2 (by omega) (by omega) (by omega) (by omega)
    have S5 : Hid ((powK n t + signE n t * n) % 1073741789 = signS n t) := rfl
    change signE n t < 1073741789 at he
    generalize signS n t = s at *
    generalize signE n t = e at *
    generalize pm 4 (powK n t) 2147483579 = y at *
    generalize powK n t = k at *
    generalize pm 4 n 2147483579 = key at *
    generalize dnum (q ++ t) = d at *
    obtain ⟨p, hp', ep, lp, up⟩ := prod_bd e n (by omega) (by omega)
    have t0 : (p : Int).tmod 1073741789 = ((p % 1073741789 : Nat) : Int) := tmodN p 1073741789
    have hm := Nat.mod_lt p (show 0 < 1073741789 by omega)
    have t1 : ((k : Int) + ((p % 1073741789 : Nat) : Int)).tmod 1073741789 = (s : Int) := by
      have h := S5.out
      rw [← hp'] at h
      rw [← h, show (k : Int) + ((p % 1073741789 : Nat) : Int) = ((k + p % 1073741789 : Nat) : Int) from by omega]
      have h3 := tmodN (k + p % 1073741789) 1073741789
      rw [Nat.add_mod_mod] at h3
      exact h3
    generalize p % 1073741789 = pq at *
    have t3 : (d : Int).tmod 1073741788 = ((d % 1073741788 : Nat) : Int) := tmodN d 1073741788
    have hdm := Nat.mod_lt d (show 0 < 1073741788 by omega)
    generalize d % 1073741788 = m at *
    have hk1 : (1 : Int) + (m : Int) = (k : Int) := by omega
    have hm' : (m : Int) < 1073741788 := by omega
    have hpq' : (pq : Int) < 1073741789 := by omega
    have hk' : (k : Int) < 1073741789 := by omega
    have F1 : Hid ((d : Int).tmod 1073741788 = (m : Int) ∧ (1 : Int) + (m : Int) = (k : Int) ∧ (m : Int) < 1073741788) := ⟨t3, hk1, hm'⟩
    have F2 : Hid ((e : Int) * (n : Int) = (p : Int) ∧ ((0 : Int) ≤ (p : Int) ∧ (p : Int) ≤ 4611686018427387904) ∧ (p : Int).tmod 1073741789 = (pq : Int) ∧ ((k : Int) + (pq : Int)).tmod 1073741789 = (s : Int) ∧ (pq : Int) < 1073741789 ∧ (k : Int) < 1073741789) := ⟨ep, ⟨lp, up⟩, t0, t1, hpq', hk'⟩
    clear S5 hp hp' l2 hdm hm ld q1 q2 t3 hk1 hm' ep lp up t0 t1 hpq' hk' hpk he
    go_enter Tryd.func8, Tryd.ntmps8
    go_wp2_with fail
    refine (specSecret n _).mono ?_
    rintro e1 w' ⟨rfl, rfl⟩
    rw [h2]
    go_wp2_with fail
    obtain ⟨w0, hw0⟩ : ∃ w0, w.alloc (.cells #[.int .i64 0, .int .i64 0, .int .i64 0] 25 (0, 0)) = w0 := ⟨_, rfl⟩
    have hg0 : w0.heap[w.heap.size]? = some (.cells #[.int .i64 0, .int .i64 0, .int .i64 0] 25 (0, 0)) := by rw [← hw0]; exact heap_alloc_new w _
    have hb0 : Below w.heap.size w w0 := by rw [← hw0]; exact allocBelow w _
    have hs0 : w0.heap.size = w.heap.size + 1 := by rw [← hw0]; simp
    rw [hw0]
    have G0 : Hid (w0.heap[w.heap.size]? = some (.cells #[.int .i64 0, .int .i64 0, .int .i64 0] 25 (0, 0))) := hg0
    have B0 : Hid (Below w.heap.size w w0) := hb0
    have HS0 : Hid (w0.heap.size = w.heap.size + 1) := hs0
    clear hg0 hb0 hw0 hs0
    refine (P2.out w0).mono ?_
    rintro e1 w1 ⟨rfl, hb1⟩
    have b1 : Hid (Below w0.heap.size w0 w1) := hb1
    have z1 := b1.out.size
    clear hb1
    go_wp2_with fail
    refine (N2.out _).mono ?_
    rintro e1 w2 ⟨rfl, hb2⟩
    have b2 : Hid (Below w0.heap.size w0 w2) := b1.out.trans (hb2.mono z1)
    have z2 := b2.out.size
    clear hb2
    obtain ⟨t3, hk1, hm'⟩ := F1.out
    go_wp2_with fail
    refine (S2.out _).mono ?_
    rintro e1 w3 ⟨rfl, rfl⟩
    clear t3 hk1 hm' F1
    go_wp2_with fail
    refine (S3.out _).mono ?_
    rintro e1 w3 ⟨rfl, rfl⟩
    go_wp2_with fail
    refine (S4.out _).mono ?_
    rintro e1 w4 ⟨rfl, hb4⟩
    have b4 : Hid (Below w0.heap.size w0 w4) := b2.out.trans (hb4.mono z2)
    clear hb4
    have hg4 : w4.heap[w.heap.size]? = some (.cells [.int .i64 0, .int .i64 0, .int .i64 0].toArray 25 (0, 0)) := by
      rw [b4.out.block w.heap.size (by rw [HS0.out]; omega)]; exact G0.out
    have c0 := rowFacts hg4 0 (.int .i64 0) rfl
    have c1 := rowFacts hg4 1 (.int .i64 0) rfl
    have c2 := rowFacts hg4 2 (.int .i64 0) rfl
    have f0 := frozen_of_row w4 _ 0 _ _ hg4
    have f1 := frozen_of_row w4 _ 1 _ _ hg4
    have f2 := frozen_of_row w4 _ 2 _ _ hg4
    have BB : Hid (∀ a b c, Below w.heap.size w (((w4.setCell ⟨w.heap.size, 0, none⟩ a).setCell ⟨w.heap.size, 1, none⟩ b).setCell ⟨w.heap.size, 2, none⟩ c)) := fun a b c =>
      (((B0.out.trans (b4.out.mono B0.out.size)).setCell (Nat.le_refl _) a).setCell (Nat.le_refl _) b).setCell (Nat.le_refl _) c
    have G4 : Hid (w4.heap[w.heap.size]? = some (.cells [.int .i64 0, .int .i64 0, .int .i64 0].toArray 25 (0, 0))) := hg4
    clear hg4 b1 b2 b4 S2 S3 S4 P2 N2 HS0 B0 G0 z1 z2
    obtain ⟨ep, ⟨lp, up⟩, t0, t1, hpq', hk'⟩ := F2.out
    clear F2
    go_wp2
    refine bodyPost_ret (v := sigV key e s) ?_ rfl ⟨by rw [ea.out], BB.out _ _ _⟩
    have hrow := sigRow G4.out (.int .i64 (key : Int)) (.int .i64 (e : Int)) (.int .i64 (s : Int))
    have hl3 := run_loadVar_mid (P := Tryd.prog) _ w.heap.size 0 25 _ _ (rangeRow hrow) Tryd.underlying25 rfl sizeSig
    simp [results, Tryd.results8, asAddr, hl3, sigV]
  · rw [Bool.not_eq_true] at h2
    have ea : Hid (signV x t = sigV 0 0 0) := signV_no (by rw [h2]; simp)
    go_enter Tryd.func8, Tryd.ntmps8
    go_wp2_with fail
    refine (specSecret x _).mono ?_
    rintro e w' ⟨rfl, rfl⟩
    rw [h2]
    go_wp2
    go_returns
    exact ⟨by rw [ea.out]; rfl, allocBelow _ _⟩
end Go.Proofs.YthhmobjphloahagDoor
