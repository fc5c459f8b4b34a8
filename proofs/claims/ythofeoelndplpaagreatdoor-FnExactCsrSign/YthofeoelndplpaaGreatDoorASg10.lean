/- spec.PublicOf, walked. spec.SignText, walked. spec.CsrSign, walked. FnExactNameRight, walks: 'impl.NameRight' answers true just where the text is a right name; the law. impl.isTime, isSerial, NameRight, walked. impl.isTime, impl.namesRight, walked. -/
import Derived.Test.YthofeoelndplpaaGreatDoorASg09
import Derived.Test.YthofeoelndplpaaGreatDoorASg02
import Derived.Test.YthofeoelndplpaaGreatDoorASg08
import Derived.Test.YthofeoelndplpaaGreatDoorASg05
import Derived.Test.YthofeoelndplpaaGreatDoorASg01
import Derived.Test.YthofeoelndplpaaGreatDoorASg04
import Derived.Deep.Cut
import Derived.WalkLawsBesides
namespace Go.Proofs.YthofeoelndplpaaGreatDoor
open Go.RowKit

set_option maxHeartbeats 1000000 in
set_option maxRecDepth 100000 in
theorem specPublic (x : Int) (w : World) :
    Calls Tryz.prog 31 #[.int .i64 x] w fun e w' => e = .returned (.int .i64 (pubA x)) ∧ w' = w := by
  by_cases h : secB x = true
  · obtain ⟨n, rfl, n1, n2⟩ := secB_nat h
    rw [pubA_nat n h]
    have HP : Hid (∀ v : World, Calls Tryz.prog 60 #[.int .i64 4, .int .i64 (n : Int), .int .i64 2147483579] v fun e w' => e = .returned (.int .i64 ((pm 4 n 2147483579 : Nat) : Int)) ∧ w' = v) := fun v => specPow 4 n 2147483579 v (by omega) (by omega) (by omega)
    generalize pm 4 n 2147483579 = z at *
    go_enter Tryz.func31, Tryz.ntmps31
    go_wp2_with fail
    refine (specSecret n w).mono ?_
    rintro e w' ⟨rfl, rfl⟩
    rw [h]
    go_wp2_with fail
    refine (HP.out _).mono ?_
    rintro e w2 ⟨rfl, rfl⟩
    go_wp2
    go_ret
    exact ⟨rfl, rfl⟩
  · rw [Bool.not_eq_true] at h
    have ea : Hid (pubA x = 0) := by
      show _ = _
      rw [pubA, if_neg (by rw [h]; simp)]
    go_enter Tryz.func31, Tryz.ntmps31
    go_wp2_with fail
    refine (specSecret x w).mono ?_
    rintro e w' ⟨rfl, rfl⟩
    rw [h]
    go_wp2
    go_ret
    exact ⟨ret_int ea.out.symm, rfl⟩
end Go.Proofs.YthofeoelndplpaaGreatDoor
namespace Go.Proofs.YthofeoelndplpaaGreatDoor
open Go.RowKit

set_option maxHeartbeats 1000000 in
set_option maxRecDepth 100000 in
theorem specSign (x : Int) (t : ByteArray) (w : World) (ht : t.size ≤ maxLen) :
    Calls Tryz.prog 32 #[.int .i64 x, .string t] w fun e w' => e = .returned (signV x t) ∧ Below w.heap.size w w' := by
  have htm := ht
  unfold maxLen at htm
  by_cases h1 : 20000 < t.size
  · have ea : Hid (signV x t = sigV 0 0 0) := signV_no (by omega)
    go_enter Tryz.func32, Tryz.ntmps32
    go_wp2
    go_returns
    exact ⟨by rw [ea.out]; rfl, allocBelow _ _⟩
  by_cases h2 : secB x = true
  · obtain ⟨n, rfl, n1, n2⟩ := secB_nat h2
    have ea : Hid (signV n t = sigV ((pm 4 n 2147483579 : Nat) : Int) (signE n t) (signS n t)) := signV_nat (by omega) h2
    have ht2 : t.size ≤ 20000 := by omega
    have hpk := powK_lt n t
    have he := chal_lt ((pm 4 (powK n t) 2147483579 : Nat) : Int) ((pm 4 n 2147483579 : Nat) : Int) t
    have q1 := pm_lt 4 n (m := 2147483579) (by omega)
    have q2 := pm_lt 4 (powK n t) (m := 2147483579) (by omega)
    have s2 := putS_size n
    have P2 : Hid (∀ v : World, Calls Tryz.prog 62 #[.int .i64 (n : Int)] v fun e w' => e = .returned (.string (putS n)) ∧ Below v.heap.size v w') := fun v => specPut n v (by omega) (by omega)
    obtain ⟨pS, hp⟩ : ∃ p : ByteArray, putS n = p := ⟨_, rfl⟩
    have l2 := powK_eq n t pS hp
    rw [hp] at s2 P2
    obtain ⟨q, hq⟩ : ∃ q : ByteArray, ⟨#[75]⟩ ++ pS = q := ⟨_, rfl⟩
    rw [hq] at l2
    have sq : q.size ≤ 100 := by rw [← hq, size_append, show (ByteArray.mk #[75]).size = 1 from rfl]; omega
    have sqt : (q ++ t).size = q.size + t.size := size_append q t
    have N2 : Hid (∀ v : World, Calls Tryz.prog 61 #[.string (q ++ t)] v fun e w' => e = .returned (.int .i64 (dnum (q ++ t) : Nat)) ∧ Below v.heap.size v w') := fun v => specNum (q ++ t) v (by omega)
    have ld := dnum_lt (q ++ t)
    have S2 : Hid (∀ v : World, Calls Tryz.prog 31 #[.int .i64 (n : Int)] v fun e w' => e = .returned (.int .i64 ((pm 4 n 2147483579 : Nat) : Int)) ∧ w' = v) := fun v => by rw [← pubA_nat n h2]; exact specPublic n v
    have S3 : Hid (∀ v : World, Calls Tryz.prog 60 #[.int .i64 4, .int .i64 (powK n t : Nat), .int .i64 2147483579] v fun e w' => e = .returned (.int .i64 ((pm 4 (powK n t) 2147483579 : Nat) : Int)) ∧ w' = v) := fun v => specPow 4 (powK n t) 2147483579 v (by omega) (by omega) (by omega)
    have S4 : Hid (∀ v : World, Calls Tryz.prog 63 #[.int .i64 ((pm 4 (powK n t) 2147483579 : Nat) : Int), .int .i64 ((pm 4 n 2147483579 : Nat) : Int), .string t] v fun e w' => e = .returned (.int .i64 (signE n t : Nat)) ∧ Below v.heap.size v w') := fun v => specChal _ _ t v ht2 (by omega) (by omega) (by omega) (by omega)
    have S5 : Hid ((powK n t + signE n t * n) % 1073741789 = signS n t) := rfl
    change signE n t < 1073741789 at he
    generalize signS n t = s at *
    generalize signE n t = e at *
    generalize pm 4 (powK n t) 2147483579 = y at *
    generalize powK n t = k at *
    generalize pm 4 n 2147483579 = key at *
    generalize dnum (q ++ t) = d at *
    obtain ⟨p, hp', ep, lp, up⟩ := prod_bd e n (by omega) (by omega)
    have t0 : (p : Int).tmod 1073741789 = ((p % 1073741789 : Nat) : Int) := tmodN p 1073741789
    have hm := Nat.mod_lt p (show 0 < 1073741789 by omega)
    have t1 : ((k : Int) + ((p % 1073741789 : Nat) : Int)).tmod 1073741789 = (s : Int) := by
      have h := S5.out
      rw [← hp'] at h
      rw [← h, show (k : Int) + ((p % 1073741789 : Nat) : Int) = ((k + p % 1073741789 : Nat) : Int) from by omega]
      have h3 := tmodN (k + p % 1073741789) 1073741789
      rw [Nat.add_mod_mod] at h3
      exact h3
    generalize p % 1073741789 = pq at *
    have t3 : (d : Int).tmod 1073741788 = ((d % 1073741788 : Nat) : Int) := tmodN d 1073741788
    have hdm := Nat.mod_lt d (show 0 < 1073741788 by omega)
    generalize d % 1073741788 = m at *
    have hk1 : (1 : Int) + (m : Int) = (k : Int) := by omega
    have hm' : (m : Int) < 1073741788 := by omega
    have hpq' : (pq : Int) < 1073741789 := by omega
    have hk' : (k : Int) < 1073741789 := by omega
    have F1 : Hid ((d : Int).tmod 1073741788 = (m : Int) ∧ (1 : Int) + (m : Int) = (k : Int) ∧ (m : Int) < 1073741788) := ⟨t3, hk1, hm'⟩
    have F2 : Hid ((e : Int) * (n : Int) = (p : Int) ∧ ((0 : Int) ≤ (p : Int) ∧ (p : Int) ≤ 4611686018427387904) ∧ (p : Int).tmod 1073741789 = (pq : Int) ∧ ((k : Int) + (pq : Int)).tmod 1073741789 = (s : Int) ∧ (pq : Int) < 1073741789 ∧ (k : Int) < 1073741789) := ⟨ep, ⟨lp, up⟩, t0, t1, hpq', hk'⟩
    clear S5 hp hp' l2 hdm hm ld q1 q2 t3 hk1 hm' ep lp up t0 t1 hpq' hk' hpk he
    go_enter Tryz.func32, Tryz.ntmps32
    go_wp2_with fail
    refine (specSecret n _).mono ?_
    rintro e1 w' ⟨rfl, rfl⟩
    rw [h2]
    go_wp2_with fail
    obtain ⟨w0, hw0⟩ : ∃ w0, w.alloc (.cells #[.int .i64 0, .int .i64 0, .int .i64 0] 25 (0, 0)) = w0 := ⟨_, rfl⟩
    have hg0 : w0.heap[w.heap.size]? = some (.cells #[.int .i64 0, .int .i64 0, .int .i64 0] 25 (0, 0)) := by rw [← hw0]; exact heap_alloc_new w _
    have hb0 : Below w.heap.size w w0 := by rw [← hw0]; exact allocBelow w _
    have hs0 : w0.heap.size = w.heap.size + 1 := by rw [← hw0]; simp
    rw [hw0]
    have G0 : Hid (w0.heap[w.heap.size]? = some (.cells #[.int .i64 0, .int .i64 0, .int .i64 0] 25 (0, 0))) := hg0
    have B0 : Hid (Below w.heap.size w w0) := hb0
    have HS0 : Hid (w0.heap.size = w.heap.size + 1) := hs0
    clear hg0 hb0 hw0 hs0
    refine (P2.out w0).mono ?_
    rintro e1 w1 ⟨rfl, hb1⟩
    have b1 : Hid (Below w0.heap.size w0 w1) := hb1
    have z1 := b1.out.size
    clear hb1
    go_wp2_with fail
    refine (N2.out _).mono ?_
    rintro e1 w2 ⟨rfl, hb2⟩
    have b2 : Hid (Below w0.heap.size w0 w2) := b1.out.trans (hb2.mono z1)
    have z2 := b2.out.size
    clear hb2
    obtain ⟨t3, hk1, hm'⟩ := F1.out
    go_wp2_with fail
    refine (S2.out _).mono ?_
    rintro e1 w3 ⟨rfl, rfl⟩
    clear t3 hk1 hm' F1
    go_wp2_with fail
    refine (S3.out _).mono ?_
    rintro e1 w3 ⟨rfl, rfl⟩
    go_wp2_with fail
    refine (S4.out _).mono ?_
    rintro e1 w4 ⟨rfl, hb4⟩
    have b4 : Hid (Below w0.heap.size w0 w4) := b2.out.trans (hb4.mono z2)
    clear hb4
    have hg4 : w4.heap[w.heap.size]? = some (.cells [.int .i64 0, .int .i64 0, .int .i64 0].toArray 25 (0, 0)) := by
      rw [b4.out.block w.heap.size (by rw [HS0.out]; omega)]; exact G0.out
    have c0 := rowFacts hg4 0 (.int .i64 0) rfl
    have c1 := rowFacts hg4 1 (.int .i64 0) rfl
    have c2 := rowFacts hg4 2 (.int .i64 0) rfl
    have f0 := frozen_of_row w4 _ 0 _ _ hg4
    have f1 := frozen_of_row w4 _ 1 _ _ hg4
    have f2 := frozen_of_row w4 _ 2 _ _ hg4
    have BB : Hid (∀ a b c, Below w.heap.size w (((w4.setCell ⟨w.heap.size, 0, none⟩ a).setCell ⟨w.heap.size, 1, none⟩ b).setCell ⟨w.heap.size, 2, none⟩ c)) := fun a b c =>
      (((B0.out.trans (b4.out.mono B0.out.size)).setCell (Nat.le_refl _) a).setCell (Nat.le_refl _) b).setCell (Nat.le_refl _) c
    have G4 : Hid (w4.heap[w.heap.size]? = some (.cells [.int .i64 0, .int .i64 0, .int .i64 0].toArray 25 (0, 0))) := hg4
    clear hg4 b1 b2 b4 S2 S3 S4 P2 N2 HS0 B0 G0 z1 z2
    obtain ⟨ep, ⟨lp, up⟩, t0, t1, hpq', hk'⟩ := F2.out
    clear F2
    go_wp2
    refine bodyPost_ret (v := sigV key e s) ?_ rfl ⟨by rw [ea.out], BB.out _ _ _⟩
    have hrow := sigRow G4.out (.int .i64 (key : Int)) (.int .i64 (e : Int)) (.int .i64 (s : Int))
    have hl3 := run_loadVar_mid (P := Tryz.prog) _ w.heap.size 0 25 _ _ (rangeRow hrow) Tryz.underlying25 rfl sizeSig
    simp [results, Tryz.results32, asAddr, hl3, sigV]
  · rw [Bool.not_eq_true] at h2
    have ea : Hid (signV x t = sigV 0 0 0) := signV_no (by rw [h2]; simp)
    go_enter Tryz.func32, Tryz.ntmps32
    go_wp2_with fail
    refine (specSecret x _).mono ?_
    rintro e w' ⟨rfl, rfl⟩
    rw [h2]
    go_wp2
    go_returns
    exact ⟨by rw [ea.out]; rfl, allocBelow _ _⟩
end Go.Proofs.YthofeoelndplpaaGreatDoor
namespace Go.Proofs.YthofeoelndplpaaGreatDoor
open Go.RowKit

set_option linter.unusedSimpArgs false in
set_option maxHeartbeats 4000000 in
set_option maxRecDepth 100000 in
theorem specSignA (x : Int) (ns : List ByteArray) (g o cap : Nat) (k e s : Int) (w : World) (hl : ns.length ≤ 1048576) (ht : totS ns ns.length ≤ 1048576) (hgw : g < w.heap.size) (hc : ∀ i, i < ns.length → w.cell? ⟨g, o + i, none⟩ = some (.string (tAt ns i)))
    (hv : askOk x ns = true → signV x (askD (askO x ns)) = .agg #[.int .i64 k, .int .i64 e, .int .i64 s]) :
    Calls Tryz.prog 8 #[.int .i64 x, .slice (some ⟨g, o, none⟩) ns.length cap] w fun r w' => ∃ v, r = .returned ((signA x ns k e s).val v) ∧ OwnS w' w.heap.size v (signA x ns k e s).names ∧ Below w.heap.size w w' := by
  have HNm : Hid (∀ V, Below w.heap.size w V → Calls Tryz.prog 30 #[.slice (some ⟨g, o, none⟩) ns.length cap] V fun e w' => e = .returned (.bool (namesB ns)) ∧ Below V.heap.size V w') := fun V hV => specNames _ ns cap V hl ht (.inr ⟨g, o, rfl, fun i h => by rw [hV.cell (p := ⟨g, o + i, none⟩) hgw]; exact hc i h⟩)
  have HBo : Hid (askOk x ns = true → ∀ V a' cap', IsStrs V a' ns → Calls Tryz.prog 33 #[(askO x ns).val (.slice a' ns.length cap')] V fun e w' => e = .returned (.string (askD (askO x ns))) ∧ Below V.heap.size V w') := fun h V a' cap' hV => by
    have hx : secB x = true := by unfold askOk at h; simp only [Bool.and_eq_true] at h; exact h.1.1
    have hB : askB (askO x ns) = true := by rw [askOk_ask hx]; unfold askOk at h; rw [hx, Bool.true_and] at h; exact h
    obtain ⟨f1, f2, f3, f4⟩ := ask_fits hB
    exact specAskD (askO x ns) a' cap' V (by omega) f2 f4 hV
  have HSg : Hid (askOk x ns = true → ∀ V, Calls Tryz.prog 32 #[.int .i64 x, .string (askD (askO x ns))] V fun r w' => r = .returned (.agg #[.int .i64 k, .int .i64 e, .int .i64 s]) ∧ Below V.heap.size V w') := fun h V => by
    have hx : secB x = true := by unfold askOk at h; simp only [Bool.and_eq_true] at h; exact h.1.1
    have hB : askB (askO x ns) = true := by rw [askOk_ask hx]; unfold askOk at h; rw [hx, Bool.true_and] at h; exact h
    have := specSign x (askD (askO x ns)) V (by have := askD_le hB; unfold maxLen; omega)
    rw [hv h] at this
    exact this
  have HY : Hid (askOk x ns = true → signA x ns k e s = ⟨pubA x, ns, k, e, s⟩) := fun h => signA_yes h k e s
  have HNo : Hid (askOk x ns = false → signA x ns k e s = zeroA) := fun h => signA_no h k e s
  have HOk : Hid (askOk x ns = (secB x && namesB ns && decide (0 < ns.length))) := rfl
  have HL5 : Hid (namesB ns = true → ns.length ≤ 5) := fun h => (names_fit h).1
  obtain ⟨i0, hi0, hz0, hz1, hz2⟩ := info_parts infoText
  have HN : Hid (∀ V, Below w.heap.size w V → ∀ j u, (sCells ns)[j]? = some u → V.cell? ((⟨g, o, none⟩ : Addr).add j) = some u) := fun V hV j u hu => by
    rw [Addr.add_lit, hV.cell (p := ⟨g, o + j, none⟩) hgw]
    have hj : j < ns.length := by
      rcases Nat.lt_or_ge j ns.length with h | h
      · exact h
      · rw [List.getElem?_eq_none (by simpa [sCells] using h)] at hu; cases hu
    rw [hc j hj]
    rw [sCells_at hj] at hu
    exact hu
  obtain ⟨N, hN'⟩ : ∃ N, N = namesB ns := ⟨_, rfl⟩
  rw [← hN'] at HNm HOk HL5
  clear hc hv hgw ht hN'
  generalize signA x ns k e s = R at *
  generalize askOk x ns = P at *
  generalize askD (askO x ns) = D at *
  unfold askO Ask.val at HBo
  simp only at HBo
  obtain ⟨nl, hnl⟩ : ∃ nl, nl = ns.length := ⟨_, rfl⟩
  rw [← hnl] at HNm HBo HOk HL5 hl ⊢
  have HNl : Hid (nl = ns.length) := hnl
  clear hnl
  obtain ⟨w1, hw1⟩ : ∃ w1, w1 = w.alloc (.cells #[.int .i64 0, .slice none 0 0, .int .i64 0, .int .i64 0, .int .i64 0] 27 (0, 0)) := ⟨_, rfl⟩
  have r1 : w1.heap[w.heap.size]? = some (.cells [Value.int .i64 0, .slice none 0 0, .int .i64 0, .int .i64 0, .int .i64 0].toArray 27 (0, 0)) := by rw [hw1]; exact heap_alloc_new w _
  have B1 : Hid (Below w.heap.size w w1) := by rw [hw1]; exact (Below.refl _ _).alloc (Nat.le_refl _) _
  have HRw : Hid (∀ V, Below w1.heap.size w1 V → V.heap[w.heap.size]? = some (.cells [Value.int .i64 0, .slice none 0 0, .int .i64 0, .int .i64 0, .int .i64 0].toArray 27 (0, 0))) := fun V hV => (hV.block _ (heap_lt r1)).trans r1
  have HB : Hid (∀ V, Below w1.heap.size w1 V → Below w.heap.size w V) := fun V hV => B1.out.trans (hV.mono B1.out.size)
  have Z1 : Hid (w1.heap.size = w.heap.size + 1) := by show _ = _; rw [hw1]; simp
  have I1 : Hid (Below w1.heap.size w1 w1) := Below.refl _ _
  clear r1 B1
  go_enter Tryz.func8, Tryz.ntmps8
  go_upto_region 1 with fail
  rw [← hw1]
  clear hw1
  by_cases h400 : 400 < nl
  · have HF : Hid (R = zeroA) := HNo.out (by
      have h5 : N = false := by
        cases N with
        | false => rfl
        | true => have := HL5.out rfl; omega
      rw [HOk.out, h5]; simp)
    have hR := HRw.out _ I1.out
    have h1 : ∀ v ∈ [Value.int .i64 0, .slice none 0 0, .int .i64 0, .int .i64 0, .int .i64 0], v.oneCell' = true := by simp [Value.oneCell']
    go_wp2_with (refine wpList_store_row rfl 27 _ _ rfl (w.heap.size) _ [Value.int .i64 0, .slice none 0 0, .int .i64 0, .int .i64 0, .int .i64 0] 27 rfl rfl hR rfl sizeCsr h1 ?_)
    intro w8 hrow ho hs8 hbb
    have HROW : Hid _ := hrow
    have HB8 : Hid (Below w.heap.size w w8) := hbb _ _ (by omega) (HB.out _ I1.out)
    clear ho hs8 hbb hrow hR h1
    go_wp2
    refine bodyPost_ret (v := .agg [Value.int .i64 0, .slice none 0 0, .int .i64 0, .int .i64 0, .int .i64 0].toArray) ?_ rfl ⟨.slice none 0 0, by rw [HF.out]; rfl, by rw [HF.out]; exact ownS_nil _ _, HB8.out⟩
    have hl3 := run_loadVar_mid (P := Tryz.prog) _ (w.heap.size) 0 27 _ _ (rangeRow HROW.out) Tryz.underlying27 rfl sizeCsr
    simp [results, Tryz.results8, asAddr, hl3]
  have h400' : ¬ (400 : Int) < (nl : Int) := by omega
  go_wp2_with fail
  refine (specSecret x _).mono ?_
  rintro r w2 ⟨rfl, h2w⟩
  subst w2
  cases hx : secB x with
  | false =>
    have HF : Hid (R = zeroA) := HNo.out (by rw [HOk.out, hx]; rfl)
    have hR := HRw.out _ I1.out
    have h1 : ∀ v ∈ [Value.int .i64 0, .slice none 0 0, .int .i64 0, .int .i64 0, .int .i64 0], v.oneCell' = true := by simp [Value.oneCell']
    go_wp2_with (refine wpList_store_row rfl 27 _ _ rfl (w.heap.size) _ [Value.int .i64 0, .slice none 0 0, .int .i64 0, .int .i64 0, .int .i64 0] 27 rfl rfl hR rfl sizeCsr h1 ?_)
    intro w8 hrow ho hs8 hbb
    have HROW : Hid _ := hrow
    have HB8 : Hid (Below w.heap.size w w8) := hbb _ _ (by omega) (HB.out _ I1.out)
    clear ho hs8 hbb hrow hR h1
    go_wp2
    refine bodyPost_ret (v := .agg [Value.int .i64 0, .slice none 0 0, .int .i64 0, .int .i64 0, .int .i64 0].toArray) ?_ rfl ⟨.slice none 0 0, by rw [HF.out]; rfl, by rw [HF.out]; exact ownS_nil _ _, HB8.out⟩
    have hl3 := run_loadVar_mid (P := Tryz.prog) _ (w.heap.size) 0 27 _ _ (rangeRow HROW.out) Tryz.underlying27 rfl sizeCsr
    simp [results, Tryz.results8, asAddr, hl3]
  | true =>
  go_wp2_with fail
  refine (HNm.out _ (HB.out _ I1.out)).mono ?_
  rintro r w2 ⟨rfl, b2⟩
  have K2 : Hid (Below w1.heap.size w1 w2) := b2
  clear b2
  cases N with
  | false =>
    have HF : Hid (R = zeroA) := HNo.out (by rw [HOk.out]; simp)
    have hR := HRw.out _ K2.out
    have h1 : ∀ v ∈ [Value.int .i64 0, .slice none 0 0, .int .i64 0, .int .i64 0, .int .i64 0], v.oneCell' = true := by simp [Value.oneCell']
    go_wp2_with (refine wpList_store_row rfl 27 _ _ rfl (w.heap.size) _ [Value.int .i64 0, .slice none 0 0, .int .i64 0, .int .i64 0, .int .i64 0] 27 rfl rfl hR rfl sizeCsr h1 ?_)
    intro w8 hrow ho hs8 hbb
    have HROW : Hid _ := hrow
    have HB8 : Hid (Below w.heap.size w w8) := hbb _ _ (by omega) (HB.out _ K2.out)
    clear ho hs8 hbb hrow hR h1
    go_wp2
    refine bodyPost_ret (v := .agg [Value.int .i64 0, .slice none 0 0, .int .i64 0, .int .i64 0, .int .i64 0].toArray) ?_ rfl ⟨.slice none 0 0, by rw [HF.out]; rfl, by rw [HF.out]; exact ownS_nil _ _, HB8.out⟩
    have hl3 := run_loadVar_mid (P := Tryz.prog) _ (w.heap.size) 0 27 _ _ (rangeRow HROW.out) Tryz.underlying27 rfl sizeCsr
    simp [results, Tryz.results8, asAddr, hl3]
  | true =>
  by_cases h0 : nl = 0
  · have HF : Hid (R = zeroA) := HNo.out (by rw [HOk.out, h0]; simp)
    subst h0
    have hR := HRw.out _ K2.out
    have h1 : ∀ v ∈ [Value.int .i64 0, .slice none 0 0, .int .i64 0, .int .i64 0, .int .i64 0], v.oneCell' = true := by simp [Value.oneCell']
    go_wp2_with (refine wpList_store_row rfl 27 _ _ rfl (w.heap.size) _ [Value.int .i64 0, .slice none 0 0, .int .i64 0, .int .i64 0, .int .i64 0] 27 rfl rfl hR rfl sizeCsr h1 ?_)
    intro w8 hrow ho hs8 hbb
    have HROW : Hid _ := hrow
    have HB8 : Hid (Below w.heap.size w w8) := hbb _ _ (by omega) (HB.out _ K2.out)
    clear ho hs8 hbb hrow hR h1
    go_wp2
    refine bodyPost_ret (v := .agg [Value.int .i64 0, .slice none 0 0, .int .i64 0, .int .i64 0, .int .i64 0].toArray) ?_ rfl ⟨.slice none 0 0, by rw [HF.out]; rfl, by rw [HF.out]; exact ownS_nil _ _, HB8.out⟩
    have hl3 := run_loadVar_mid (P := Tryz.prog) _ (w.heap.size) 0 27 _ _ (rangeRow HROW.out) Tryz.underlying27 rfl sizeCsr
    simp [results, Tryz.results8, asAddr, hl3]
  have hP : P = true := by rw [HOk.out, hx, decide_eq_true (show 0 < nl by omega)]; rfl
  have HF : Hid (R = ⟨pubA x, ns, k, e, s⟩) := HY.out hP
  have HBo' : Hid (∀ V a' cap', IsStrs V a' ns → Calls Tryz.prog 33 #[.agg #[.int .i64 (pubA x), .slice a' nl cap', .int .i64 0, .int .i64 0, .int .i64 0]] V fun e w' => e = .returned (.string D) ∧ Below V.heap.size V w') := HBo.out hP
  have HSg' : Hid (∀ V, Calls Tryz.prog 32 #[.int .i64 x, .string D] V fun r w' => r = .returned (.agg #[.int .i64 k, .int .i64 e, .int .i64 s]) ∧ Below V.heap.size V w') := HSg.out hP
  clear HBo HSg HY HNo HNm HOk HL5 hP
  generalize hpk : pubA x = pk at *
  go_wp2_with fail
  refine (specPublic x _).mono ?_
  rintro r w2' ⟨rfl, h2w⟩
  subst w2'
  rw [hpk]
  have KW : Hid (Below w.heap.size w w2) := HB.out _ K2.out
  have z2 : w.heap.size + 1 ≤ w2.heap.size := by have := K2.out.size; have := Z1.out; omega
  have hown : (w2.alloc (.cells #[] 9 (0, 0))).ownsRow (w.heap.size + 1) 9 1 (.slice (some ⟨w2.heap.size, 0, none⟩) 0 0) 0 [] := by
    have := World.ownsRow_lit (base := w.heap.size + 1) (e := 9) (size := 1) w2 #[] 0 (by omega) (by decide) rfl
    simpa using this
  have hnews := HN.out _ (KW.out.alloc KW.out.size (.cells #[] 9 (0, 0)))
  have Z2 : Hid (w.heap.size + 1 ≤ w2.heap.size) := z2
  clear z2
  go_wp2_with (at_builtin; refine wpList_append_own _ rfl _ _ 22 rfl (w.heap.size + 1) 9 i0 (.string ⟨#[]⟩) 1 16 Tryz.underlying22 hi0 hz0 hz1 hz2 rfl (by decide) _ _ _ rfl hown ⟨g, o, none⟩ nl cap (sCells ns) rfl ?c0 hnews ?c2 ?c3 ?c4 ?c5 ?_)
  case c0 => rw [HNl.out]; simp [sCells]
  case c2 => exact oneCell_texts ns
  case c3 => unfold maxLen; omega
  case c4 => omega
  case c5 => have := Z2.out; simp; omega
  intro v' w3 hown' hgrow hnil
  have hkeep : ∀ b, b < w.heap.size + 1 → w3.heap[b]? = w2.heap[b]? := fun b hb => by
    rw [hgrow.block b (by have := Z2.out; simp; omega) (fun e => by have h := (hown.lt b e.symm).1; omega)]
    exact Below.heap_alloc _ _ _ (by have := Z2.out; omega)
  have r1 : w3.heap[w.heap.size]? = some (.cells [Value.int .i64 0, .slice none 0 0, .int .i64 0, .int .i64 0, .int .i64 0].toArray 27 (0, 0)) := by rw [hkeep _ (by omega)]; exact HRw.out _ K2.out
  have K3 : Hid (Below w.heap.size w w3) := (KW.out.alloc KW.out.size _).grown hgrow (by have := Z2.out; simp; omega) (fun k hk => by have := (hown.lt k hk).1; omega)
  have O3 : Hid (OwnS w3 (w.heap.size + 1) v' ns) := by
    show World.ownsRow _ _ _ _ _ _ _
    rw [← HNl.out]
    simpa using hown'
  have z3 : w.heap.size + 1 ≤ w3.heap.size := by have h := hgrow.size; simp at h; have := Z2.out; omega
  clear hown' hgrow hnil hkeep hown hnews K2 Z2 HN KW
  obtain ⟨va, vc, hv, _⟩ := OwnS.form O3.out
  rw [← HNl.out] at hv
  subst hv
  obtain ⟨w4, hw4⟩ : ∃ y, y = w3.alloc (.cells #[.int .i64 pk, .slice va nl vc, .int .i64 0, .int .i64 0, .int .i64 0] 27 (0, 0)) := ⟨_, rfl⟩
  have b4 : Below w3.heap.size w3 w4 := by rw [hw4]; exact (Below.refl _ _).alloc (Nat.le_refl _) _
  have t0 : w4.heap[w3.heap.size]? = some (.cells [Value.int .i64 pk, .slice va nl vc, .int .i64 0, .int .i64 0, .int .i64 0].toArray 27 (0, 0)) := by rw [hw4]; exact heap_alloc_new w3 _
  have t1 : w4.heap[w.heap.size]? = some (.cells [Value.int .i64 0, .slice none 0 0, .int .i64 0, .int .i64 0, .int .i64 0].toArray 27 (0, 0)) := (b4.block _ (heap_lt r1)).trans r1
  have K4 : Hid (Below w.heap.size w w4) := K3.out.trans (b4.mono K3.out.size)
  have O4 : Hid (OwnS w4 (w.heap.size + 1) (.slice va nl vc) ns) := O3.out.keep b4
  have HLt : Hid (∀ b, (Value.slice va nl vc).ownBlock = some b → b < w3.heap.size) := fun b hb => (O3.out.ge hb).2
  have Z3' : Hid (w.heap.size + 1 ≤ w3.heap.size) := z3
  have S0 : Hid _ := t0
  have S1 : Hid _ := t1
  clear b4 t0 t1 r1 K3 O3 z3
  go_upto_region 4 with fail
  rw [← hw4]
  clear hw4
  have c0 := rowFacts S0.out 0 _ rfl
  have c1 := rowFacts S0.out 1 _ rfl
  have c2 := rowFacts S0.out 2 _ rfl
  have c3 := rowFacts S0.out 3 _ rfl
  have c4 := rowFacts S0.out 4 _ rfl
  go_wp2_with fail
  refine (HBo'.out _ _ _ (OwnS.strs O4.out)).mono ?_
  rintro r w5 ⟨rfl, b5⟩
  have K5 : Hid (Below w.heap.size w w5) := K4.out.trans (b5.mono K4.out.size)
  have T0 : Hid (w5.heap[w3.heap.size]? = some (.cells [Value.int .i64 pk, .slice va nl vc, .int .i64 0, .int .i64 0, .int .i64 0].toArray 27 (0, 0))) := (b5.block _ (heap_lt S0.out)).trans S0.out
  have T1 : Hid (w5.heap[w.heap.size]? = some (.cells [Value.int .i64 0, .slice none 0 0, .int .i64 0, .int .i64 0, .int .i64 0].toArray 27 (0, 0))) := (b5.block _ (heap_lt S1.out)).trans S1.out
  have O5 : Hid (OwnS w5 (w.heap.size + 1) (.slice va nl vc) ns) := O4.out.keep b5
  clear b5 c0 c1 c2 c3 c4 S0 S1 K4 O4 HBo'
  go_wp2_with fail
  refine (HSg'.out _).mono ?_
  rintro r w6 ⟨rfl, b6⟩
  have K6 : Hid (Below w.heap.size w w6) := K5.out.trans (b6.mono K5.out.size)
  have r0 : w6.heap[w3.heap.size]? = some (.cells [Value.int .i64 pk, .slice va nl vc, .int .i64 0, .int .i64 0, .int .i64 0].toArray 27 (0, 0)) := (b6.block _ (heap_lt T0.out)).trans T0.out
  have r1 : w6.heap[w.heap.size]? = some (.cells [Value.int .i64 0, .slice none 0 0, .int .i64 0, .int .i64 0, .int .i64 0].toArray 27 (0, 0)) := (b6.block _ (heap_lt T1.out)).trans T1.out
  have O6 : Hid (OwnS w6 (w.heap.size + 1) (.slice va nl vc) ns) := O5.out.keep b6
  clear b6 T0 T1 K5 O5 HSg'
  have n3 := Z3'.out
  obtain ⟨w7, hw7⟩ : ∃ y, y = ((w6.setCell ⟨w3.heap.size, 2, none⟩ (.int .i64 k)).setCell ⟨w3.heap.size, 3, none⟩ (.int .i64 e)).setCell ⟨w3.heap.size, 4, none⟩ (.int .i64 s) := ⟨_, rfl⟩
  have t0 : w7.heap[w3.heap.size]? = some (.cells [Value.int .i64 pk, .slice va nl vc, .int .i64 k, .int .i64 e, .int .i64 s].toArray 27 (0, 0)) := by rw [hw7]; exact rowSet (i := 4) _ (rowSet (i := 3) _ (rowSet (i := 2) _ r0))
  have t1 : w7.heap[w.heap.size]? = some (.cells [Value.int .i64 0, .slice none 0 0, .int .i64 0, .int .i64 0, .int .i64 0].toArray 27 (0, 0)) := by rw [hw7, heap_setCell_other _ _ _ _ (by show w.heap.size ≠ w3.heap.size; omega), heap_setCell_other _ _ _ _ (by show w.heap.size ≠ w3.heap.size; omega), heap_setCell_other _ _ _ _ (by show w.heap.size ≠ w3.heap.size; omega)]; exact r1
  have K7 : Hid (Below w.heap.size w w7) := by rw [hw7]; exact ((K6.out.setCell (by show _ ≤ w3.heap.size; omega) _).setCell (by show _ ≤ w3.heap.size; omega) _).setCell (by show _ ≤ w3.heap.size; omega) _
  have O7 : Hid (OwnS w7 (w.heap.size + 1) (.slice va nl vc) ns) := O6.out.off (q := w3.heap.size) (fun hb => by have := HLt.out _ hb; omega) fun b hb => by
    rw [hw7, heap_setCell_other _ _ _ _ hb, heap_setCell_other _ _ _ _ hb, heap_setCell_other _ _ _ _ hb]
  have p8 := rowFacts r0 2 _ rfl
  have p9 := rowFacts r0 3 _ rfl
  have p10 := rowFacts r0 4 _ rfl
  have u8 := rowFree r0 2
  have u9 := rowFree r0 3
  have u10 := rowFree r0 4
  have T0 : Hid _ := t0
  have T1 : Hid _ := t1
  clear r0 r1 t0 t1 K6 O6 n3
  go_upto_region 5 with fail
  rw [← hw7]
  clear hw7 p8 p9 p10 u8 u9 u10
  obtain ⟨C, hC⟩ : ∃ C, C = [Value.int .i64 pk, .slice va nl vc, .int .i64 k, .int .i64 e, .int .i64 s] := ⟨_, rfl⟩
  have hr := rangeRow T0.out
  rw [← hC] at hr
  have hR := T1.out
  have h1 : ∀ v ∈ C, v.oneCell' = true := by rw [hC]; simp [Value.oneCell']
  have hi : (Tryz.prog.info? 27).map (·.size) = some C.length := by rw [hC]; exact sizeCsr
  have HLen : Hid ([Value.int .i64 0, .slice none 0 0, .int .i64 0, .int .i64 0, .int .i64 0].length = C.length) := by rw [hC]; rfl
  have HCC : Hid (C = [Value.int .i64 pk, .slice va nl vc, .int .i64 k, .int .i64 e, .int .i64 s]) := hC
  clear hC
  go_wp2_with (first | (refine wpList_load_mid rfl 27 _ rfl (w3.heap.size) 0 rfl C _ hr Tryz.underlying27 rfl hi ?_) | (refine wpList_store_row rfl 27 _ _ rfl (w.heap.size) _ C 27 rfl rfl hR HLen.out hi h1 ?_))
  intro w8 hrow ho hs8 hbb
  have HROW : Hid _ := hrow
  have HB8 : Hid (Below w.heap.size w w8) := hbb _ _ (by omega) K7.out
  have O8 : Hid (OwnS w8 (w.heap.size + 1) (.slice va nl vc) ns) := O7.out.same fun b h1 h2 => ho b (by omega)
  clear ho hs8 hbb hrow hr hR h1
  go_wp2
  refine bodyPost_ret (v := .agg C.toArray) ?_ rfl ⟨.slice va nl vc, by rw [HF.out, HCC.out]; rfl, by rw [HF.out]; exact O8.out.mono (by omega), HB8.out⟩
  have hl3 := run_loadVar_mid (P := Tryz.prog) _ (w.heap.size) 0 27 _ _ (rangeRow HROW.out) Tryz.underlying27 rfl hi
  simp [results, Tryz.results8, asAddr, hl3]
end Go.Proofs.YthofeoelndplpaaGreatDoor
namespace Go.Proofs.YthofeoelndplpaaGreatDoor
open Go.RowKit

theorem isLetter (n : Int) (w : World) : Calls Tryz.prog 126 #[.int .u8 n] w fun e w' => e = .returned (.bool (decide (97 ≤ n) && decide (n ≤ 122))) ∧ w' = w := by
  by_cases h1 : 97 ≤ n
  · by_cases h2 : n ≤ 122
    all_goals
      go_enter Tryz.func126, Tryz.ntmps126
      go_wp2
      go_ret
      exact ⟨by simp [h1, h2], rfl⟩
  · go_enter Tryz.func126, Tryz.ntmps126
    go_wp2
    go_ret
    exact ⟨by simp; omega, rfl⟩
theorem isDigit (n : Int) (w : World) : Calls Tryz.prog 127 #[.int .u8 n] w fun e w' => e = .returned (.bool (decide (48 ≤ n) && decide (n ≤ 57))) ∧ w' = w := by
  by_cases h1 : 48 ≤ n
  · by_cases h2 : n ≤ 57
    all_goals
      go_enter Tryz.func127, Tryz.ntmps127
      go_wp2
      go_ret
      exact ⟨by simp [h1, h2], rfl⟩
  · go_enter Tryz.func127, Tryz.ntmps127
    go_wp2
    go_ret
    exact ⟨by simp; omega, rfl⟩

set_option maxHeartbeats 1000000 in
theorem implName (s : ByteArray) (w : World) (hs : s.size ≤ maxLen) :
    Calls Tryz.prog 107 #[.string s] w fun e w' => AnsB (NameOk s) e ∧ w' = w := by
  unfold maxLen at hs
  by_cases h1 : s.size < 1
  · go_enter Tryz.func107, Tryz.ntmps107
    go_wp2
    go_ret
    exact ⟨AnsB.no (fun h => by have := h.1; omega) rfl, rfl⟩
  by_cases h2 : 40 < s.size
  · go_enter Tryz.func107, Tryz.ntmps107
    go_wp2
    go_ret
    exact ⟨AnsB.no (fun h => by have := h.2.1; omega) rfl, rfl⟩
  have hp : 0 < s.size := by omega
  by_cases h3 : OkAt s 0 hp
  rotate_left
  · rcases cls (s[0].toNat : Int) with ⟨c, e1, e2, e3, e4, e5⟩ | ⟨c, e1, e2, e3, e4, e5⟩ | ⟨c, e1, e2, e3, e4, e5⟩ | ⟨c, e1, e2, e3, e4, e5⟩ | ⟨c, e1, e2, e3, e4, e5⟩ | ⟨c, e1, e2, e3, e4, e5⟩ | ⟨c, e1, e2, e3, e4, e5⟩
    all_goals
      first
        | (exfalso; exact h3 (by unfold OkAt OkN; omega))
        | (go_enter Tryz.func107, Tryz.ntmps107
           go_wp2
           go_ret
           exact ⟨AnsB.no (name_no s 0 hp h3) rfl, rfl⟩)
  have hc : 97 ≤ (s[0].toNat : Int) ∧ (s[0].toNat : Int) ≤ 122 := by unfold OkAt OkN at h3; omega
  obtain ⟨c1, c2⟩ := hc
  have H3 : Hid (OkAt s 0 hp) := h3
  clear h3
  go_enter Tryz.func107, Tryz.ntmps107
  go_wp2
  go_loop [3] (fun i => ∃ k : Nat, 1 ≤ k ∧ k ≤ s.size ∧ i = .int .i64 k ∧ OkTo s k) (fun i => s.size - (intOf i).toNat)
  case atStart => exact ⟨1, by omega, by omega, rfl, okTo_succ s 0 hp (okTo_zero s) H3.out⟩
  case round =>
    obtain ⟨k, hk1, hk, rfl, hok⟩ := hrel
    have HO : Hid (OkTo s k) := hok
    clear hok
    by_cases hlt : k < s.size
    · rcases cls (s[k].toNat : Int) with ⟨c, e1, e2, e3, e4, e5⟩ | ⟨c, e1, e2, e3, e4, e5⟩ | ⟨c, e1, e2, e3, e4, e5⟩ | ⟨c, e1, e2, e3, e4, e5⟩ | ⟨c, e1, e2, e3, e4, e5⟩ | ⟨c, e1, e2, e3, e4, e5⟩ | ⟨c, e1, e2, e3, e4, e5⟩
      all_goals
        go_wp2
        first
          | (go_ret; exact ⟨AnsB.no (name_no s k hlt (by unfold OkAt OkN; omega)) rfl, rfl⟩)
          | exact ⟨⟨k + 1, by omega, by omega, by go_num, okTo_succ s k hlt HO.out (by unfold OkAt OkN; omega)⟩, by simp [intOf]; omega⟩
    · go_wp2
      go_ret
      have e : k = s.size := by omega
      have hf := HO.out
      rw [e] at hf
      exact ⟨AnsB.yes ⟨by omega, by omega, hf⟩ rfl, rfl⟩
end Go.Proofs.YthofeoelndplpaaGreatDoor
namespace Go.Proofs.YthofeoelndplpaaGreatDoor
open Go.RowKit

theorem implTime (n : Int) (w : World) :
    Calls Tryz.prog 108 #[.int .i64 n] w fun e w' => e = .returned (.bool (timeB n)) ∧ w' = w := by
  by_cases h0 : 0 ≤ n
  · by_cases h1 : n ≤ 1000000000
    · have HF : Hid (timeB n = true) := by show _ = _; simp [timeB, h0, h1]
      go_enter Tryz.func108, Tryz.ntmps108
      go_wp2
      go_ret
      exact ⟨by rw [HF.out]; rfl, rfl⟩
    · have HF : Hid (timeB n = false) := by show _ = _; simp [timeB, h1]
      go_enter Tryz.func108, Tryz.ntmps108
      go_wp2
      go_ret
      exact ⟨by rw [HF.out]; rfl, rfl⟩
  · have HF : Hid (timeB n = false) := by show _ = _; simp [timeB, h0]
    go_enter Tryz.func108, Tryz.ntmps108
    go_wp2
    go_ret
    exact ⟨by rw [HF.out]; rfl, rfl⟩
theorem implSerial (n : Int) (w : World) :
    Calls Tryz.prog 128 #[.int .i64 n] w fun e w' => e = .returned (.bool (serB n)) ∧ w' = w := by
  by_cases h0 : 1 ≤ n
  · by_cases h1 : n ≤ 1000000000
    · have HF : Hid (serB n = true) := by show _ = _; simp [serB, h0, h1]
      go_enter Tryz.func128, Tryz.ntmps128
      go_wp2
      go_ret
      exact ⟨by rw [HF.out]; rfl, rfl⟩
    · have HF : Hid (serB n = false) := by show _ = _; simp [serB, h1]
      go_enter Tryz.func128, Tryz.ntmps128
      go_wp2
      go_ret
      exact ⟨by rw [HF.out]; rfl, rfl⟩
  · have HF : Hid (serB n = false) := by show _ = _; simp [serB, h0]
    go_enter Tryz.func128, Tryz.ntmps128
    go_wp2
    go_ret
    exact ⟨by rw [HF.out]; rfl, rfl⟩
theorem implNameB (s : ByteArray) (w : World) (hs : s.size ≤ maxLen) :
    Calls Tryz.prog 107 #[.string s] w fun e w' => e = .returned (.bool (nameB s)) ∧ w' = w :=
  (implName s w hs).mono fun _ _ h => ⟨ans_name h.1, h.2⟩
end Go.Proofs.YthofeoelndplpaaGreatDoor
namespace Go.Proofs.YthofeoelndplpaaGreatDoor
open Go.RowKit

set_option maxHeartbeats 1000000 in
set_option maxRecDepth 100000 in
theorem implNames (a : Option Addr) (ss : List ByteArray) (c : Nat) (w : World) (hl : ss.length ≤ 1048576) (hs : totS ss ss.length ≤ 1048576) (ha : IsStrs w a ss) :
    Calls Tryz.prog 92 #[.slice a ss.length c] w fun e w' => e = .returned (.bool (namesB ss)) ∧ Below w.heap.size w w' := by
  have HSz : Hid (∀ k, k < ss.length → (tAt ss k).size ≤ 1048576) := fun k hk => Nat.le_trans (totS_at ss hk) hs
  clear hs
  by_cases h5 : 5 < ss.length
  · have HF : Hid (namesB ss = false) := by show _ = _; rw [namesB, decide_eq_false (by omega)]; simp
    go_enter Tryz.func92, Tryz.ntmps92
    go_wp2
    go_ret
    exact ⟨by rw [HF.out]; rfl, Below.refl _ _⟩
  go_enter Tryz.func92, Tryz.ntmps92
  go_wp2
  go_loopw [10] (fun i wr => ∃ k : Nat, k ≤ ss.length ∧ i = .int .i64 k ∧ okTo ss k = true ∧ Below w.heap.size w wr) (fun i _ => ss.length - (intOf i).toNat)
  case atStart => exact ⟨0, Nat.zero_le _, rfl, rfl, Below.refl _ _⟩
  case round =>
    obtain ⟨k, hk, rfl, hok, hbr⟩ := hrel
    have HOk : Hid (okTo ss k = true) := hok
    have HB : Hid (Below w.heap.size w wr) := hbr
    clear hok
    by_cases hlt : k < ss.length
    · obtain ⟨x, o, rfl, hc⟩ : ∃ x o, a = some ⟨x, o, none⟩ ∧ ∀ i, i < ss.length → wr.cell? ⟨x, o + i, none⟩ = some (.string (tAt ss i)) := by
        rcases ha.below hbr ha.lt with rfl | h
        · simp at hlt
        · exact h
      have hck := hc k hlt
      have hz := HSz.out k hlt
      have HNm : Hid (∀ V : World, Calls Tryz.prog 107 #[.string (tAt ss k)] V fun e w' => e = .returned (.bool (nameB (tAt ss k))) ∧ w' = V) := fun V => implNameB _ V (by unfold maxLen; omega)
      clear hz
      have a0 : (0 : Int) ≤ (k : Int) := by omega
      have b0 : (k : Int) < (ss.length : Int) := by omega
      cases hn : nameB (tAt ss k) with
      | false =>
        have HF : Hid (namesB ss = false) := by show _ = _; rw [namesB, okTo_no (okN_not hn) hlt]; rfl
        rw [hn] at HNm
        generalize tAt ss k = z at *
        generalize ss.length = n at *
        clear hc ha hbr hn HSz
        go_wp2_with fail
        refine (HNm.out _).mono ?_
        rintro e w2 ⟨rfl, rfl⟩
        go_wp2
        go_ret
        exact ⟨by rw [HF.out]; rfl, HB.out⟩
      | true =>
        rw [hn] at HNm
        by_cases h0 : k = 0
        · subst h0
          have HF : Hid (okN ss 0 = true) := okN_zero hn
          rw [Nat.add_zero] at hck
          generalize tAt ss 0 = z at *
          generalize ss.length = n at *
          clear hc ha hbr hn HSz
          go_wp2_with fail
          refine (HNm.out _).mono ?_
          rintro e w2 ⟨rfl, rfl⟩
          go_wp2
          go_roundw
          case rel => exact ⟨1, by omega, by go_num, okTo_yes HOk.out HF.out, HB.out⟩
          case measure => simp [intOf]; omega
        · have hck1 := hc (k - 1) (by omega)
          have ek : ((k : Int) - 1) = ((k - 1 : Nat) : Int) := by omega
          have ew : IntKind.i64.wrap ((k : Int) - 1) = ((k - 1 : Nat) : Int) := by rw [IntKind.wrap_i64]; omega
          have a1 : (0 : Int) < (k : Int) := by omega
          have b1 : ((k - 1 : Nat) : Int) < (ss.length : Int) := by omega
          have hbl := okN_more (ss := ss) (k := k) (by omega) hn
          cases hr : Op.bytesLess (tAt ss (k - 1)).toList (tAt ss k).toList with
          | false =>
            have HF : Hid (namesB ss = false) := by show _ = _; rw [namesB, okTo_no (hbl.trans hr) hlt]; rfl
            generalize tAt ss k = z at *
            generalize tAt ss (k - 1) = y at *
            generalize k - 1 = k1 at *
            generalize ss.length = n at *
            clear hc ha hbr hn HSz hbl
            go_wp2_with fail
            refine (HNm.out _).mono ?_
            rintro e w2 ⟨rfl, rfl⟩
            go_wp2
            go_ret
            exact ⟨by rw [HF.out]; rfl, HB.out⟩
          | true =>
            have HF : Hid (okN ss k = true) := hbl.trans hr
            generalize tAt ss k = z at *
            generalize tAt ss (k - 1) = y at *
            generalize k - 1 = k1 at *
            generalize ss.length = n at *
            clear hc ha hbr hn HSz hbl
            go_wp2_with fail
            refine (HNm.out _).mono ?_
            rintro e w2 ⟨rfl, rfl⟩
            go_wp2
            go_roundw
            case rel => exact ⟨k + 1, by omega, by go_num, okTo_yes HOk.out HF.out, HB.out⟩
            case measure => simp [intOf]; omega
    · obtain rfl : k = ss.length := by omega
      have HF : Hid (namesB ss = true) := by show _ = _; rw [namesB, HOk.out, decide_eq_true (by omega)]; rfl
      clear ha hbr
      go_wp2
      go_ret
      exact ⟨by rw [HF.out]; rfl, HB.out⟩
end Go.Proofs.YthofeoelndplpaaGreatDoor
