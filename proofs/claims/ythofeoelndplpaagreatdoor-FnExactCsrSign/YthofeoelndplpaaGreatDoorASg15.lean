/- impl.askedAgain, impl.SigCheck, walked. The methods of impl.signedBox over impl.Csr: sign, signedWith, walked. What impl.csrBody hands back, in words. impl.copyText, walked. impl.copyTexts, walked. -/
import Derived.Test.YthofeoelndplpaaGreatDoorASg14
import Derived.Deep.QuietTactic
import Derived.BigQuiet
import Derived.Deep.RegionHeld3
import Derived.Test.YthofeoelndplpaaGreatDoorASg08
import Derived.Test.YthofeoelndplpaaGreatDoorASg04
import Derived.Test.YthofeoelndplpaaGreatDoorASg09
import Derived.Deep.Cut
import Derived.Test.YthofeoelndplpaaGreatDoorASg13
import Derived.Test.YthofeoelndplpaaGreatDoorASg01
namespace Go.Proofs.YthofeoelndplpaaGreatDoor
open Go.RowKit

set_option maxHeartbeats 1000000 in
set_option maxRecDepth 100000 in
theorem askedAgain (K E S : Nat) (t : ByteArray) (w : World) (ht : t.size ≤ 20000) (hk : K < 2147483579) (he : E < 1073741789) (hs : S < 1073741789) (hp : pm K 1073741789 2147483579 = 1) (hw : Keys w) :
    Calls Tryz.prog 101 #[.agg #[.int .i64 (K : Int), .int .i64 (E : Int), .int .i64 (S : Int)], .func (.func 99) #[.agg #[.int .i64 (K : Int), .string t]] #[]] w fun r w' => r = .returned (sigV K (chal (backR K E S : Nat) K t) S) ∧ Below w.heap.size w w' := by
  obtain ⟨j, hj⟩ : ∃ j : Nat, j = 1073741789 - E := ⟨_, rfl⟩
  obtain ⟨y1, hy1⟩ : ∃ y : Nat, y = pm 4 S 2147483579 := ⟨_, rfl⟩
  obtain ⟨y2, hy2⟩ : ∃ y : Nat, y = pm K j 2147483579 := ⟨_, rfl⟩
  obtain ⟨b, hb⟩ : ∃ b : Nat, b = backR K E S := ⟨_, rfl⟩
  obtain ⟨c, hc⟩ : ∃ c : Nat, c = chal (b : Int) K t := ⟨_, rfl⟩
  have e1 : gpowA 4 (S : Int) = (y1 : Int) := by rw [hy1]; exact gpow_in (y := 4) (by omega) pm4 S
  have e2 : gpowA (K : Int) (j : Int) = (y2 : Int) := by rw [hy2]; exact gpow_in hk hp j
  have e3 : gmulA (y1 : Int) (y2 : Int) = (b : Int) := by rw [hy1, hy2, hb, hj]; exact back_mul hp
  have hj' : (1073741789 : Int) - (E : Int) = (j : Int) := by omega
  have hj2 : IntKind.i64.wrap (j : Int) = (j : Int) := by rw [IntKind.wrap_i64]; omega
  have hjm : (j : Int) ≤ 1073741789 := by omega
  have e4 : challA (b : Int) (K : Int) t = (c : Int) := by
    rw [challA, if_pos ⟨ht, by rw [hb]; exact back_unit hp, unit_of hk hp⟩, hc]
  rw [← hb, ← hc]
  have hkp := hw.pos
  have htm : t.size ≤ maxLen := by unfold maxLen; omega
  have HW : Hid (Keys w) := hw
  have E3 : Hid (gmulA (y1 : Int) (y2 : Int) = (b : Int)) := e3
  have E4 : Hid (challA (b : Int) (K : Int) t = (c : Int)) := e4
  clear hj hy1 hy2 hb hc hp hw e3 e4 hk
  have hA : ∀ x y, Below w.heap.size w ((w.alloc x).alloc y) := fun x y => ((Below.refl _ w).alloc (Nat.le_refl _) x).alloc (by simp) y
  go_enter Tryz.func101, Tryz.ntmps101
  go_wp2_with fail
  obtain ⟨w1, hw1⟩ : ∃ w1, (w.alloc (.cells #[.int .i64 (K : Int), .int .i64 (E : Int), .int .i64 (S : Int)] 25 (0, 0))).alloc (.cells #[.int .i64 0, .int .i64 0, .int .i64 0] 25 (0, 0)) = w1 := ⟨_, rfl⟩
  have hb1 : Below w.heap.size w w1 := by rw [← hw1]; exact hA _ _
  have hs1 : w1.heap.size = w.heap.size + 2 := by rw [← hw1]; simp
  have hP1 : w1.heap[w.heap.size]? = some (.cells [Value.int .i64 (K : Int), .int .i64 (E : Int), .int .i64 (S : Int)].toArray 25 (0, 0)) := by
    rw [← hw1, Below.heap_alloc _ _ _ (by simp)]; exact heap_alloc_new w _
  have hR1 : w1.heap[w.heap.size + 1]? = some (.cells [Value.int .i64 0, .int .i64 0, .int .i64 0].toArray 25 (0, 0)) := by rw [← hw1]; exact heap_alloc2 w _ _
  rw [hw1]
  have HKEEP : Hid (∀ W, Below (w.heap.size + 2) w1 W → W.heap[w.heap.size + 1]? = some (.cells [Value.int .i64 0, .int .i64 0, .int .i64 0].toArray 25 (0, 0)) ∧ W.cell? ⟨w.heap.size, 0, none⟩ = some (.int .i64 (K : Int)) ∧ W.cell? ⟨w.heap.size, 1, none⟩ = some (.int .i64 (E : Int)) ∧ W.cell? ⟨w.heap.size, 2, none⟩ = some (.int .i64 (S : Int)) ∧ W.cell? ⟨w.heap.size + 1, 0, none⟩ = some (.int .i64 0) ∧ W.cell? ⟨w.heap.size + 1, 1, none⟩ = some (.int .i64 0) ∧ W.cell? ⟨w.heap.size + 1, 2, none⟩ = some (.int .i64 0) ∧ W.frozen? ⟨w.heap.size + 1, 0, none⟩ = false ∧ W.frozen? ⟨w.heap.size + 1, 1, none⟩ = false ∧ W.frozen? ⟨w.heap.size + 1, 2, none⟩ = false) := fun W hW => by
    have hP : W.heap[w.heap.size]? = some (.cells [Value.int .i64 (K : Int), .int .i64 (E : Int), .int .i64 (S : Int)].toArray 25 (0, 0)) := by rw [hW.block _ (by omega)]; exact hP1
    have hR : W.heap[w.heap.size + 1]? = some (.cells [Value.int .i64 0, .int .i64 0, .int .i64 0].toArray 25 (0, 0)) := by rw [hW.block _ (by omega)]; exact hR1
    exact ⟨hR, rowFacts hP 0 _ rfl, rowFacts hP 1 _ rfl, rowFacts hP 2 _ rfl, rowFacts hR 0 _ rfl, rowFacts hR 1 _ rfl, rowFacts hR 2 _ rfl, frozen_of_row W _ 0 _ _ hR, frozen_of_row W _ 1 _ _ hR, frozen_of_row W _ 2 _ _ hR⟩
  have HT1 : Hid (∀ V (y n : Int), Hid (Below (w.heap.size + 2) w1 V) → n ≤ 9223372036854775807 → Calls Tryz.prog 70 #[.int .i64 y, .int .i64 n] V fun r W => r = .returned (.int .i64 (gpowA y n)) ∧ Hid (Below (w.heap.size + 2) w1 W) ∧ W.cell? ⟨w.heap.size, 0, none⟩ = some (.int .i64 (K : Int)) ∧ W.cell? ⟨w.heap.size, 1, none⟩ = some (.int .i64 (E : Int)) ∧ W.cell? ⟨w.heap.size, 2, none⟩ = some (.int .i64 (S : Int))) := fun V y n hV hn => by
    refine (implGroupPow y n V hn).mono ?_
    rintro r W ⟨rfl, hb⟩
    have hbW : Below (w.heap.size + 2) w1 W := hV.out.trans (hb.mono (by have := hV.out.size; omega))
    have h := HKEEP.out W hbW
    exact ⟨rfl, hbW, h.2.1, h.2.2.1, h.2.2.2.1⟩
  have HT2 : Hid (∀ V (y n : Int), Hid (Below (w.heap.size + 2) w1 V) → Calls Tryz.prog 121 #[.int .i64 y, .int .i64 n] V fun r W => r = .returned (.int .i64 (gmulA y n)) ∧ Hid (Below (w.heap.size + 2) w1 W) ∧ W.cell? ⟨w.heap.size, 0, none⟩ = some (.int .i64 (K : Int)) ∧ W.cell? ⟨w.heap.size, 1, none⟩ = some (.int .i64 (E : Int)) ∧ W.cell? ⟨w.heap.size, 2, none⟩ = some (.int .i64 (S : Int))) := fun V y n hV => by
    refine (implGroupMul y n V).mono ?_
    rintro r W ⟨rfl, hb⟩
    have hbW : Below (w.heap.size + 2) w1 W := hV.out.trans (hb.mono (by have := hV.out.size; omega))
    have h := HKEEP.out W hbW
    exact ⟨rfl, hbW, h.2.1, h.2.2.1, h.2.2.2.1⟩
  have HB1 : Hid (Below w.heap.size w w1) := hb1
  have HS1 : Hid (w1.heap.size = w.heap.size + 2) := hs1
  have HD1 : Hid (Below (w.heap.size + 2) w1 w1.drew) := (Below.refl _ w1).drew
  obtain ⟨_, p0, p1, p2, o0, o1, o2, y0, y1', y2'⟩ := HKEEP.out w1 (Below.refl _ _)
  clear hw1 hP1 hR1 hb1 hA hs1 o0 o1 o2 y0 y1' y2'
  go_region_held3 (fun V => V.cell? ⟨w.heap.size, 0, none⟩ = some (.int .i64 (K : Int)) ∧ V.cell? ⟨w.heap.size, 1, none⟩ = some (.int .i64 (E : Int)) ∧ V.cell? ⟨w.heap.size, 2, none⟩ = some (.int .i64 (S : Int))) (first | exact ⟨d0, d1, d2⟩ | exact ⟨c0, c1, c2⟩ | go_keep)
    (first | (go_at_call 121; refine (HT2.out _ _ _ (by assumption)).mono ?_; rintro r W2 ⟨rfl, kk2, d0, d1, d2⟩) | (go_at_call 70; refine (HT1.out _ _ _ (by assumption) (by omega)).mono ?_; rintro r W ⟨rfl, kk, c0, c1, c2⟩))
  rw [E3.out]
  have hk2 := kk2.out
  have HT3 : Hid (Calls Tryz.prog 99 #[.agg #[.int .i64 (K : Int), .string t], .int .i64 (b : Int)] W2.drew fun r W => r = .returned (.int .i64 (c : Int)) ∧ Hid (Below (w.heap.size + 2) w1 W) ∧ W.cell? ⟨w.heap.size, 0, none⟩ = some (.int .i64 (K : Int)) ∧ W.cell? ⟨w.heap.size, 1, none⟩ = some (.int .i64 (E : Int)) ∧ W.cell? ⟨w.heap.size, 2, none⟩ = some (.int .i64 (S : Int)) ∧ W.cell? ⟨w.heap.size + 1, 0, none⟩ = some (.int .i64 0) ∧ W.cell? ⟨w.heap.size + 1, 1, none⟩ = some (.int .i64 0) ∧ W.cell? ⟨w.heap.size + 1, 2, none⟩ = some (.int .i64 0) ∧ W.frozen? ⟨w.heap.size + 1, 0, none⟩ = false ∧ W.frozen? ⟨w.heap.size + 1, 1, none⟩ = false ∧ W.frozen? ⟨w.heap.size + 1, 2, none⟩ = false) := by
    show Calls _ _ _ _ _
    have z2 := hk2.size
    have hsz : w1.heap.size = w.heap.size + 2 := HS1.out
    have hB : Below w.heap.size w W2 := HB1.out.trans (hk2.mono (by omega))
    refine (askChallenge (K : Int) (b : Int) t W2.drew htm (HW.out.below hB.drew hkp)).mono ?_
    rintro r W ⟨rfl, hb⟩
    have hbW : Below (w.heap.size + 2) w1 W := hk2.drew.trans (hb.mono (by show _ ≤ W2.heap.size; omega))
    have h := HKEEP.out W hbW
    exact ⟨by rw [E4.out], hbW, h.2⟩
  clear hk2 kk2 kk HT1 HT2 HD1 e1 e2 hj' hj2 hjm c0 c1 c2 p0 p1 p2
  go_wp2_with fail
  go_region_held3 (fun V => V.cell? ⟨w.heap.size, 0, none⟩ = some (.int .i64 (K : Int)) ∧ V.cell? ⟨w.heap.size, 2, none⟩ = some (.int .i64 (S : Int))) (first | exact ⟨q0, q2⟩ | go_keep)
    (first | (go_at_call 99; refine HT3.out.mono ?_; rintro r W3 ⟨rfl, kk3, q0, q1, q2, r0, r1, r2, f0, f1, f2⟩))
  all_goals
    have G4 := (HKEEP.out _ kk3.out).1
    have B4 := HB1.out.trans (kk3.out.mono (by omega))
    clear HT3 HKEEP
    have HG : Hid _ := G4
    have HB : Hid _ := B4
    clear G4 B4
    go_wp2
    refine bodyPost_ret (v := sigV K c S) ?_ rfl ⟨rfl, ?_⟩
    · have hrow := sigRow HG.out (.int .i64 (K : Int)) (.int .i64 (c : Int)) (.int .i64 (S : Int))
      have hl3 := run_loadVar_mid (P := Tryz.prog) _ (w.heap.size + 1) 0 25 _ _ (rangeRow hrow) Tryz.underlying25 rfl sizeSig
      simp [results, Tryz.results101, asAddr, hl3, sigV]
    · exact ((HB.out.setCell (by simp) _).setCell (by simp) _).setCell (by simp) _
set_option maxHeartbeats 1000000 in
set_option maxRecDepth 100000 in
theorem implSigCheck (k e s : Int) (t : ByteArray) (w : World) (ht : t.size ≤ maxLen) (hw : Keys w) :
    Calls Tryz.prog 75 #[.agg #[.int .i64 k, .int .i64 e, .int .i64 s], .string t] w fun r w' => r = .returned (.bool (sigCB k e s t)) ∧ Below w.heap.size w w' := by
  have hkp := hw.pos
  have HW : Hid (Keys w) := hw
  clear hw
  by_cases h1 : 20000 < t.size
  · have ea : Hid (sigCB k e s t = false) := sigCB_long h1
    have hd : decide (20000 < t.size) = true := decide_eq_true h1
    go_enter Tryz.func75, Tryz.ntmps75
    go_wp2_with fail
    refine (tooLong t _ ht).mono ?_
    rintro r w' ⟨rfl, rfl⟩
    rw [hd]
    clear h1 hd ht
    go_wp2
    go_ret
    exact ⟨by rw [ea.out]; rfl, allocBelow _ _⟩
  have hd : decide (20000 < t.size) = false := decide_eq_false h1
  have ht2 : t.size ≤ 20000 := by omega
  by_cases h2 : sigRB k e s = true
  · obtain ⟨K, E, S, rfl, rfl, rfl, hk, he, hs, hp⟩ := sigRB_nat h2
    have ea : Hid (sigCB K E S t = decide ((chal (backR K E S : Nat) K t : Int) = (E : Int))) := sigCB_right ht2 h2
    have HX : Hid (∀ v : World, Keys v → Calls Tryz.prog 101 #[.agg #[.int .i64 (K : Int), .int .i64 (E : Int), .int .i64 (S : Int)], .func (.func 99) #[.agg #[.int .i64 (K : Int), .string t]] #[]] v fun r w' => r = .returned (sigV K (chal (backR K E S : Nat) K t) S) ∧ Below v.heap.size v w') := fun v hv => askedAgain K E S t v ht2 hk he hs hp hv
    generalize chal (backR K E S : Nat) K t = c at *
    go_enter Tryz.func75, Tryz.ntmps75
    go_wp2_with fail
    refine (tooLong t _ ht).mono ?_
    rintro r w' ⟨rfl, rfl⟩
    rw [hd]
    go_wp2_with fail
    refine (implSigRight K E S _).mono ?_
    rintro r w1 ⟨rfl, hb1⟩
    rw [h2]
    have c0 : w1.cell? ⟨w.heap.size, 0, none⟩ = some (.int .i64 (K : Int)) := by rw [hb1.cell (p := ⟨w.heap.size, 0, none⟩) (by simp)]; simp
    have c1 : w1.cell? ⟨w.heap.size, 1, none⟩ = some (.int .i64 (E : Int)) := by rw [hb1.cell (p := ⟨w.heap.size, 1, none⟩) (by simp)]; simp
    have c2 : w1.cell? ⟨w.heap.size, 2, none⟩ = some (.int .i64 (S : Int)) := by rw [hb1.cell (p := ⟨w.heap.size, 2, none⟩) (by simp)]; simp
    have hl : w.heap.size < w1.heap.size := by have := hb1.size; simp at this; omega
    have B1 : Hid (Below w.heap.size w w1) := (allocBelow w _).trans (hb1.mono (by simp))
    have HT : Hid (Calls Tryz.prog 101 #[.agg #[.int .i64 (K : Int), .int .i64 (E : Int), .int .i64 (S : Int)], .func (.func 99) #[.agg #[.int .i64 (K : Int), .string t]] #[]] w1.drew fun r W => r = .returned (.agg #[.int .i64 (K : Int), .int .i64 (c : Int), .int .i64 (S : Int)]) ∧ Hid (Below w.heap.size w W) ∧ W.cell? ⟨w.heap.size, 0, none⟩ = some (.int .i64 (K : Int)) ∧ W.cell? ⟨w.heap.size, 1, none⟩ = some (.int .i64 (E : Int)) ∧ W.cell? ⟨w.heap.size, 2, none⟩ = some (.int .i64 (S : Int))) := by
      show Calls _ _ _ _ _
      refine (HX.out w1.drew (HW.out.below B1.out.drew hkp)).mono ?_
      rintro r W ⟨rfl, hb⟩
      exact ⟨rfl, B1.out.drew.trans (hb.mono (Nat.le_of_lt hl)), by rw [hb.cell hl]; exact c0, by rw [hb.cell hl]; exact c1, by rw [hb.cell hl]; exact c2⟩
    clear hb1 HX hl hp
    by_cases hc : E = c
    · obtain rfl := hc
      go_wp2_with fail
      go_region_held3 (fun V => V.cell? ⟨w.heap.size, 0, none⟩ = some (.int .i64 (K : Int)) ∧ V.cell? ⟨w.heap.size, 1, none⟩ = some (.int .i64 (E : Int)) ∧ V.cell? ⟨w.heap.size, 2, none⟩ = some (.int .i64 (S : Int))) (first | exact ⟨q0, q1, q2⟩ | go_keep)
        (first | (go_at_call 101; refine HT.out.mono ?_; rintro r W3 ⟨rfl, kk3, q0, q1, q2⟩))
      all_goals
        go_wp2
        go_ret
        exact ⟨by rw [ea.out]; simp, kk3.out⟩
    · have hb : ((E : Int) == (c : Int)) = false := by rw [beq_eq_false_iff_ne]; omega
      have HC : Hid (decide ((c : Int) = (E : Int)) = false) := decide_eq_false (by omega)
      go_wp2_with fail
      go_region_held3 (fun V => V.cell? ⟨w.heap.size, 0, none⟩ = some (.int .i64 (K : Int)) ∧ V.cell? ⟨w.heap.size, 1, none⟩ = some (.int .i64 (E : Int)) ∧ V.cell? ⟨w.heap.size, 2, none⟩ = some (.int .i64 (S : Int))) (first | exact ⟨q0, q1, q2⟩ | go_keep)
        (first | (go_at_call 101; refine HT.out.mono ?_; rintro r W3 ⟨rfl, kk3, q0, q1, q2⟩))
      all_goals
        go_wp2
        go_ret
        exact ⟨by rw [ea.out, HC.out]; rfl, kk3.out⟩
  · rw [Bool.not_eq_true] at h2
    have ea : Hid (sigCB k e s t = false) := sigCB_wrong h2
    go_enter Tryz.func75, Tryz.ntmps75
    go_wp2_with fail
    refine (tooLong t _ ht).mono ?_
    rintro r w' ⟨rfl, rfl⟩
    rw [hd]
    go_wp2_with fail
    refine (implSigRight k e s _).mono ?_
    rintro r w1 ⟨rfl, hb1⟩
    rw [h2]
    have B1 : Hid (Below w.heap.size w w1) := (allocBelow w _).trans (hb1.mono (by simp))
    clear hb1
    go_wp2
    go_ret
    exact ⟨by rw [ea.out]; rfl, B1.out⟩
end Go.Proofs.YthofeoelndplpaaGreatDoor
namespace Go.Proofs.YthofeoelndplpaaGreatDoor
open Go.RowKit

set_option linter.unusedSimpArgs false in
set_option maxHeartbeats 4000000 in
set_option maxRecDepth 100000 in
theorem signCsr (c : Ask) (v nv : Value) (D : ByteArray) (x k e s : Int) (E : Value) (w : World) (hD : D.size ≤ 20000) (hw : Keys w) (hE : w.cell? ⟨0, 0, none⟩ = some E) (hv : signV x D = .agg #[.int .i64 k, .int .i64 e, .int .i64 s]) :
    Calls Tryz.prog 36 #[c.box v D nv, .int .i64 x] w fun r w' => r = .returned (if (decide (D.size ≠ 0) && secB x) = true then .tuple #[.agg #[.int .i64 k, .int .i64 e, .int .i64 s], .nilIface] else .tuple #[.agg #[.int .i64 0, .int .i64 0, .int .i64 0], E]) ∧ Below w.heap.size w w' := by
  obtain ⟨R, hR⟩ : ∃ R : Value, R = if (decide (D.size ≠ 0) && secB x) = true then .tuple #[.agg #[.int .i64 k, .int .i64 e, .int .i64 s], .nilIface] else .tuple #[.agg #[.int .i64 0, .int .i64 0, .int .i64 0], E] := ⟨_, rfl⟩
  rw [← hR]
  have HR : Hid (R = if (decide (D.size ≠ 0) && secB x) = true then .tuple #[.agg #[.int .i64 k, .int .i64 e, .int .i64 s], .nilIface] else .tuple #[.agg #[.int .i64 0, .int .i64 0, .int .i64 0], E]) := hR
  clear hR
  obtain ⟨key, names, sk, se, ss⟩ := c
  unfold Ask.box
  simp only
  have hEl := World.block_lt_of_cell? w _ hE
  have hkp := hw.pos
  have HKy : Hid (∀ V, Below w.heap.size w V → Keys V) := fun V hV => hw.below hV hkp
  have HSg : Hid (∀ V, Keys V → Calls Tryz.prog 71 #[.int .i64 x, .string D] V fun r w' => r = .returned (.agg #[.int .i64 k, .int .i64 e, .int .i64 s]) ∧ Below V.heap.size V w') := fun V hV => by
    have := implSign x D V (by unfold maxLen; omega) hV
    rw [hv] at this
    exact this
  have HE : Hid (∀ V, Below w.heap.size w V → V.cell? ⟨0, 0, none⟩ = some E) := fun V hV => by rw [hV.cell hEl]; exact hE
  clear hE hEl hw hkp hv hD
  obtain ⟨w1, hw1⟩ : ∃ w1, w1 = (w.alloc (.cells #[.int .i64 key, v, .int .i64 sk, .int .i64 se, .int .i64 ss, .string D, .int .i64 sk, .int .i64 se, .int .i64 ss, nv] 58 (0, 0))).alloc (.cells #[.int .i64 0, .int .i64 0, .int .i64 0] 25 (0, 0)) := ⟨_, rfl⟩
  have r0 : w1.heap[w.heap.size]? = some (.cells [Value.int .i64 key, v, .int .i64 sk, .int .i64 se, .int .i64 ss, .string D, .int .i64 sk, .int .i64 se, .int .i64 ss, nv].toArray 58 (0, 0)) := by rw [hw1, Below.heap_alloc _ _ _ (by simp)]; exact heap_alloc_new w _
  have r1 : w1.heap[w.heap.size + 1]? = some (.cells [Value.int .i64 0, .int .i64 0, .int .i64 0].toArray 25 (0, 0)) := by rw [hw1]; exact heap_alloc2 w _ _
  have B1 : Hid (Below w.heap.size w w1) := by rw [hw1]; exact ((Below.refl _ _).alloc (Nat.le_refl _) _).alloc (by simp) _
  have HRw : Hid (∀ V, Below w1.heap.size w1 V → V.heap[w.heap.size]? = some (.cells [Value.int .i64 key, v, .int .i64 sk, .int .i64 se, .int .i64 ss, .string D, .int .i64 sk, .int .i64 se, .int .i64 ss, nv].toArray 58 (0, 0)) ∧ V.heap[w.heap.size + 1]? = some (.cells [Value.int .i64 0, .int .i64 0, .int .i64 0].toArray 25 (0, 0))) := fun V hV => ⟨(hV.block _ (heap_lt r0)).trans r0, (hV.block _ (heap_lt r1)).trans r1⟩
  have HC : Hid (∀ V : World, V.heap[w.heap.size]? = some (.cells [Value.int .i64 key, v, .int .i64 sk, .int .i64 se, .int .i64 ss, .string D, .int .i64 sk, .int .i64 se, .int .i64 ss, nv].toArray 58 (0, 0)) → V.cell? ⟨w.heap.size, 0, none⟩ = some (.int .i64 key) ∧ V.cell? ⟨w.heap.size, 1, none⟩ = some (v) ∧ V.cell? ⟨w.heap.size, 2, none⟩ = some (.int .i64 sk) ∧ V.cell? ⟨w.heap.size, 3, none⟩ = some (.int .i64 se) ∧ V.cell? ⟨w.heap.size, 4, none⟩ = some (.int .i64 ss) ∧ V.cell? ⟨w.heap.size, 5, none⟩ = some (.string D) ∧ V.cell? ⟨w.heap.size, 6, none⟩ = some (.int .i64 sk) ∧ V.cell? ⟨w.heap.size, 7, none⟩ = some (.int .i64 se) ∧ V.cell? ⟨w.heap.size, 8, none⟩ = some (.int .i64 ss) ∧ V.cell? ⟨w.heap.size, 9, none⟩ = some (nv)) := fun V hP => ⟨rowFacts hP 0 _ rfl, rowFacts hP 1 _ rfl, rowFacts hP 2 _ rfl, rowFacts hP 3 _ rfl, rowFacts hP 4 _ rfl, rowFacts hP 5 _ rfl, rowFacts hP 6 _ rfl, rowFacts hP 7 _ rfl, rowFacts hP 8 _ rfl, rowFacts hP 9 _ rfl⟩
  have HK : Hid (∀ V, Below w1.heap.size w1 V → V.cell? ⟨w.heap.size, 0, none⟩ = some (.int .i64 key) ∧ V.cell? ⟨w.heap.size, 1, none⟩ = some (v) ∧ V.cell? ⟨w.heap.size, 2, none⟩ = some (.int .i64 sk) ∧ V.cell? ⟨w.heap.size, 3, none⟩ = some (.int .i64 se) ∧ V.cell? ⟨w.heap.size, 4, none⟩ = some (.int .i64 ss) ∧ V.cell? ⟨w.heap.size, 5, none⟩ = some (.string D) ∧ V.cell? ⟨w.heap.size, 6, none⟩ = some (.int .i64 sk) ∧ V.cell? ⟨w.heap.size, 7, none⟩ = some (.int .i64 se) ∧ V.cell? ⟨w.heap.size, 8, none⟩ = some (.int .i64 ss) ∧ V.cell? ⟨w.heap.size, 9, none⟩ = some (nv)) := fun V hV => HC.out V (HRw.out V hV).1
  have HB : Hid (∀ V, Below w1.heap.size w1 V → Below w.heap.size w V) := fun V hV => B1.out.trans (hV.mono B1.out.size)
  have Z1 : Hid (w1.heap.size = w.heap.size + 2) := by show _ = _; rw [hw1]; simp
  have I1 : Hid (Below w1.heap.size w1 w1) := Below.refl _ _
  have D1 : Hid (Below w1.heap.size w1 w1.drew) := I1.out.drew
  clear r0 r1 B1
  obtain ⟨c0, c1, c2, c3, c4, c5, c6, c7, c8, c9⟩ := HK.out w1 I1.out
  go_enter Tryz.func36, Tryz.ntmps36
  go_upto_region 1 with fail
  rw [← hw1]
  clear hw1
  by_cases h0 : D.size = 0
  · have x0 := isEmpty_of h0
    have HF : Hid (R = .tuple #[.agg #[.int .i64 0, .int .i64 0, .int .i64 0], E]) := by show _ = _; rw [HR.out, if_neg (by simp [h0])]
    go_wp2_with fail
    refine wp_region_held_drew (S := fun V => V.cell? ⟨0, 0, none⟩ = some E) (by kernel_rfl) ?_ (fun hHeld => ?_)
    · exact HE.out _ (HB.out _ D1.out)
    refine wpAnyH_take (i := 0) (oi := ⟨some 14, _, _, _, _, _⟩) (v := ?_) rfl (by kernel_rfl) (by kernel_rfl) (by kernel_rfl) (fun _ _ _ h => h) (Or.inl ⟨by kernel_rfl, ?_⟩) (by assumption) ?_
    rotate_left
    · (intro w hSw; (try dsimp only at hSw); go_simp; try with_reducible rfl)
    (try simp only [Act.put, List.setIfInBounds_toArray, List.set_cons_zero, List.set_cons_succ])
    refine wpAnyH_take (i := 1) (oi := ⟨some 15, _, _, _, _, _⟩) (v := ?_) rfl (by kernel_rfl) (by kernel_rfl) (by kernel_rfl) (fun _ _ _ h => h) (Or.inl ⟨by kernel_rfl, ?_⟩) (by assumption) ?_
    rotate_left
    · (intro w hSw; (try dsimp only at hSw); go_simp; try with_reducible rfl)
    (try simp only [Act.put, List.setIfInBounds_toArray, List.set_cons_zero, List.set_cons_succ])
    refine wpAnyH_ready (rs := [2]) (by kernel_rfl) (by simp) ?_
    refine AllReadyH.cons (o := ⟨none, _, _, _, _, _⟩) rfl (fun K hK => ?_) AllReadyH.nil
    rw [if_pos (by rfl)]
    refine wp_store_row 25 _ _ rfl (w.heap.size + 1) [Value.int .i64 0, .int .i64 0, .int .i64 0] [Value.int .i64 0, .int .i64 0, .int .i64 0] 25 rfl rfl (HRw.out _ D1.out).2 rfl sizeSig (by simp [Value.oneCell']) ?_
    intro w8 hrow ho hs8 hbb
    have HROW : Hid _ := hrow
    have HB8 : Hid (Below w.heap.size w w8) := hbb _ _ (by omega) (HB.out _ D1.out)
    refine hK.out _ _ ?_ (fun hHeld => ?_)
    · exact HE.out _ HB8.out
    clear hK K ho hs8 hbb hrow
    (try simp only [Act.put, List.setIfInBounds_toArray, List.set_cons_zero, List.set_cons_succ])
    refine wpAnyH_take (i := 3) (oi := ⟨some 5, _, _, _, _, _⟩) (v := ?_) rfl (by kernel_rfl) (by kernel_rfl) (by kernel_rfl) (fun _ _ _ h => h) (Or.inl ⟨by kernel_rfl, ?_⟩) (by assumption) ?_
    rotate_left
    · (intro w hSw; (try dsimp only at hSw); go_simp; try with_reducible rfl)
    (try simp only [Act.put, List.setIfInBounds_toArray, List.set_cons_zero, List.set_cons_succ])
    refine wpAnyH_done (by kernel_rfl) ?_ _
    go_wp2
    refine bodyPost_ret (v := .tuple #[.agg [Value.int .i64 0, .int .i64 0, .int .i64 0].toArray, E]) ?_ rfl ⟨by rw [HF.out], HB8.out⟩
    have hl3 := run_loadVar_mid (P := Tryz.prog) _ (w.heap.size + 1) 0 25 _ _ (rangeRow HROW.out) Tryz.underlying25 rfl sizeSig
    simp [results, Tryz.results36, asAddr, hl3]
  · have x0 := isEmpty_not h0
    go_wp2_with fail
    refine (implSecret x _).mono ?_
    rintro r w2 ⟨rfl, h2w⟩
    subst w2
    cases hs : secB x with
    | false =>
      have HF : Hid (R = .tuple #[.agg #[.int .i64 0, .int .i64 0, .int .i64 0], E]) := by show _ = _; rw [HR.out, hs, if_neg (by simp)]
      go_wp2_with fail
      refine wp_region_held_drew (S := fun V => V.cell? ⟨0, 0, none⟩ = some E) (by kernel_rfl) ?_ (fun hHeld => ?_)
      · exact HE.out _ (HB.out _ D1.out)
      refine wpAnyH_take (i := 0) (oi := ⟨some 14, _, _, _, _, _⟩) (v := ?_) rfl (by kernel_rfl) (by kernel_rfl) (by kernel_rfl) (fun _ _ _ h => h) (Or.inl ⟨by kernel_rfl, ?_⟩) (by assumption) ?_
      rotate_left
      · (intro w hSw; (try dsimp only at hSw); go_simp; try with_reducible rfl)
      (try simp only [Act.put, List.setIfInBounds_toArray, List.set_cons_zero, List.set_cons_succ])
      refine wpAnyH_take (i := 1) (oi := ⟨some 15, _, _, _, _, _⟩) (v := ?_) rfl (by kernel_rfl) (by kernel_rfl) (by kernel_rfl) (fun _ _ _ h => h) (Or.inl ⟨by kernel_rfl, ?_⟩) (by assumption) ?_
      rotate_left
      · (intro w hSw; (try dsimp only at hSw); go_simp; try with_reducible rfl)
      (try simp only [Act.put, List.setIfInBounds_toArray, List.set_cons_zero, List.set_cons_succ])
      refine wpAnyH_ready (rs := [2]) (by kernel_rfl) (by simp) ?_
      refine AllReadyH.cons (o := ⟨none, _, _, _, _, _⟩) rfl (fun K hK => ?_) AllReadyH.nil
      rw [if_pos (by rfl)]
      refine wp_store_row 25 _ _ rfl (w.heap.size + 1) [Value.int .i64 0, .int .i64 0, .int .i64 0] [Value.int .i64 0, .int .i64 0, .int .i64 0] 25 rfl rfl (HRw.out _ D1.out).2 rfl sizeSig (by simp [Value.oneCell']) ?_
      intro w8 hrow ho hs8 hbb
      have HROW : Hid _ := hrow
      have HB8 : Hid (Below w.heap.size w w8) := hbb _ _ (by omega) (HB.out _ D1.out)
      refine hK.out _ _ ?_ (fun hHeld => ?_)
      · exact HE.out _ HB8.out
      clear hK K ho hs8 hbb hrow
      (try simp only [Act.put, List.setIfInBounds_toArray, List.set_cons_zero, List.set_cons_succ])
      refine wpAnyH_take (i := 3) (oi := ⟨some 5, _, _, _, _, _⟩) (v := ?_) rfl (by kernel_rfl) (by kernel_rfl) (by kernel_rfl) (fun _ _ _ h => h) (Or.inl ⟨by kernel_rfl, ?_⟩) (by assumption) ?_
      rotate_left
      · (intro w hSw; (try dsimp only at hSw); go_simp; try with_reducible rfl)
      (try simp only [Act.put, List.setIfInBounds_toArray, List.set_cons_zero, List.set_cons_succ])
      refine wpAnyH_done (by kernel_rfl) ?_ _
      go_wp2
      refine bodyPost_ret (v := .tuple #[.agg [Value.int .i64 0, .int .i64 0, .int .i64 0].toArray, E]) ?_ rfl ⟨by rw [HF.out], HB8.out⟩
      have hl3 := run_loadVar_mid (P := Tryz.prog) _ (w.heap.size + 1) 0 25 _ _ (rangeRow HROW.out) Tryz.underlying25 rfl sizeSig
      simp [results, Tryz.results36, asAddr, hl3]
    | true =>
      have HF : Hid (R = .tuple #[.agg #[.int .i64 k, .int .i64 e, .int .i64 s], .nilIface]) := by show _ = _; rw [HR.out, hs, decide_eq_true h0]; rfl
      go_wp2_with fail
      refine (HSg.out _ (HKy.out _ (HB.out _ I1.out))).mono ?_
      rintro r w3 ⟨rfl, b3⟩
      have K3 : Hid (Below w1.heap.size w1 w3) := b3
      clear b3 c0 c1 c2 c3 c4 c5 c6 c7 c8 c9
      have hR := (HRw.out _ K3.out).2
      have h1 : ∀ v ∈ [Value.int .i64 k, .int .i64 e, .int .i64 s], v.oneCell' = true := by simp [Value.oneCell']
      go_wp2_with (refine wpList_store_row rfl 25 _ _ rfl (w.heap.size + 1) _ [Value.int .i64 k, .int .i64 e, .int .i64 s] 25 rfl rfl hR rfl sizeSig h1 ?_)
      intro w8 hrow ho hs8 hbb
      have HROW : Hid _ := hrow
      have HB8 : Hid (Below w.heap.size w w8) := hbb _ _ (by omega) (HB.out _ K3.out)
      clear ho hs8 hbb hrow hR h1
      go_wp2
      refine bodyPost_ret (v := .tuple #[.agg [Value.int .i64 k, .int .i64 e, .int .i64 s].toArray, .nilIface]) ?_ rfl ⟨by rw [HF.out], HB8.out⟩
      have hl3 := run_loadVar_mid (P := Tryz.prog) _ (w.heap.size + 1) 0 25 _ _ (rangeRow HROW.out) Tryz.underlying25 rfl sizeSig
      simp [results, Tryz.results36, asAddr, hl3]
set_option linter.unusedSimpArgs false in
set_option maxHeartbeats 4000000 in
set_option maxRecDepth 100000 in
theorem signedWithCsr (c : Ask) (v nv : Value) (D : ByteArray) (key' : Int) (E E0 E2 : Value) (tE : TypeId) (pE : Value) (qE : E = .iface tE pE) (w : World) (hD : D.size ≤ 20000) (hw : Keys w) (hE : w.cell? ⟨0, 0, none⟩ = some E) (hE0 : w.cell? ⟨2, 0, none⟩ = some E0) (hE2 : w.cell? ⟨1, 0, none⟩ = some E2) :
    Calls Tryz.prog 44 #[c.box v D nv, .int .i64 key'] w fun r w' => r = .returned (if (decide (D.size ≠ 0) && sigRB c.sk c.se c.ss) = true then (if c.sk = key' then (if sigCB c.sk c.se c.ss D = true then .nilIface else E0) else E2) else E) ∧ Below w.heap.size w w' := by
  have HRt : Hid (∀ V, V.cell? ⟨0, 0, none⟩ = some E → Calls Tryz.prog 74 #[c.box v D nv] V fun e w' => e = .returned (if (decide (D.size ≠ 0) && sigRB c.sk c.se c.ss) = true then .nilIface else E) ∧ Below V.heap.size V w') := fun V hV => rightCsr c v nv D E V hV
  have hEl := World.block_lt_of_cell? w _ hE
  have hEl0 := World.block_lt_of_cell? w _ hE0
  have hEl2 := World.block_lt_of_cell? w _ hE2
  have hkp := hw.pos
  have HKy : Hid (∀ V, Below w.heap.size w V → Keys V) := fun V hV => hw.below hV hkp
  have HE : Hid (∀ V, Below w.heap.size w V → V.cell? ⟨0, 0, none⟩ = some E ∧ V.cell? ⟨2, 0, none⟩ = some E0 ∧ V.cell? ⟨1, 0, none⟩ = some E2) := fun V hV => ⟨by rw [hV.cell hEl]; exact hE, by rw [hV.cell hEl0]; exact hE0, by rw [hV.cell hEl2]; exact hE2⟩
  have HCk : Hid (∀ V, Keys V → Calls Tryz.prog 75 #[.agg #[.int .i64 c.sk, .int .i64 c.se, .int .i64 c.ss], .string D] V fun r w' => r = .returned (.bool (sigCB c.sk c.se c.ss D)) ∧ Below V.heap.size V w') := fun V hV => implSigCheck c.sk c.se c.ss D V (by unfold maxLen; omega) hV
  obtain ⟨P, hP⟩ : ∃ P, P = (decide (D.size ≠ 0) && sigRB c.sk c.se c.ss) := ⟨_, rfl⟩
  rw [← hP] at HRt ⊢
  obtain ⟨Q, hQ⟩ : ∃ Q, Q = sigCB c.sk c.se c.ss D := ⟨_, rfl⟩
  rw [← hQ] at HCk ⊢
  obtain ⟨R, hR⟩ : ∃ R : Value, R = if P = true then (if c.sk = key' then (if Q = true then .nilIface else E0) else E2) else E := ⟨_, rfl⟩
  rw [← hR]
  have HR : Hid (R = if P = true then (if c.sk = key' then (if Q = true then .nilIface else E0) else E2) else E) := hR
  clear hP hQ hE hE0 hE2 hEl hEl0 hEl2 hw hkp hR
  obtain ⟨key, names, sk, se, ss⟩ := c
  unfold Ask.box at *
  simp only at HRt HCk HR ⊢
  obtain ⟨w1, hw1⟩ : ∃ w1, w1 = w.alloc (.cells #[.int .i64 key, v, .int .i64 sk, .int .i64 se, .int .i64 ss, .string D, .int .i64 sk, .int .i64 se, .int .i64 ss, nv] 58 (0, 0)) := ⟨_, rfl⟩
  have r0 : w1.heap[w.heap.size]? = some (.cells [Value.int .i64 key, v, .int .i64 sk, .int .i64 se, .int .i64 ss, .string D, .int .i64 sk, .int .i64 se, .int .i64 ss, nv].toArray 58 (0, 0)) := by rw [hw1]; exact heap_alloc_new w _
  have B1 : Hid (Below w.heap.size w w1) := by rw [hw1]; exact (Below.refl _ _).alloc (Nat.le_refl _) _
  have z1 : w.heap.size < w1.heap.size := by rw [hw1]; simp
  have HK : Hid (∀ V, Below w1.heap.size w1 V → V.cell? ⟨w.heap.size, 0, none⟩ = some (.int .i64 key) ∧ V.cell? ⟨w.heap.size, 1, none⟩ = some (v) ∧ V.cell? ⟨w.heap.size, 2, none⟩ = some (.int .i64 sk) ∧ V.cell? ⟨w.heap.size, 3, none⟩ = some (.int .i64 se) ∧ V.cell? ⟨w.heap.size, 4, none⟩ = some (.int .i64 ss) ∧ V.cell? ⟨w.heap.size, 5, none⟩ = some (.string D) ∧ V.cell? ⟨w.heap.size, 6, none⟩ = some (.int .i64 sk) ∧ V.cell? ⟨w.heap.size, 7, none⟩ = some (.int .i64 se) ∧ V.cell? ⟨w.heap.size, 8, none⟩ = some (.int .i64 ss) ∧ V.cell? ⟨w.heap.size, 9, none⟩ = some (nv)) := fun V hV => by
    have hP := (hV.block _ z1).trans r0
    exact ⟨rowFacts hP 0 _ rfl, rowFacts hP 1 _ rfl, rowFacts hP 2 _ rfl, rowFacts hP 3 _ rfl, rowFacts hP 4 _ rfl, rowFacts hP 5 _ rfl, rowFacts hP 6 _ rfl, rowFacts hP 7 _ rfl, rowFacts hP 8 _ rfl, rowFacts hP 9 _ rfl⟩
  have HB : Hid (∀ V, Below w1.heap.size w1 V → Below w.heap.size w V) := fun V hV => B1.out.trans (hV.mono B1.out.size)
  have I1 : Hid (Below w1.heap.size w1 w1) := Below.refl _ _
  have D1 : Hid (Below w1.heap.size w1 w1.drew) := I1.out.drew
  clear r0 z1 B1
  obtain ⟨c0, c1, c2, c3, c4, c5, c6, c7, c8, c9⟩ := HK.out w1 I1.out
  go_enter Tryz.func44, Tryz.ntmps44
  go_upto_region 1 with fail
  rw [← hw1]
  clear hw1
  go_wp2_with fail
  refine (HRt.out _ (HE.out _ (HB.out _ I1.out)).1).mono ?_
  rintro r w2 ⟨rfl, b2⟩
  have K2 : Hid (Below w1.heap.size w1 w2) := b2
  clear b2 c0 c1 c2 c3 c4 c5 c6 c7 c8 c9
  obtain ⟨c0, c1, c2, c3, c4, c5, c6, c7, c8, c9⟩ := HK.out w2 K2.out
  obtain ⟨e1, e0, e2⟩ := HE.out _ (HB.out _ K2.out)
  cases P with
  | false =>
    have HF : Hid (R = E) := HR.out
    rw [qE] at e1 HF ⊢
    go_wp2
    go_ret
    exact ⟨by rw [HF.out]; rfl, HB.out _ K2.out⟩
  | true =>
  by_cases hk : sk = key'
  rotate_left
  · have HF : Hid (R = E2) := by show _ = _; rw [HR.out, if_neg hk]; rfl
    go_wp2
    go_ret
    exact ⟨by rw [HF.out]; rfl, HB.out _ K2.out⟩
  subst hk
  go_wp2_with fail
  refine (HCk.out _ (HKy.out _ (HB.out _ K2.out))).mono ?_
  rintro r w3 ⟨rfl, b3⟩
  have K3 : Hid (Below w1.heap.size w1 w3) := K2.out.trans (b3.mono K2.out.size)
  clear b3 c0 c1 c2 c3 c4 c5 c6 c7 c8 c9 e1 e0 e2
  obtain ⟨e1, e0, e2⟩ := HE.out _ (HB.out _ K3.out)
  cases Q with
  | false =>
    have HF : Hid (R = E0) := by show _ = _; rw [HR.out]; simp
    go_wp2
    go_ret
    exact ⟨by rw [HF.out]; rfl, HB.out _ K3.out⟩
  | true =>
    have HF : Hid (R = .nilIface) := by show _ = _; rw [HR.out]; simp
    go_wp2
    go_ret
    exact ⟨by rw [HF.out]; rfl, HB.out _ K3.out⟩
end Go.Proofs.YthofeoelndplpaaGreatDoor
namespace Go.Proofs.YthofeoelndplpaaGreatDoor
open Go.RowKit

/-- What the method signedWith answers, asked for nothing but whether it is nil. -/
theorem askE_size (c : Ask) : (askE c).size ≤ 255 := by
  unfold askE
  split
  · exact askD_le (by assumption)
  · exact Nat.zero_le _
theorem askE_ne {c : Ask} : decide ((askE c).size ≠ 0) = askB c := by
  unfold askE
  cases h : askB c with
  | true =>
    rw [if_pos rfl]
    have := thing_pos 48 (intD 0 ++ (thingD 3 (⟨#[0]⟩ ++ putS c.key) ++ seqD (hostsD c.names c.names.length)))
    refine decide_eq_true (fun h0 => ?_)
    have h1 : (thingD 48 (intD 0 ++ (thingD 3 (⟨#[0]⟩ ++ putS c.key) ++ seqD (hostsD c.names c.names.length)))).size = 0 := h0
    omega
  | false => rfl
end Go.Proofs.YthofeoelndplpaaGreatDoor
namespace Go.Proofs.YthofeoelndplpaaGreatDoor
open Go.RowKit Go.Lib

set_option maxHeartbeats 1000000 in
set_option maxRecDepth 100000 in
theorem copyText (a : ByteArray) (w : World) (ha : a.size ≤ 1100000) :
    Calls Tryz.prog 72 #[.string a] w fun e w' => e = .returned (.string a) ∧ Below w.heap.size w w' := by
  obtain ⟨i0, hi, hz0, hz1, hz2⟩ := info_parts infoByte
  go_enter Tryz.func72, Tryz.ntmps72
  go_wp2_with (at_make; refine wpList_make_full _ rfl _ _ 90 rfl w.heap.size 5 i0 (.int .u8 0) 1 Tryz.underlying90 hi hz0 hz1 .i64 .i64 _ _ a.size rfl rfl ?c1 ?c2 ?c3 ?c4 ?c5 ?_)
  case c1 => omega
  case c2 => omega
  case c3 => rw [hz2]; omega
  case c4 => unfold maxLen; omega
  case c5 => exact Nat.le_refl _
  intro w1 hown hgrow
  obtain ⟨hrow, hlen⟩ := rowOf hown rfl
  have hB1 : Below w.heap.size w w1 := (Below.refl _ w).grown hgrow (Nat.le_refl _) (fun k hk => by cases hk)
  generalize (madeCells #[Value.int IntKind.u8 0] a.size).toList = L at hrow hlen
  have la : (byteCells a.data.toList).length = a.size := by rw [byteCells_length, ← size_eq]
  have HF : Hid (∀ w3 : World, w3.heap[w.heap.size]? = some (.cells (splice L 0 (byteCells a.data.toList)).toArray 5 (0, 0)) →
      (convert 90 9 (.slice (some ⟨w.heap.size, 0, none⟩) a.size a.size)).run Tryz.prog w3 = .ok (.string a) w3) := by
    intro w3 h3
    rw [splice_one L (byteCells a.data.toList) (by omega)] at h3
    have h4 : w3.heap[w.heap.size]? = some (.cells (byteCells a.data.toList ++ []).toArray 5 (0, 0)) := by simpa using h3
    have := run_convert_row (P := Tryz.prog) (src := 90) (dst := 9) (cap := a.size) Tryz.underlying90 Tryz.underlying5 Tryz.underlying9 h4
    rw [← size_eq] at this
    exact this
  clear hown hgrow la
  go_wp2_with (refine wpList_copy_str rfl _ _ 90 9 rfl 5 Tryz.underlying90 byteSize _ _ _ a rfl rfl w.heap.size 0 L 5 hrow (fun _ => rfl) ?d2 ?d3 w.heap.size w hB1 (Nat.le_refl _) ?_)
  case d2 => exact Nat.le_refl _
  case d3 => omega
  intro w2 H2 hB2 hs2
  have hcv := HF.out w2 H2.out
  clear hrow hB1 hs2
  go_wp2
  go_ret
  exact ⟨rfl, hB2⟩

end Go.Proofs.YthofeoelndplpaaGreatDoor
namespace Go.Proofs.YthofeoelndplpaaGreatDoor
open Go.RowKit

set_option maxHeartbeats 1000000 in
set_option maxRecDepth 100000 in
theorem copyTexts (a : Option Addr) (ss : List ByteArray) (c : Nat) (w : World) (hl : ss.length ≤ 1048576) (hs : totS ss ss.length ≤ 1048576) (ha : IsStrs w a ss) :
    Calls Tryz.prog 37 #[.slice a ss.length c] w fun e w' => ∃ v, e = .returned v ∧ OwnS w' w.heap.size v ss ∧ Below w.heap.size w w' := by
  obtain ⟨i0, hi, hz0, hz1, hz2⟩ := info_parts infoText
  have HSz : Hid (∀ k, k < ss.length → (tAt ss k).size ≤ 1048576) := fun k hk => Nat.le_trans (totS_at ss hk) hs
  clear hs
  go_enter Tryz.func37, Tryz.ntmps37
  go_wp2
  go_loopw [3, 8] (fun v i wr => ∃ k : Nat, k ≤ ss.length ∧ i = .int .i64 k ∧ OwnS wr w.heap.size v (ss.take k) ∧ Below w.heap.size w wr) (fun _ i _ => ss.length - (intOf i).toNat)
  case atStart => exact ⟨0, Nat.zero_le _, rfl, ownS_nil _ _, Below.refl _ _⟩
  case round =>
    obtain ⟨k, hk, rfl, hown, hbr⟩ := hrel
    have HB : Hid (Below w.heap.size w wr) := hbr
    have hlt' : (ss.take k).length = k := by rw [List.length_take]; omega
    obtain ⟨va, vc, rfl, hvc⟩ := OwnS.form hown
    have HO : Hid (OwnS wr w.heap.size (.slice va (ss.take k).length vc) (ss.take k)) := hown
    rw [hlt'] at HO ⊢
    clear hown hvc
    by_cases hlt : k < ss.length
    · obtain ⟨x, o, rfl, hc⟩ : ∃ x o, a = some ⟨x, o, none⟩ ∧ ∀ i, i < ss.length → wr.cell? ⟨x, o + i, none⟩ = some (.string (tAt ss i)) := by
        rcases ha.below hbr ha.lt with rfl | h
        · simp at hlt
        · exact h
      have hck := hc k hlt
      have hz := HSz.out k hlt
      have HC : Hid (∀ V, Calls Tryz.prog 72 #[.string (tAt ss k)] V fun e w' => e = .returned (.string (tAt ss k)) ∧ Below V.heap.size V w') := fun V => copyText _ V (by omega)
      have HT : Hid (ss.take (k + 1) = ss.take k ++ [tAt ss k]) := take_snoc ss hlt
      have HLn : Hid ((ss.take k).length = k) := hlt'
      have a0 : (0 : Int) ≤ (k : Int) := by omega
      have b0 : (k : Int) < (ss.length : Int) := by omega
      generalize tAt ss k = z at *
      clear hc ha hbr HSz hlt'
      go_wp2_with fail
      refine (HC.out _).mono ?_
      rintro e w2 ⟨rfl, b2⟩
      have B2 : Hid (Below w.heap.size w w2) := HB.out.trans (b2.mono HB.out.size)
      have hO : w2.ownsRow w.heap.size 9 1 (.slice va k vc) k (sCells (ss.take k)) := by
        have := HO.out.keep b2
        unfold OwnS at this
        rw [HLn.out] at this
        exact this
      have hsz := B2.out.size
      clear b2
      go_wp2_with (at_builtin; refine wpList_append_own _ rfl _ _ 22 rfl w.heap.size 9 i0 (.string ⟨#[]⟩) 1 16 Tryz.underlying22 hi hz0 hz1 hz2 rfl (by decide) _ _ _ rfl (hO.alloc _) ⟨w2.heap.size, 0, none⟩ 1 1 [.string z] rfl rfl ?c1 ?c2 ?c3 ?c4 ?c5 ?_)
      case c1 => exact cells_one (by simp)
      case c2 => intro u hu; simp at hu; subst hu; rfl
      case c3 => unfold maxLen; omega
      case c4 => omega
      case c5 => simp; omega
      intro v' w3 hown' hgrow _
      have hB3 : Below w.heap.size w w3 := (B2.out.alloc hsz _).grown hgrow (by simp; omega) (fun k hk => (hO.lt k hk).1)
      have HO3 : Hid (OwnS w3 w.heap.size v' (ss.take (k + 1))) := by
        show World.ownsRow _ _ _ _ _ _ _
        rw [HT.out, List.length_append, HLn.out, sCells, List.map_append]
        exact hown'
      have HB3 : Hid (Below w.heap.size w w3) := hB3
      clear hown' hgrow hB3 hO
      go_wp2_with fail
      go_roundw
      case rel => exact ⟨k + 1, by omega, by go_num, HO3.out, HB3.out⟩
      case measure => simp [intOf]; omega
    · obtain rfl : k = ss.length := by omega
      have HF : Hid (OwnS wr w.heap.size (.slice va ss.length vc) ss) := by have := HO.out; rw [List.take_length] at this; exact this
      clear ha hbr HSz
      go_wp2
      go_ret
      exact ⟨_, rfl, HF.out, HB.out⟩
end Go.Proofs.YthofeoelndplpaaGreatDoor
