/- impl.isRemainder, impl.SigRight, walked. impl.ModMul, walked. impl.GroupMul and impl.GroupPow, walked. impl.askedAgain, impl.SigCheck, walked. -/
import Derived.Test.YtdehbaafbbjcgaaGreatDoorJT06
import Derived.Test.YtdehbaafbbjcgaaGreatDoorJT05
import Derived.Test.YtdehbaafbbjcgaaGreatDoorJT33
import Derived.Test.YtdehbaafbbjcgaaGreatDoorJT22
import Derived.Test.YtdehbaafbbjcgaaGreatDoorJT09
import Derived.Deep.QuietTactic
import Derived.BigQuiet
import Derived.Deep.RegionHeld3
namespace Go.Proofs.YtdehbaafbbjcgaaGreatDoor
open Go.RowKit

theorem implRem (n : Int) (w : World) :
    Calls Tryz.prog 67 #[.int .i64 n] w fun e w' => e = .returned (.bool (remB n)) ∧ w' = w := by
  by_cases h1 : 0 ≤ n
  · by_cases h2 : n < 1073741789
    · have e : remB n = true := decide_eq_true ⟨h1, h2⟩
      rw [e]
      go_enter Tryz.func67, Tryz.ntmps67
      go_wp2
      go_ret
      exact ⟨rfl, rfl⟩
    · have e : remB n = false := decide_eq_false (by omega)
      rw [e]
      go_enter Tryz.func67, Tryz.ntmps67
      go_wp2
      go_ret
      exact ⟨rfl, rfl⟩
  · have e : remB n = false := decide_eq_false (by omega)
    rw [e]
    go_enter Tryz.func67, Tryz.ntmps67
    go_wp2
    go_ret
    exact ⟨rfl, rfl⟩
set_option maxHeartbeats 1000000 in
set_option maxRecDepth 100000 in
theorem implSigRight (k e s : Int) (w : World) :
    Calls Tryz.prog 41 #[.agg #[.int .i64 k, .int .i64 e, .int .i64 s]] w fun r w' => r = .returned (.bool (sigRB k e s)) ∧ Below w.heap.size w w' := by
  go_enter Tryz.func41, Tryz.ntmps41
  go_wp2_with fail
  refine (implGroupRight k _).mono ?_
  rintro e1 w1 ⟨rfl, hb1⟩
  have HB : Hid (Below w.heap.size w w1) := ((Below.refl _ w).alloc (Nat.le_refl _) _).trans (hb1.mono (by simp))
  have c1 : w1.cell? ⟨w.heap.size, 1, none⟩ = some (.int .i64 e) := by rw [hb1.cell (p := ⟨w.heap.size, 1, none⟩) (by simp)]; simp
  have c2 : w1.cell? ⟨w.heap.size, 2, none⟩ = some (.int .i64 s) := by rw [hb1.cell (p := ⟨w.heap.size, 2, none⟩) (by simp)]; simp
  clear hb1
  by_cases h1 : rightG k = true
  · rw [h1]
    go_wp2_with fail
    refine (implRem e _).mono ?_
    rintro e2 w2 ⟨rfl, rfl⟩
    by_cases h2 : remB e = true
    · rw [h2]
      go_wp2_with fail
      refine (implRem s _).mono ?_
      rintro e3 w3 ⟨rfl, rfl⟩
      generalize hb3 : remB s = b
      go_wp2
      go_ret
      exact ⟨by simp [sigRB, *], HB.out⟩
    · rw [Bool.not_eq_true] at h2
      rw [h2]
      go_wp2
      go_ret
      exact ⟨by simp [sigRB, *], HB.out⟩
  · rw [Bool.not_eq_true] at h1
    rw [h1]
    go_wp2
    go_ret
    exact ⟨by simp [sigRB, *], HB.out⟩
end Go.Proofs.YtdehbaafbbjcgaaGreatDoor
namespace Go.Proofs.YtdehbaafbbjcgaaGreatDoor
open Go.RowKit

set_option maxHeartbeats 1000000 in
set_option maxRecDepth 100000 in
theorem implModMul (a b m : Int) (w : World) :
    Calls Tryz.prog 110 #[.int .i64 a, .int .i64 b, .int .i64 m] w fun e w' => e = .returned (.int .i64 (mulA a b m)) ∧ Below w.heap.size w w' := by
  by_cases h1 : a < 0
  · have ea : Hid (mulA a b m = 0) := by
      show _ = _
      rw [mulA, if_neg (by omega)]
    go_enter Tryz.func110, Tryz.ntmps110
    go_wp2
    go_ret
    exact ⟨ret_int ea.out.symm, Below.refl _ _⟩
  by_cases h2 : b < 0
  · have ea : Hid (mulA a b m = 0) := by
      show _ = _
      rw [mulA, if_neg (by omega)]
    go_enter Tryz.func110, Tryz.ntmps110
    go_wp2
    go_ret
    exact ⟨ret_int ea.out.symm, Below.refl _ _⟩
  by_cases h3 : modB m = true
  · obtain ⟨k, rfl, k1, k2⟩ := modB_nat h3
    obtain ⟨x, rfl⟩ := nat_of h1
    obtain ⟨y, rfl⟩ := nat_of h2
    rw [mulA_nat x y k h3]
    clear h1 h2
    generalize hz : x * y % k = z
    go_enter Tryz.func110, Tryz.ntmps110
    go_wp2_with fail
    refine (implModRight k w).mono ?_
    rintro e w' ⟨rfl, rfl⟩
    rw [h3]
    go_wp2_with fail
    refine (implModulo k _).mono ?_
    rintro e w' ⟨rfl, rfl⟩
    go_wp2_with fail
    refine (implProduct _ x y k _ k1 k2 (newCell _ _ _)).mono ?_
    rintro e w' ⟨rfl, rfl⟩
    rw [hz]
    clear hz
    go_wp2
    go_ret
    exact ⟨rfl, allocBelow _ _⟩
  · rw [Bool.not_eq_true] at h3
    have ea : Hid (mulA a b m = 0) := by
      show _ = _
      rw [mulA, if_neg (by rw [h3]; simp)]
    go_enter Tryz.func110, Tryz.ntmps110
    go_wp2_with fail
    refine (implModRight m w).mono ?_
    rintro e w' ⟨rfl, rfl⟩
    rw [h3]
    go_wp2
    go_ret
    exact ⟨ret_int ea.out.symm, Below.refl _ _⟩
end Go.Proofs.YtdehbaafbbjcgaaGreatDoor
namespace Go.Proofs.YtdehbaafbbjcgaaGreatDoor
open Go.RowKit

set_option maxHeartbeats 1000000 in
set_option maxRecDepth 100000 in
theorem implGroupMul (a b : Int) (w : World) :
    Calls Tryz.prog 90 #[.int .i64 a, .int .i64 b] w fun e w' => e = .returned (.int .i64 (gmulA a b)) ∧ Below w.heap.size w w' := by
  by_cases h1 : unitB a = true
  · by_cases h2 : unitB b = true
    · obtain ⟨x, rfl, x1, x2⟩ := unitB_nat h1
      obtain ⟨y, rfl, y1, y2⟩ := unitB_nat h2
      rw [gmulA_nat x y h1 h2]
      have HC : Hid (∀ v : World, Calls Tryz.prog 110 #[.int .i64 (x : Int), .int .i64 (y : Int), .int .i64 2147483579] v fun e w' => e = .returned (.int .i64 ((x * y % 2147483579 : Nat) : Int)) ∧ Below v.heap.size v w') := fun v => by
        have h := implModMul x y 2147483579 v
        rw [show (2147483579 : Int) = ((2147483579 : Nat) : Int) from rfl, mulA_nat x y 2147483579 modP] at h
        exact h
      generalize x * y % 2147483579 = z at *
      go_enter Tryz.func90, Tryz.ntmps90
      go_wp2_with fail
      refine (implUnit x _).mono ?_
      rintro e w' ⟨rfl, rfl⟩
      rw [h1]
      go_wp2_with fail
      refine (implUnit y _).mono ?_
      rintro e w' ⟨rfl, rfl⟩
      rw [h2]
      go_wp2_with fail
      refine (HC.out _).mono ?_
      rintro e w' ⟨rfl, hb⟩
      have HB : Hid _ := hb
      clear hb
      go_wp2
      go_ret
      exact ⟨rfl, HB.out⟩
    · rw [Bool.not_eq_true] at h2
      have ea : Hid (gmulA a b = 0) := by
        show _ = _
        rw [gmulA, if_neg (by rw [h2]; simp)]
      go_enter Tryz.func90, Tryz.ntmps90
      go_wp2_with fail
      refine (implUnit a _).mono ?_
      rintro e w' ⟨rfl, rfl⟩
      rw [h1]
      go_wp2_with fail
      refine (implUnit b _).mono ?_
      rintro e w' ⟨rfl, rfl⟩
      rw [h2]
      go_wp2
      go_ret
      exact ⟨ret_int ea.out.symm, Below.refl _ _⟩
  · rw [Bool.not_eq_true] at h1
    have ea : Hid (gmulA a b = 0) := by
      show _ = _
      rw [gmulA, if_neg (by rw [h1]; simp)]
    go_enter Tryz.func90, Tryz.ntmps90
    go_wp2_with fail
    refine (implUnit a _).mono ?_
    rintro e w' ⟨rfl, rfl⟩
    rw [h1]
    go_wp2
    go_ret
    exact ⟨ret_int ea.out.symm, Below.refl _ _⟩
end Go.Proofs.YtdehbaafbbjcgaaGreatDoor
namespace Go.Proofs.YtdehbaafbbjcgaaGreatDoor
open Go.RowKit

set_option maxHeartbeats 1000000 in
set_option maxRecDepth 100000 in
theorem askedAgain (K E S : Nat) (t : ByteArray) (w : World) (ht : t.size ≤ 20000) (hk : K < 2147483579) (he : E < 1073741789) (hs : S < 1073741789) (hp : pm K 1073741789 2147483579 = 1) (hw : Keys w) :
    Calls Tryz.prog 68 #[.agg #[.int .i64 (K : Int), .int .i64 (E : Int), .int .i64 (S : Int)], .func (.func 56) #[.agg #[.int .i64 (K : Int), .string t]] #[]] w fun r w' => r = .returned (sigV K (chal (backR K E S : Nat) K t) S) ∧ Below w.heap.size w w' := by
  obtain ⟨j, hj⟩ : ∃ j : Nat, j = 1073741789 - E := ⟨_, rfl⟩
  obtain ⟨y1, hy1⟩ : ∃ y : Nat, y = pm 4 S 2147483579 := ⟨_, rfl⟩
  obtain ⟨y2, hy2⟩ : ∃ y : Nat, y = pm K j 2147483579 := ⟨_, rfl⟩
  obtain ⟨b, hb⟩ : ∃ b : Nat, b = backR K E S := ⟨_, rfl⟩
  obtain ⟨c, hc⟩ : ∃ c : Nat, c = chal (b : Int) K t := ⟨_, rfl⟩
  have e1 : gpowA 4 (S : Int) = (y1 : Int) := by rw [hy1]; exact gpow_in (y := 4) (by omega) pm4 S
  have e2 : gpowA (K : Int) (j : Int) = (y2 : Int) := by rw [hy2]; exact gpow_in hk hp j
  have e3 : gmulA (y1 : Int) (y2 : Int) = (b : Int) := by rw [hy1, hy2, hb, hj]; exact back_mul hp
  have hj' : (1073741789 : Int) - (E : Int) = (j : Int) := by omega
  have hj2 : IntKind.i64.wrap (j : Int) = (j : Int) := by rw [IntKind.wrap_i64]; omega
  have hjm : (j : Int) ≤ 1073741789 := by omega
  have e4 : challA (b : Int) (K : Int) t = (c : Int) := by
    rw [challA, if_pos ⟨ht, by rw [hb]; exact back_unit hp, unit_of hk hp⟩, hc]
  rw [← hb, ← hc]
  have hkp := hw.pos
  have htm : t.size ≤ maxLen := by unfold maxLen; omega
  have HW : Hid (Keys w) := hw
  have E3 : Hid (gmulA (y1 : Int) (y2 : Int) = (b : Int)) := e3
  have E4 : Hid (challA (b : Int) (K : Int) t = (c : Int)) := e4
  clear hj hy1 hy2 hb hc hp hw e3 e4 hk
  have hA : ∀ x y, Below w.heap.size w ((w.alloc x).alloc y) := fun x y => ((Below.refl _ w).alloc (Nat.le_refl _) x).alloc (by simp) y
  go_enter Tryz.func68, Tryz.ntmps68
  go_wp2_with fail
  obtain ⟨w1, hw1⟩ : ∃ w1, (w.alloc (.cells #[.int .i64 (K : Int), .int .i64 (E : Int), .int .i64 (S : Int)] 32 (0, 0))).alloc (.cells #[.int .i64 0, .int .i64 0, .int .i64 0] 32 (0, 0)) = w1 := ⟨_, rfl⟩
  have hb1 : Below w.heap.size w w1 := by rw [← hw1]; exact hA _ _
  have hs1 : w1.heap.size = w.heap.size + 2 := by rw [← hw1]; simp
  have hP1 : w1.heap[w.heap.size]? = some (.cells [Value.int .i64 (K : Int), .int .i64 (E : Int), .int .i64 (S : Int)].toArray 32 (0, 0)) := by
    rw [← hw1, Below.heap_alloc _ _ _ (by simp)]; exact heap_alloc_new w _
  have hR1 : w1.heap[w.heap.size + 1]? = some (.cells [Value.int .i64 0, .int .i64 0, .int .i64 0].toArray 32 (0, 0)) := by rw [← hw1]; exact heap_alloc2 w _ _
  rw [hw1]
  have HKEEP : Hid (∀ W, Below (w.heap.size + 2) w1 W → W.heap[w.heap.size + 1]? = some (.cells [Value.int .i64 0, .int .i64 0, .int .i64 0].toArray 32 (0, 0)) ∧ W.cell? ⟨w.heap.size, 0, none⟩ = some (.int .i64 (K : Int)) ∧ W.cell? ⟨w.heap.size, 1, none⟩ = some (.int .i64 (E : Int)) ∧ W.cell? ⟨w.heap.size, 2, none⟩ = some (.int .i64 (S : Int)) ∧ W.cell? ⟨w.heap.size + 1, 0, none⟩ = some (.int .i64 0) ∧ W.cell? ⟨w.heap.size + 1, 1, none⟩ = some (.int .i64 0) ∧ W.cell? ⟨w.heap.size + 1, 2, none⟩ = some (.int .i64 0) ∧ W.frozen? ⟨w.heap.size + 1, 0, none⟩ = false ∧ W.frozen? ⟨w.heap.size + 1, 1, none⟩ = false ∧ W.frozen? ⟨w.heap.size + 1, 2, none⟩ = false) := fun W hW => by
    have hP : W.heap[w.heap.size]? = some (.cells [Value.int .i64 (K : Int), .int .i64 (E : Int), .int .i64 (S : Int)].toArray 32 (0, 0)) := by rw [hW.block _ (by omega)]; exact hP1
    have hR : W.heap[w.heap.size + 1]? = some (.cells [Value.int .i64 0, .int .i64 0, .int .i64 0].toArray 32 (0, 0)) := by rw [hW.block _ (by omega)]; exact hR1
    exact ⟨hR, rowFacts hP 0 _ rfl, rowFacts hP 1 _ rfl, rowFacts hP 2 _ rfl, rowFacts hR 0 _ rfl, rowFacts hR 1 _ rfl, rowFacts hR 2 _ rfl, frozen_of_row W _ 0 _ _ hR, frozen_of_row W _ 1 _ _ hR, frozen_of_row W _ 2 _ _ hR⟩
  have HT1 : Hid (∀ V (y n : Int), Hid (Below (w.heap.size + 2) w1 V) → n ≤ 9223372036854775807 → Calls Tryz.prog 51 #[.int .i64 y, .int .i64 n] V fun r W => r = .returned (.int .i64 (gpowA y n)) ∧ Hid (Below (w.heap.size + 2) w1 W) ∧ W.cell? ⟨w.heap.size, 0, none⟩ = some (.int .i64 (K : Int)) ∧ W.cell? ⟨w.heap.size, 1, none⟩ = some (.int .i64 (E : Int)) ∧ W.cell? ⟨w.heap.size, 2, none⟩ = some (.int .i64 (S : Int))) := fun V y n hV hn => by
    refine (implGroupPow y n V hn).mono ?_
    rintro r W ⟨rfl, hb⟩
    have hbW : Below (w.heap.size + 2) w1 W := hV.out.trans (hb.mono (by have := hV.out.size; omega))
    have h := HKEEP.out W hbW
    exact ⟨rfl, hbW, h.2.1, h.2.2.1, h.2.2.2.1⟩
  have HT2 : Hid (∀ V (y n : Int), Hid (Below (w.heap.size + 2) w1 V) → Calls Tryz.prog 90 #[.int .i64 y, .int .i64 n] V fun r W => r = .returned (.int .i64 (gmulA y n)) ∧ Hid (Below (w.heap.size + 2) w1 W) ∧ W.cell? ⟨w.heap.size, 0, none⟩ = some (.int .i64 (K : Int)) ∧ W.cell? ⟨w.heap.size, 1, none⟩ = some (.int .i64 (E : Int)) ∧ W.cell? ⟨w.heap.size, 2, none⟩ = some (.int .i64 (S : Int))) := fun V y n hV => by
    refine (implGroupMul y n V).mono ?_
    rintro r W ⟨rfl, hb⟩
    have hbW : Below (w.heap.size + 2) w1 W := hV.out.trans (hb.mono (by have := hV.out.size; omega))
    have h := HKEEP.out W hbW
    exact ⟨rfl, hbW, h.2.1, h.2.2.1, h.2.2.2.1⟩
  have HB1 : Hid (Below w.heap.size w w1) := hb1
  have HS1 : Hid (w1.heap.size = w.heap.size + 2) := hs1
  have HD1 : Hid (Below (w.heap.size + 2) w1 w1.drew) := (Below.refl _ w1).drew
  obtain ⟨_, p0, p1, p2, o0, o1, o2, y0, y1', y2'⟩ := HKEEP.out w1 (Below.refl _ _)
  clear hw1 hP1 hR1 hb1 hA hs1 o0 o1 o2 y0 y1' y2'
  go_region_held3 (fun V => V.cell? ⟨w.heap.size, 0, none⟩ = some (.int .i64 (K : Int)) ∧ V.cell? ⟨w.heap.size, 1, none⟩ = some (.int .i64 (E : Int)) ∧ V.cell? ⟨w.heap.size, 2, none⟩ = some (.int .i64 (S : Int))) (first | exact ⟨d0, d1, d2⟩ | exact ⟨c0, c1, c2⟩ | go_keep)
    (first | (go_at_call 90; refine (HT2.out _ _ _ (by assumption)).mono ?_; rintro r W2 ⟨rfl, kk2, d0, d1, d2⟩) | (go_at_call 51; refine (HT1.out _ _ _ (by assumption) (by omega)).mono ?_; rintro r W ⟨rfl, kk, c0, c1, c2⟩))
  rw [E3.out]
  have hk2 := kk2.out
  have HT3 : Hid (Calls Tryz.prog 56 #[.agg #[.int .i64 (K : Int), .string t], .int .i64 (b : Int)] W2.drew fun r W => r = .returned (.int .i64 (c : Int)) ∧ Hid (Below (w.heap.size + 2) w1 W) ∧ W.cell? ⟨w.heap.size, 0, none⟩ = some (.int .i64 (K : Int)) ∧ W.cell? ⟨w.heap.size, 1, none⟩ = some (.int .i64 (E : Int)) ∧ W.cell? ⟨w.heap.size, 2, none⟩ = some (.int .i64 (S : Int)) ∧ W.cell? ⟨w.heap.size + 1, 0, none⟩ = some (.int .i64 0) ∧ W.cell? ⟨w.heap.size + 1, 1, none⟩ = some (.int .i64 0) ∧ W.cell? ⟨w.heap.size + 1, 2, none⟩ = some (.int .i64 0) ∧ W.frozen? ⟨w.heap.size + 1, 0, none⟩ = false ∧ W.frozen? ⟨w.heap.size + 1, 1, none⟩ = false ∧ W.frozen? ⟨w.heap.size + 1, 2, none⟩ = false) := by
    show Calls _ _ _ _ _
    have z2 := hk2.size
    have hsz : w1.heap.size = w.heap.size + 2 := HS1.out
    have hB : Below w.heap.size w W2 := HB1.out.trans (hk2.mono (by omega))
    refine (askChallenge (K : Int) (b : Int) t W2.drew htm (HW.out.below hB.drew hkp)).mono ?_
    rintro r W ⟨rfl, hb⟩
    have hbW : Below (w.heap.size + 2) w1 W := hk2.drew.trans (hb.mono (by show _ ≤ W2.heap.size; omega))
    have h := HKEEP.out W hbW
    exact ⟨by rw [E4.out], hbW, h.2⟩
  clear hk2 kk2 kk HT1 HT2 HD1 e1 e2 hj' hj2 hjm c0 c1 c2 p0 p1 p2
  go_wp2_with fail
  go_region_held3 (fun V => V.cell? ⟨w.heap.size, 0, none⟩ = some (.int .i64 (K : Int)) ∧ V.cell? ⟨w.heap.size, 2, none⟩ = some (.int .i64 (S : Int))) (first | exact ⟨q0, q2⟩ | go_keep)
    (first | (go_at_call 56; refine HT3.out.mono ?_; rintro r W3 ⟨rfl, kk3, q0, q1, q2, r0, r1, r2, f0, f1, f2⟩))
  all_goals
    have G4 := (HKEEP.out _ kk3.out).1
    have B4 := HB1.out.trans (kk3.out.mono (by omega))
    clear HT3 HKEEP
    have HG : Hid _ := G4
    have HB : Hid _ := B4
    clear G4 B4
    go_wp2
    refine bodyPost_ret (v := sigV K c S) ?_ rfl ⟨rfl, ?_⟩
    · have hrow := sigRow HG.out (.int .i64 (K : Int)) (.int .i64 (c : Int)) (.int .i64 (S : Int))
      have hl3 := run_loadVar_mid (P := Tryz.prog) _ (w.heap.size + 1) 0 32 _ _ (rangeRow hrow) Tryz.underlying32 rfl sizeSig
      simp [results, Tryz.results68, asAddr, hl3, sigV]
    · exact ((HB.out.setCell (by simp) _).setCell (by simp) _).setCell (by simp) _
set_option maxHeartbeats 1000000 in
set_option maxRecDepth 100000 in
theorem implSigCheck (k e s : Int) (t : ByteArray) (w : World) (ht : t.size ≤ maxLen) (hw : Keys w) :
    Calls Tryz.prog 42 #[.agg #[.int .i64 k, .int .i64 e, .int .i64 s], .string t] w fun r w' => r = .returned (.bool (sigCB k e s t)) ∧ Below w.heap.size w w' := by
  have hkp := hw.pos
  have HW : Hid (Keys w) := hw
  clear hw
  by_cases h1 : 20000 < t.size
  · have ea : Hid (sigCB k e s t = false) := sigCB_long h1
    have hd : decide (20000 < t.size) = true := decide_eq_true h1
    go_enter Tryz.func42, Tryz.ntmps42
    go_wp2_with fail
    refine (tooLong t _ ht).mono ?_
    rintro r w' ⟨rfl, rfl⟩
    rw [hd]
    clear h1 hd ht
    go_wp2
    go_ret
    exact ⟨by rw [ea.out]; rfl, allocBelow _ _⟩
  have hd : decide (20000 < t.size) = false := decide_eq_false h1
  have ht2 : t.size ≤ 20000 := by omega
  by_cases h2 : sigRB k e s = true
  · obtain ⟨K, E, S, rfl, rfl, rfl, hk, he, hs, hp⟩ := sigRB_nat h2
    have ea : Hid (sigCB K E S t = decide ((chal (backR K E S : Nat) K t : Int) = (E : Int))) := sigCB_right ht2 h2
    have HX : Hid (∀ v : World, Keys v → Calls Tryz.prog 68 #[.agg #[.int .i64 (K : Int), .int .i64 (E : Int), .int .i64 (S : Int)], .func (.func 56) #[.agg #[.int .i64 (K : Int), .string t]] #[]] v fun r w' => r = .returned (sigV K (chal (backR K E S : Nat) K t) S) ∧ Below v.heap.size v w') := fun v hv => askedAgain K E S t v ht2 hk he hs hp hv
    generalize chal (backR K E S : Nat) K t = c at *
    go_enter Tryz.func42, Tryz.ntmps42
    go_wp2_with fail
    refine (tooLong t _ ht).mono ?_
    rintro r w' ⟨rfl, rfl⟩
    rw [hd]
    go_wp2_with fail
    refine (implSigRight K E S _).mono ?_
    rintro r w1 ⟨rfl, hb1⟩
    rw [h2]
    have c0 : w1.cell? ⟨w.heap.size, 0, none⟩ = some (.int .i64 (K : Int)) := by rw [hb1.cell (p := ⟨w.heap.size, 0, none⟩) (by simp)]; simp
    have c1 : w1.cell? ⟨w.heap.size, 1, none⟩ = some (.int .i64 (E : Int)) := by rw [hb1.cell (p := ⟨w.heap.size, 1, none⟩) (by simp)]; simp
    have c2 : w1.cell? ⟨w.heap.size, 2, none⟩ = some (.int .i64 (S : Int)) := by rw [hb1.cell (p := ⟨w.heap.size, 2, none⟩) (by simp)]; simp
    have hl : w.heap.size < w1.heap.size := by have := hb1.size; simp at this; omega
    have B1 : Hid (Below w.heap.size w w1) := (allocBelow w _).trans (hb1.mono (by simp))
    have HT : Hid (Calls Tryz.prog 68 #[.agg #[.int .i64 (K : Int), .int .i64 (E : Int), .int .i64 (S : Int)], .func (.func 56) #[.agg #[.int .i64 (K : Int), .string t]] #[]] w1.drew fun r W => r = .returned (.agg #[.int .i64 (K : Int), .int .i64 (c : Int), .int .i64 (S : Int)]) ∧ Hid (Below w.heap.size w W) ∧ W.cell? ⟨w.heap.size, 0, none⟩ = some (.int .i64 (K : Int)) ∧ W.cell? ⟨w.heap.size, 1, none⟩ = some (.int .i64 (E : Int)) ∧ W.cell? ⟨w.heap.size, 2, none⟩ = some (.int .i64 (S : Int))) := by
      show Calls _ _ _ _ _
      refine (HX.out w1.drew (HW.out.below B1.out.drew hkp)).mono ?_
      rintro r W ⟨rfl, hb⟩
      exact ⟨rfl, B1.out.drew.trans (hb.mono (Nat.le_of_lt hl)), by rw [hb.cell hl]; exact c0, by rw [hb.cell hl]; exact c1, by rw [hb.cell hl]; exact c2⟩
    clear hb1 HX hl hp
    by_cases hc : E = c
    · obtain rfl := hc
      go_wp2_with fail
      go_region_held3 (fun V => V.cell? ⟨w.heap.size, 0, none⟩ = some (.int .i64 (K : Int)) ∧ V.cell? ⟨w.heap.size, 1, none⟩ = some (.int .i64 (E : Int)) ∧ V.cell? ⟨w.heap.size, 2, none⟩ = some (.int .i64 (S : Int))) (first | exact ⟨q0, q1, q2⟩ | go_keep)
        (first | (go_at_call 68; refine HT.out.mono ?_; rintro r W3 ⟨rfl, kk3, q0, q1, q2⟩))
      all_goals
        go_wp2
        go_ret
        exact ⟨by rw [ea.out]; simp, kk3.out⟩
    · have hb : ((E : Int) == (c : Int)) = false := by rw [beq_eq_false_iff_ne]; omega
      have HC : Hid (decide ((c : Int) = (E : Int)) = false) := decide_eq_false (by omega)
      go_wp2_with fail
      go_region_held3 (fun V => V.cell? ⟨w.heap.size, 0, none⟩ = some (.int .i64 (K : Int)) ∧ V.cell? ⟨w.heap.size, 1, none⟩ = some (.int .i64 (E : Int)) ∧ V.cell? ⟨w.heap.size, 2, none⟩ = some (.int .i64 (S : Int))) (first | exact ⟨q0, q1, q2⟩ | go_keep)
        (first | (go_at_call 68; refine HT.out.mono ?_; rintro r W3 ⟨rfl, kk3, q0, q1, q2⟩))
      all_goals
        go_wp2
        go_ret
        exact ⟨by rw [ea.out, HC.out]; rfl, kk3.out⟩
  · rw [Bool.not_eq_true] at h2
    have ea : Hid (sigCB k e s t = false) := sigCB_wrong h2
    go_enter Tryz.func42, Tryz.ntmps42
    go_wp2_with fail
    refine (tooLong t _ ht).mono ?_
    rintro r w' ⟨rfl, rfl⟩
    rw [hd]
    go_wp2_with fail
    refine (implSigRight k e s _).mono ?_
    rintro r w1 ⟨rfl, hb1⟩
    rw [h2]
    have B1 : Hid (Below w.heap.size w w1) := (allocBelow w _).trans (hb1.mono (by simp))
    clear hb1
    go_wp2
    go_ret
    exact ⟨by rw [ea.out]; rfl, B1.out⟩
end Go.Proofs.YtdehbaafbbjcgaaGreatDoor
