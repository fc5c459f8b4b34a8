/- impl.askedAgain, impl.SigCheck, walked. impl.JwsRead, walked. What a walk is told of a slice of integers that came in. -/
import Derived.Test.YtjkmfjegphpjkaaGreatDoorJW21
import Derived.Test.YtjkmfjegphpjkaaGreatDoorJW18
import Derived.Test.YtjkmfjegphpjkaaGreatDoorJW12
import Derived.Test.YtjkmfjegphpjkaaGreatDoorJW05
import Derived.Deep.QuietTactic
import Derived.BigQuiet
import Derived.Deep.RegionHeld3
import Derived.Test.YtjkmfjegphpjkaaGreatDoorJW10
import Derived.Test.YtjkmfjegphpjkaaGreatDoorJW13
import Derived.Deep.MidRow
import Derived.Deep.Cut
import Derived.Test.YtjkmfjegphpjkaaGreatDoorJW01
import Derived.OpenShut
namespace Go.Proofs.YtjkmfjegphpjkaaGreatDoor
open Go.RowKit

set_option maxHeartbeats 1000000 in
set_option maxRecDepth 100000 in
theorem askedAgain (K E S : Nat) (t : ByteArray) (w : World) (ht : t.size ≤ 20000) (hk : K < 2147483579) (he : E < 1073741789) (hs : S < 1073741789) (hp : pm K 1073741789 2147483579 = 1) (hw : Keys w) :
    Calls Tryz.prog 71 #[.agg #[.int .i64 (K : Int), .int .i64 (E : Int), .int .i64 (S : Int)], .func (.func 59) #[.agg #[.int .i64 (K : Int), .string t]] #[]] w fun r w' => r = .returned (sigV K (chal (backR K E S : Nat) K t) S) ∧ Below w.heap.size w w' := by
  obtain ⟨j, hj⟩ : ∃ j : Nat, j = 1073741789 - E := ⟨_, rfl⟩
  obtain ⟨y1, hy1⟩ : ∃ y : Nat, y = pm 4 S 2147483579 := ⟨_, rfl⟩
  obtain ⟨y2, hy2⟩ : ∃ y : Nat, y = pm K j 2147483579 := ⟨_, rfl⟩
  obtain ⟨b, hb⟩ : ∃ b : Nat, b = backR K E S := ⟨_, rfl⟩
  obtain ⟨c, hc⟩ : ∃ c : Nat, c = chal (b : Int) K t := ⟨_, rfl⟩
  have e1 : gpowA 4 (S : Int) = (y1 : Int) := by rw [hy1]; exact gpow_in (y := 4) (by omega) pm4 S
  have e2 : gpowA (K : Int) (j : Int) = (y2 : Int) := by rw [hy2]; exact gpow_in hk hp j
  have e3 : gmulA (y1 : Int) (y2 : Int) = (b : Int) := by rw [hy1, hy2, hb, hj]; exact back_mul hp
  have hj' : (1073741789 : Int) - (E : Int) = (j : Int) := by omega
  have hj2 : IntKind.i64.wrap (j : Int) = (j : Int) := by rw [IntKind.wrap_i64]; omega
  have hjm : (j : Int) ≤ 1073741789 := by omega
  have e4 : challA (b : Int) (K : Int) t = (c : Int) := by
    rw [challA, if_pos ⟨ht, by rw [hb]; exact back_unit hp, unit_of hk hp⟩, hc]
  rw [← hb, ← hc]
  have hkp := hw.pos
  have htm : t.size ≤ maxLen := by unfold maxLen; omega
  have HW : Hid (Keys w) := hw
  have E3 : Hid (gmulA (y1 : Int) (y2 : Int) = (b : Int)) := e3
  have E4 : Hid (challA (b : Int) (K : Int) t = (c : Int)) := e4
  clear hj hy1 hy2 hb hc hp hw e3 e4 hk
  have hA : ∀ x y, Below w.heap.size w ((w.alloc x).alloc y) := fun x y => ((Below.refl _ w).alloc (Nat.le_refl _) x).alloc (by simp) y
  go_enter Tryz.func71, Tryz.ntmps71
  go_wp2_with fail
  obtain ⟨w1, hw1⟩ : ∃ w1, (w.alloc (.cells #[.int .i64 (K : Int), .int .i64 (E : Int), .int .i64 (S : Int)] 32 (0, 0))).alloc (.cells #[.int .i64 0, .int .i64 0, .int .i64 0] 32 (0, 0)) = w1 := ⟨_, rfl⟩
  have hb1 : Below w.heap.size w w1 := by rw [← hw1]; exact hA _ _
  have hs1 : w1.heap.size = w.heap.size + 2 := by rw [← hw1]; simp
  have hP1 : w1.heap[w.heap.size]? = some (.cells [Value.int .i64 (K : Int), .int .i64 (E : Int), .int .i64 (S : Int)].toArray 32 (0, 0)) := by
    rw [← hw1, Below.heap_alloc _ _ _ (by simp)]; exact heap_alloc_new w _
  have hR1 : w1.heap[w.heap.size + 1]? = some (.cells [Value.int .i64 0, .int .i64 0, .int .i64 0].toArray 32 (0, 0)) := by rw [← hw1]; exact heap_alloc2 w _ _
  rw [hw1]
  have HKEEP : Hid (∀ W, Below (w.heap.size + 2) w1 W → W.heap[w.heap.size + 1]? = some (.cells [Value.int .i64 0, .int .i64 0, .int .i64 0].toArray 32 (0, 0)) ∧ W.cell? ⟨w.heap.size, 0, none⟩ = some (.int .i64 (K : Int)) ∧ W.cell? ⟨w.heap.size, 1, none⟩ = some (.int .i64 (E : Int)) ∧ W.cell? ⟨w.heap.size, 2, none⟩ = some (.int .i64 (S : Int)) ∧ W.cell? ⟨w.heap.size + 1, 0, none⟩ = some (.int .i64 0) ∧ W.cell? ⟨w.heap.size + 1, 1, none⟩ = some (.int .i64 0) ∧ W.cell? ⟨w.heap.size + 1, 2, none⟩ = some (.int .i64 0) ∧ W.frozen? ⟨w.heap.size + 1, 0, none⟩ = false ∧ W.frozen? ⟨w.heap.size + 1, 1, none⟩ = false ∧ W.frozen? ⟨w.heap.size + 1, 2, none⟩ = false) := fun W hW => by
    have hP : W.heap[w.heap.size]? = some (.cells [Value.int .i64 (K : Int), .int .i64 (E : Int), .int .i64 (S : Int)].toArray 32 (0, 0)) := by rw [hW.block _ (by omega)]; exact hP1
    have hR : W.heap[w.heap.size + 1]? = some (.cells [Value.int .i64 0, .int .i64 0, .int .i64 0].toArray 32 (0, 0)) := by rw [hW.block _ (by omega)]; exact hR1
    exact ⟨hR, rowFacts hP 0 _ rfl, rowFacts hP 1 _ rfl, rowFacts hP 2 _ rfl, rowFacts hR 0 _ rfl, rowFacts hR 1 _ rfl, rowFacts hR 2 _ rfl, frozen_of_row W _ 0 _ _ hR, frozen_of_row W _ 1 _ _ hR, frozen_of_row W _ 2 _ _ hR⟩
  have HT1 : Hid (∀ V (y n : Int), Hid (Below (w.heap.size + 2) w1 V) → n ≤ 9223372036854775807 → Calls Tryz.prog 54 #[.int .i64 y, .int .i64 n] V fun r W => r = .returned (.int .i64 (gpowA y n)) ∧ Hid (Below (w.heap.size + 2) w1 W) ∧ W.cell? ⟨w.heap.size, 0, none⟩ = some (.int .i64 (K : Int)) ∧ W.cell? ⟨w.heap.size, 1, none⟩ = some (.int .i64 (E : Int)) ∧ W.cell? ⟨w.heap.size, 2, none⟩ = some (.int .i64 (S : Int))) := fun V y n hV hn => by
    refine (implGroupPow y n V hn).mono ?_
    rintro r W ⟨rfl, hb⟩
    have hbW : Below (w.heap.size + 2) w1 W := hV.out.trans (hb.mono (by have := hV.out.size; omega))
    have h := HKEEP.out W hbW
    exact ⟨rfl, hbW, h.2.1, h.2.2.1, h.2.2.2.1⟩
  have HT2 : Hid (∀ V (y n : Int), Hid (Below (w.heap.size + 2) w1 V) → Calls Tryz.prog 94 #[.int .i64 y, .int .i64 n] V fun r W => r = .returned (.int .i64 (gmulA y n)) ∧ Hid (Below (w.heap.size + 2) w1 W) ∧ W.cell? ⟨w.heap.size, 0, none⟩ = some (.int .i64 (K : Int)) ∧ W.cell? ⟨w.heap.size, 1, none⟩ = some (.int .i64 (E : Int)) ∧ W.cell? ⟨w.heap.size, 2, none⟩ = some (.int .i64 (S : Int))) := fun V y n hV => by
    refine (implGroupMul y n V).mono ?_
    rintro r W ⟨rfl, hb⟩
    have hbW : Below (w.heap.size + 2) w1 W := hV.out.trans (hb.mono (by have := hV.out.size; omega))
    have h := HKEEP.out W hbW
    exact ⟨rfl, hbW, h.2.1, h.2.2.1, h.2.2.2.1⟩
  have HB1 : Hid (Below w.heap.size w w1) := hb1
  have HS1 : Hid (w1.heap.size = w.heap.size + 2) := hs1
  have HD1 : Hid (Below (w.heap.size + 2) w1 w1.drew) := (Below.refl _ w1).drew
  obtain ⟨_, p0, p1, p2, o0, o1, o2, y0, y1', y2'⟩ := HKEEP.out w1 (Below.refl _ _)
  clear hw1 hP1 hR1 hb1 hA hs1 o0 o1 o2 y0 y1' y2'
  go_region_held3 (fun V => V.cell? ⟨w.heap.size, 0, none⟩ = some (.int .i64 (K : Int)) ∧ V.cell? ⟨w.heap.size, 1, none⟩ = some (.int .i64 (E : Int)) ∧ V.cell? ⟨w.heap.size, 2, none⟩ = some (.int .i64 (S : Int))) (first | exact ⟨d0, d1, d2⟩ | exact ⟨c0, c1, c2⟩ | go_keep)
    (first | (go_at_call 94; refine (HT2.out _ _ _ (by assumption)).mono ?_; rintro r W2 ⟨rfl, kk2, d0, d1, d2⟩) | (go_at_call 54; refine (HT1.out _ _ _ (by assumption) (by omega)).mono ?_; rintro r W ⟨rfl, kk, c0, c1, c2⟩))
  rw [E3.out]
  have hk2 := kk2.out
  have HT3 : Hid (Calls Tryz.prog 59 #[.agg #[.int .i64 (K : Int), .string t], .int .i64 (b : Int)] W2.drew fun r W => r = .returned (.int .i64 (c : Int)) ∧ Hid (Below (w.heap.size + 2) w1 W) ∧ W.cell? ⟨w.heap.size, 0, none⟩ = some (.int .i64 (K : Int)) ∧ W.cell? ⟨w.heap.size, 1, none⟩ = some (.int .i64 (E : Int)) ∧ W.cell? ⟨w.heap.size, 2, none⟩ = some (.int .i64 (S : Int)) ∧ W.cell? ⟨w.heap.size + 1, 0, none⟩ = some (.int .i64 0) ∧ W.cell? ⟨w.heap.size + 1, 1, none⟩ = some (.int .i64 0) ∧ W.cell? ⟨w.heap.size + 1, 2, none⟩ = some (.int .i64 0) ∧ W.frozen? ⟨w.heap.size + 1, 0, none⟩ = false ∧ W.frozen? ⟨w.heap.size + 1, 1, none⟩ = false ∧ W.frozen? ⟨w.heap.size + 1, 2, none⟩ = false) := by
    show Calls _ _ _ _ _
    have z2 := hk2.size
    have hsz : w1.heap.size = w.heap.size + 2 := HS1.out
    have hB : Below w.heap.size w W2 := HB1.out.trans (hk2.mono (by omega))
    refine (askChallenge (K : Int) (b : Int) t W2.drew htm (HW.out.below hB.drew hkp)).mono ?_
    rintro r W ⟨rfl, hb⟩
    have hbW : Below (w.heap.size + 2) w1 W := hk2.drew.trans (hb.mono (by show _ ≤ W2.heap.size; omega))
    have h := HKEEP.out W hbW
    exact ⟨by rw [E4.out], hbW, h.2⟩
  clear hk2 kk2 kk HT1 HT2 HD1 e1 e2 hj' hj2 hjm c0 c1 c2 p0 p1 p2
  go_wp2_with fail
  go_region_held3 (fun V => V.cell? ⟨w.heap.size, 0, none⟩ = some (.int .i64 (K : Int)) ∧ V.cell? ⟨w.heap.size, 2, none⟩ = some (.int .i64 (S : Int))) (first | exact ⟨q0, q2⟩ | go_keep)
    (first | (go_at_call 59; refine HT3.out.mono ?_; rintro r W3 ⟨rfl, kk3, q0, q1, q2, r0, r1, r2, f0, f1, f2⟩))
  all_goals
    have G4 := (HKEEP.out _ kk3.out).1
    have B4 := HB1.out.trans (kk3.out.mono (by omega))
    clear HT3 HKEEP
    have HG : Hid _ := G4
    have HB : Hid _ := B4
    clear G4 B4
    go_wp2
    refine bodyPost_ret (v := sigV K c S) ?_ rfl ⟨rfl, ?_⟩
    · have hrow := sigRow HG.out (.int .i64 (K : Int)) (.int .i64 (c : Int)) (.int .i64 (S : Int))
      have hl3 := run_loadVar_mid (P := Tryz.prog) _ (w.heap.size + 1) 0 32 _ _ (rangeRow hrow) Tryz.underlying32 rfl sizeSig
      simp [results, Tryz.results71, asAddr, hl3, sigV]
    · exact ((HB.out.setCell (by simp) _).setCell (by simp) _).setCell (by simp) _
set_option maxHeartbeats 1000000 in
set_option maxRecDepth 100000 in
theorem implSigCheck (k e s : Int) (t : ByteArray) (w : World) (ht : t.size ≤ maxLen) (hw : Keys w) :
    Calls Tryz.prog 44 #[.agg #[.int .i64 k, .int .i64 e, .int .i64 s], .string t] w fun r w' => r = .returned (.bool (sigCB k e s t)) ∧ Below w.heap.size w w' := by
  have hkp := hw.pos
  have HW : Hid (Keys w) := hw
  clear hw
  by_cases h1 : 20000 < t.size
  · have ea : Hid (sigCB k e s t = false) := sigCB_long h1
    have hd : decide (20000 < t.size) = true := decide_eq_true h1
    go_enter Tryz.func44, Tryz.ntmps44
    go_wp2_with fail
    refine (tooLong t _ ht).mono ?_
    rintro r w' ⟨rfl, rfl⟩
    rw [hd]
    clear h1 hd ht
    go_wp2
    go_ret
    exact ⟨by rw [ea.out]; rfl, allocBelow _ _⟩
  have hd : decide (20000 < t.size) = false := decide_eq_false h1
  have ht2 : t.size ≤ 20000 := by omega
  by_cases h2 : sigRB k e s = true
  · obtain ⟨K, E, S, rfl, rfl, rfl, hk, he, hs, hp⟩ := sigRB_nat h2
    have ea : Hid (sigCB K E S t = decide ((chal (backR K E S : Nat) K t : Int) = (E : Int))) := sigCB_right ht2 h2
    have HX : Hid (∀ v : World, Keys v → Calls Tryz.prog 71 #[.agg #[.int .i64 (K : Int), .int .i64 (E : Int), .int .i64 (S : Int)], .func (.func 59) #[.agg #[.int .i64 (K : Int), .string t]] #[]] v fun r w' => r = .returned (sigV K (chal (backR K E S : Nat) K t) S) ∧ Below v.heap.size v w') := fun v hv => askedAgain K E S t v ht2 hk he hs hp hv
    generalize chal (backR K E S : Nat) K t = c at *
    go_enter Tryz.func44, Tryz.ntmps44
    go_wp2_with fail
    refine (tooLong t _ ht).mono ?_
    rintro r w' ⟨rfl, rfl⟩
    rw [hd]
    go_wp2_with fail
    refine (implSigRight K E S _).mono ?_
    rintro r w1 ⟨rfl, hb1⟩
    rw [h2]
    have c0 : w1.cell? ⟨w.heap.size, 0, none⟩ = some (.int .i64 (K : Int)) := by rw [hb1.cell (p := ⟨w.heap.size, 0, none⟩) (by simp)]; simp
    have c1 : w1.cell? ⟨w.heap.size, 1, none⟩ = some (.int .i64 (E : Int)) := by rw [hb1.cell (p := ⟨w.heap.size, 1, none⟩) (by simp)]; simp
    have c2 : w1.cell? ⟨w.heap.size, 2, none⟩ = some (.int .i64 (S : Int)) := by rw [hb1.cell (p := ⟨w.heap.size, 2, none⟩) (by simp)]; simp
    have hl : w.heap.size < w1.heap.size := by have := hb1.size; simp at this; omega
    have B1 : Hid (Below w.heap.size w w1) := (allocBelow w _).trans (hb1.mono (by simp))
    have HT : Hid (Calls Tryz.prog 71 #[.agg #[.int .i64 (K : Int), .int .i64 (E : Int), .int .i64 (S : Int)], .func (.func 59) #[.agg #[.int .i64 (K : Int), .string t]] #[]] w1.drew fun r W => r = .returned (.agg #[.int .i64 (K : Int), .int .i64 (c : Int), .int .i64 (S : Int)]) ∧ Hid (Below w.heap.size w W) ∧ W.cell? ⟨w.heap.size, 0, none⟩ = some (.int .i64 (K : Int)) ∧ W.cell? ⟨w.heap.size, 1, none⟩ = some (.int .i64 (E : Int)) ∧ W.cell? ⟨w.heap.size, 2, none⟩ = some (.int .i64 (S : Int))) := by
      show Calls _ _ _ _ _
      refine (HX.out w1.drew (HW.out.below B1.out.drew hkp)).mono ?_
      rintro r W ⟨rfl, hb⟩
      exact ⟨rfl, B1.out.drew.trans (hb.mono (Nat.le_of_lt hl)), by rw [hb.cell hl]; exact c0, by rw [hb.cell hl]; exact c1, by rw [hb.cell hl]; exact c2⟩
    clear hb1 HX hl hp
    by_cases hc : E = c
    · obtain rfl := hc
      go_wp2_with fail
      go_region_held3 (fun V => V.cell? ⟨w.heap.size, 0, none⟩ = some (.int .i64 (K : Int)) ∧ V.cell? ⟨w.heap.size, 1, none⟩ = some (.int .i64 (E : Int)) ∧ V.cell? ⟨w.heap.size, 2, none⟩ = some (.int .i64 (S : Int))) (first | exact ⟨q0, q1, q2⟩ | go_keep)
        (first | (go_at_call 71; refine HT.out.mono ?_; rintro r W3 ⟨rfl, kk3, q0, q1, q2⟩))
      all_goals
        go_wp2
        go_ret
        exact ⟨by rw [ea.out]; simp, kk3.out⟩
    · have hb : ((E : Int) == (c : Int)) = false := by rw [beq_eq_false_iff_ne]; omega
      have HC : Hid (decide ((c : Int) = (E : Int)) = false) := decide_eq_false (by omega)
      go_wp2_with fail
      go_region_held3 (fun V => V.cell? ⟨w.heap.size, 0, none⟩ = some (.int .i64 (K : Int)) ∧ V.cell? ⟨w.heap.size, 1, none⟩ = some (.int .i64 (E : Int)) ∧ V.cell? ⟨w.heap.size, 2, none⟩ = some (.int .i64 (S : Int))) (first | exact ⟨q0, q1, q2⟩ | go_keep)
        (first | (go_at_call 71; refine HT.out.mono ?_; rintro r W3 ⟨rfl, kk3, q0, q1, q2⟩))
      all_goals
        go_wp2
        go_ret
        exact ⟨by rw [ea.out, HC.out]; rfl, kk3.out⟩
  · rw [Bool.not_eq_true] at h2
    have ea : Hid (sigCB k e s t = false) := sigCB_wrong h2
    go_enter Tryz.func44, Tryz.ntmps44
    go_wp2_with fail
    refine (tooLong t _ ht).mono ?_
    rintro r w' ⟨rfl, rfl⟩
    rw [hd]
    go_wp2_with fail
    refine (implSigRight k e s _).mono ?_
    rintro r w1 ⟨rfl, hb1⟩
    rw [h2]
    have B1 : Hid (Below w.heap.size w w1) := (allocBelow w _).trans (hb1.mono (by simp))
    clear hb1
    go_wp2
    go_ret
    exact ⟨by rw [ea.out]; rfl, B1.out⟩
end Go.Proofs.YtjkmfjegphpjkaaGreatDoor
namespace Go.Proofs.YtjkmfjegphpjkaaGreatDoor
open Go.RowKit Go.Lib

theorem sizeJwsOutI : (Tryz.prog.info? 36).map (·.size) = some 8 := by kernel_rfl
set_option linter.unusedSimpArgs false in
set_option maxHeartbeats 8000000 in
set_option maxRecDepth 100000 in
theorem implJwsRead (s : ByteArray) (w : World) (hs : s.size ≤ maxLen) (hky : Keys w) (hE : ErrType w) :
    Calls Tryz.prog 14 #[.string s] w fun e w' => e = .returned (Rq.outV (jwsR s)) ∧ Below w.heap.size w w' := by
  obtain ⟨w1, hw1⟩ : ∃ y, y = w.alloc (.cells #[.int .i64 0, .int .i64 0, .string ⟨#[]⟩, .string ⟨#[]⟩, .int .i64 0, .int .i64 0, .int .i64 0, .int .i64 0] 36 (0, 0)) := ⟨_, rfl⟩
  have hz : w1.heap.size = w.heap.size + 1 := by rw [hw1]; simp
  have L1 : Hid (HasB w1 [(w.heap.size, [Value.int .i64 0, .int .i64 0, .string ⟨#[]⟩, .string ⟨#[]⟩, .int .i64 0, .int .i64 0, .int .i64 0, .int .i64 0], 36)]) := by rw [hw1]; exact (HasB.nil w).alloc _ _
  have B1 : Hid (Below w.heap.size w w1) := by rw [hw1]; exact (Below.refl _ w).alloc (Nat.le_refl _) _
  have hi' := sizeJwsOutI
  have HTl : Hid (∀ V, Calls Tryz.prog 25 #[.string s] V fun e w' => e = .returned (.bool (decide (20000 < s.size))) ∧ w' = V) := fun V => tooLong s V hs
  have hkp := hky.pos
  have hEp := hE.pos
  have HKy : Hid (∀ V, Below w.heap.size w V → Keys V) := fun V hV => hky.below hV hkp
  have HEr : Hid (∀ V, Below w.heap.size w V → ErrType V) := fun V hV => hE.below hV hEp
  clear hky hkp hE hEp
  have HR : Hid (jwsR s = if 20000 < s.size then (.zero, 2) else jwsTell (readJI s) s) := rfl
  have HRd : Hid (¬ 20000 < s.size → ∀ V, Below w.heap.size w V → Calls Tryz.prog 42 #[.string s] V fun e w' => e = .returned (readJI s).val ∧ Below V.heap.size V w') := fun h V hV => implReadRq s V (by omega) (HEr.out V hV)
  have HSZ : Hid (¬ 20000 < s.size → (readJI s).url.size ≤ maxLen ∧ (readJI s).body.size ≤ maxLen) := readJI_sizes
  unfold maxLen at hs
  generalize jwsR s = R at *
  generalize readJI s = RJ at *
  go_enter Tryz.func14, Tryz.ntmps14
  go_upto_region 1 with fail
  rw [← hw1]
  clear hw1
  go_wp2_with fail
  refine (HTl.out w1).mono ?_
  rintro e w1' ⟨rfl, rfl⟩
  by_cases hl : 20000 < s.size
  · have HF : Hid (R = (.zero, 2)) := by show _ = _; rw [HR.out, if_pos hl]
    have hR := L1.out.head
    have hd : decide (20000 < s.size) = true := decide_eq_true hl
    rw [hd]
    go_wp2_with (refine wpList_store_row rfl 36 _ _ rfl (w.heap.size) _ [Value.int .i64 0, .int .i64 0, .string ⟨#[]⟩, .string ⟨#[]⟩, .int .i64 0, .int .i64 0, .int .i64 0, .int .i64 2] 36 rfl rfl hR rfl hi' (by simp [Value.oneCell']) ?_)
    intro w8 hrow ho hs8 hbb
    have HROW : Hid _ := hrow
    have HB8 : Hid (Below w.heap.size w w8) := hbb _ _ (Nat.le_refl _) B1.out
    clear ho hs8 hbb hrow hR
    go_wp2
    refine bodyPost_ret (v := .agg [Value.int .i64 0, .int .i64 0, .string ⟨#[]⟩, .string ⟨#[]⟩, .int .i64 0, .int .i64 0, .int .i64 0, .int .i64 2].toArray) ?_ rfl ⟨by rw [HF.out]; rfl, HB8.out⟩
    have hl3 := run_loadVar_mid (P := Tryz.prog) _ (w.heap.size) 0 36 _ _ (rangeRow HROW.out) Tryz.underlying36 rfl hi'
    simp [results, Tryz.results14, asAddr, hl3]
  have hd : decide (20000 < s.size) = false := decide_eq_false hl
  rw [hd]
  have HT : Hid (R = jwsTell RJ s) := by show _ = _; rw [HR.out, if_neg hl]
  have HRd' := HRd.out hl
  have HRD : Hid _ := HRd'
  clear HR HRd HRd'
  obtain ⟨key, nonce, url, body, se, ss⟩ := RJ
  unfold Rq.val jV at HRD
  simp only at HRD
  have hur : url.size ≤ maxLen ∧ body.size ≤ maxLen := HSZ.out hl
  clear HSZ
  go_wp2_with fail
  refine (HRD.out _ B1.out).mono ?_
  rintro e w2 ⟨rfl, b2⟩
  have L2 : Hid (HasB w2 [(w.heap.size, [Value.int .i64 0, .int .i64 0, .string ⟨#[]⟩, .string ⟨#[]⟩, .int .i64 0, .int .i64 0, .int .i64 0, .int .i64 0], 36)]) := HasB.keep L1.out b2
  have B2 : Hid (Below w.heap.size w w2) := B1.out.trans (b2.mono B1.out.size)
  obtain ⟨jb, hjb⟩ : ∃ b, b = w2.heap.size := ⟨_, rfl⟩
  obtain ⟨w3, hw3⟩ : ∃ y, y = w2.alloc (.cells #[.int .i64 key, .int .i64 nonce, .string url, .string body, .int .i64 key, .int .i64 se, .int .i64 ss] 34 (0, 0)) := ⟨_, rfl⟩
  have L3 : Hid (HasB w3 [(jb, [Value.int .i64 key, .int .i64 nonce, .string url, .string body, .int .i64 key, .int .i64 se, .int .i64 ss], 34), (w.heap.size, [Value.int .i64 0, .int .i64 0, .string ⟨#[]⟩, .string ⟨#[]⟩, .int .i64 0, .int .i64 0, .int .i64 0, .int .i64 0], 36)]) := by rw [hw3, hjb]; exact HasB.alloc L2.out _ _
  have B3 : Hid (Below w.heap.size w w3) := by rw [hw3]; exact B2.out.alloc B2.out.size _
  have hj3 : jb < w3.heap.size := heap_lt L3.out.head
  clear b2 L2 B2 L1 B1 HRD hz
  have C1 : Hid (∀ V, Calls Tryz.prog 32 #[.agg #[.int .i64 key, .int .i64 nonce, .string url, .string body, .int .i64 key, .int .i64 se, .int .i64 ss]] V fun e w' => e = .returned (.bool (rqB key nonce url body)) ∧ Below V.heap.size V w') := fun V => implAsked key nonce url body key se ss V hur.1 hur.2
  have C2 : Hid (∀ V, Calls Tryz.prog 43 #[.agg #[.int .i64 key, .int .i64 se, .int .i64 ss]] V fun e w' => e = .returned (.bool (sigRB key se ss)) ∧ Below V.heap.size V w') := fun V => implSigRight key se ss V
  have C3 : Hid ((rqB key nonce url body && sigRB key se ss) = true → ∀ V, Calls Tryz.prog 35 #[.agg #[.int .i64 key, .int .i64 nonce, .string url, .string body, .int .i64 key, .int .i64 se, .int .i64 ss]] V fun e w' => e = .returned (.string (jText key nonce url body se ss)) ∧ Below V.heap.size V w') := fun h V => by
    obtain ⟨k1, k2, k3, k4, k5, k6⟩ := right_in h
    exact implLay key nonce url body key se ss V k1 k2 k3 k4 k5 k6
  have C4 : Hid ((rqB key nonce url body && sigRB key se ss) = true → ∀ V, Calls Tryz.prog 34 #[.agg #[.int .i64 key, .int .i64 nonce, .string url, .string body, .int .i64 key, .int .i64 se, .int .i64 ss]] V fun e w' => e = .returned (.string (jTwo key nonce url body)) ∧ Below V.heap.size V w') := fun h V => by
    obtain ⟨k1, k2, k3, k4, k5, k6⟩ := right_in h
    exact implTwo key nonce url body key se ss V k1 k2 k3 k4
  have C5 : Hid ((rqB key nonce url body && sigRB key se ss) = true → ∀ V, Below w.heap.size w V →  Calls Tryz.prog 44 #[.agg #[.int .i64 key, .int .i64 se, .int .i64 ss], .string (jTwo key nonce url body)] V fun e w' => e = .returned (.bool (sigCB key se ss (jTwo key nonce url body))) ∧ Below V.heap.size V w') := fun h V hV => by
    obtain ⟨k1, k2, k3, k4, k5, k6⟩ := right_in h
    have := jTwo_size key nonce url body
    exact implSigCheck key se ss _ V (by unfold maxLen; omega) (HKy.out V hV)
  have N1 : Hid (¬ ((rqB key nonce url body && sigRB key se ss) = true ∧ jText key nonce url body se ss = s) → R = (.zero, 3)) := fun h => by rw [HT.out]; exact tell_no h
  have N2 : Hid ((rqB key nonce url body && sigRB key se ss) = true → jText key nonce url body se ss = s → sigCB key se ss (jTwo key nonce url body) = false → R = (.zero, 6)) := fun h1 h2 h3 => by rw [HT.out]; exact tell_sig (j := ⟨key, nonce, url, body, se, ss⟩) ⟨h1, h2⟩ h3
  have N3 : Hid ((rqB key nonce url body && sigRB key se ss) = true → jText key nonce url body se ss = s → sigCB key se ss (jTwo key nonce url body) = true → R = (⟨key, nonce, url, body, se, ss⟩, 0)) := fun h1 h2 h3 => by rw [HT.out]; exact tell_all (j := ⟨key, nonce, url, body, se, ss⟩) ⟨h1, h2⟩ h3
  clear HT hur
  generalize rqB key nonce url body = P1 at *
  generalize sigRB key se ss = P2 at *
  generalize jText key nonce url body se ss = TX at *
  generalize jTwo key nonce url body = TW at *
  generalize sigCB key se ss TW = P3 at *
  go_upto_region 4 with fail
  rw [← hw3, ← hjb]
  clear hw3 hjb
  have d0 := rowFacts L3.out.head 0 _ rfl
  have d1 := rowFacts L3.out.head 1 _ rfl
  have d2 := rowFacts L3.out.head 2 _ rfl
  have d3 := rowFacts L3.out.head 3 _ rfl
  have d4 := rowFacts L3.out.head 4 _ rfl
  have d5 := rowFacts L3.out.head 5 _ rfl
  have d6 := rowFacts L3.out.head 6 _ rfl
  cases P1 with
  | false =>
    have HF : Hid (R = (.zero, 3)) := N1.out (fun h => by cases h.1)
    go_wp2_with fail
    refine (C1.out _).mono ?_
    rintro e w4 ⟨rfl, b'⟩
    clear d0 d1 d2 d3 d4 d5 d6
    have L4 : Hid (HasB w4 [(jb, [Value.int .i64 key, .int .i64 nonce, .string url, .string body, .int .i64 key, .int .i64 se, .int .i64 ss], 34), (w.heap.size, [Value.int .i64 0, .int .i64 0, .string ⟨#[]⟩, .string ⟨#[]⟩, .int .i64 0, .int .i64 0, .int .i64 0, .int .i64 0], 36)]) := HasB.keep L3.out b'
    have B4 : Hid (Below w.heap.size w w4) := B3.out.trans (b'.mono B3.out.size)
    clear b'
    have d0 := rowFacts L4.out.head 0 _ rfl
    have d1 := rowFacts L4.out.head 1 _ rfl
    have d2 := rowFacts L4.out.head 2 _ rfl
    have d3 := rowFacts L4.out.head 3 _ rfl
    have d4 := rowFacts L4.out.head 4 _ rfl
    have d5 := rowFacts L4.out.head 5 _ rfl
    have d6 := rowFacts L4.out.head 6 _ rfl
    have hR := L4.out.tail.head
    go_wp2_with (refine wpList_store_row rfl 36 _ _ rfl (w.heap.size) _ [Value.int .i64 0, .int .i64 0, .string ⟨#[]⟩, .string ⟨#[]⟩, .int .i64 0, .int .i64 0, .int .i64 0, .int .i64 3] 36 rfl rfl hR rfl hi' (by simp [Value.oneCell']) ?_)
    intro w8 hrow ho hs8 hbb
    have HROW : Hid _ := hrow
    have HB8 : Hid (Below w.heap.size w w8) := hbb _ _ (Nat.le_refl _) B4.out
    clear ho hs8 hbb hrow hR
    go_wp2
    refine bodyPost_ret (v := .agg [Value.int .i64 0, .int .i64 0, .string ⟨#[]⟩, .string ⟨#[]⟩, .int .i64 0, .int .i64 0, .int .i64 0, .int .i64 3].toArray) ?_ rfl ⟨by rw [HF.out]; rfl, HB8.out⟩
    have hl3 := run_loadVar_mid (P := Tryz.prog) _ (w.heap.size) 0 36 _ _ (rangeRow HROW.out) Tryz.underlying36 rfl hi'
    simp [results, Tryz.results14, asAddr, hl3]
  | true =>
  cases P2 with
  | false =>
    have HF : Hid (R = (.zero, 3)) := N1.out (fun h => by cases h.1)
    go_wp2_with fail
    refine (C1.out _).mono ?_
    rintro e w3a ⟨rfl, b'⟩
    clear d0 d1 d2 d3 d4 d5 d6
    have L3a : Hid (HasB w3a [(jb, [Value.int .i64 key, .int .i64 nonce, .string url, .string body, .int .i64 key, .int .i64 se, .int .i64 ss], 34), (w.heap.size, [Value.int .i64 0, .int .i64 0, .string ⟨#[]⟩, .string ⟨#[]⟩, .int .i64 0, .int .i64 0, .int .i64 0, .int .i64 0], 36)]) := HasB.keep L3.out b'
    have B3a : Hid (Below w.heap.size w w3a) := B3.out.trans (b'.mono B3.out.size)
    clear b'
    have d0 := rowFacts L3a.out.head 0 _ rfl
    have d1 := rowFacts L3a.out.head 1 _ rfl
    have d2 := rowFacts L3a.out.head 2 _ rfl
    have d3 := rowFacts L3a.out.head 3 _ rfl
    have d4 := rowFacts L3a.out.head 4 _ rfl
    have d5 := rowFacts L3a.out.head 5 _ rfl
    have d6 := rowFacts L3a.out.head 6 _ rfl
    go_wp2_with fail
    refine (C2.out _).mono ?_
    rintro e w4 ⟨rfl, b'⟩
    clear d0 d1 d2 d3 d4 d5 d6
    have L4 : Hid (HasB w4 [(jb, [Value.int .i64 key, .int .i64 nonce, .string url, .string body, .int .i64 key, .int .i64 se, .int .i64 ss], 34), (w.heap.size, [Value.int .i64 0, .int .i64 0, .string ⟨#[]⟩, .string ⟨#[]⟩, .int .i64 0, .int .i64 0, .int .i64 0, .int .i64 0], 36)]) := HasB.keep L3a.out b'
    have B4 : Hid (Below w.heap.size w w4) := B3a.out.trans (b'.mono B3a.out.size)
    clear b'
    have hR := L4.out.tail.head
    go_wp2_with (refine wpList_store_row rfl 36 _ _ rfl (w.heap.size) _ [Value.int .i64 0, .int .i64 0, .string ⟨#[]⟩, .string ⟨#[]⟩, .int .i64 0, .int .i64 0, .int .i64 0, .int .i64 3] 36 rfl rfl hR rfl hi' (by simp [Value.oneCell']) ?_)
    intro w8 hrow ho hs8 hbb
    have HROW : Hid _ := hrow
    have HB8 : Hid (Below w.heap.size w w8) := hbb _ _ (Nat.le_refl _) B4.out
    clear ho hs8 hbb hrow hR
    go_wp2
    refine bodyPost_ret (v := .agg [Value.int .i64 0, .int .i64 0, .string ⟨#[]⟩, .string ⟨#[]⟩, .int .i64 0, .int .i64 0, .int .i64 0, .int .i64 3].toArray) ?_ rfl ⟨by rw [HF.out]; rfl, HB8.out⟩
    have hl3 := run_loadVar_mid (P := Tryz.prog) _ (w.heap.size) 0 36 _ _ (rangeRow HROW.out) Tryz.underlying36 rfl hi'
    simp [results, Tryz.results14, asAddr, hl3]
  | true =>
  have hP : (true && true) = true := rfl
  have C3' := C3.out hP
  have C4' := C4.out hP
  have C5' := C5.out hP
  go_wp2_with fail
  refine (C1.out _).mono ?_
  rintro e w3a ⟨rfl, b'⟩
  clear d0 d1 d2 d3 d4 d5 d6
  have L3a : Hid (HasB w3a [(jb, [Value.int .i64 key, .int .i64 nonce, .string url, .string body, .int .i64 key, .int .i64 se, .int .i64 ss], 34), (w.heap.size, [Value.int .i64 0, .int .i64 0, .string ⟨#[]⟩, .string ⟨#[]⟩, .int .i64 0, .int .i64 0, .int .i64 0, .int .i64 0], 36)]) := HasB.keep L3.out b'
  have B3a : Hid (Below w.heap.size w w3a) := B3.out.trans (b'.mono B3.out.size)
  clear b'
  have d0 := rowFacts L3a.out.head 0 _ rfl
  have d1 := rowFacts L3a.out.head 1 _ rfl
  have d2 := rowFacts L3a.out.head 2 _ rfl
  have d3 := rowFacts L3a.out.head 3 _ rfl
  have d4 := rowFacts L3a.out.head 4 _ rfl
  have d5 := rowFacts L3a.out.head 5 _ rfl
  have d6 := rowFacts L3a.out.head 6 _ rfl
  go_wp2_with fail
  refine (C2.out _).mono ?_
  rintro e w4 ⟨rfl, b'⟩
  clear d0 d1 d2 d3 d4 d5 d6
  have L4 : Hid (HasB w4 [(jb, [Value.int .i64 key, .int .i64 nonce, .string url, .string body, .int .i64 key, .int .i64 se, .int .i64 ss], 34), (w.heap.size, [Value.int .i64 0, .int .i64 0, .string ⟨#[]⟩, .string ⟨#[]⟩, .int .i64 0, .int .i64 0, .int .i64 0, .int .i64 0], 36)]) := HasB.keep L3a.out b'
  have B4 : Hid (Below w.heap.size w w4) := B3a.out.trans (b'.mono B3a.out.size)
  clear b'
  have d0 := rowFacts L4.out.head 0 _ rfl
  have d1 := rowFacts L4.out.head 1 _ rfl
  have d2 := rowFacts L4.out.head 2 _ rfl
  have d3 := rowFacts L4.out.head 3 _ rfl
  have d4 := rowFacts L4.out.head 4 _ rfl
  have d5 := rowFacts L4.out.head 5 _ rfl
  have d6 := rowFacts L4.out.head 6 _ rfl
  go_wp2_with fail
  refine (C3' _).mono ?_
  rintro e w5 ⟨rfl, b'⟩
  clear d0 d1 d2 d3 d4 d5 d6
  have L5 : Hid (HasB w5 [(jb, [Value.int .i64 key, .int .i64 nonce, .string url, .string body, .int .i64 key, .int .i64 se, .int .i64 ss], 34), (w.heap.size, [Value.int .i64 0, .int .i64 0, .string ⟨#[]⟩, .string ⟨#[]⟩, .int .i64 0, .int .i64 0, .int .i64 0, .int .i64 0], 36)]) := HasB.keep L4.out b'
  have B5 : Hid (Below w.heap.size w w5) := B4.out.trans (b'.mono B4.out.size)
  clear b'
  by_cases hT : TX = s
  rotate_left
  · have HF : Hid (R = (.zero, 3)) := N1.out (fun h => hT h.2)
    have hn1 : (TX.toList == s.toList) = false := by rw [same_text']; exact decide_eq_false hT
    have hn : (TX.toList != s.toList) = true := by rw [bne, hn1]; rfl
    have hR := L5.out.tail.head
    go_wp2_with (refine wpList_store_row rfl 36 _ _ rfl (w.heap.size) _ [Value.int .i64 0, .int .i64 0, .string ⟨#[]⟩, .string ⟨#[]⟩, .int .i64 0, .int .i64 0, .int .i64 0, .int .i64 3] 36 rfl rfl hR rfl hi' (by simp [Value.oneCell']) ?_)
    intro w8 hrow ho hs8 hbb
    have HROW : Hid _ := hrow
    have HB8 : Hid (Below w.heap.size w w8) := hbb _ _ (Nat.le_refl _) B5.out
    clear ho hs8 hbb hrow hR
    go_wp2
    refine bodyPost_ret (v := .agg [Value.int .i64 0, .int .i64 0, .string ⟨#[]⟩, .string ⟨#[]⟩, .int .i64 0, .int .i64 0, .int .i64 0, .int .i64 3].toArray) ?_ rfl ⟨by rw [HF.out]; rfl, HB8.out⟩
    have hl3 := run_loadVar_mid (P := Tryz.prog) _ (w.heap.size) 0 36 _ _ (rangeRow HROW.out) Tryz.underlying36 rfl hi'
    simp [results, Tryz.results14, asAddr, hl3]
  have hn1 : (TX.toList == s.toList) = true := by rw [same_text']; exact decide_eq_true hT
  have hn : (TX.toList != s.toList) = false := by rw [bne, hn1]; rfl
  have d0 := rowFacts L5.out.head 0 _ rfl
  have d1 := rowFacts L5.out.head 1 _ rfl
  have d2 := rowFacts L5.out.head 2 _ rfl
  have d3 := rowFacts L5.out.head 3 _ rfl
  have d4 := rowFacts L5.out.head 4 _ rfl
  have d5 := rowFacts L5.out.head 5 _ rfl
  have d6 := rowFacts L5.out.head 6 _ rfl
  have HK : Hid (∀ V, Below w5.heap.size w5 V → V.cell? ⟨jb, 0, none⟩ = some (.int .i64 key) ∧ V.cell? ⟨jb, 1, none⟩ = some (.int .i64 nonce) ∧ V.cell? ⟨jb, 2, none⟩ = some (.string url) ∧ V.cell? ⟨jb, 3, none⟩ = some (.string body) ∧ V.cell? ⟨jb, 4, none⟩ = some (.int .i64 key) ∧ V.cell? ⟨jb, 5, none⟩ = some (.int .i64 se) ∧ V.cell? ⟨jb, 6, none⟩ = some (.int .i64 ss)) := fun V hV => by
    have hP := (HasB.keep L5.out hV).head
    exact ⟨rowFacts hP 0 _ rfl, rowFacts hP 1 _ rfl, rowFacts hP 2 _ rfl, rowFacts hP 3 _ rfl, rowFacts hP 4 _ rfl, rowFacts hP 5 _ rfl, rowFacts hP 6 _ rfl⟩
  have D4 : Hid (∀ V, Hid (Below w5.heap.size w5 V) → Calls Tryz.prog 34 #[.agg #[.int .i64 key, .int .i64 nonce, .string url, .string body, .int .i64 key, .int .i64 se, .int .i64 ss]] V fun e W => e = .returned (.string TW) ∧ Hid (Below w5.heap.size w5 W)) := fun V hV => (C4' V).mono fun e W h => ⟨h.1, hV.out.trans (h.2.mono hV.out.size)⟩
  have D5 : Hid (∀ V, Hid (Below w5.heap.size w5 V) → Calls Tryz.prog 44 #[.agg #[.int .i64 key, .int .i64 se, .int .i64 ss], .string TW] V fun e W => e = .returned (.bool P3) ∧ Hid (Below w5.heap.size w5 W)) := fun V hV => (C5' V (B5.out.trans (hV.out.mono B5.out.size))).mono fun e W h => ⟨h.1, hV.out.trans (h.2.mono hV.out.size)⟩
  have I5 : Hid (Below w5.heap.size w5 w5.drew) := (Below.refl _ _).drew
  clear C1 C3 C4 C5 C3' C4' C5' N1 C2
  clear d0 d1 d2 d3 d4 d5 d6
  go_upto_region 6 with fail
  obtain ⟨c0, c1, c2, c3, c4, c5, c6⟩ := HK.out w5 (Below.refl _ _)
  go_region_held3 (fun V => V.cell? ⟨jb, 0, none⟩ = some (.int .i64 key) ∧ V.cell? ⟨jb, 1, none⟩ = some (.int .i64 nonce) ∧ V.cell? ⟨jb, 2, none⟩ = some (.string url) ∧ V.cell? ⟨jb, 3, none⟩ = some (.string body) ∧ V.cell? ⟨jb, 4, none⟩ = some (.int .i64 key) ∧ V.cell? ⟨jb, 5, none⟩ = some (.int .i64 se) ∧ V.cell? ⟨jb, 6, none⟩ = some (.int .i64 ss)) (first | (refine ⟨?_, ?_, ?_, ?_, ?_, ?_, ?_⟩ <;> assumption) | exact HK.out _ (Hid.out (by assumption)))
    (first
      | (go_at_call 34; refine (D4.out _ (by assumption)).mono ?_; rintro r V2 ⟨rfl, k2⟩)
      | (go_at_call 44; refine (D5.out _ (by assumption)).mono ?_; rintro r V3 ⟨rfl, k3⟩))
  all_goals
    have K9 : Hid (Below w5.heap.size w5 V3) := k3
    have L6 : Hid (HasB V3 [(jb, [Value.int .i64 key, .int .i64 nonce, .string url, .string body, .int .i64 key, .int .i64 se, .int .i64 ss], 34), (w.heap.size, [Value.int .i64 0, .int .i64 0, .string ⟨#[]⟩, .string ⟨#[]⟩, .int .i64 0, .int .i64 0, .int .i64 0, .int .i64 0], 36)]) := HasB.keep L5.out K9.out
    have B6 : Hid (Below w.heap.size w V3) := B5.out.trans (K9.out.mono B5.out.size)
    clear k2 k3 K9 c0 c1 c2 c3 c4 c5 c6 HK D4 D5 I5 L5 B5
    have hR := L6.out.tail.head
    have d0 := rowFacts L6.out.head 0 _ rfl
    have d1 := rowFacts L6.out.head 1 _ rfl
    have d2 := rowFacts L6.out.head 2 _ rfl
    have d3 := rowFacts L6.out.head 3 _ rfl
    have d4 := rowFacts L6.out.head 4 _ rfl
    have d5 := rowFacts L6.out.head 5 _ rfl
    have d6 := rowFacts L6.out.head 6 _ rfl
    cases P3 with
    | false =>
      have HF : Hid (R = (.zero, 6)) := N2.out hP hT rfl
      go_wp2_with (refine wpList_store_row rfl 36 _ _ rfl (w.heap.size) _ [Value.int .i64 0, .int .i64 0, .string ⟨#[]⟩, .string ⟨#[]⟩, .int .i64 0, .int .i64 0, .int .i64 0, .int .i64 6] 36 rfl rfl hR rfl hi' (by simp [Value.oneCell']) ?_)
      intro w8 hrow ho hs8 hbb
      have HROW : Hid _ := hrow
      have HB8 : Hid (Below w.heap.size w w8) := hbb _ _ (Nat.le_refl _) B6.out
      clear ho hs8 hbb hrow hR
      go_wp2
      refine bodyPost_ret (v := .agg [Value.int .i64 0, .int .i64 0, .string ⟨#[]⟩, .string ⟨#[]⟩, .int .i64 0, .int .i64 0, .int .i64 0, .int .i64 6].toArray) ?_ rfl ⟨by rw [HF.out]; rfl, HB8.out⟩
      have hl3 := run_loadVar_mid (P := Tryz.prog) _ (w.heap.size) 0 36 _ _ (rangeRow HROW.out) Tryz.underlying36 rfl hi'
      simp [results, Tryz.results14, asAddr, hl3]
    | true =>
      have HF : Hid (R = (⟨key, nonce, url, body, se, ss⟩, 0)) := N3.out hP hT rfl
      go_wp2_with (refine wpList_store_row rfl 36 _ _ rfl (w.heap.size) _ [Value.int .i64 key, .int .i64 nonce, .string url, .string body, .int .i64 key, .int .i64 se, .int .i64 ss, .int .i64 0] 36 rfl rfl hR rfl hi' (by simp [Value.oneCell']) ?_)
      intro w8 hrow ho hs8 hbb
      have HROW : Hid _ := hrow
      have HB8 : Hid (Below w.heap.size w w8) := hbb _ _ (Nat.le_refl _) B6.out
      clear ho hs8 hbb hrow hR
      go_wp2
      refine bodyPost_ret (v := .agg [Value.int .i64 key, .int .i64 nonce, .string url, .string body, .int .i64 key, .int .i64 se, .int .i64 ss, .int .i64 0].toArray) ?_ rfl ⟨by rw [HF.out]; rfl, HB8.out⟩
      have hl3 := run_loadVar_mid (P := Tryz.prog) _ (w.heap.size) 0 36 _ _ (rangeRow HROW.out) Tryz.underlying36 rfl hi'
      simp [results, Tryz.results14, asAddr, hl3]
end Go.Proofs.YtjkmfjegphpjkaaGreatDoor
namespace Go.Proofs.YtjkmfjegphpjkaaGreatDoor
open Go.RowKit

/-- It is nil; or it leads to a row of 'cap' cells, the numbers 'zs', the first 'len' being its elements, each fitting its kind. -/
def IsRow (k : IntKind) (w : World) (a : Option Addr) (len cap : Nat) (zs : List Int) : Prop :=
  (a = none ∧ len = 0 ∧ cap = 0 ∧ zs = []) ∨
  ∃ x, a = some x ∧ len ≤ cap ∧ cap ≤ maxLen ∧ zs.length = cap ∧ (∀ i, i < zs.length → w.cell? (x.add i) = some (.int k (zs.getD i 0))) ∧ ∀ n ∈ zs, (Lit.int k n).wf = true
theorem IsRow.code {w : World} {a : Option Addr} {len cap : Nat} {zs : List Int} (h : IsRow .u8 w a len cap zs) : CodeAt a len w ∧ ∀ x, 0 < len → a = some x → x.block < w.heap.size := by
  rcases h with ⟨rfl, rfl, _, _⟩ | ⟨x, rfl, hl, _, hz, hc, hw⟩
  · exact ⟨.inl rfl, fun x h => by omega⟩
  by_cases h0 : len = 0
  · exact ⟨.inl h0, fun x h => by omega⟩
  obtain ⟨b, off, spot⟩ := x
  have hc0 := hc 0 (by omega)
  have hspot : spot = none := by simpa [Addr.add] using World.cell?_spot hc0
  subst hspot
  refine ⟨.inr ⟨b, off, rfl, fun i hi => ?_⟩, fun x _ hx => ?_⟩
  · have h1 := hc i (by omega)
    have hm : zs.getD i 0 ∈ zs := by
      rw [List.getD, List.getElem?_eq_getElem (show i < zs.length by omega)]
      exact List.getElem_mem _
    have hb := bounds_u8 (hw _ hm)
    refine ⟨(zs.getD i 0).toNat, by omega, ?_⟩
    rw [Int.toNat_of_nonneg hb.1]
    rw [Addr.add_lit] at h1
    exact h1
  · cases hx
    have := World.block_lt_of_cell? w _ hc0
    simpa [Addr.add] using this
theorem IsRow.len_le {k : IntKind} {w : World} {a : Option Addr} {len cap : Nat} {zs : List Int} (h : IsRow k w a len cap zs) : len ≤ maxLen := by
  rcases h with ⟨_, rfl, _, _⟩ | ⟨_, _, hl, hm, _⟩
  · exact Nat.zero_le _
  · omega
end Go.Proofs.YtjkmfjegphpjkaaGreatDoor
