/- The methods of impl.signedBox over impl.Crl: sign, signedWith, walked. What impl.crlBody hands back, in words. The errors of what is signed. impl.CrlGood, walked. laws.szInt64S, szCrl, walked. laws.toInt64S, walked. laws.toSig, walked. -/
import Derived.Test.YthofeoelndplpaaGreatDoorLGd13
import Derived.Test.YthofeoelndplpaaGreatDoorLGd08
import Derived.Test.YthofeoelndplpaaGreatDoorLGd04
import Derived.Test.YthofeoelndplpaaGreatDoorLGd12
import Derived.Test.YthofeoelndplpaaGreatDoorLGd14
import Derived.Deep.Cut
import Derived.Test.YthofeoelndplpaaGreatDoorLGd05
import Derived.Test.YthofeoelndplpaaGreatDoorLGd03
import Derived.Handy
import Derived.Test.YthofeoelndplpaaGreatDoorLGd01
namespace Go.Proofs.YthofeoelndplpaaGreatDoor
open Go.RowKit

set_option linter.unusedSimpArgs false in
set_option maxHeartbeats 4000000 in
set_option maxRecDepth 100000 in
theorem signCrl (c : Lst) (v nv : Value) (D : ByteArray) (x k e s : Int) (E : Value) (w : World) (hD : D.size ≤ 20000) (hw : Keys w) (hE : w.cell? ⟨0, 0, none⟩ = some E) (hv : signV x D = .agg #[.int .i64 k, .int .i64 e, .int .i64 s]) :
    Calls Tryz.prog 51 #[c.box v D nv, .int .i64 x] w fun r w' => r = .returned (if (decide (D.size ≠ 0) && secB x) = true then .tuple #[.agg #[.int .i64 k, .int .i64 e, .int .i64 s], .nilIface] else .tuple #[.agg #[.int .i64 0, .int .i64 0, .int .i64 0], E]) ∧ Below w.heap.size w w' := by
  obtain ⟨R, hR⟩ : ∃ R : Value, R = if (decide (D.size ≠ 0) && secB x) = true then .tuple #[.agg #[.int .i64 k, .int .i64 e, .int .i64 s], .nilIface] else .tuple #[.agg #[.int .i64 0, .int .i64 0, .int .i64 0], E] := ⟨_, rfl⟩
  rw [← hR]
  have HR : Hid (R = if (decide (D.size ≠ 0) && secB x) = true then .tuple #[.agg #[.int .i64 k, .int .i64 e, .int .i64 s], .nilIface] else .tuple #[.agg #[.int .i64 0, .int .i64 0, .int .i64 0], E]) := hR
  clear hR
  obtain ⟨iss, fr, till, serials, sk, se, ss⟩ := c
  unfold Lst.box
  simp only
  have hEl := World.block_lt_of_cell? w _ hE
  have hkp := hw.pos
  have HKy : Hid (∀ V, Below w.heap.size w V → Keys V) := fun V hV => hw.below hV hkp
  have HSg : Hid (∀ V, Keys V → Calls Tryz.prog 71 #[.int .i64 x, .string D] V fun r w' => r = .returned (.agg #[.int .i64 k, .int .i64 e, .int .i64 s]) ∧ Below V.heap.size V w') := fun V hV => by
    have := implSign x D V (by unfold maxLen; omega) hV
    rw [hv] at this
    exact this
  have HE : Hid (∀ V, Below w.heap.size w V → V.cell? ⟨0, 0, none⟩ = some E) := fun V hV => by rw [hV.cell hEl]; exact hE
  clear hE hEl hw hkp hv hD
  obtain ⟨w1, hw1⟩ : ∃ w1, w1 = (w.alloc (.cells #[.string iss, .int .i64 fr, .int .i64 till, v, .int .i64 sk, .int .i64 se, .int .i64 ss, .string D, .int .i64 sk, .int .i64 se, .int .i64 ss, nv] 75 (0, 0))).alloc (.cells #[.int .i64 0, .int .i64 0, .int .i64 0] 25 (0, 0)) := ⟨_, rfl⟩
  have r0 : w1.heap[w.heap.size]? = some (.cells [Value.string iss, .int .i64 fr, .int .i64 till, v, .int .i64 sk, .int .i64 se, .int .i64 ss, .string D, .int .i64 sk, .int .i64 se, .int .i64 ss, nv].toArray 75 (0, 0)) := by rw [hw1, Below.heap_alloc _ _ _ (by simp)]; exact heap_alloc_new w _
  have r1 : w1.heap[w.heap.size + 1]? = some (.cells [Value.int .i64 0, .int .i64 0, .int .i64 0].toArray 25 (0, 0)) := by rw [hw1]; exact heap_alloc2 w _ _
  have B1 : Hid (Below w.heap.size w w1) := by rw [hw1]; exact ((Below.refl _ _).alloc (Nat.le_refl _) _).alloc (by simp) _
  have HRw : Hid (∀ V, Below w1.heap.size w1 V → V.heap[w.heap.size]? = some (.cells [Value.string iss, .int .i64 fr, .int .i64 till, v, .int .i64 sk, .int .i64 se, .int .i64 ss, .string D, .int .i64 sk, .int .i64 se, .int .i64 ss, nv].toArray 75 (0, 0)) ∧ V.heap[w.heap.size + 1]? = some (.cells [Value.int .i64 0, .int .i64 0, .int .i64 0].toArray 25 (0, 0))) := fun V hV => ⟨(hV.block _ (heap_lt r0)).trans r0, (hV.block _ (heap_lt r1)).trans r1⟩
  have HC : Hid (∀ V : World, V.heap[w.heap.size]? = some (.cells [Value.string iss, .int .i64 fr, .int .i64 till, v, .int .i64 sk, .int .i64 se, .int .i64 ss, .string D, .int .i64 sk, .int .i64 se, .int .i64 ss, nv].toArray 75 (0, 0)) → V.cell? ⟨w.heap.size, 0, none⟩ = some (.string iss) ∧ V.cell? ⟨w.heap.size, 1, none⟩ = some (.int .i64 fr) ∧ V.cell? ⟨w.heap.size, 2, none⟩ = some (.int .i64 till) ∧ V.cell? ⟨w.heap.size, 3, none⟩ = some (v) ∧ V.cell? ⟨w.heap.size, 4, none⟩ = some (.int .i64 sk) ∧ V.cell? ⟨w.heap.size, 5, none⟩ = some (.int .i64 se) ∧ V.cell? ⟨w.heap.size, 6, none⟩ = some (.int .i64 ss) ∧ V.cell? ⟨w.heap.size, 7, none⟩ = some (.string D) ∧ V.cell? ⟨w.heap.size, 8, none⟩ = some (.int .i64 sk) ∧ V.cell? ⟨w.heap.size, 9, none⟩ = some (.int .i64 se) ∧ V.cell? ⟨w.heap.size, 10, none⟩ = some (.int .i64 ss) ∧ V.cell? ⟨w.heap.size, 11, none⟩ = some (nv)) := fun V hP => ⟨rowFacts hP 0 _ rfl, rowFacts hP 1 _ rfl, rowFacts hP 2 _ rfl, rowFacts hP 3 _ rfl, rowFacts hP 4 _ rfl, rowFacts hP 5 _ rfl, rowFacts hP 6 _ rfl, rowFacts hP 7 _ rfl, rowFacts hP 8 _ rfl, rowFacts hP 9 _ rfl, rowFacts hP 10 _ rfl, rowFacts hP 11 _ rfl⟩
  have HK : Hid (∀ V, Below w1.heap.size w1 V → V.cell? ⟨w.heap.size, 0, none⟩ = some (.string iss) ∧ V.cell? ⟨w.heap.size, 1, none⟩ = some (.int .i64 fr) ∧ V.cell? ⟨w.heap.size, 2, none⟩ = some (.int .i64 till) ∧ V.cell? ⟨w.heap.size, 3, none⟩ = some (v) ∧ V.cell? ⟨w.heap.size, 4, none⟩ = some (.int .i64 sk) ∧ V.cell? ⟨w.heap.size, 5, none⟩ = some (.int .i64 se) ∧ V.cell? ⟨w.heap.size, 6, none⟩ = some (.int .i64 ss) ∧ V.cell? ⟨w.heap.size, 7, none⟩ = some (.string D) ∧ V.cell? ⟨w.heap.size, 8, none⟩ = some (.int .i64 sk) ∧ V.cell? ⟨w.heap.size, 9, none⟩ = some (.int .i64 se) ∧ V.cell? ⟨w.heap.size, 10, none⟩ = some (.int .i64 ss) ∧ V.cell? ⟨w.heap.size, 11, none⟩ = some (nv)) := fun V hV => HC.out V (HRw.out V hV).1
  have HB : Hid (∀ V, Below w1.heap.size w1 V → Below w.heap.size w V) := fun V hV => B1.out.trans (hV.mono B1.out.size)
  have Z1 : Hid (w1.heap.size = w.heap.size + 2) := by show _ = _; rw [hw1]; simp
  have I1 : Hid (Below w1.heap.size w1 w1) := Below.refl _ _
  have D1 : Hid (Below w1.heap.size w1 w1.drew) := I1.out.drew
  clear r0 r1 B1
  obtain ⟨c0, c1, c2, c3, c4, c5, c6, c7, c8, c9, c10, c11⟩ := HK.out w1 I1.out
  go_enter Tryz.func51, Tryz.ntmps51
  go_upto_region 1 with fail
  rw [← hw1]
  clear hw1
  by_cases h0 : D.size = 0
  · have x0 := isEmpty_of h0
    have HF : Hid (R = .tuple #[.agg #[.int .i64 0, .int .i64 0, .int .i64 0], E]) := by show _ = _; rw [HR.out, if_neg (by simp [h0])]
    go_wp2_with fail
    refine wp_region_held_drew (S := fun V => V.cell? ⟨0, 0, none⟩ = some E) (by kernel_rfl) ?_ (fun hHeld => ?_)
    · exact HE.out _ (HB.out _ D1.out)
    refine wpAnyH_take (i := 0) (oi := ⟨some 14, _, _, _, _, _⟩) (v := ?_) rfl (by kernel_rfl) (by kernel_rfl) (by kernel_rfl) (fun _ _ _ h => h) (Or.inl ⟨by kernel_rfl, ?_⟩) (by assumption) ?_
    rotate_left
    · (intro w hSw; (try dsimp only at hSw); go_simp; try with_reducible rfl)
    (try simp only [Act.put, List.setIfInBounds_toArray, List.set_cons_zero, List.set_cons_succ])
    refine wpAnyH_take (i := 1) (oi := ⟨some 15, _, _, _, _, _⟩) (v := ?_) rfl (by kernel_rfl) (by kernel_rfl) (by kernel_rfl) (fun _ _ _ h => h) (Or.inl ⟨by kernel_rfl, ?_⟩) (by assumption) ?_
    rotate_left
    · (intro w hSw; (try dsimp only at hSw); go_simp; try with_reducible rfl)
    (try simp only [Act.put, List.setIfInBounds_toArray, List.set_cons_zero, List.set_cons_succ])
    refine wpAnyH_ready (rs := [2]) (by kernel_rfl) (by simp) ?_
    refine AllReadyH.cons (o := ⟨none, _, _, _, _, _⟩) rfl (fun K hK => ?_) AllReadyH.nil
    rw [if_pos (by rfl)]
    refine wp_store_row 25 _ _ rfl (w.heap.size + 1) [Value.int .i64 0, .int .i64 0, .int .i64 0] [Value.int .i64 0, .int .i64 0, .int .i64 0] 25 rfl rfl (HRw.out _ D1.out).2 rfl sizeSig (by simp [Value.oneCell']) ?_
    intro w8 hrow ho hs8 hbb
    have HROW : Hid _ := hrow
    have HB8 : Hid (Below w.heap.size w w8) := hbb _ _ (by omega) (HB.out _ D1.out)
    refine hK.out _ _ ?_ (fun hHeld => ?_)
    · exact HE.out _ HB8.out
    clear hK K ho hs8 hbb hrow
    (try simp only [Act.put, List.setIfInBounds_toArray, List.set_cons_zero, List.set_cons_succ])
    refine wpAnyH_take (i := 3) (oi := ⟨some 5, _, _, _, _, _⟩) (v := ?_) rfl (by kernel_rfl) (by kernel_rfl) (by kernel_rfl) (fun _ _ _ h => h) (Or.inl ⟨by kernel_rfl, ?_⟩) (by assumption) ?_
    rotate_left
    · (intro w hSw; (try dsimp only at hSw); go_simp; try with_reducible rfl)
    (try simp only [Act.put, List.setIfInBounds_toArray, List.set_cons_zero, List.set_cons_succ])
    refine wpAnyH_done (by kernel_rfl) ?_ _
    go_wp2
    refine bodyPost_ret (v := .tuple #[.agg [Value.int .i64 0, .int .i64 0, .int .i64 0].toArray, E]) ?_ rfl ⟨by rw [HF.out], HB8.out⟩
    have hl3 := run_loadVar_mid (P := Tryz.prog) _ (w.heap.size + 1) 0 25 _ _ (rangeRow HROW.out) Tryz.underlying25 rfl sizeSig
    simp [results, Tryz.results51, asAddr, hl3]
  · have x0 := isEmpty_not h0
    go_wp2_with fail
    refine (implSecret x _).mono ?_
    rintro r w2 ⟨rfl, h2w⟩
    subst w2
    cases hs : secB x with
    | false =>
      have HF : Hid (R = .tuple #[.agg #[.int .i64 0, .int .i64 0, .int .i64 0], E]) := by show _ = _; rw [HR.out, hs, if_neg (by simp)]
      go_wp2_with fail
      refine wp_region_held_drew (S := fun V => V.cell? ⟨0, 0, none⟩ = some E) (by kernel_rfl) ?_ (fun hHeld => ?_)
      · exact HE.out _ (HB.out _ D1.out)
      refine wpAnyH_take (i := 0) (oi := ⟨some 14, _, _, _, _, _⟩) (v := ?_) rfl (by kernel_rfl) (by kernel_rfl) (by kernel_rfl) (fun _ _ _ h => h) (Or.inl ⟨by kernel_rfl, ?_⟩) (by assumption) ?_
      rotate_left
      · (intro w hSw; (try dsimp only at hSw); go_simp; try with_reducible rfl)
      (try simp only [Act.put, List.setIfInBounds_toArray, List.set_cons_zero, List.set_cons_succ])
      refine wpAnyH_take (i := 1) (oi := ⟨some 15, _, _, _, _, _⟩) (v := ?_) rfl (by kernel_rfl) (by kernel_rfl) (by kernel_rfl) (fun _ _ _ h => h) (Or.inl ⟨by kernel_rfl, ?_⟩) (by assumption) ?_
      rotate_left
      · (intro w hSw; (try dsimp only at hSw); go_simp; try with_reducible rfl)
      (try simp only [Act.put, List.setIfInBounds_toArray, List.set_cons_zero, List.set_cons_succ])
      refine wpAnyH_ready (rs := [2]) (by kernel_rfl) (by simp) ?_
      refine AllReadyH.cons (o := ⟨none, _, _, _, _, _⟩) rfl (fun K hK => ?_) AllReadyH.nil
      rw [if_pos (by rfl)]
      refine wp_store_row 25 _ _ rfl (w.heap.size + 1) [Value.int .i64 0, .int .i64 0, .int .i64 0] [Value.int .i64 0, .int .i64 0, .int .i64 0] 25 rfl rfl (HRw.out _ D1.out).2 rfl sizeSig (by simp [Value.oneCell']) ?_
      intro w8 hrow ho hs8 hbb
      have HROW : Hid _ := hrow
      have HB8 : Hid (Below w.heap.size w w8) := hbb _ _ (by omega) (HB.out _ D1.out)
      refine hK.out _ _ ?_ (fun hHeld => ?_)
      · exact HE.out _ HB8.out
      clear hK K ho hs8 hbb hrow
      (try simp only [Act.put, List.setIfInBounds_toArray, List.set_cons_zero, List.set_cons_succ])
      refine wpAnyH_take (i := 3) (oi := ⟨some 5, _, _, _, _, _⟩) (v := ?_) rfl (by kernel_rfl) (by kernel_rfl) (by kernel_rfl) (fun _ _ _ h => h) (Or.inl ⟨by kernel_rfl, ?_⟩) (by assumption) ?_
      rotate_left
      · (intro w hSw; (try dsimp only at hSw); go_simp; try with_reducible rfl)
      (try simp only [Act.put, List.setIfInBounds_toArray, List.set_cons_zero, List.set_cons_succ])
      refine wpAnyH_done (by kernel_rfl) ?_ _
      go_wp2
      refine bodyPost_ret (v := .tuple #[.agg [Value.int .i64 0, .int .i64 0, .int .i64 0].toArray, E]) ?_ rfl ⟨by rw [HF.out], HB8.out⟩
      have hl3 := run_loadVar_mid (P := Tryz.prog) _ (w.heap.size + 1) 0 25 _ _ (rangeRow HROW.out) Tryz.underlying25 rfl sizeSig
      simp [results, Tryz.results51, asAddr, hl3]
    | true =>
      have HF : Hid (R = .tuple #[.agg #[.int .i64 k, .int .i64 e, .int .i64 s], .nilIface]) := by show _ = _; rw [HR.out, hs, decide_eq_true h0]; rfl
      go_wp2_with fail
      refine (HSg.out _ (HKy.out _ (HB.out _ I1.out))).mono ?_
      rintro r w3 ⟨rfl, b3⟩
      have K3 : Hid (Below w1.heap.size w1 w3) := b3
      clear b3 c0 c1 c2 c3 c4 c5 c6 c7 c8 c9 c10 c11
      have hR := (HRw.out _ K3.out).2
      have h1 : ∀ v ∈ [Value.int .i64 k, .int .i64 e, .int .i64 s], v.oneCell' = true := by simp [Value.oneCell']
      go_wp2_with (refine wpList_store_row rfl 25 _ _ rfl (w.heap.size + 1) _ [Value.int .i64 k, .int .i64 e, .int .i64 s] 25 rfl rfl hR rfl sizeSig h1 ?_)
      intro w8 hrow ho hs8 hbb
      have HROW : Hid _ := hrow
      have HB8 : Hid (Below w.heap.size w w8) := hbb _ _ (by omega) (HB.out _ K3.out)
      clear ho hs8 hbb hrow hR h1
      go_wp2
      refine bodyPost_ret (v := .tuple #[.agg [Value.int .i64 k, .int .i64 e, .int .i64 s].toArray, .nilIface]) ?_ rfl ⟨by rw [HF.out], HB8.out⟩
      have hl3 := run_loadVar_mid (P := Tryz.prog) _ (w.heap.size + 1) 0 25 _ _ (rangeRow HROW.out) Tryz.underlying25 rfl sizeSig
      simp [results, Tryz.results51, asAddr, hl3]
set_option linter.unusedSimpArgs false in
set_option maxHeartbeats 4000000 in
set_option maxRecDepth 100000 in
theorem signedWithCrl (c : Lst) (v nv : Value) (D : ByteArray) (key' : Int) (E E0 E2 : Value) (tE : TypeId) (pE : Value) (qE : E = .iface tE pE) (w : World) (hD : D.size ≤ 20000) (hw : Keys w) (hE : w.cell? ⟨0, 0, none⟩ = some E) (hE0 : w.cell? ⟨2, 0, none⟩ = some E0) (hE2 : w.cell? ⟨1, 0, none⟩ = some E2) :
    Calls Tryz.prog 58 #[c.box v D nv, .int .i64 key'] w fun r w' => r = .returned (if (decide (D.size ≠ 0) && sigRB c.sk c.se c.ss) = true then (if c.sk = key' then (if sigCB c.sk c.se c.ss D = true then .nilIface else E0) else E2) else E) ∧ Below w.heap.size w w' := by
  have HRt : Hid (∀ V, V.cell? ⟨0, 0, none⟩ = some E → Calls Tryz.prog 85 #[c.box v D nv] V fun e w' => e = .returned (if (decide (D.size ≠ 0) && sigRB c.sk c.se c.ss) = true then .nilIface else E) ∧ Below V.heap.size V w') := fun V hV => rightCrl c v nv D E V hV
  have hEl := World.block_lt_of_cell? w _ hE
  have hEl0 := World.block_lt_of_cell? w _ hE0
  have hEl2 := World.block_lt_of_cell? w _ hE2
  have hkp := hw.pos
  have HKy : Hid (∀ V, Below w.heap.size w V → Keys V) := fun V hV => hw.below hV hkp
  have HE : Hid (∀ V, Below w.heap.size w V → V.cell? ⟨0, 0, none⟩ = some E ∧ V.cell? ⟨2, 0, none⟩ = some E0 ∧ V.cell? ⟨1, 0, none⟩ = some E2) := fun V hV => ⟨by rw [hV.cell hEl]; exact hE, by rw [hV.cell hEl0]; exact hE0, by rw [hV.cell hEl2]; exact hE2⟩
  have HCk : Hid (∀ V, Keys V → Calls Tryz.prog 75 #[.agg #[.int .i64 c.sk, .int .i64 c.se, .int .i64 c.ss], .string D] V fun r w' => r = .returned (.bool (sigCB c.sk c.se c.ss D)) ∧ Below V.heap.size V w') := fun V hV => implSigCheck c.sk c.se c.ss D V (by unfold maxLen; omega) hV
  obtain ⟨P, hP⟩ : ∃ P, P = (decide (D.size ≠ 0) && sigRB c.sk c.se c.ss) := ⟨_, rfl⟩
  rw [← hP] at HRt ⊢
  obtain ⟨Q, hQ⟩ : ∃ Q, Q = sigCB c.sk c.se c.ss D := ⟨_, rfl⟩
  rw [← hQ] at HCk ⊢
  obtain ⟨R, hR⟩ : ∃ R : Value, R = if P = true then (if c.sk = key' then (if Q = true then .nilIface else E0) else E2) else E := ⟨_, rfl⟩
  rw [← hR]
  have HR : Hid (R = if P = true then (if c.sk = key' then (if Q = true then .nilIface else E0) else E2) else E) := hR
  clear hP hQ hE hE0 hE2 hEl hEl0 hEl2 hw hkp hR
  obtain ⟨iss, fr, till, serials, sk, se, ss⟩ := c
  unfold Lst.box at *
  simp only at HRt HCk HR ⊢
  obtain ⟨w1, hw1⟩ : ∃ w1, w1 = w.alloc (.cells #[.string iss, .int .i64 fr, .int .i64 till, v, .int .i64 sk, .int .i64 se, .int .i64 ss, .string D, .int .i64 sk, .int .i64 se, .int .i64 ss, nv] 75 (0, 0)) := ⟨_, rfl⟩
  have r0 : w1.heap[w.heap.size]? = some (.cells [Value.string iss, .int .i64 fr, .int .i64 till, v, .int .i64 sk, .int .i64 se, .int .i64 ss, .string D, .int .i64 sk, .int .i64 se, .int .i64 ss, nv].toArray 75 (0, 0)) := by rw [hw1]; exact heap_alloc_new w _
  have B1 : Hid (Below w.heap.size w w1) := by rw [hw1]; exact (Below.refl _ _).alloc (Nat.le_refl _) _
  have z1 : w.heap.size < w1.heap.size := by rw [hw1]; simp
  have HK : Hid (∀ V, Below w1.heap.size w1 V → V.cell? ⟨w.heap.size, 0, none⟩ = some (.string iss) ∧ V.cell? ⟨w.heap.size, 1, none⟩ = some (.int .i64 fr) ∧ V.cell? ⟨w.heap.size, 2, none⟩ = some (.int .i64 till) ∧ V.cell? ⟨w.heap.size, 3, none⟩ = some (v) ∧ V.cell? ⟨w.heap.size, 4, none⟩ = some (.int .i64 sk) ∧ V.cell? ⟨w.heap.size, 5, none⟩ = some (.int .i64 se) ∧ V.cell? ⟨w.heap.size, 6, none⟩ = some (.int .i64 ss) ∧ V.cell? ⟨w.heap.size, 7, none⟩ = some (.string D) ∧ V.cell? ⟨w.heap.size, 8, none⟩ = some (.int .i64 sk) ∧ V.cell? ⟨w.heap.size, 9, none⟩ = some (.int .i64 se) ∧ V.cell? ⟨w.heap.size, 10, none⟩ = some (.int .i64 ss) ∧ V.cell? ⟨w.heap.size, 11, none⟩ = some (nv)) := fun V hV => by
    have hP := (hV.block _ z1).trans r0
    exact ⟨rowFacts hP 0 _ rfl, rowFacts hP 1 _ rfl, rowFacts hP 2 _ rfl, rowFacts hP 3 _ rfl, rowFacts hP 4 _ rfl, rowFacts hP 5 _ rfl, rowFacts hP 6 _ rfl, rowFacts hP 7 _ rfl, rowFacts hP 8 _ rfl, rowFacts hP 9 _ rfl, rowFacts hP 10 _ rfl, rowFacts hP 11 _ rfl⟩
  have HB : Hid (∀ V, Below w1.heap.size w1 V → Below w.heap.size w V) := fun V hV => B1.out.trans (hV.mono B1.out.size)
  have I1 : Hid (Below w1.heap.size w1 w1) := Below.refl _ _
  have D1 : Hid (Below w1.heap.size w1 w1.drew) := I1.out.drew
  clear r0 z1 B1
  obtain ⟨c0, c1, c2, c3, c4, c5, c6, c7, c8, c9, c10, c11⟩ := HK.out w1 I1.out
  go_enter Tryz.func58, Tryz.ntmps58
  go_upto_region 1 with fail
  rw [← hw1]
  clear hw1
  go_wp2_with fail
  refine (HRt.out _ (HE.out _ (HB.out _ I1.out)).1).mono ?_
  rintro r w2 ⟨rfl, b2⟩
  have K2 : Hid (Below w1.heap.size w1 w2) := b2
  clear b2 c0 c1 c2 c3 c4 c5 c6 c7 c8 c9 c10 c11
  obtain ⟨c0, c1, c2, c3, c4, c5, c6, c7, c8, c9, c10, c11⟩ := HK.out w2 K2.out
  obtain ⟨e1, e0, e2⟩ := HE.out _ (HB.out _ K2.out)
  cases P with
  | false =>
    have HF : Hid (R = E) := HR.out
    rw [qE] at e1 HF ⊢
    go_wp2
    go_ret
    exact ⟨by rw [HF.out]; rfl, HB.out _ K2.out⟩
  | true =>
  by_cases hk : sk = key'
  rotate_left
  · have HF : Hid (R = E2) := by show _ = _; rw [HR.out, if_neg hk]; rfl
    go_wp2
    go_ret
    exact ⟨by rw [HF.out]; rfl, HB.out _ K2.out⟩
  subst hk
  go_wp2_with fail
  refine (HCk.out _ (HKy.out _ (HB.out _ K2.out))).mono ?_
  rintro r w3 ⟨rfl, b3⟩
  have K3 : Hid (Below w1.heap.size w1 w3) := K2.out.trans (b3.mono K2.out.size)
  clear b3 c0 c1 c2 c3 c4 c5 c6 c7 c8 c9 c10 c11 e1 e0 e2
  obtain ⟨e1, e0, e2⟩ := HE.out _ (HB.out _ K3.out)
  cases Q with
  | false =>
    have HF : Hid (R = E0) := by show _ = _; rw [HR.out]; simp
    go_wp2
    go_ret
    exact ⟨by rw [HF.out]; rfl, HB.out _ K3.out⟩
  | true =>
    have HF : Hid (R = .nilIface) := by show _ = _; rw [HR.out]; simp
    go_wp2
    go_ret
    exact ⟨by rw [HF.out]; rfl, HB.out _ K3.out⟩
end Go.Proofs.YthofeoelndplpaaGreatDoor
namespace Go.Proofs.YthofeoelndplpaaGreatDoor
open Go.RowKit

theorem listE_size (c : Lst) : (listE c).size ≤ 700 := by
  unfold listE
  split
  · exact listD_le (list_fits (by assumption))
  · exact Nat.zero_le _
theorem listE_ne {c : Lst} : decide ((listE c).size ≠ 0) = listB c := by
  unfold listE
  cases h : listB c with
  | true =>
    rw [if_pos rfl]
    have := thing_pos 48 (nameD c.issuer ++ (intD c.fr ++ (intD c.till ++ seqD (serD c.serials c.serials.length))))
    refine decide_eq_true (fun h0 => ?_)
    have h1 : (thingD 48 (nameD c.issuer ++ (intD c.fr ++ (intD c.till ++ seqD (serD c.serials c.serials.length))))).size = 0 := h0
    omega
  | false => rfl
end Go.Proofs.YthofeoelndplpaaGreatDoor
namespace Go.Proofs.YthofeoelndplpaaGreatDoor
open Go.RowKit

/-- The variables 'not right', 'other key', 'no check' hold errors, the last one another than the first two. -/
def Err3 (w : World) : Prop := ∃ b1 b2 b0, ErrV 0 w b1 ∧ ErrV 1 w b2 ∧ ErrV 2 w b0 ∧ b1 ≠ b0 ∧ b2 ≠ b0
theorem Err3.keep {w w' : World} (h : Err3 w) (hb : Below w.heap.size w w') : Err3 w' := by
  obtain ⟨b1, b2, b0, h1, h2, h0, n1, n2⟩ := h
  exact ⟨b1, b2, b0, h1.keep hb, h2.keep hb, h0.keep hb, n1, n2⟩
end Go.Proofs.YthofeoelndplpaaGreatDoor
namespace Go.Proofs.YthofeoelndplpaaGreatDoor
open Go.RowKit

set_option linter.unusedSimpArgs false in
set_option maxHeartbeats 4000000 in
set_option maxRecDepth 100000 in
theorem implCrlGood (k : Int) (c : Lst) (a : Option Addr) (cap : Nat) (w : World) (hi : c.issuer.size ≤ maxLen) (hl : c.serials.length ≤ 1048576) (ha : IsInts w a c.serials) (hw : Keys w) (hE : Err3 w) :
    Calls Tryz.prog 28 #[.int .i64 k, c.val (.slice a c.serials.length cap)] w fun e w' => e = .returned (.bool (crlGoodB k c)) ∧ Below w.heap.size w w' := by
  have HBx : Hid (∀ V, IsInts V a c.serials → Calls Tryz.prog 50 #[c.val (.slice a c.serials.length cap)] V fun e w' => ∃ g, e = .returned (c.box (.slice a c.serials.length cap) (listE c) (.slice (some ⟨g, 0, none⟩) 3 3)) ∧ Row3 c.sk c.se c.ss w' g ∧ Below V.heap.size V w') := fun V hV => boxCrl c a cap V hi hl hV
  obtain ⟨b1, b2, b0, h1, h2, h0, _, _⟩ := hE
  have hkp := hw.pos
  have zE := listE_size c
  have HSw : Hid (∀ V v nv, Below w.heap.size w V → Calls Tryz.prog 58 #[c.box v (listE c) nv, .int .i64 k] V fun r w' => (∃ t p, (crlGoodB k c = false ∧ r = .returned (.iface t p)) ∨ (crlGoodB k c = true ∧ r = .returned .nilIface)) ∧ Below V.heap.size V w') := fun V v nv hV => by
    refine (signedWithCrl c v nv (listE c) k _ _ _ _ _ rfl V (by omega) (hw.below hV hkp) (h1.keep hV).1 (h0.keep hV).1 (h2.keep hV).1).mono ?_
    rintro r w' ⟨rfl, hb⟩
    refine ⟨?_, hb⟩
    rw [listE_ne]
    cases e1 : (listB c && sigRB c.sk c.se c.ss) with
    | false =>
      refine ⟨_, _, .inl ⟨?_, rfl⟩⟩
      show (listB c && sigRB c.sk c.se c.ss && _ && _) = false
      rw [e1]; rfl
    | true =>
      rw [if_pos rfl]
      by_cases e2 : c.sk = k
      · rw [if_pos e2]
        have hD : listE c = listD c := if_pos (Bool.and_eq_true _ _ ▸ e1 |>.1)
        cases e3 : sigCB c.sk c.se c.ss (listE c) with
        | false =>
          refine ⟨_, _, .inl ⟨?_, rfl⟩⟩
          show (_ && sigCB c.sk c.se c.ss (listD c)) = false
          rw [← hD, e3, Bool.and_false]
        | true =>
          refine ⟨0, .nilIface, .inr ⟨?_, rfl⟩⟩
          show (listB c && sigRB c.sk c.se c.ss && decide (c.sk = k) && sigCB c.sk c.se c.ss (listD c)) = true
          rw [← hD, e3, e1, decide_eq_true e2]; rfl
      · rw [if_neg e2]
        refine ⟨_, _, .inl ⟨?_, rfl⟩⟩
        show (listB c && sigRB c.sk c.se c.ss && decide (c.sk = k) && _) = false
        rw [decide_eq_false e2, Bool.and_false]; rfl
  clear hi hl hw hkp zE h0 h1 h2
  generalize crlGoodB k c = R at *
  generalize listE c = D at *
  obtain ⟨iss, fr, till, serials, sk, se, ss⟩ := c
  unfold Lst.val at *
  unfold Lst.box at *
  simp only at HBx HSw ha ⊢
  generalize serials.length = nl at *
  obtain ⟨w1, hw1⟩ : ∃ w1, w1 = w.alloc (.cells #[.string iss, .int .i64 fr, .int .i64 till, .slice a nl cap, .int .i64 sk, .int .i64 se, .int .i64 ss] 46 (0, 0)) := ⟨_, rfl⟩
  have r0 : w1.heap[w.heap.size]? = some (.cells [Value.string iss, .int .i64 fr, .int .i64 till, .slice a nl cap, .int .i64 sk, .int .i64 se, .int .i64 ss].toArray 46 (0, 0)) := by rw [hw1]; exact heap_alloc_new w _
  have B1 : Hid (Below w.heap.size w w1) := by rw [hw1]; exact (Below.refl _ _).alloc (Nat.le_refl _) _
  have z1 : w.heap.size < w1.heap.size := by rw [hw1]; simp
  have HK : Hid (∀ V, Below w1.heap.size w1 V → V.cell? ⟨w.heap.size, 0, none⟩ = some (.string iss) ∧ V.cell? ⟨w.heap.size, 1, none⟩ = some (.int .i64 fr) ∧ V.cell? ⟨w.heap.size, 2, none⟩ = some (.int .i64 till) ∧ V.cell? ⟨w.heap.size, 3, none⟩ = some (.slice a nl cap) ∧ V.cell? ⟨w.heap.size, 4, none⟩ = some (.int .i64 sk) ∧ V.cell? ⟨w.heap.size, 5, none⟩ = some (.int .i64 se) ∧ V.cell? ⟨w.heap.size, 6, none⟩ = some (.int .i64 ss)) := fun V hV => by
    have hP := (hV.block _ z1).trans r0
    exact ⟨rowFacts hP 0 _ rfl, rowFacts hP 1 _ rfl, rowFacts hP 2 _ rfl, rowFacts hP 3 _ rfl, rowFacts hP 4 _ rfl, rowFacts hP 5 _ rfl, rowFacts hP 6 _ rfl⟩
  have HA : Hid (∀ V, Below w1.heap.size w1 V → IsInts V a serials) := fun V hV => (ha.keep B1.out).keep hV
  have HB : Hid (∀ V, Below w1.heap.size w1 V → Below w.heap.size w V) := fun V hV => B1.out.trans (hV.mono B1.out.size)
  have I1 : Hid (Below w1.heap.size w1 w1) := Below.refl _ _
  have D1 : Hid (Below w1.heap.size w1 w1.drew) := I1.out.drew
  clear r0 z1 B1 ha
  go_enter Tryz.func28, Tryz.ntmps28
  go_upto_region 1 with fail
  rw [← hw1]
  clear hw1
  obtain ⟨c0, c1, c2, c3, c4, c5, c6⟩ := HK.out w1 I1.out
  go_wp2_with fail
  refine (HBx.out _ (HA.out _ I1.out)).mono ?_
  rintro e w2 ⟨g, rfl, r2, b2⟩
  have K2 : Hid (Below w1.heap.size w1 w2) := b2
  clear b2 c0 c1 c2 c3 c4 c5 c6
  go_wp2_with fail
  refine (HSw.out _ _ _ (HB.out _ K2.out)).mono ?_
  rintro e w4 ⟨⟨t4, p4, h4⟩, b4⟩
  have K4 : Hid (Below w1.heap.size w1 w4) := K2.out.trans (b4.mono K2.out.size)
  clear b4 r2
  rcases h4 with ⟨hP, rfl⟩ | ⟨hP, rfl⟩
  · have HF : Hid (R = false) := hP
    clear hP
    go_wp2
    go_ret
    exact ⟨by rw [HF.out]; rfl, HB.out _ K4.out⟩
  · have HF : Hid (R = true) := hP
    clear hP
    go_wp2
    go_ret
    exact ⟨by rw [HF.out]; rfl, HB.out _ K4.out⟩
end Go.Proofs.YthofeoelndplpaaGreatDoor
namespace Go.Proofs.YthofeoelndplpaaGreatDoor
open Go.RowKit

def Lst.Small (c : Lst) : Prop := c.issuer.size ≤ 1048576 ∧ c.serials.length ≤ 1048576
theorem szInts (a : Option Addr) (n c : Nat) (left : Int) (w : World) (hn : n ≤ maxLen) (h0 : 0 ≤ left) (h1 : left ≤ 1048576) :
    Calls Tryz.prog 46 #[.slice a n c, .int .i64 left] w fun e w' => ∃ x : Int, e = .returned (.int .i64 x) ∧ (x < 0 ∨ n ≤ 1048576) ∧ -1 ≤ x ∧ x ≤ 1048576 ∧ w' = w := by
  unfold maxLen at hn
  by_cases hfit : left < (n : Int)
  · go_enter Tryz.func46, Tryz.ntmps46
    go_wp2
    go_ret
    exact ⟨_, rfl, .inl (by omega), by omega, by omega, rfl⟩
  · go_enter Tryz.func46, Tryz.ntmps46
    go_wp2
    go_ret
    exact ⟨_, rfl, .inr (by omega), by omega, by omega, rfl⟩
set_option maxHeartbeats 4000000 in
set_option maxRecDepth 100000 in
theorem szCrl (c : Lst) (a : Option Addr) (cap : Nat) (w : World) (hi : c.issuer.size ≤ maxLen) (hl : c.serials.length ≤ maxLen) :
    Calls Tryz.prog 20 #[c.val (.slice a c.serials.length cap), .int .i64 1048576] w fun e w' => ∃ x : Int, e = .returned (.int .i64 x) ∧ (x < 0 ∨ c.Small) ∧ -1 ≤ x ∧ x ≤ 1048576 ∧ Below w.heap.size w w' := by
  have HSm : Hid (c.issuer.size ≤ 1048576 → c.serials.length ≤ 1048576 → c.Small) := fun h1 h2 => ⟨h1, h2⟩
  obtain ⟨iss, fr, till, serials, sk, se, ss⟩ := c
  simp only at hi hl HSm
  generalize Lst.Small ⟨iss, fr, till, serials, sk, se, ss⟩ = Sm at *
  unfold Lst.val
  simp only
  generalize serials.length = nl at *
  obtain ⟨w1, hw1⟩ : ∃ w1, w1 = w.alloc (.cells #[.string iss, .int .i64 fr, .int .i64 till, .slice a nl cap, .int .i64 sk, .int .i64 se, .int .i64 ss] 43 (0, 0)) := ⟨_, rfl⟩
  have hrow : w1.heap[w.heap.size]? = some (.cells [Value.string iss, .int .i64 fr, .int .i64 till, .slice a nl cap, .int .i64 sk, .int .i64 se, .int .i64 ss].toArray 43 (0, 0)) := by rw [hw1]; exact heap_alloc_new w _
  have B1 : Hid (Below w.heap.size w w1) := by rw [hw1]; exact (Below.refl _ _).alloc (Nat.le_refl _) _
  have c0 := rowFacts hrow 0 _ rfl
  have c3 := rowFacts hrow 3 _ rfl
  have HZ : Hid (∀ V (left : Int), 0 ≤ left → left ≤ 1048576 → Calls Tryz.prog 46 #[.slice a nl cap, .int .i64 left] V fun e w' => ∃ x : Int, e = .returned (.int .i64 x) ∧ (x < 0 ∨ nl ≤ 1048576) ∧ -1 ≤ x ∧ x ≤ 1048576 ∧ w' = V) := fun V left h0 h1 => szInts a nl cap left V hl h0 h1
  unfold maxLen at hi
  clear hrow hl
  go_enter Tryz.func20, Tryz.ntmps20
  go_upto_region 1 with fail
  rw [← hw1]
  clear hw1
  by_cases h1 : 1048576 < iss.size
  · go_wp2
    go_ret
    exact ⟨_, rfl, .inl (by omega), by omega, by omega, B1.out⟩
  obtain ⟨l2, hl2⟩ : ∃ l2 : Int, l2 = 1048576 - (iss.size : Int) := ⟨_, rfl⟩
  have hl20 : 0 ≤ l2 := by omega
  have hl21 : l2 ≤ 1048576 := by omega
  go_upto_region 4 with fail
  rw [← hl2]
  clear hl2
  go_wp2_with fail
  refine (HZ.out _ l2 hl20 hl21).mono ?_
  rintro e w2 ⟨q, rfl, hq0, hq1, hq2, rfl⟩
  by_cases hq : q < 0
  · go_wp2
    go_ret
    exact ⟨_, rfl, .inl (by omega), by omega, by omega, B1.out⟩
  · have HSm' : Hid Sm := HSm.out (by omega) (by rcases hq0 with h | h <;> omega)
    go_wp2
    go_ret
    exact ⟨_, rfl, .inr HSm'.out, by omega, by omega, B1.out⟩
end Go.Proofs.YthofeoelndplpaaGreatDoor
namespace Go.Proofs.YthofeoelndplpaaGreatDoor
open Go.RowKit

set_option maxHeartbeats 1000000 in
set_option maxRecDepth 100000 in
theorem toInts (a : Option Addr) (zs : List Int) (c : Nat) (w : World) (hl : zs.length ≤ 1048576) (ha : IsInts w a zs) :
    Calls Tryz.prog 49 #[.slice a zs.length c] w fun e w' => e = .returned (.slice (some ⟨w.heap.size, 0, none⟩) zs.length zs.length) ∧ w'.heap[w.heap.size]? = some (.cells (lCells zs).toArray 2 (0, 0)) ∧ Below w.heap.size w w' := by
  obtain ⟨i0, hi, hz0, hz1, hz2⟩ := info_parts infoLong
  go_enter Tryz.func49, Tryz.ntmps49
  go_wp2_with (at_make; refine wpList_make_full _ rfl _ _ 41 rfl w.heap.size 2 i0 (.int .i64 0) 1 Tryz.underlying41 hi hz0 hz1 .i64 .i64 _ _ zs.length rfl rfl ?c1 ?c2 ?c3 ?c4 ?c5 ?_)
  case c1 => omega
  case c2 => omega
  case c3 => rw [hz2]; omega
  case c4 => unfold maxLen; omega
  case c5 => exact Nat.le_refl _
  intro w1 hown hgrow
  have hB1 : Below w.heap.size w w1 := (Below.refl _ w).grown hgrow (Nat.le_refl _) (fun k hk => by cases hk)
  obtain ⟨hrow, hlen⟩ := rowOf hown rfl
  generalize (madeCells #[Value.int IntKind.i64 0] zs.length).toList = L0 at hrow hlen
  have HR0 : Hid (w1.heap[w.heap.size]? = some (.cells L0.toArray 2 (0, 0))) := hrow
  have HL0 : Hid (L0.length = zs.length) := hlen
  have HB1 : Hid (Below w.heap.size w w1) := hB1
  clear hown hgrow hrow hlen hB1
  go_wp2_with fail
  go_loopw [4] (fun i wr => ∃ (k : Nat) (L : List Value), k ≤ zs.length ∧ i = .int .i64 k ∧ L.length = zs.length ∧ wr.heap[w.heap.size]? = some (.cells L.toArray 2 (0, 0)) ∧ (∀ j, j < k → L[j]? = some (.int .i64 (zs.getD j 0))) ∧ Below w.heap.size w wr)
    (fun i _ => zs.length - (intOf i).toNat)
  case atStart => exact ⟨0, L0, Nat.zero_le _, rfl, HL0.out, HR0.out, fun j hj => by omega, HB1.out⟩
  case round =>
    clear HL0 HR0 HB1
    obtain ⟨k, L, hk, rfl, hL, hg, hv, hb⟩ := hrel
    by_cases hlt : k < zs.length
    · obtain ⟨x, o, rfl, hc⟩ : ∃ x o, a = some ⟨x, o, none⟩ ∧ ∀ i, i < zs.length → wr.cell? ⟨x, o + i, none⟩ = some (.int .i64 (zs.getD i 0)) := by
        rcases ha.below hb ha.lt with rfl | h
        · simp at hlt
        · exact h
      have hck := hc k hlt
      have hd : wr.cell? ⟨w.heap.size, k, none⟩ = some L[k] := by
        rw [cell_of_row wr _ k _ _ (0, 0) hg]; simp
      have hz := frozen_of_row wr _ k _ _ hg
      have HG : Hid (∀ v, (wr.setCell ⟨w.heap.size, k, none⟩ v).heap[w.heap.size]? = some (.cells (L.set k v).toArray 2 (0, 0))) := fun v => by
        rw [heap_setCell_same wr _ k _ _ v hg]; simp
      have HV : Hid (∀ j, j < k + 1 → (L.set k (.int .i64 (zs.getD k 0)))[j]? = some (.int .i64 (zs.getD j 0))) := fun j hj => by
        by_cases e : j = k
        · subst e; rw [List.getElem?_set_self (by omega)]
        · rw [List.getElem?_set_ne (by omega), hv j (by omega)]
      have HL : Hid (∀ v, (L.set k v).length = zs.length) := fun v => by simpa using hL
      have HB : Hid (∀ v, Below w.heap.size w (wr.setCell ⟨w.heap.size, k, none⟩ v)) := fun v => hb.setCell (Nat.le_refl _) v
      generalize L[k] = v0 at hd
      generalize zs.getD k 0 = z at hck HV
      have a0 : (0 : Int) ≤ (k : Int) := by omega
      have b0 : (k : Int) < (zs.length : Int) := by omega
      generalize zs.length = n at *
      clear hc ha hv hg hb hL
      go_wp2
      go_roundw
      case rel => exact ⟨k + 1, _, by omega, by go_num, HL.out _, HG.out _, HV.out, HB.out _⟩
      case measure => simp [intOf]; omega
    · have hLe : L = lCells zs := by
        apply List.ext_getElem?
        intro j
        by_cases hj : j < zs.length
        · rw [hv j (by omega)]; simp [lCells, List.getD, hj]
        · rw [List.getElem?_eq_none (by omega), List.getElem?_eq_none (by simp [lCells]; omega)]
      subst hLe
      have HG : Hid (wr.heap[w.heap.size]? = some (.cells (lCells zs).toArray 2 (0, 0))) := hg
      have HB : Hid (Below w.heap.size w wr) := hb
      clear hg hv hb hL ha
      go_wp2
      go_ret
      exact ⟨rfl, HG.out, HB.out⟩
end Go.Proofs.YthofeoelndplpaaGreatDoor
namespace Go.Proofs.YthofeoelndplpaaGreatDoor
open Go.RowKit

set_option maxHeartbeats 1000000 in
set_option maxRecDepth 100000 in
theorem toSig (k e s : Int) (w : World) :
    Calls Tryz.prog 43 #[.agg #[.int .i64 k, .int .i64 e, .int .i64 s]] w fun r w' => r = .returned (.agg #[.int .i64 k, .int .i64 e, .int .i64 s]) ∧ Below w.heap.size w w' := by
  go_enter Tryz.func43, Tryz.ntmps43
  go_wp2
  go_returns
  refine ⟨rfl, ?_⟩
  repeat' first | exact Below.refl _ _ | refine Below.setCell ?_ (by simp) _ | refine Below.alloc ?_ (by simp; try omega) _
end Go.Proofs.YthofeoelndplpaaGreatDoor
