/- The methods of impl.signedBox over impl.Crl: sign, signedWith, walked. impl.CrlSign, walked. The papers that FnPath makes: CertSign, CrlSign, PathCheck and PathName of them, as the law calls them. -/
import Derived.Test.YtegmmaomaegjjaaGreatDoorPT24
import Derived.Test.YtegmmaomaegjjaaGreatDoorPT23
import Derived.Test.YtegmmaomaegjjaaGreatDoorPT03
import Derived.Test.YtegmmaomaegjjaaGreatDoorPT29
import Derived.Test.YtegmmaomaegjjaaGreatDoorPT09
import Derived.Test.YtegmmaomaegjjaaGreatDoorPT04
import Derived.Test.YtegmmaomaegjjaaGreatDoorPT06
import Derived.Test.YtegmmaomaegjjaaGreatDoorPT22
import Derived.Deep.Cut
import Derived.Test.YtegmmaomaegjjaaGreatDoorPT12
import Derived.Test.YtegmmaomaegjjaaGreatDoorPT28
import Derived.Test.YtegmmaomaegjjaaGreatDoorPT27
namespace Go.Proofs.YtegmmaomaegjjaaGreatDoor
open Go.RowKit

set_option linter.unusedSimpArgs false in
set_option maxHeartbeats 4000000 in
set_option maxRecDepth 100000 in
theorem signCrl (c : Lst) (v nv : Value) (D : ByteArray) (x k e s : Int) (E : Value) (w : World) (hD : D.size ≤ 20000) (hw : Keys w) (hE : w.cell? ⟨0, 0, none⟩ = some E) (hv : signV x D = .agg #[.int .i64 k, .int .i64 e, .int .i64 s]) :
    Calls Tryz.prog 49 #[c.box v D nv, .int .i64 x] w fun r w' => r = .returned (if (decide (D.size ≠ 0) && secB x) = true then .tuple #[.agg #[.int .i64 k, .int .i64 e, .int .i64 s], .nilIface] else .tuple #[.agg #[.int .i64 0, .int .i64 0, .int .i64 0], E]) ∧ Below w.heap.size w w' := by
  obtain ⟨R, hR⟩ : ∃ R : Value, R = if (decide (D.size ≠ 0) && secB x) = true then .tuple #[.agg #[.int .i64 k, .int .i64 e, .int .i64 s], .nilIface] else .tuple #[.agg #[.int .i64 0, .int .i64 0, .int .i64 0], E] := ⟨_, rfl⟩
  rw [← hR]
  have HR : Hid (R = if (decide (D.size ≠ 0) && secB x) = true then .tuple #[.agg #[.int .i64 k, .int .i64 e, .int .i64 s], .nilIface] else .tuple #[.agg #[.int .i64 0, .int .i64 0, .int .i64 0], E]) := hR
  clear hR
  obtain ⟨iss, fr, till, serials, sk, se, ss⟩ := c
  unfold Lst.box
  simp only
  have hEl := World.block_lt_of_cell? w _ hE
  have hkp := hw.pos
  have HKy : Hid (∀ V, Below w.heap.size w V → Keys V) := fun V hV => hw.below hV hkp
  have HSg : Hid (∀ V, Keys V → Calls Tryz.prog 45 #[.int .i64 x, .string D] V fun r w' => r = .returned (.agg #[.int .i64 k, .int .i64 e, .int .i64 s]) ∧ Below V.heap.size V w') := fun V hV => by
    have := implSign x D V (by unfold maxLen; omega) hV
    rw [hv] at this
    exact this
  have HE : Hid (∀ V, Below w.heap.size w V → V.cell? ⟨0, 0, none⟩ = some E) := fun V hV => by rw [hV.cell hEl]; exact hE
  clear hE hEl hw hkp hv hD
  obtain ⟨w1, hw1⟩ : ∃ w1, w1 = (w.alloc (.cells #[.string iss, .int .i64 fr, .int .i64 till, v, .int .i64 sk, .int .i64 se, .int .i64 ss, .string D, .int .i64 sk, .int .i64 se, .int .i64 ss, nv] 54 (0, 0))).alloc (.cells #[.int .i64 0, .int .i64 0, .int .i64 0] 25 (0, 0)) := ⟨_, rfl⟩
  have r0 : w1.heap[w.heap.size]? = some (.cells [Value.string iss, .int .i64 fr, .int .i64 till, v, .int .i64 sk, .int .i64 se, .int .i64 ss, .string D, .int .i64 sk, .int .i64 se, .int .i64 ss, nv].toArray 54 (0, 0)) := by rw [hw1, Below.heap_alloc _ _ _ (by simp)]; exact heap_alloc_new w _
  have r1 : w1.heap[w.heap.size + 1]? = some (.cells [Value.int .i64 0, .int .i64 0, .int .i64 0].toArray 25 (0, 0)) := by rw [hw1]; exact heap_alloc2 w _ _
  have B1 : Hid (Below w.heap.size w w1) := by rw [hw1]; exact ((Below.refl _ _).alloc (Nat.le_refl _) _).alloc (by simp) _
  have HRw : Hid (∀ V, Below w1.heap.size w1 V → V.heap[w.heap.size]? = some (.cells [Value.string iss, .int .i64 fr, .int .i64 till, v, .int .i64 sk, .int .i64 se, .int .i64 ss, .string D, .int .i64 sk, .int .i64 se, .int .i64 ss, nv].toArray 54 (0, 0)) ∧ V.heap[w.heap.size + 1]? = some (.cells [Value.int .i64 0, .int .i64 0, .int .i64 0].toArray 25 (0, 0))) := fun V hV => ⟨(hV.block _ (heap_lt r0)).trans r0, (hV.block _ (heap_lt r1)).trans r1⟩
  have HC : Hid (∀ V : World, V.heap[w.heap.size]? = some (.cells [Value.string iss, .int .i64 fr, .int .i64 till, v, .int .i64 sk, .int .i64 se, .int .i64 ss, .string D, .int .i64 sk, .int .i64 se, .int .i64 ss, nv].toArray 54 (0, 0)) → V.cell? ⟨w.heap.size, 0, none⟩ = some (.string iss) ∧ V.cell? ⟨w.heap.size, 1, none⟩ = some (.int .i64 fr) ∧ V.cell? ⟨w.heap.size, 2, none⟩ = some (.int .i64 till) ∧ V.cell? ⟨w.heap.size, 3, none⟩ = some (v) ∧ V.cell? ⟨w.heap.size, 4, none⟩ = some (.int .i64 sk) ∧ V.cell? ⟨w.heap.size, 5, none⟩ = some (.int .i64 se) ∧ V.cell? ⟨w.heap.size, 6, none⟩ = some (.int .i64 ss) ∧ V.cell? ⟨w.heap.size, 7, none⟩ = some (.string D) ∧ V.cell? ⟨w.heap.size, 8, none⟩ = some (.int .i64 sk) ∧ V.cell? ⟨w.heap.size, 9, none⟩ = some (.int .i64 se) ∧ V.cell? ⟨w.heap.size, 10, none⟩ = some (.int .i64 ss) ∧ V.cell? ⟨w.heap.size, 11, none⟩ = some (nv)) := fun V hP => ⟨rowFacts hP 0 _ rfl, rowFacts hP 1 _ rfl, rowFacts hP 2 _ rfl, rowFacts hP 3 _ rfl, rowFacts hP 4 _ rfl, rowFacts hP 5 _ rfl, rowFacts hP 6 _ rfl, rowFacts hP 7 _ rfl, rowFacts hP 8 _ rfl, rowFacts hP 9 _ rfl, rowFacts hP 10 _ rfl, rowFacts hP 11 _ rfl⟩
  have HK : Hid (∀ V, Below w1.heap.size w1 V → V.cell? ⟨w.heap.size, 0, none⟩ = some (.string iss) ∧ V.cell? ⟨w.heap.size, 1, none⟩ = some (.int .i64 fr) ∧ V.cell? ⟨w.heap.size, 2, none⟩ = some (.int .i64 till) ∧ V.cell? ⟨w.heap.size, 3, none⟩ = some (v) ∧ V.cell? ⟨w.heap.size, 4, none⟩ = some (.int .i64 sk) ∧ V.cell? ⟨w.heap.size, 5, none⟩ = some (.int .i64 se) ∧ V.cell? ⟨w.heap.size, 6, none⟩ = some (.int .i64 ss) ∧ V.cell? ⟨w.heap.size, 7, none⟩ = some (.string D) ∧ V.cell? ⟨w.heap.size, 8, none⟩ = some (.int .i64 sk) ∧ V.cell? ⟨w.heap.size, 9, none⟩ = some (.int .i64 se) ∧ V.cell? ⟨w.heap.size, 10, none⟩ = some (.int .i64 ss) ∧ V.cell? ⟨w.heap.size, 11, none⟩ = some (nv)) := fun V hV => HC.out V (HRw.out V hV).1
  have HB : Hid (∀ V, Below w1.heap.size w1 V → Below w.heap.size w V) := fun V hV => B1.out.trans (hV.mono B1.out.size)
  have Z1 : Hid (w1.heap.size = w.heap.size + 2) := by show _ = _; rw [hw1]; simp
  have I1 : Hid (Below w1.heap.size w1 w1) := Below.refl _ _
  have D1 : Hid (Below w1.heap.size w1 w1.drew) := I1.out.drew
  clear r0 r1 B1
  obtain ⟨c0, c1, c2, c3, c4, c5, c6, c7, c8, c9, c10, c11⟩ := HK.out w1 I1.out
  go_enter Tryz.func49, Tryz.ntmps49
  go_upto_region 1 with fail
  rw [← hw1]
  clear hw1
  by_cases h0 : D.size = 0
  · have x0 := isEmpty_of h0
    have HF : Hid (R = .tuple #[.agg #[.int .i64 0, .int .i64 0, .int .i64 0], E]) := by show _ = _; rw [HR.out, if_neg (by simp [h0])]
    go_wp2_with fail
    refine wp_region_held_drew (S := fun V => V.cell? ⟨0, 0, none⟩ = some E) (by kernel_rfl) ?_ (fun hHeld => ?_)
    · exact HE.out _ (HB.out _ D1.out)
    refine wpAnyH_take (i := 0) (oi := ⟨some 14, _, _, _, _, _⟩) (v := ?_) rfl (by kernel_rfl) (by kernel_rfl) (by kernel_rfl) (fun _ _ _ h => h) (Or.inl ⟨by kernel_rfl, ?_⟩) (by assumption) ?_
    rotate_left
    · (intro w hSw; (try dsimp only at hSw); go_simp; try with_reducible rfl)
    (try simp only [Act.put, List.setIfInBounds_toArray, List.set_cons_zero, List.set_cons_succ])
    refine wpAnyH_take (i := 1) (oi := ⟨some 15, _, _, _, _, _⟩) (v := ?_) rfl (by kernel_rfl) (by kernel_rfl) (by kernel_rfl) (fun _ _ _ h => h) (Or.inl ⟨by kernel_rfl, ?_⟩) (by assumption) ?_
    rotate_left
    · (intro w hSw; (try dsimp only at hSw); go_simp; try with_reducible rfl)
    (try simp only [Act.put, List.setIfInBounds_toArray, List.set_cons_zero, List.set_cons_succ])
    refine wpAnyH_ready (rs := [2]) (by kernel_rfl) (by simp) ?_
    refine AllReadyH.cons (o := ⟨none, _, _, _, _, _⟩) rfl (fun K hK => ?_) AllReadyH.nil
    rw [if_pos (by rfl)]
    refine wp_store_row 25 _ _ rfl (w.heap.size + 1) [Value.int .i64 0, .int .i64 0, .int .i64 0] [Value.int .i64 0, .int .i64 0, .int .i64 0] 25 rfl rfl (HRw.out _ D1.out).2 rfl sizeSig (by simp [Value.oneCell']) ?_
    intro w8 hrow ho hs8 hbb
    have HROW : Hid _ := hrow
    have HB8 : Hid (Below w.heap.size w w8) := hbb _ _ (by omega) (HB.out _ D1.out)
    refine hK.out _ _ ?_ (fun hHeld => ?_)
    · exact HE.out _ HB8.out
    clear hK K ho hs8 hbb hrow
    (try simp only [Act.put, List.setIfInBounds_toArray, List.set_cons_zero, List.set_cons_succ])
    refine wpAnyH_take (i := 3) (oi := ⟨some 5, _, _, _, _, _⟩) (v := ?_) rfl (by kernel_rfl) (by kernel_rfl) (by kernel_rfl) (fun _ _ _ h => h) (Or.inl ⟨by kernel_rfl, ?_⟩) (by assumption) ?_
    rotate_left
    · (intro w hSw; (try dsimp only at hSw); go_simp; try with_reducible rfl)
    (try simp only [Act.put, List.setIfInBounds_toArray, List.set_cons_zero, List.set_cons_succ])
    refine wpAnyH_done (by kernel_rfl) ?_ _
    go_wp2
    refine bodyPost_ret (v := .tuple #[.agg [Value.int .i64 0, .int .i64 0, .int .i64 0].toArray, E]) ?_ rfl ⟨by rw [HF.out], HB8.out⟩
    have hl3 := run_loadVar_mid (P := Tryz.prog) _ (w.heap.size + 1) 0 25 _ _ (rangeRow HROW.out) Tryz.underlying25 rfl sizeSig
    simp [results, Tryz.results49, asAddr, hl3]
  · have x0 := isEmpty_not h0
    go_wp2_with fail
    refine (implSecret x _).mono ?_
    rintro r w2 ⟨rfl, h2w⟩
    subst w2
    cases hs : secB x with
    | false =>
      have HF : Hid (R = .tuple #[.agg #[.int .i64 0, .int .i64 0, .int .i64 0], E]) := by show _ = _; rw [HR.out, hs, if_neg (by simp)]
      go_wp2_with fail
      refine wp_region_held_drew (S := fun V => V.cell? ⟨0, 0, none⟩ = some E) (by kernel_rfl) ?_ (fun hHeld => ?_)
      · exact HE.out _ (HB.out _ D1.out)
      refine wpAnyH_take (i := 0) (oi := ⟨some 14, _, _, _, _, _⟩) (v := ?_) rfl (by kernel_rfl) (by kernel_rfl) (by kernel_rfl) (fun _ _ _ h => h) (Or.inl ⟨by kernel_rfl, ?_⟩) (by assumption) ?_
      rotate_left
      · (intro w hSw; (try dsimp only at hSw); go_simp; try with_reducible rfl)
      (try simp only [Act.put, List.setIfInBounds_toArray, List.set_cons_zero, List.set_cons_succ])
      refine wpAnyH_take (i := 1) (oi := ⟨some 15, _, _, _, _, _⟩) (v := ?_) rfl (by kernel_rfl) (by kernel_rfl) (by kernel_rfl) (fun _ _ _ h => h) (Or.inl ⟨by kernel_rfl, ?_⟩) (by assumption) ?_
      rotate_left
      · (intro w hSw; (try dsimp only at hSw); go_simp; try with_reducible rfl)
      (try simp only [Act.put, List.setIfInBounds_toArray, List.set_cons_zero, List.set_cons_succ])
      refine wpAnyH_ready (rs := [2]) (by kernel_rfl) (by simp) ?_
      refine AllReadyH.cons (o := ⟨none, _, _, _, _, _⟩) rfl (fun K hK => ?_) AllReadyH.nil
      rw [if_pos (by rfl)]
      refine wp_store_row 25 _ _ rfl (w.heap.size + 1) [Value.int .i64 0, .int .i64 0, .int .i64 0] [Value.int .i64 0, .int .i64 0, .int .i64 0] 25 rfl rfl (HRw.out _ D1.out).2 rfl sizeSig (by simp [Value.oneCell']) ?_
      intro w8 hrow ho hs8 hbb
      have HROW : Hid _ := hrow
      have HB8 : Hid (Below w.heap.size w w8) := hbb _ _ (by omega) (HB.out _ D1.out)
      refine hK.out _ _ ?_ (fun hHeld => ?_)
      · exact HE.out _ HB8.out
      clear hK K ho hs8 hbb hrow
      (try simp only [Act.put, List.setIfInBounds_toArray, List.set_cons_zero, List.set_cons_succ])
      refine wpAnyH_take (i := 3) (oi := ⟨some 5, _, _, _, _, _⟩) (v := ?_) rfl (by kernel_rfl) (by kernel_rfl) (by kernel_rfl) (fun _ _ _ h => h) (Or.inl ⟨by kernel_rfl, ?_⟩) (by assumption) ?_
      rotate_left
      · (intro w hSw; (try dsimp only at hSw); go_simp; try with_reducible rfl)
      (try simp only [Act.put, List.setIfInBounds_toArray, List.set_cons_zero, List.set_cons_succ])
      refine wpAnyH_done (by kernel_rfl) ?_ _
      go_wp2
      refine bodyPost_ret (v := .tuple #[.agg [Value.int .i64 0, .int .i64 0, .int .i64 0].toArray, E]) ?_ rfl ⟨by rw [HF.out], HB8.out⟩
      have hl3 := run_loadVar_mid (P := Tryz.prog) _ (w.heap.size + 1) 0 25 _ _ (rangeRow HROW.out) Tryz.underlying25 rfl sizeSig
      simp [results, Tryz.results49, asAddr, hl3]
    | true =>
      have HF : Hid (R = .tuple #[.agg #[.int .i64 k, .int .i64 e, .int .i64 s], .nilIface]) := by show _ = _; rw [HR.out, hs, decide_eq_true h0]; rfl
      go_wp2_with fail
      refine (HSg.out _ (HKy.out _ (HB.out _ I1.out))).mono ?_
      rintro r w3 ⟨rfl, b3⟩
      have K3 : Hid (Below w1.heap.size w1 w3) := b3
      clear b3 c0 c1 c2 c3 c4 c5 c6 c7 c8 c9 c10 c11
      have hR := (HRw.out _ K3.out).2
      have h1 : ∀ v ∈ [Value.int .i64 k, .int .i64 e, .int .i64 s], v.oneCell' = true := by simp [Value.oneCell']
      go_wp2_with (refine wpList_store_row rfl 25 _ _ rfl (w.heap.size + 1) _ [Value.int .i64 k, .int .i64 e, .int .i64 s] 25 rfl rfl hR rfl sizeSig h1 ?_)
      intro w8 hrow ho hs8 hbb
      have HROW : Hid _ := hrow
      have HB8 : Hid (Below w.heap.size w w8) := hbb _ _ (by omega) (HB.out _ K3.out)
      clear ho hs8 hbb hrow hR h1
      go_wp2
      refine bodyPost_ret (v := .tuple #[.agg [Value.int .i64 k, .int .i64 e, .int .i64 s].toArray, .nilIface]) ?_ rfl ⟨by rw [HF.out], HB8.out⟩
      have hl3 := run_loadVar_mid (P := Tryz.prog) _ (w.heap.size + 1) 0 25 _ _ (rangeRow HROW.out) Tryz.underlying25 rfl sizeSig
      simp [results, Tryz.results49, asAddr, hl3]
end Go.Proofs.YtegmmaomaegjjaaGreatDoor
namespace Go.Proofs.YtegmmaomaegjjaaGreatDoor
open Go.RowKit

set_option linter.unusedSimpArgs false in
set_option maxHeartbeats 4000000 in
set_option maxRecDepth 100000 in
theorem implSignLG (x : Int) (c : Lst) (a : Option Addr) (cap : Nat) (k e s : Int) (w : World) (hi : c.issuer.size ≤ 1048576) (hl : c.serials.length ≤ 1048576) (hA : RowL w a cap c.serials) (hw : Keys w) (hE : Err1 w)
    (hv : secB x = true → listB c = true → signV x (listD c) = .agg #[.int .i64 k, .int .i64 e, .int .i64 s]) :
    Calls Tryz.prog 13 #[.int .i64 x, c.val (.slice a c.serials.length cap)] w fun r w' => ∃ v, r = .returned ((signL x c k e s).val v) ∧ OwnL w' w.heap.size v (signL x c k e s).serials ∧ Below w.heap.size w w' := by
  have ha : IsInts w a c.serials := hA.ints
  have HBx : Hid (∀ V, IsInts V a c.serials → Calls Tryz.prog 25 #[c.val (.slice a c.serials.length cap)] V fun e w' => ∃ q, e = .returned (c.box (.slice a c.serials.length cap) (listE c) (.slice (some ⟨q, 0, none⟩) 3 3)) ∧ Row3 c.sk c.se c.ss w' q ∧ Below V.heap.size V w') := fun V hV => boxCrl c _ cap V (by unfold maxLen; omega) hl hV
  have HCp : Hid (∀ V, Below w.heap.size w V → Calls Tryz.prog 50 #[c.val (.slice a c.serials.length cap)] V fun e w' => ∃ v, e = .returned (c.val v) ∧ OwnL w' V.heap.size v c.serials ∧ Below V.heap.size V w') := fun V hV => copyCrlG c a cap V hi hl (hA.keep hV)
  obtain ⟨b1, h1⟩ := hE
  have hkp := hw.pos
  have zE := listE_size c
  have HSn : Hid (∀ V v nv, Below w.heap.size w V → Calls Tryz.prog 49 #[c.box v (listE c) nv, .int .i64 x] V fun r w' => (∃ t p, ((secB x = false ∨ listB c = false) ∧ r = .returned (.tuple #[.agg #[.int .i64 0, .int .i64 0, .int .i64 0], .iface t p])) ∨ ((secB x = true ∧ listB c = true) ∧ r = .returned (.tuple #[.agg #[.int .i64 k, .int .i64 e, .int .i64 s], .nilIface]))) ∧ Below V.heap.size V w') := fun V v nv hV => by
    obtain ⟨k', e', s', hks⟩ := signV_is3 x (listE c)
    refine (signCrl c v nv (listE c) x k' e' s' _ V (by omega) (hw.below hV hkp) (h1.keep hV).1 hks).mono ?_
    rintro r w' ⟨rfl, hb⟩
    refine ⟨?_, hb⟩
    rw [listE_ne]
    cases e1 : listB c with
    | false => exact ⟨_, _, .inl ⟨.inr rfl, rfl⟩⟩
    | true =>
      cases e2 : secB x with
      | false => exact ⟨_, _, .inl ⟨.inl rfl, rfl⟩⟩
      | true =>
        have hD : listE c = listD c := if_pos e1
        rw [hD, hv e2 e1] at hks
        simp only [Value.agg.injEq, Array.mk.injEq, List.cons.injEq, Value.int.injEq, true_and, and_true] at hks
        obtain ⟨rfl, rfl, rfl⟩ := hks
        exact ⟨0, .nilIface, .inr ⟨⟨rfl, rfl⟩, rfl⟩⟩
  have HY : Hid (secB x = true ∧ listB c = true → signL x c k e s = ⟨c.issuer, c.fr, c.till, c.serials, k, e, s⟩) := fun h => signL_yes h.1 h.2 k e s
  have HNo : Hid (secB x = false ∨ listB c = false → signL x c k e s = zeroL) := fun h => signL_no h k e s
  generalize signL x c k e s = R at *
  generalize (secB x = true ∧ listB c = true) = PY at *
  generalize (secB x = false ∨ listB c = false) = PN at *
  generalize listE c = D at *
  clear hv hA hw h1 hkp zE hi hl
  obtain ⟨iss, fr, till, serials, sk, se, ss⟩ := c
  unfold Lst.val at HBx HCp
  unfold Lst.box at HBx HSn
  simp only at HBx HCp HSn HY ha
  show Calls _ _ #[.int .i64 x, .agg #[.string iss, .int .i64 fr, .int .i64 till, .slice a serials.length cap, .int .i64 sk, .int .i64 se, .int .i64 ss]] _ _
  obtain ⟨nl, hnl⟩ : ∃ nl, nl = serials.length := ⟨_, rfl⟩
  rw [← hnl] at HBx HCp ⊢
  have HNl : Hid (nl = serials.length) := hnl
  clear hnl
  obtain ⟨w1, hw1⟩ : ∃ w1, w1 = (w.alloc (.cells #[.string iss, .int .i64 fr, .int .i64 till, .slice a nl cap, .int .i64 sk, .int .i64 se, .int .i64 ss] 30 (0, 0))).alloc (.cells #[.string ⟨#[]⟩, .int .i64 0, .int .i64 0, .slice none 0 0, .int .i64 0, .int .i64 0, .int .i64 0] 30 (0, 0)) := ⟨_, rfl⟩
  have r0 : w1.heap[w.heap.size]? = some (.cells [Value.string iss, .int .i64 fr, .int .i64 till, .slice a nl cap, .int .i64 sk, .int .i64 se, .int .i64 ss].toArray 30 (0, 0)) := by rw [hw1, Below.heap_alloc _ _ _ (by simp)]; exact heap_alloc_new w _
  have r1 : w1.heap[w.heap.size + 1]? = some (.cells [Value.string ⟨#[]⟩, .int .i64 0, .int .i64 0, .slice none 0 0, .int .i64 0, .int .i64 0, .int .i64 0].toArray 30 (0, 0)) := by rw [hw1]; exact heap_alloc2 w _ _
  have B1 : Hid (Below w.heap.size w w1) := by rw [hw1]; exact ((Below.refl _ _).alloc (Nat.le_refl _) _).alloc (by simp) _
  have HRw : Hid (∀ V, Below w1.heap.size w1 V → V.heap[w.heap.size]? = some (.cells [Value.string iss, .int .i64 fr, .int .i64 till, .slice a nl cap, .int .i64 sk, .int .i64 se, .int .i64 ss].toArray 30 (0, 0)) ∧ V.heap[w.heap.size + 1]? = some (.cells [Value.string ⟨#[]⟩, .int .i64 0, .int .i64 0, .slice none 0 0, .int .i64 0, .int .i64 0, .int .i64 0].toArray 30 (0, 0))) := fun V hV => ⟨(hV.block _ (heap_lt r0)).trans r0, (hV.block _ (heap_lt r1)).trans r1⟩
  have HC : Hid (∀ V : World, V.heap[w.heap.size]? = some (.cells [Value.string iss, .int .i64 fr, .int .i64 till, .slice a nl cap, .int .i64 sk, .int .i64 se, .int .i64 ss].toArray 30 (0, 0)) → V.cell? ⟨w.heap.size, 0, none⟩ = some (.string iss) ∧ V.cell? ⟨w.heap.size, 1, none⟩ = some (.int .i64 fr) ∧ V.cell? ⟨w.heap.size, 2, none⟩ = some (.int .i64 till) ∧ V.cell? ⟨w.heap.size, 3, none⟩ = some (.slice a nl cap) ∧ V.cell? ⟨w.heap.size, 4, none⟩ = some (.int .i64 sk) ∧ V.cell? ⟨w.heap.size, 5, none⟩ = some (.int .i64 se) ∧ V.cell? ⟨w.heap.size, 6, none⟩ = some (.int .i64 ss)) := fun V hP => ⟨rowFacts hP 0 _ rfl, rowFacts hP 1 _ rfl, rowFacts hP 2 _ rfl, rowFacts hP 3 _ rfl, rowFacts hP 4 _ rfl, rowFacts hP 5 _ rfl, rowFacts hP 6 _ rfl⟩
  have HK : Hid (∀ V, Below w1.heap.size w1 V → V.cell? ⟨w.heap.size, 0, none⟩ = some (.string iss) ∧ V.cell? ⟨w.heap.size, 1, none⟩ = some (.int .i64 fr) ∧ V.cell? ⟨w.heap.size, 2, none⟩ = some (.int .i64 till) ∧ V.cell? ⟨w.heap.size, 3, none⟩ = some (.slice a nl cap) ∧ V.cell? ⟨w.heap.size, 4, none⟩ = some (.int .i64 sk) ∧ V.cell? ⟨w.heap.size, 5, none⟩ = some (.int .i64 se) ∧ V.cell? ⟨w.heap.size, 6, none⟩ = some (.int .i64 ss)) := fun V hV => HC.out V (HRw.out V hV).1
  have HB : Hid (∀ V, Below w1.heap.size w1 V → Below w.heap.size w V) := fun V hV => B1.out.trans (hV.mono B1.out.size)
  have Z1 : Hid (w1.heap.size = w.heap.size + 2) := by show _ = _; rw [hw1]; simp
  have I1 : Hid (Below w1.heap.size w1 w1) := Below.refl _ _
  have D1 : Hid (Below w1.heap.size w1 w1.drew) := I1.out.drew
  have A1 : Hid (IsInts w1 a serials) := ha.keep B1.out
  clear r0 r1 B1 ha
  go_enter Tryz.func13, Tryz.ntmps13
  go_upto_region 1 with fail
  rw [← hw1]
  clear hw1
  obtain ⟨c0, c1, c2, c3, c4, c5, c6⟩ := HK.out w1 I1.out
  go_wp2_with fail
  refine (HBx.out _ A1.out).mono ?_
  rintro r w2 ⟨q, rfl, r2, b2⟩
  have K2 : Hid (Below w1.heap.size w1 w2) := b2
  clear b2 r2 c0 c1 c2 c3 c4 c5 c6 A1
  go_wp2_with fail
  refine (HSn.out _ _ _ (HB.out _ K2.out)).mono ?_
  rintro r w3 ⟨⟨t3, p3, h3⟩, b3⟩
  have K3 : Hid (Below w1.heap.size w1 w3) := K2.out.trans (b3.mono K2.out.size)
  clear b3 HBx HSn
  rcases h3 with ⟨hP, rfl⟩ | ⟨hP, rfl⟩
  · have HF : Hid (R = zeroL) := HNo.out hP
    obtain ⟨w4, hw4⟩ : ∃ y, y = w3.alloc (.cells #[.int .i64 0, .int .i64 0, .int .i64 0] 25 (0, 0)) := ⟨_, rfl⟩
    have K4 : Hid (Below w1.heap.size w1 w4) := by rw [hw4]; exact K3.out.alloc K3.out.size _
    go_upto_region 3 with fail
    rw [← hw4]
    clear hw4
    have hR := (HRw.out _ K4.out).2
    have h1 : ∀ v ∈ [Value.string ⟨#[]⟩, .int .i64 0, .int .i64 0, .slice none 0 0, .int .i64 0, .int .i64 0, .int .i64 0], v.oneCell' = true := by simp [Value.oneCell']
    go_wp2_with (refine wpList_store_row rfl 30 _ _ rfl (w.heap.size + 1) _ [Value.string ⟨#[]⟩, .int .i64 0, .int .i64 0, .slice none 0 0, .int .i64 0, .int .i64 0, .int .i64 0] 30 rfl rfl hR rfl sizeCrl h1 ?_)
    intro w8 hrow ho hs8 hbb
    have HROW : Hid _ := hrow
    have HB8 : Hid (Below w.heap.size w w8) := hbb _ _ (by omega) (HB.out _ K4.out)
    clear ho hs8 hbb hrow hR h1
    go_wp2
    refine bodyPost_ret (v := .agg [Value.string ⟨#[]⟩, .int .i64 0, .int .i64 0, .slice none 0 0, .int .i64 0, .int .i64 0, .int .i64 0].toArray) ?_ rfl ⟨.slice none 0 0, by rw [HF.out]; rfl, by rw [HF.out]; exact ownL_nil _ _, HB8.out⟩
    have hl3 := run_loadVar_mid (P := Tryz.prog) _ (w.heap.size + 1) 0 30 _ _ (rangeRow HROW.out) Tryz.underlying30 rfl sizeCrl
    simp [results, Tryz.results13, asAddr, hl3]
  · have HF : Hid (R = ⟨iss, fr, till, serials, k, e, s⟩) := HY.out hP
    clear HY HNo hP
    obtain ⟨w4, hw4⟩ : ∃ y, y = w3.alloc (.cells #[.int .i64 k, .int .i64 e, .int .i64 s] 25 (0, 0)) := ⟨_, rfl⟩
    have b4 : Below w3.heap.size w3 w4 := by rw [hw4]; exact (Below.refl _ _).alloc (Nat.le_refl _) _
    have q4 : Hid (w4.heap[w3.heap.size]? = some (.cells [Value.int .i64 k, .int .i64 e, .int .i64 s].toArray 25 (0, 0))) := by show _ = _; rw [hw4]; exact heap_alloc_new w3 _
    have K4 : Hid (Below w1.heap.size w1 w4) := K3.out.trans (b4.mono K3.out.size)
    have Z3 : Hid (w.heap.size + 2 ≤ w3.heap.size) := by show _ ≤ _; have := K3.out.size; have := Z1.out; omega
    clear b4
    obtain ⟨c0, c1, c2, c3, c4, c5, c6⟩ := HK.out w4 K4.out
    go_upto_region 4 with fail
    rw [← hw4]
    clear hw4
    go_wp2_with fail
    refine (HCp.out _ (HB.out _ K4.out)).mono ?_
    rintro r w5 ⟨v, rfl, o5, b5⟩
    have K5 : Hid (Below w1.heap.size w1 w5) := K4.out.trans (b5.mono K4.out.size)
    have q5 : Hid (w5.heap[w3.heap.size]? = some (.cells [Value.int .i64 k, .int .i64 e, .int .i64 s].toArray 25 (0, 0))) := (b5.block _ (heap_lt q4.out)).trans q4.out
    have z4 : w3.heap.size + 1 ≤ w4.heap.size := heap_lt q4.out
    have O5 : Hid (OwnL w5 (w3.heap.size + 1) v serials) := o5.mono z4
    obtain ⟨va, vc, hv', _⟩ := OwnL.form o5
    rw [← HNl.out] at hv'
    subst hv'
    have zz : w3.heap.size + 1 ≤ w5.heap.size := by have := b5.size; omega
    have HZ5 : Hid (w3.heap.size + 1 ≤ w5.heap.size) := zz
    have HLt : Hid (∀ b, (Value.slice va nl vc).ownBlock = some b → b < w5.heap.size) := fun b hb => (O5.out.ge hb).2
    clear b5 o5 q4 z4 c0 c1 c2 c3 c4 c5 c6 HCp K4 zz
    obtain ⟨w6, hw6⟩ : ∃ y, y = w5.alloc (.cells #[.string iss, .int .i64 fr, .int .i64 till, .slice va nl vc, .int .i64 sk, .int .i64 se, .int .i64 ss] 30 (0, 0)) := ⟨_, rfl⟩
    have b6 : Below w5.heap.size w5 w6 := by rw [hw6]; exact (Below.refl _ _).alloc (Nat.le_refl _) _
    have K6' : Below w1.heap.size w1 w6 := K5.out.trans (b6.mono K5.out.size)
    have K6 : Hid (Below w.heap.size w w6) := HB.out _ K6'
    have r0 : w6.heap[w5.heap.size]? = some (.cells [Value.string iss, .int .i64 fr, .int .i64 till, .slice va nl vc, .int .i64 sk, .int .i64 se, .int .i64 ss].toArray 30 (0, 0)) := by rw [hw6]; exact heap_alloc_new w5 _
    have r1 : w6.heap[w.heap.size + 1]? = some (.cells [Value.string ⟨#[]⟩, .int .i64 0, .int .i64 0, .slice none 0 0, .int .i64 0, .int .i64 0, .int .i64 0].toArray 30 (0, 0)) := (HRw.out _ K6').2
    have q6 := (b6.block _ (heap_lt q5.out)).trans q5.out
    have O6 : Hid (OwnL w6 (w3.heap.size + 1) (.slice va nl vc) serials) := O5.out.keep b6
    have y0 := rowFacts q6 0 _ rfl
    have y1 := rowFacts q6 1 _ rfl
    have y2 := rowFacts q6 2 _ rfl
    have hne : w5.heap.size ≠ w.heap.size + 1 := by have := HZ5.out; have := Z3.out; omega
    have hne2 : w.heap.size ≤ w5.heap.size := by have := HZ5.out; have := Z3.out; omega
    have HNe : Hid (w5.heap.size ≠ w.heap.size + 1) := hne
    have HNe2 : Hid (w.heap.size ≤ w5.heap.size) := hne2
    have HO5 : Hid (OwnL w5 (w3.heap.size + 1) (.slice va nl vc) serials) := O5.out
    have HK6 : Hid (∀ b, b < w5.heap.size → w6.heap[b]? = w5.heap[b]?) := fun b hb => b6.block b hb
    clear b6 K6' q6 K5 O5 hne hne2 O6
    go_upto_region 5 with fail
    rw [← hw6]
    clear hw6
    have n1 := HNe.out
    have n2 := HNe2.out
    have n3 := Z3.out
    obtain ⟨w7, hw7⟩ : ∃ y, y = ((w6.setCell ⟨w5.heap.size, 4, none⟩ (.int .i64 k)).setCell ⟨w5.heap.size, 5, none⟩ (.int .i64 e)).setCell ⟨w5.heap.size, 6, none⟩ (.int .i64 s) := ⟨_, rfl⟩
    have t0 : w7.heap[w5.heap.size]? = some (.cells [Value.string iss, .int .i64 fr, .int .i64 till, .slice va nl vc, .int .i64 k, .int .i64 e, .int .i64 s].toArray 30 (0, 0)) := by rw [hw7]; exact rowSet (i := 6) _ (rowSet (i := 5) _ (rowSet (i := 4) _ r0))
    have t1 : w7.heap[w.heap.size + 1]? = some (.cells [Value.string ⟨#[]⟩, .int .i64 0, .int .i64 0, .slice none 0 0, .int .i64 0, .int .i64 0, .int .i64 0].toArray 30 (0, 0)) := by rw [hw7, heap_setCell_other _ _ _ _ (by show w.heap.size + 1 ≠ w5.heap.size; omega), heap_setCell_other _ _ _ _ (by show w.heap.size + 1 ≠ w5.heap.size; omega), heap_setCell_other _ _ _ _ (by show w.heap.size + 1 ≠ w5.heap.size; omega)]; exact r1
    have K7 : Hid (Below w.heap.size w w7) := by rw [hw7]; exact ((K6.out.setCell (by show _ ≤ w5.heap.size; omega) _).setCell (by show _ ≤ w5.heap.size; omega) _).setCell (by show _ ≤ w5.heap.size; omega) _
    have O7 : Hid (OwnL w7 (w3.heap.size + 1) (.slice va nl vc) serials) := HO5.out.same fun b h1 h2 => by
      rw [hw7, heap_setCell_other _ _ _ _ (by show b ≠ w5.heap.size; omega), heap_setCell_other _ _ _ _ (by show b ≠ w5.heap.size; omega), heap_setCell_other _ _ _ _ (by show b ≠ w5.heap.size; omega)]
      exact HK6.out b h2
    have p8 := rowFacts r0 4 _ rfl
    have p9 := rowFacts r0 5 _ rfl
    have p10 := rowFacts r0 6 _ rfl
    have u8 := rowFree r0 4
    have u9 := rowFree r0 5
    have u10 := rowFree r0 6
    have T0 : Hid _ := t0
    have T1 : Hid _ := t1
    clear r0 r1 t0 t1 K6 HO5 HK6 n1 n2 n3
    go_upto_region 6 with fail
    rw [← hw7]
    clear hw7 p8 p9 p10 u8 u9 u10 y0 y1 y2
    obtain ⟨C, hC⟩ : ∃ C, C = [Value.string iss, .int .i64 fr, .int .i64 till, .slice va nl vc, .int .i64 k, .int .i64 e, .int .i64 s] := ⟨_, rfl⟩
    have hr := rangeRow T0.out
    rw [← hC] at hr
    have hR := T1.out
    have h1 : ∀ v ∈ C, v.oneCell' = true := by rw [hC]; simp [Value.oneCell']
    have hi : (Tryz.prog.info? 30).map (·.size) = some C.length := by rw [hC]; exact sizeCrl
    have HLen : Hid ([Value.string ⟨#[]⟩, .int .i64 0, .int .i64 0, .slice none 0 0, .int .i64 0, .int .i64 0, .int .i64 0].length = C.length) := by rw [hC]; rfl
    have HCC : Hid (C = [Value.string iss, .int .i64 fr, .int .i64 till, .slice va nl vc, .int .i64 k, .int .i64 e, .int .i64 s]) := hC
    clear hC
    go_wp2_with (first | (refine wpList_load_mid rfl 30 _ rfl (w5.heap.size) 0 rfl C _ hr Tryz.underlying30 rfl hi ?_) | (refine wpList_store_row rfl 30 _ _ rfl (w.heap.size + 1) _ C 30 rfl rfl hR HLen.out hi h1 ?_))
    intro w8 hrow ho hs8 hbb
    have HROW : Hid _ := hrow
    have HB8 : Hid (Below w.heap.size w w8) := hbb _ _ (by omega) K7.out
    have O8 : Hid (OwnL w8 (w3.heap.size + 1) (.slice va nl vc) serials) := O7.out.same fun b h1 h2 => ho b (by have := Z3.out; omega)
    clear ho hs8 hbb hrow hr hR h1
    go_wp2
    refine bodyPost_ret (v := .agg C.toArray) ?_ rfl ⟨.slice va nl vc, by rw [HF.out, HCC.out]; rfl, by rw [HF.out]; exact O8.out.mono (by have := Z3.out; omega), HB8.out⟩
    have hl3 := run_loadVar_mid (P := Tryz.prog) _ (w.heap.size + 1) 0 30 _ _ (rangeRow HROW.out) Tryz.underlying30 rfl hi
    simp [results, Tryz.results13, asAddr, hl3]
theorem implSignL (x : Int) (c : Lst) (g o cap : Nat) (k e s : Int) (w : World) (hi : c.issuer.size ≤ 1048576) (hl : c.serials.length ≤ 1048576) (hgw : g < w.heap.size) (hc : ∀ i, i < c.serials.length → w.cell? ⟨g, o + i, none⟩ = some (.int .i64 (c.serials.getD i 0))) (hw : Keys w) (hE : Err1 w)
    (hv : secB x = true → listB c = true → signV x (listD c) = .agg #[.int .i64 k, .int .i64 e, .int .i64 s]) :
    Calls Tryz.prog 13 #[.int .i64 x, c.val (.slice (some ⟨g, o, none⟩) c.serials.length cap)] w fun r w' => ∃ v, r = .returned ((signL x c k e s).val v) ∧ OwnL w' w.heap.size v (signL x c k e s).serials ∧ Below w.heap.size w w' :=
  implSignLG x c _ cap k e s w hi hl (.inr ⟨g, o, rfl, hgw, hc⟩) hw hE hv
end Go.Proofs.YtegmmaomaegjjaaGreatDoor
namespace Go.Proofs.YtegmmaomaegjjaaGreatDoor
open Go.RowKit

theorem signRoot {x k e s : Int} (hx : secB x = true) (hv : signV x (bodyD (rootP x)) = .agg #[.int .i64 k, .int .i64 e, .int .i64 s]) (V : World) (hk : Keys V) :
    Calls Tryz.prog 11 #[.int .i64 x, .agg #[.int .i64 1, .string ⟨#[114, 111, 111, 116]⟩, .string ⟨#[114, 111, 111, 116]⟩, .int .i64 0, .int .i64 500, .int .i64 (pubA x), .slice none 0 0, .bool true, .int .i64 0, .int .i64 0, .int .i64 0]] V fun r w' => ∃ a c, r = .returned (.agg #[.int .i64 1, .string ⟨#[114, 111, 111, 116]⟩, .string ⟨#[114, 111, 111, 116]⟩, .int .i64 0, .int .i64 500, .int .i64 (pubA x), .slice a 0 c, .bool true, .int .i64 k, .int .i64 e, .int .i64 s]) ∧ Below V.heap.size V w' := by
  have q := implSignC x (rootP x) none 0 k e s V (show bRoot.size ≤ _ by decide) (show bRoot.size ≤ _ by decide) (Nat.zero_le _) (Nat.zero_le _) (.inl rfl) hk (fun _ _ => hv)
  rw [signP_yes hx (rootP_right hx)] at q
  refine q.mono ?_
  rintro r w' ⟨v, rfl, ho, hb⟩
  obtain ⟨a, c, rfl, _⟩ := ho.form
  exact ⟨a, c, rfl, hb⟩
theorem signLeaf {f t k e s : Int} (h1 : 0 ≤ f) (h2 : f ≤ t) (h3 : t ≤ 200) (hv : signV 5 (bodyD (leafP f t)) = .agg #[.int .i64 k, .int .i64 e, .int .i64 s]) (g : Nat) (V : World) (hc : V.cell? ⟨g, 0, none⟩ = some (.string ⟨#[119, 119, 119]⟩)) (hk : Keys V) :
    Calls Tryz.prog 11 #[.int .i64 5, .agg #[.int .i64 9, .string ⟨#[114, 111, 111, 116]⟩, .string ⟨#[97, 110, 110]⟩, .int .i64 f, .int .i64 t, .int .i64 (pubA 7), .slice (some ⟨g, 0, none⟩) 1 1, .bool false, .int .i64 0, .int .i64 0, .int .i64 0]] V fun r w' => ∃ a c, r = .returned (.agg #[.int .i64 9, .string ⟨#[114, 111, 111, 116]⟩, .string ⟨#[97, 110, 110]⟩, .int .i64 f, .int .i64 t, .int .i64 (pubA 7), .slice a 1 c, .bool false, .int .i64 k, .int .i64 e, .int .i64 s]) ∧ IsStrs w' a [bWww] ∧ Below V.heap.size V w' := by
  have q := implSignC 5 (leafP f t) (some ⟨g, 0, none⟩) 1 k e s V (show bRoot.size ≤ _ by decide) (show bAnn.size ≤ _ by decide) (show (1 : Nat) ≤ _ by omega) (show 0 + bWww.size ≤ _ by decide) (.inr ⟨g, 0, rfl, fun i hi => by
    have : i = 0 := by have hi' : i < 1 := hi; omega
    subst this
    exact hc⟩) hk (fun _ _ => hv)
  rw [signP_yes (show secB 5 = true from rfl) (leafP_right h1 h2 h3)] at q
  refine q.mono ?_
  rintro r w' ⟨v, rfl, ho, hb⟩
  obtain ⟨a, c, rfl, _⟩ := ho.form
  exact ⟨a, c, rfl, ho.strs, hb⟩
theorem signTheL {zs : List Int} {k e s : Int} (hz : serialsB zs = true) (hzl : zs.length ≤ 2) (hv : signV 5 (listD (theL zs)) = .agg #[.int .i64 k, .int .i64 e, .int .i64 s]) (g cap : Nat) (V : World) (hg : g < V.heap.size) (hc : ∀ i, i < zs.length → V.cell? ⟨g, 0 + i, none⟩ = some (.int .i64 (zs.getD i 0))) (hk : Keys V) (hE : Err3 V) :
    Calls Tryz.prog 13 #[.int .i64 5, .agg #[.string ⟨#[114, 111, 111, 116]⟩, .int .i64 0, .int .i64 110, .slice (some ⟨g, 0, none⟩) zs.length cap, .int .i64 0, .int .i64 0, .int .i64 0]] V fun r w' => ∃ a c, r = .returned (.agg #[.string ⟨#[114, 111, 111, 116]⟩, .int .i64 0, .int .i64 110, .slice a zs.length c, .int .i64 k, .int .i64 e, .int .i64 s]) ∧ OwnL w' V.heap.size (.slice a zs.length c) zs ∧ Below V.heap.size V w' := by
  have q := implSignL 5 (theL zs) g 0 cap k e s V (show bRoot.size ≤ _ by decide) (show zs.length ≤ _ by omega) hg hc hk (by obtain ⟨b1, _, _, h1, _⟩ := hE; exact ⟨b1, h1⟩) (fun _ _ => hv)
  rw [signL_yes (show secB 5 = true from rfl) (theL_right hz)] at q
  refine q.mono ?_
  rintro r w' ⟨v, rfl, ho, hb⟩
  obtain ⟨a, c, rfl, _⟩ := ho.form
  exact ⟨a, c, rfl, ho, hb⟩
theorem checkMade {f t n : Int} {zs : List Int} {b : Bool} {k1 e1 s1 k2 e2 s2 k3 e3 s3 : Int} (h1 : 0 ≤ f) (h2 : f ≤ t) (h3 : t ≤ 200) (hn : 0 ≤ n) (hn' : n ≤ 200) (hz : serialsB zs = true) (hzl : zs.length ≤ 2) (hb : hasB zs 9 = b) (v1 : signV 5 (bodyD (rootP 5)) = .agg #[.int .i64 k1, .int .i64 e1, .int .i64 s1]) (v2 : signV 5 (bodyD (leafP f t)) = .agg #[.int .i64 k2, .int .i64 e2, .int .i64 s2]) (v3 : signV 5 (listD (theL zs)) = .agg #[.int .i64 k3, .int .i64 e3, .int .i64 s3]) (a1 a2 a3 : Option Addr) (c1 c2 c3 : Nat) (V : World) (o2 : IsStrs V a2 [bWww]) (o3 : IsInts V a3 zs) (hk : Keys V) (hE : Err3 V) :
    Calls Tryz.prog 5 #[.agg #[.int .i64 1, .string ⟨#[114, 111, 111, 116]⟩, .string ⟨#[114, 111, 111, 116]⟩, .int .i64 0, .int .i64 500, .int .i64 (pubA 5), .slice a1 0 c1, .bool true, .int .i64 k1, .int .i64 e1, .int .i64 s1], .agg #[.int .i64 9, .string ⟨#[114, 111, 111, 116]⟩, .string ⟨#[97, 110, 110]⟩, .int .i64 f, .int .i64 t, .int .i64 (pubA 7), .slice a2 1 c2, .bool false, .int .i64 k2, .int .i64 e2, .int .i64 s2], .agg #[.string ⟨#[114, 111, 111, 116]⟩, .int .i64 0, .int .i64 110, .slice a3 zs.length c3, .int .i64 k3, .int .i64 e3, .int .i64 s3], .int .i64 n] V fun e w' => e = .returned (.int .i64 (wantC f t n b)) ∧ Below V.heap.size V w' := by
  have i1 : PIn ⟨1, bRoot, bRoot, 0, 500, pubA 5, [], true, k1, e1, s1⟩ := ⟨by unfold maxLen; show bRoot.size ≤ _; decide, by unfold maxLen; show bRoot.size ≤ _; decide, by show (0 : Nat) ≤ _; omega, by show (0 : Nat) ≤ _; omega⟩
  have i2 : PIn ⟨9, bRoot, bAnn, f, t, pubA 7, [bWww], false, k2, e2, s2⟩ := ⟨by unfold maxLen; show bRoot.size ≤ _; decide, by unfold maxLen; show bAnn.size ≤ _; decide, by show (1 : Nat) ≤ _; omega, by show 0 + bWww.size ≤ _; decide⟩
  have i3 : LIn ⟨bRoot, 0, 110, zs, k3, e3, s3⟩ := ⟨by unfold maxLen; show bRoot.size ≤ _; decide, by show zs.length ≤ _; omega⟩
  have q := implPath ⟨1, bRoot, bRoot, 0, 500, pubA 5, [], true, k1, e1, s1⟩ ⟨9, bRoot, bAnn, f, t, pubA 7, [bWww], false, k2, e2, s2⟩ ⟨bRoot, 0, 110, zs, k3, e3, s3⟩ n a1 a2 a3 c1 c2 c3 V i1 i2 i3 (.inl rfl) o2 o3 hk hE
  rw [path_made h1 h2 h3 hn hn' hz hb v1 v2 v3] at q
  exact q
theorem nameMade {f t n : Int} {zs : List Int} {b : Bool} {k1 e1 s1 k2 e2 s2 k3 e3 s3 : Int} (h1 : 0 ≤ f) (h2 : f ≤ t) (h3 : t ≤ 200) (hn : 0 ≤ n) (hn' : n ≤ 200) (hz : serialsB zs = true) (hzl : zs.length ≤ 2) (hb : hasB zs 9 = b) (v1 : signV 5 (bodyD (rootP 5)) = .agg #[.int .i64 k1, .int .i64 e1, .int .i64 s1]) (v2 : signV 5 (bodyD (leafP f t)) = .agg #[.int .i64 k2, .int .i64 e2, .int .i64 s2]) (v3 : signV 5 (listD (theL zs)) = .agg #[.int .i64 k3, .int .i64 e3, .int .i64 s3]) (a1 a2 a3 : Option Addr) (c1 c2 c3 : Nat) (V : World) (o2 : IsStrs V a2 [bWww]) (o3 : IsInts V a3 zs) (hk : Keys V) (hE : Err3 V) :
    Calls Tryz.prog 8 #[.agg #[.int .i64 1, .string ⟨#[114, 111, 111, 116]⟩, .string ⟨#[114, 111, 111, 116]⟩, .int .i64 0, .int .i64 500, .int .i64 (pubA 5), .slice a1 0 c1, .bool true, .int .i64 k1, .int .i64 e1, .int .i64 s1], .agg #[.int .i64 9, .string ⟨#[114, 111, 111, 116]⟩, .string ⟨#[97, 110, 110]⟩, .int .i64 f, .int .i64 t, .int .i64 (pubA 7), .slice a2 1 c2, .bool false, .int .i64 k2, .int .i64 e2, .int .i64 s2], .agg #[.string ⟨#[114, 111, 111, 116]⟩, .int .i64 0, .int .i64 110, .slice a3 zs.length c3, .int .i64 k3, .int .i64 e3, .int .i64 s3], .int .i64 n, .string ⟨#[119, 119, 119]⟩] V fun e w' => e = .returned (.bool (decide (wantC f t n b = 0))) ∧ Below V.heap.size V w' := by
  have i1 : PIn ⟨1, bRoot, bRoot, 0, 500, pubA 5, [], true, k1, e1, s1⟩ := ⟨by unfold maxLen; show bRoot.size ≤ _; decide, by unfold maxLen; show bRoot.size ≤ _; decide, by show (0 : Nat) ≤ _; omega, by show (0 : Nat) ≤ _; omega⟩
  have i2 : PIn ⟨9, bRoot, bAnn, f, t, pubA 7, [bWww], false, k2, e2, s2⟩ := ⟨by unfold maxLen; show bRoot.size ≤ _; decide, by unfold maxLen; show bAnn.size ≤ _; decide, by show (1 : Nat) ≤ _; omega, by show 0 + bWww.size ≤ _; decide⟩
  have i3 : LIn ⟨bRoot, 0, 110, zs, k3, e3, s3⟩ := ⟨by unfold maxLen; show bRoot.size ≤ _; decide, by show zs.length ≤ _; omega⟩
  have q := implPathN ⟨1, bRoot, bRoot, 0, 500, pubA 5, [], true, k1, e1, s1⟩ ⟨9, bRoot, bAnn, f, t, pubA 7, [bWww], false, k2, e2, s2⟩ ⟨bRoot, 0, 110, zs, k3, e3, s3⟩ n bWww a1 a2 a3 c1 c2 c3 V i1 i2 i3 (.inl rfl) o2 o3 hk hE (by unfold maxLen; decide)
  unfold pathN at q
  rw [path_made h1 h2 h3 hn hn' hz hb v1 v2 v3, show textTo (⟨9, bRoot, bAnn, f, t, pubA 7, [bWww], false, k2, e2, s2⟩ : Paper).names bWww (⟨9, bRoot, bAnn, f, t, pubA 7, [bWww], false, k2, e2, s2⟩ : Paper).names.length = true from hasWww, Bool.and_true] at q
  exact q
theorem nameNot {f t n : Int} {zs : List Int} {b : Bool} {k1 e1 s1 k2 e2 s2 k3 e3 s3 : Int} (h1 : 0 ≤ f) (h2 : f ≤ t) (h3 : t ≤ 200) (hn : 0 ≤ n) (hn' : n ≤ 200) (hz : serialsB zs = true) (hzl : zs.length ≤ 2) (hb : hasB zs 9 = b) (v1 : signV 5 (bodyD (rootP 5)) = .agg #[.int .i64 k1, .int .i64 e1, .int .i64 s1]) (v2 : signV 5 (bodyD (leafP f t)) = .agg #[.int .i64 k2, .int .i64 e2, .int .i64 s2]) (v3 : signV 5 (listD (theL zs)) = .agg #[.int .i64 k3, .int .i64 e3, .int .i64 s3]) (a1 a2 a3 : Option Addr) (c1 c2 c3 : Nat) (V : World) (o2 : IsStrs V a2 [bWww]) (o3 : IsInts V a3 zs) (hk : Keys V) (hE : Err3 V) :
    Calls Tryz.prog 8 #[.agg #[.int .i64 1, .string ⟨#[114, 111, 111, 116]⟩, .string ⟨#[114, 111, 111, 116]⟩, .int .i64 0, .int .i64 500, .int .i64 (pubA 5), .slice a1 0 c1, .bool true, .int .i64 k1, .int .i64 e1, .int .i64 s1], .agg #[.int .i64 9, .string ⟨#[114, 111, 111, 116]⟩, .string ⟨#[97, 110, 110]⟩, .int .i64 f, .int .i64 t, .int .i64 (pubA 7), .slice a2 1 c2, .bool false, .int .i64 k2, .int .i64 e2, .int .i64 s2], .agg #[.string ⟨#[114, 111, 111, 116]⟩, .int .i64 0, .int .i64 110, .slice a3 zs.length c3, .int .i64 k3, .int .i64 e3, .int .i64 s3], .int .i64 n, .string ⟨#[102, 116, 112]⟩] V fun e w' => e = .returned (.bool false) ∧ Below V.heap.size V w' := by
  have i1 : PIn ⟨1, bRoot, bRoot, 0, 500, pubA 5, [], true, k1, e1, s1⟩ := ⟨by unfold maxLen; show bRoot.size ≤ _; decide, by unfold maxLen; show bRoot.size ≤ _; decide, by show (0 : Nat) ≤ _; omega, by show (0 : Nat) ≤ _; omega⟩
  have i2 : PIn ⟨9, bRoot, bAnn, f, t, pubA 7, [bWww], false, k2, e2, s2⟩ := ⟨by unfold maxLen; show bRoot.size ≤ _; decide, by unfold maxLen; show bAnn.size ≤ _; decide, by show (1 : Nat) ≤ _; omega, by show 0 + bWww.size ≤ _; decide⟩
  have i3 : LIn ⟨bRoot, 0, 110, zs, k3, e3, s3⟩ := ⟨by unfold maxLen; show bRoot.size ≤ _; decide, by show zs.length ≤ _; omega⟩
  have q := implPathN ⟨1, bRoot, bRoot, 0, 500, pubA 5, [], true, k1, e1, s1⟩ ⟨9, bRoot, bAnn, f, t, pubA 7, [bWww], false, k2, e2, s2⟩ ⟨bRoot, 0, 110, zs, k3, e3, s3⟩ n bFtp a1 a2 a3 c1 c2 c3 V i1 i2 i3 (.inl rfl) o2 o3 hk hE (by unfold maxLen; decide)
  unfold pathN at q
  rw [path_made h1 h2 h3 hn hn' hz hb v1 v2 v3, show textTo (⟨9, bRoot, bAnn, f, t, pubA 7, [bWww], false, k2, e2, s2⟩ : Paper).names bFtp (⟨9, bRoot, bAnn, f, t, pubA 7, [bWww], false, k2, e2, s2⟩ : Paper).names.length = false from hasFtp, Bool.and_false] at q
  exact q
theorem checkOther {f t n : Int} {zs : List Int} {k1 e1 s1 k2 e2 s2 k3 e3 s3 : Int} (h1 : 0 ≤ f) (h2 : f ≤ t) (h3 : t ≤ 200) (hn : 0 ≤ n) (hn' : n ≤ 200) (hz : serialsB zs = true) (hzl : zs.length ≤ 2) (v1 : signV 6 (bodyD (rootP 6)) = .agg #[.int .i64 k1, .int .i64 e1, .int .i64 s1]) (v2 : signV 5 (bodyD (leafP f t)) = .agg #[.int .i64 k2, .int .i64 e2, .int .i64 s2]) (v3 : signV 5 (listD (theL zs)) = .agg #[.int .i64 k3, .int .i64 e3, .int .i64 s3]) (a1 a2 a3 : Option Addr) (c1 c2 c3 : Nat) (V : World) (o2 : IsStrs V a2 [bWww]) (o3 : IsInts V a3 zs) (hk : Keys V) (hE : Err3 V) :
    Calls Tryz.prog 5 #[.agg #[.int .i64 1, .string ⟨#[114, 111, 111, 116]⟩, .string ⟨#[114, 111, 111, 116]⟩, .int .i64 0, .int .i64 500, .int .i64 (pubA 6), .slice a1 0 c1, .bool true, .int .i64 k1, .int .i64 e1, .int .i64 s1], .agg #[.int .i64 9, .string ⟨#[114, 111, 111, 116]⟩, .string ⟨#[97, 110, 110]⟩, .int .i64 f, .int .i64 t, .int .i64 (pubA 7), .slice a2 1 c2, .bool false, .int .i64 k2, .int .i64 e2, .int .i64 s2], .agg #[.string ⟨#[114, 111, 111, 116]⟩, .int .i64 0, .int .i64 110, .slice a3 zs.length c3, .int .i64 k3, .int .i64 e3, .int .i64 s3], .int .i64 n] V fun e w' => e = .returned (.int .i64 6) ∧ Below V.heap.size V w' := by
  have i1 : PIn ⟨1, bRoot, bRoot, 0, 500, pubA 6, [], true, k1, e1, s1⟩ := ⟨by unfold maxLen; show bRoot.size ≤ _; decide, by unfold maxLen; show bRoot.size ≤ _; decide, by show (0 : Nat) ≤ _; omega, by show (0 : Nat) ≤ _; omega⟩
  have i2 : PIn ⟨9, bRoot, bAnn, f, t, pubA 7, [bWww], false, k2, e2, s2⟩ := ⟨by unfold maxLen; show bRoot.size ≤ _; decide, by unfold maxLen; show bAnn.size ≤ _; decide, by show (1 : Nat) ≤ _; omega, by show 0 + bWww.size ≤ _; decide⟩
  have i3 : LIn ⟨bRoot, 0, 110, zs, k3, e3, s3⟩ := ⟨by unfold maxLen; show bRoot.size ≤ _; decide, by show zs.length ≤ _; omega⟩
  have q := implPath ⟨1, bRoot, bRoot, 0, 500, pubA 6, [], true, k1, e1, s1⟩ ⟨9, bRoot, bAnn, f, t, pubA 7, [bWww], false, k2, e2, s2⟩ ⟨bRoot, 0, 110, zs, k3, e3, s3⟩ n a1 a2 a3 c1 c2 c3 V i1 i2 i3 (.inl rfl) o2 o3 hk hE
  rw [path_other h1 h2 h3 hn hn' hz v1 v2 v3] at q
  exact q
end Go.Proofs.YtegmmaomaegjjaaGreatDoor
