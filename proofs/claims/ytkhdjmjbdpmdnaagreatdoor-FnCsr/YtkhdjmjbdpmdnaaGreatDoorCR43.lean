/- impl.CsrSign, walked. impl.CsrBytes, walked. spec.l07Right, spec.CsrBytes, walked. impl.copyCrl, walked. The method signedWith of impl.signedBox over impl.Crl, walked. -/
import Derived.Test.YtkhdjmjbdpmdnaaGreatDoorCR12
import Derived.Test.YtkhdjmjbdpmdnaaGreatDoorCR42
import Derived.Test.YtkhdjmjbdpmdnaaGreatDoorCR28
import Derived.Test.YtkhdjmjbdpmdnaaGreatDoorCR27
import Derived.Test.YtkhdjmjbdpmdnaaGreatDoorCR41
import Derived.Test.YtkhdjmjbdpmdnaaGreatDoorCR29
import Derived.Test.YtkhdjmjbdpmdnaaGreatDoorCR13
import Derived.Test.YtkhdjmjbdpmdnaaGreatDoorCR06
import Derived.Test.YtkhdjmjbdpmdnaaGreatDoorCR24
import Derived.Test.YtkhdjmjbdpmdnaaGreatDoorCR04
import Derived.Test.YtkhdjmjbdpmdnaaGreatDoorCR09
import Derived.Deep.Cut
import Derived.Test.YtkhdjmjbdpmdnaaGreatDoorCR35
namespace Go.Proofs.YtkhdjmjbdpmdnaaGreatDoor
open Go.RowKit

set_option linter.unusedSimpArgs false in
set_option maxHeartbeats 4000000 in
set_option maxRecDepth 100000 in
theorem implSignA (x : Int) (ns : List ByteArray) (a : Option Addr) (cap : Nat) (k e s : Int) (w : World) (hl : ns.length ≤ 1048576) (ht : totS ns ns.length ≤ 1048576) (ha : IsStrs w a ns) (hw : Keys w) (hE : Err1 w)
    (hv : askOk x ns = true → signV x (askD (askO x ns)) = .agg #[.int .i64 k, .int .i64 e, .int .i64 s]) :
    Calls Tryz.prog 23 #[.int .i64 x, .slice a ns.length cap] w fun r w' => ∃ v, r = .returned ((signA x ns k e s).val v) ∧ OwnS w' w.heap.size v (signA x ns k e s).names ∧ Below w.heap.size w w' := by
  have HBx : Hid (∀ V, IsStrs V a ns → Calls Tryz.prog 77 #[(askO x ns).val (.slice a ns.length cap)] V fun e w' => ∃ g, e = .returned ((askO x ns).box (.slice a ns.length cap) (askE (askO x ns)) (.slice (some ⟨g, 0, none⟩) 2 2)) ∧ Row2 0 0 w' g ∧ Below V.heap.size V w') := fun V hV => boxCsr (askO x ns) a cap V hl ht hV
  have HCp : Hid (∀ V, IsStrs V a ns → Calls Tryz.prog 80 #[.slice a ns.length cap] V fun e w' => ∃ v, e = .returned v ∧ OwnS w' V.heap.size v ns ∧ Below V.heap.size V w') := fun V hV => copyTexts a ns cap V hl ht hV
  obtain ⟨b1, h1⟩ := hE
  have hkp := hw.pos
  have zE := askE_size (askO x ns)
  have HSn : Hid (∀ V v nv, Below w.heap.size w V → Calls Tryz.prog 79 #[(askO x ns).box v (askE (askO x ns)) nv, .int .i64 x] V fun r w' => (∃ t p, (askOk x ns = false ∧ r = .returned (.tuple #[.agg #[.int .i64 0, .int .i64 0, .int .i64 0], .iface t p])) ∨ (askOk x ns = true ∧ k = pubA x ∧ r = .returned (.tuple #[.agg #[.int .i64 k, .int .i64 e, .int .i64 s], .nilIface]))) ∧ Below V.heap.size V w') := fun V v nv hV => by
    obtain ⟨k', e', s', hks⟩ := signV_is4 x (askE (askO x ns))
    refine (signCsr (askO x ns) v nv (askE (askO x ns)) x k' e' s' _ V (by omega) (hw.below hV hkp) (h1.keep hV).1 hks).mono ?_
    rintro r w' ⟨rfl, hb⟩
    refine ⟨?_, hb⟩
    rw [askE_ne]
    cases e2 : secB x with
    | false =>
      rw [Bool.and_false]
      exact ⟨_, _, .inl ⟨by unfold askOk; rw [e2]; rfl, rfl⟩⟩
    | true =>
      rw [askOk_ask e2, Bool.and_true]
      cases e1 : (namesB ns && decide (0 < ns.length)) with
      | false => exact ⟨_, _, .inl ⟨by unfold askOk; rw [e2, Bool.true_and]; exact e1, rfl⟩⟩
      | true =>
        have hok : askOk x ns = true := by unfold askOk; rw [e2, Bool.true_and]; exact e1
        have hB : askB (askO x ns) = true := by rw [askOk_ask e2]; exact e1
        have hD : askE (askO x ns) = askD (askO x ns) := if_pos hB
        have hkk := signV_key e2 (by have := askD_le hB; omega) (hv hok)
        rw [hD, hv hok] at hks
        simp only [Value.agg.injEq, Array.mk.injEq, List.cons.injEq, Value.int.injEq, true_and, and_true] at hks
        obtain ⟨rfl, rfl, rfl⟩ := hks
        exact ⟨0, .nilIface, .inr ⟨hok, hkk, rfl⟩⟩
  have HY : Hid (askOk x ns = true → signA x ns k e s = ⟨pubA x, ns, k, e, s⟩) := fun h => signA_yes h k e s
  have HNo : Hid (askOk x ns = false → signA x ns k e s = zeroA) := fun h => signA_no h k e s
  have HPu : Hid (∀ V, Calls Tryz.prog 78 #[.int .i64 x] V fun e w' => e = .returned (.int .i64 (pubA x)) ∧ Below V.heap.size V w') := fun V => implPublic x V
  generalize signA x ns k e s = R at *
  generalize askOk x ns = P at *
  generalize askE (askO x ns) = D at *
  unfold askO Ask.val Ask.box at HBx
  unfold askO Ask.box at HSn
  simp only at HBx HSn
  generalize hpk : pubA x = pk at *
  have HA : Hid (∀ V, Below w.heap.size w V → IsStrs V a ns) := fun V hV => ha.keep hV
  clear hv hw h1 hkp zE hl ht ha hpk
  obtain ⟨nl, hnl⟩ : ∃ nl, nl = ns.length := ⟨_, rfl⟩
  rw [← hnl] at HBx HCp ⊢
  have HNl : Hid (nl = ns.length) := hnl
  clear hnl
  obtain ⟨w1, hw1⟩ : ∃ w1, w1 = w.alloc (.cells #[.int .i64 0, .slice none 0 0, .int .i64 0, .int .i64 0, .int .i64 0] 44 (0, 0)) := ⟨_, rfl⟩
  have r1 : w1.heap[w.heap.size]? = some (.cells [Value.int .i64 0, .slice none 0 0, .int .i64 0, .int .i64 0, .int .i64 0].toArray 44 (0, 0)) := by rw [hw1]; exact heap_alloc_new w _
  have B1 : Hid (Below w.heap.size w w1) := by rw [hw1]; exact (Below.refl _ _).alloc (Nat.le_refl _) _
  have HRw : Hid (∀ V, Below w1.heap.size w1 V → V.heap[w.heap.size]? = some (.cells [Value.int .i64 0, .slice none 0 0, .int .i64 0, .int .i64 0, .int .i64 0].toArray 44 (0, 0))) := fun V hV => (hV.block _ (heap_lt r1)).trans r1
  have HB : Hid (∀ V, Below w1.heap.size w1 V → Below w.heap.size w V) := fun V hV => B1.out.trans (hV.mono B1.out.size)
  have Z1 : Hid (w1.heap.size = w.heap.size + 1) := by show _ = _; rw [hw1]; simp
  have I1 : Hid (Below w1.heap.size w1 w1) := Below.refl _ _
  clear r1 B1
  go_enter Tryz.func23, Tryz.ntmps23
  go_upto_region 1 with fail
  rw [← hw1]
  clear hw1
  go_wp2_with fail
  refine (HPu.out _).mono ?_
  rintro r w2 ⟨rfl, b2⟩
  have K2 : Hid (Below w1.heap.size w1 w2) := b2
  clear b2 HPu
  go_wp2_with fail
  refine (HBx.out _ (HA.out _ (HB.out _ K2.out))).mono ?_
  rintro r w3 ⟨g, rfl, r3, b3⟩
  have K3 : Hid (Below w1.heap.size w1 w3) := K2.out.trans (b3.mono K2.out.size)
  clear b3 r3 K2 HBx
  obtain ⟨w4, hw4⟩ : ∃ y, y = w3.alloc (.cells #[.int .i64 pk, .slice a nl cap, .int .i64 0, .int .i64 0, .int .i64 0, .string D, .int .i64 0, .int .i64 0, .int .i64 0, .slice (some ⟨g, 0, none⟩) 2 2] 87 (0, 0)) := ⟨_, rfl⟩
  have r4 : w4.heap[w3.heap.size]? = some (.cells [Value.int .i64 pk, .slice a nl cap, .int .i64 0, .int .i64 0, .int .i64 0, .string D, .int .i64 0, .int .i64 0, .int .i64 0, .slice (some ⟨g, 0, none⟩) 2 2].toArray 87 (0, 0)) := by rw [hw4]; exact heap_alloc_new w3 _
  have K4 : Hid (Below w1.heap.size w1 w4) := by rw [hw4]; exact K3.out.alloc K3.out.size _
  have d0 := rowFacts r4 0 _ rfl
  have d1 := rowFacts r4 1 _ rfl
  have d2 := rowFacts r4 2 _ rfl
  have d3 := rowFacts r4 3 _ rfl
  have d4 := rowFacts r4 4 _ rfl
  have d5 := rowFacts r4 5 _ rfl
  have d6 := rowFacts r4 6 _ rfl
  have d7 := rowFacts r4 7 _ rfl
  have d8 := rowFacts r4 8 _ rfl
  have d9 := rowFacts r4 9 _ rfl
  clear r4 K3
  go_upto_region 2 with fail
  rw [← hw4]
  clear hw4
  go_wp2_with fail
  refine (HSn.out _ _ _ (HB.out _ K4.out)).mono ?_
  rintro r w5 ⟨⟨t5, p5, h5⟩, b5⟩
  have K5 : Hid (Below w1.heap.size w1 w5) := K4.out.trans (b5.mono K4.out.size)
  clear b5 HSn d0 d1 d2 d3 d4 d5 d6 d7 d8 d9 K4
  rcases h5 with ⟨hP, rfl⟩ | ⟨hP, hk, rfl⟩
  · have HF : Hid (R = zeroA) := HNo.out hP
    obtain ⟨w6, hw6⟩ : ∃ y, y = w5.alloc (.cells #[.int .i64 0, .int .i64 0, .int .i64 0] 25 (0, 0)) := ⟨_, rfl⟩
    have K6 : Hid (Below w1.heap.size w1 w6) := by rw [hw6]; exact K5.out.alloc K5.out.size _
    go_upto_region 4 with fail
    rw [← hw6]
    clear hw6
    have hR := HRw.out _ K6.out
    have h1 : ∀ v ∈ [Value.int .i64 0, .slice none 0 0, .int .i64 0, .int .i64 0, .int .i64 0], v.oneCell' = true := by simp [Value.oneCell']
    go_wp2_with (refine wpList_store_row rfl 44 _ _ rfl (w.heap.size) _ [Value.int .i64 0, .slice none 0 0, .int .i64 0, .int .i64 0, .int .i64 0] 44 rfl rfl hR rfl sizeCsr h1 ?_)
    intro w8 hrow ho hs8 hbb
    have HROW : Hid _ := hrow
    have HB8 : Hid (Below w.heap.size w w8) := hbb _ _ (by omega) (HB.out _ K6.out)
    clear ho hs8 hbb hrow hR h1
    go_wp2
    refine bodyPost_ret (v := .agg [Value.int .i64 0, .slice none 0 0, .int .i64 0, .int .i64 0, .int .i64 0].toArray) ?_ rfl ⟨.slice none 0 0, by rw [HF.out]; rfl, by rw [HF.out]; exact ownS_nil _ _, HB8.out⟩
    have hl3 := run_loadVar_mid (P := Tryz.prog) _ (w.heap.size) 0 44 _ _ (rangeRow HROW.out) Tryz.underlying44 rfl sizeCsr
    simp [results, Tryz.results23, asAddr, hl3]
  · subst hk
    have HF : Hid (R = ⟨k, ns, k, e, s⟩) := HY.out hP
    clear HY HNo hP
    obtain ⟨w6, hw6⟩ : ∃ y, y = w5.alloc (.cells #[.int .i64 k, .int .i64 e, .int .i64 s] 25 (0, 0)) := ⟨_, rfl⟩
    have q6 : w6.heap[w5.heap.size]? = some (.cells [Value.int .i64 k, .int .i64 e, .int .i64 s].toArray 25 (0, 0)) := by rw [hw6]; exact heap_alloc_new w5 _
    have K6 : Hid (Below w1.heap.size w1 w6) := by rw [hw6]; exact K5.out.alloc K5.out.size _
    have Q6 : Hid _ := q6
    have y0 := rowFacts q6 0 _ rfl
    have y1 := rowFacts q6 1 _ rfl
    have y2 := rowFacts q6 2 _ rfl
    clear q6
    go_upto_region 5 with fail
    rw [← hw6]
    clear hw6
    have HK6 : Hid (∀ V, Below w6.heap.size w6 V → V.cell? ⟨w5.heap.size, 0, none⟩ = some (.int .i64 k) ∧ V.cell? ⟨w5.heap.size, 1, none⟩ = some (.int .i64 e) ∧ V.cell? ⟨w5.heap.size, 2, none⟩ = some (.int .i64 s)) := fun V hV => by
      have hP := (hV.block _ (heap_lt Q6.out)).trans Q6.out
      exact ⟨rowFacts hP 0 _ rfl, rowFacts hP 1 _ rfl, rowFacts hP 2 _ rfl⟩
    have D6 : Hid (Below w6.heap.size w6 w6.drew) := (Below.refl _ _ : Below w6.heap.size w6 w6).drew
    have HQ : Hid (∀ V, Below w6.heap.size w6 V → Below w1.heap.size w1 V) := fun V hV => K6.out.trans (hV.mono K6.out.size)
    refine wp_region_held_drew (S := fun V => V.cell? ⟨w5.heap.size, 0, none⟩ = some (.int .i64 k) ∧ V.cell? ⟨w5.heap.size, 1, none⟩ = some (.int .i64 e) ∧ V.cell? ⟨w5.heap.size, 2, none⟩ = some (.int .i64 s)) (by kernel_rfl) ?_ (fun hHeld => ?_)
    · exact HK6.out _ D6.out
    refine wpAnyH_take (i := 0) (oi := ⟨some 22, _, _, _, _, _⟩) (v := ?_) rfl (by kernel_rfl) (by kernel_rfl) (by kernel_rfl) (fun _ _ _ h => h) (Or.inl ⟨by kernel_rfl, ?_⟩) (by assumption) ?_
    rotate_left
    · (intro w hSw; (try dsimp only at hSw); go_simp; try with_reducible rfl)
    (try simp only [Act.put, List.setIfInBounds_toArray, List.set_cons_zero, List.set_cons_succ])
    refine wpAnyH_take (i := 1) (oi := ⟨some 23, _, _, _, _, _⟩) (v := ?_) rfl (by kernel_rfl) (by kernel_rfl) (by kernel_rfl) (fun _ _ _ h => h) (Or.inl ⟨by kernel_rfl, ?_⟩) (by assumption) ?_
    rotate_left
    · (intro w hSw; (try dsimp only at hSw); go_simp; try with_reducible rfl)
    (try simp only [Act.put, List.setIfInBounds_toArray, List.set_cons_zero, List.set_cons_succ])
    refine wpAnyH_take (i := 2) (oi := ⟨some 24, _, _, _, _, _⟩) (v := ?_) rfl (by kernel_rfl) (by kernel_rfl) (by kernel_rfl) (fun _ _ _ h => h) (Or.inl ⟨by kernel_rfl, ?_⟩) (by assumption) ?_
    rotate_left
    · (intro w hSw; (try dsimp only at hSw); go_simp; try with_reducible rfl)
    (try simp only [Act.put, List.setIfInBounds_toArray, List.set_cons_zero, List.set_cons_succ])
    refine wpAnyH_take (i := 4) (oi := ⟨some 26, _, _, _, _, _⟩) (v := ?_) rfl (by kernel_rfl) (by kernel_rfl) (by kernel_rfl) (fun _ _ _ h => h) (Or.inl ⟨by kernel_rfl, ?_⟩) (by assumption) ?_
    rotate_left
    · (intro w hSw; (try dsimp only at hSw); go_simp; try with_reducible rfl)
    (try simp only [Act.put, List.setIfInBounds_toArray, List.set_cons_zero, List.set_cons_succ])
    refine wpAnyH_ready (rs := [3]) (by kernel_rfl) (by simp) ?_
    refine AllReadyH.cons (o := ⟨some 25, _, _, _, _, _⟩) rfl (fun K hK => ?_) AllReadyH.nil
    go_simp
    refine (HCp.out _ (HA.out _ (HB.out _ (HQ.out _ D6.out)))).mono ?_
    rintro r V1 ⟨v, rfl, o1, bV⟩
    have J1 : Hid (Below w6.heap.size w6 V1) := D6.out.trans (bV.mono D6.out.size)
    refine hK.out _ _ ?_ (fun hHeld => ?_)
    · exact HK6.out _ J1.out
    clear hK K bV
    (try simp only [Act.put, List.setIfInBounds_toArray, List.set_cons_zero, List.set_cons_succ])
    obtain ⟨va, vc, hv', _⟩ := OwnS.form o1
    rw [← HNl.out] at hv'
    subst hv'
    have z6 : w.heap.size + 1 ≤ w6.heap.size := by have := K6.out.size; have := Z1.out; omega
    have O1 : Hid (OwnS V1 (w.heap.size + 1) (.slice va nl vc) ns) := o1.mono z6
    clear o1 z6
    refine wpAnyH_take (i := 5) (oi := ⟨some 27, _, _, _, _, _⟩) (v := ?_) rfl (by kernel_rfl) (by kernel_rfl) (by kernel_rfl) (fun _ _ _ h => h) (Or.inl ⟨by kernel_rfl, ?_⟩) (by assumption) ?_
    rotate_left
    · (intro w hSw; (try dsimp only at hSw); go_simp; try with_reducible rfl)
    (try simp only [Act.put, List.setIfInBounds_toArray, List.set_cons_zero, List.set_cons_succ])
    refine wpAnyH_ready (rs := [6]) (by kernel_rfl) (by simp) ?_
    refine AllReadyH.cons (o := ⟨none, _, _, _, _, _⟩) rfl (fun K hK => ?_) AllReadyH.nil
    rw [if_pos (by rfl)]
    refine wp_store_row 44 _ _ rfl (w.heap.size) [Value.int .i64 0, .slice none 0 0, .int .i64 0, .int .i64 0, .int .i64 0] [Value.int .i64 k, .slice va nl vc, .int .i64 k, .int .i64 e, .int .i64 s] 44 rfl rfl (HRw.out _ (HQ.out _ J1.out)) rfl sizeCsr (by simp [Value.oneCell']) ?_
    intro w8 hrow ho hs8 hbb
    have HROW : Hid _ := hrow
    have HB8 : Hid (Below w.heap.size w w8) := hbb _ _ (by omega) (HB.out _ (HQ.out _ J1.out))
    have O8 : Hid (OwnS w8 (w.heap.size + 1) (.slice va nl vc) ns) := O1.out.same fun b h1 h2 => ho b (by omega)
    have hne : w5.heap.size ≠ w.heap.size := by have := K5.out.size; have := Z1.out; omega
    refine hK.out _ _ ?_ (fun hHeld => ?_)
    · have hP := (ho _ hne).trans ((J1.out.block _ (heap_lt Q6.out)).trans Q6.out)
      exact ⟨rowFacts hP 0 _ rfl, rowFacts hP 1 _ rfl, rowFacts hP 2 _ rfl⟩
    clear hK K ho hs8 hbb hrow
    (try simp only [Act.put, List.setIfInBounds_toArray, List.set_cons_zero, List.set_cons_succ])
    refine wpAnyH_done (by kernel_rfl) ?_ _
    go_wp2
    refine bodyPost_ret (v := .agg [Value.int .i64 k, .slice va nl vc, .int .i64 k, .int .i64 e, .int .i64 s].toArray) ?_ rfl ⟨.slice va nl vc, by rw [HF.out]; rfl, by rw [HF.out]; exact O8.out.mono (by omega), HB8.out⟩
    have hl3 := run_loadVar_mid (P := Tryz.prog) _ (w.heap.size) 0 44 _ _ (rangeRow HROW.out) Tryz.underlying44 rfl sizeCsr
    simp [results, Tryz.results23, asAddr, hl3]
end Go.Proofs.YtkhdjmjbdpmdnaaGreatDoor
namespace Go.Proofs.YtkhdjmjbdpmdnaaGreatDoor
open Go.RowKit

set_option linter.unusedSimpArgs false in
set_option maxHeartbeats 4000000 in
set_option maxRecDepth 100000 in
theorem implCsrBytes (c : Ask) (a : Option Addr) (cap : Nat) (w : World) (hl : c.names.length ≤ 1048576) (ht : totS c.names c.names.length ≤ 1048576) (ha : IsStrs w a c.names) (hw : Keys w) (hE : Err3 w) :
    Calls Tryz.prog 24 #[c.val (.slice a c.names.length cap)] w fun e w' => e = .returned (.string (csrBytesD c)) ∧ Below w.heap.size w w' := by
  have HBx : Hid (∀ V, IsStrs V a c.names → Calls Tryz.prog 77 #[c.val (.slice a c.names.length cap)] V fun e w' => ∃ g, e = .returned (c.box (.slice a c.names.length cap) (askE c) (.slice (some ⟨g, 0, none⟩) 2 2)) ∧ Row2 c.se c.ss w' g ∧ Below V.heap.size V w') := fun V hV => boxCsr c a cap V hl ht hV
  obtain ⟨b1, b2, b0, h1, h2, h0, _, _⟩ := hE
  have hkp := hw.pos
  have zE := askE_size c
  have HSw : Hid (∀ V v nv, Below w.heap.size w V → Calls Tryz.prog 81 #[c.box v (askE c) nv, .int .i64 c.key] V fun r w' => (∃ t p, (askR c = false ∧ r = .returned (.iface t p)) ∨ (askR c = true ∧ r = .returned .nilIface)) ∧ Below V.heap.size V w') := fun V v nv hV => by
    refine (signedWithCsr c v nv (askE c) c.key _ _ _ _ _ rfl V (by omega) (hw.below hV hkp) (h1.keep hV).1 (h0.keep hV).1 (h2.keep hV).1).mono ?_
    rintro r w' ⟨rfl, hb⟩
    refine ⟨?_, hb⟩
    rw [askE_ne]
    cases e1 : (askB c && sigRB c.sk c.se c.ss) with
    | false =>
      refine ⟨_, _, .inl ⟨?_, rfl⟩⟩
      show (askB c && sigRB c.sk c.se c.ss && _ && _) = false
      rw [e1]; rfl
    | true =>
      rw [if_pos rfl]
      by_cases e2 : c.sk = c.key
      · rw [if_pos e2]
        have hD : askE c = askD c := if_pos (Bool.and_eq_true _ _ ▸ e1 |>.1)
        have hf : formB c = true := by
          show (askB c && sigRB c.sk c.se c.ss && decide (c.sk = c.key)) = true
          rw [e1, decide_eq_true e2]; rfl
        cases e3 : sigCB c.sk c.se c.ss (askE c) with
        | false =>
          refine ⟨_, _, .inl ⟨?_, rfl⟩⟩
          show (formB c && sigCB c.sk c.se c.ss (askD c)) = false
          rw [← hD, e3, Bool.and_false]
        | true =>
          refine ⟨0, .nilIface, .inr ⟨?_, rfl⟩⟩
          show (formB c && sigCB c.sk c.se c.ss (askD c)) = true
          rw [← hD, e3, hf]; rfl
      · rw [if_neg e2]
        refine ⟨_, _, .inl ⟨?_, rfl⟩⟩
        show (askB c && sigRB c.sk c.se c.ss && decide (c.sk = c.key) && _) = false
        rw [decide_eq_false e2, Bool.and_false]; rfl
  have HLy : Hid (askR c = true → ∀ V v g, Row2 c.se c.ss V g → Calls Tryz.prog 82 #[c.box v (askE c) (.slice (some ⟨g, 0, none⟩) 2 2)] V fun r w' => r = .returned (.string (csrBytesD c)) ∧ Below V.heap.size V w') := fun h V v g hg => by
    have hf : formB c = true := by unfold askR at h; rw [Bool.and_eq_true] at h; exact h.1
    have hD : askE c = askD c := if_pos (formB_ask hf)
    have := layCsr c v (askE c) g V (by omega) (formB_sig hf) hg
    rw [show csrBytesD c = askY c from if_pos h]
    rw [hD] at this ⊢
    exact this
  have HN : Hid (askR c = false → csrBytesD c = ⟨#[]⟩) := fun h => by show (if _ then _ else _) = _; rw [if_neg (by rw [h]; simp)]
  clear hl ht hw hkp zE h0 h1 h2
  generalize csrBytesD c = R at *
  generalize askR c = P at *
  generalize askE c = D at *
  obtain ⟨key, names, sk, se, ss⟩ := c
  unfold Ask.val at *
  unfold Ask.box at *
  simp only at HBx HSw HLy ha ⊢
  generalize names.length = nl at *
  obtain ⟨w1, hw1⟩ : ∃ w1, w1 = w.alloc (.cells #[.int .i64 key, .slice a nl cap, .int .i64 sk, .int .i64 se, .int .i64 ss] 44 (0, 0)) := ⟨_, rfl⟩
  have r0 : w1.heap[w.heap.size]? = some (.cells [Value.int .i64 key, .slice a nl cap, .int .i64 sk, .int .i64 se, .int .i64 ss].toArray 44 (0, 0)) := by rw [hw1]; exact heap_alloc_new w _
  have B1 : Hid (Below w.heap.size w w1) := by rw [hw1]; exact (Below.refl _ _).alloc (Nat.le_refl _) _
  have z1 : w.heap.size < w1.heap.size := by rw [hw1]; simp
  have HK : Hid (∀ V, Below w1.heap.size w1 V → V.cell? ⟨w.heap.size, 0, none⟩ = some (.int .i64 key) ∧ V.cell? ⟨w.heap.size, 1, none⟩ = some (.slice a nl cap) ∧ V.cell? ⟨w.heap.size, 2, none⟩ = some (.int .i64 sk) ∧ V.cell? ⟨w.heap.size, 3, none⟩ = some (.int .i64 se) ∧ V.cell? ⟨w.heap.size, 4, none⟩ = some (.int .i64 ss)) := fun V hV => by
    have hP := (hV.block _ z1).trans r0
    exact ⟨rowFacts hP 0 _ rfl, rowFacts hP 1 _ rfl, rowFacts hP 2 _ rfl, rowFacts hP 3 _ rfl, rowFacts hP 4 _ rfl⟩
  have HA : Hid (∀ V, Below w1.heap.size w1 V → IsStrs V a names) := fun V hV => (ha.keep B1.out).keep hV
  have HB : Hid (∀ V, Below w1.heap.size w1 V → Below w.heap.size w V) := fun V hV => B1.out.trans (hV.mono B1.out.size)
  have I1 : Hid (Below w1.heap.size w1 w1) := Below.refl _ _
  have D1 : Hid (Below w1.heap.size w1 w1.drew) := I1.out.drew
  clear r0 z1 B1 ha
  obtain ⟨c0, c1, c2, c3, c4⟩ := HK.out w1 I1.out
  go_enter Tryz.func24, Tryz.ntmps24
  go_upto_region 1 with fail
  rw [← hw1]
  clear hw1
  go_wp2_with fail
  refine (HBx.out _ (HA.out _ I1.out)).mono ?_
  rintro e w2 ⟨g, rfl, r2, b2⟩
  have K2 : Hid (Below w1.heap.size w1 w2) := b2
  clear b2 c0 c1 c2 c3 c4
  obtain ⟨w3, hw3⟩ : ∃ w3, w3 = w2.alloc (.cells #[.int .i64 key, .slice a nl cap, .int .i64 sk, .int .i64 se, .int .i64 ss, .string D, .int .i64 sk, .int .i64 se, .int .i64 ss, .slice (some ⟨g, 0, none⟩) 2 2] 87 (0, 0)) := ⟨_, rfl⟩
  have b3 : Below w2.heap.size w2 w3 := by rw [hw3]; exact (Below.refl _ _).alloc (Nat.le_refl _) _
  have r3 : w3.heap[w2.heap.size]? = some (.cells [Value.int .i64 key, .slice a nl cap, .int .i64 sk, .int .i64 se, .int .i64 ss, .string D, .int .i64 sk, .int .i64 se, .int .i64 ss, .slice (some ⟨g, 0, none⟩) 2 2].toArray 87 (0, 0)) := by rw [hw3]; exact heap_alloc_new w2 _
  have K3 : Hid (Below w1.heap.size w1 w3) := K2.out.trans (b3.mono K2.out.size)
  have G3 : Hid (Row2 se ss w3 g) := r2.keep b3
  have z3 : w2.heap.size < w3.heap.size := by rw [hw3]; simp
  have HX : Hid (∀ V, Below w3.heap.size w3 V → V.cell? ⟨w2.heap.size, 0, none⟩ = some (.int .i64 key) ∧ V.cell? ⟨w2.heap.size, 1, none⟩ = some (.slice a nl cap) ∧ V.cell? ⟨w2.heap.size, 2, none⟩ = some (.int .i64 sk) ∧ V.cell? ⟨w2.heap.size, 3, none⟩ = some (.int .i64 se) ∧ V.cell? ⟨w2.heap.size, 4, none⟩ = some (.int .i64 ss) ∧ V.cell? ⟨w2.heap.size, 5, none⟩ = some (.string D) ∧ V.cell? ⟨w2.heap.size, 6, none⟩ = some (.int .i64 sk) ∧ V.cell? ⟨w2.heap.size, 7, none⟩ = some (.int .i64 se) ∧ V.cell? ⟨w2.heap.size, 8, none⟩ = some (.int .i64 ss) ∧ V.cell? ⟨w2.heap.size, 9, none⟩ = some (.slice (some ⟨g, 0, none⟩) 2 2)) := fun V hV => by
    have hP := (hV.block _ z3).trans r3
    exact ⟨rowFacts hP 0 _ rfl, rowFacts hP 1 _ rfl, rowFacts hP 2 _ rfl, rowFacts hP 3 _ rfl, rowFacts hP 4 _ rfl, rowFacts hP 5 _ rfl, rowFacts hP 6 _ rfl, rowFacts hP 7 _ rfl, rowFacts hP 8 _ rfl, rowFacts hP 9 _ rfl⟩
  have HQ : Hid (∀ V, Below w3.heap.size w3 V → Below w1.heap.size w1 V) := fun V hV => K3.out.trans (hV.mono K3.out.size)
  have I3 : Hid (Below w3.heap.size w3 w3) := Below.refl _ _
  clear b3 r3 z3 r2
  obtain ⟨c0, c1, c2, c3, c4⟩ := HK.out w3 K3.out
  obtain ⟨d0, d1, d2, d3, d4, d5, d6, d7, d8, d9⟩ := HX.out w3 I3.out
  go_upto_region 2 with fail
  rw [← hw3]
  clear hw3
  go_wp2_with fail
  refine (HSw.out _ _ _ (HB.out _ K3.out)).mono ?_
  rintro e w4 ⟨⟨t4, p4, h4⟩, b4⟩
  have J4 : Hid (Below w3.heap.size w3 w4) := b4
  clear b4 c0 c1 c2 c3 c4 d0 d1 d2 d3 d4 d5 d6 d7 d8 d9
  rcases h4 with ⟨hP, rfl⟩ | ⟨hP, rfl⟩
  · have HF : Hid (R = ⟨#[]⟩) := HN.out hP
    go_wp2
    go_ret
    exact ⟨by rw [HF.out]; rfl, HB.out _ (HQ.out _ J4.out)⟩
  have HL' := HLy.out hP
  have HL : Hid _ := HL'
  clear HL' HLy HN HSw hP
  obtain ⟨d0, d1, d2, d3, d4, d5, d6, d7, d8, d9⟩ := HX.out w4 J4.out
  go_wp2_with fail
  refine (HL.out _ _ g (G3.out.keep J4.out)).mono ?_
  rintro e w5 ⟨rfl, b5⟩
  have J5 : Hid (Below w3.heap.size w3 w5) := J4.out.trans (b5.mono J4.out.size)
  clear b5 d0 d1 d2 d3 d4 d5 d6 d7 d8 d9
  go_wp2
  go_ret
  exact ⟨rfl, HB.out _ (HQ.out _ J5.out)⟩
end Go.Proofs.YtkhdjmjbdpmdnaaGreatDoor
namespace Go.Proofs.YtkhdjmjbdpmdnaaGreatDoor
open Go.RowKit

set_option linter.unusedSimpArgs false in
set_option maxHeartbeats 4000000 in
set_option maxRecDepth 100000 in
theorem specCsrBytes (c : Ask) (a : Option Addr) (cap : Nat) (w : World) (hl : c.names.length ≤ 1048576) (ht : totS c.names c.names.length ≤ 1048576) (ha : IsStrs w a c.names) :
    Calls Tryz.prog 27 #[c.val (.slice a c.names.length cap)] w fun e w' => e = .returned (.string (csrBytesD c)) ∧ Below w.heap.size w w' := by
  have HP : Hid (∀ V, IsStrs V a c.names → Calls Tryz.prog 85 #[c.val (.slice a c.names.length cap)] V fun e w' => e = .returned (.bool (askR c)) ∧ Below V.heap.size V w') := fun V hV => specAskR c a cap V hl ht hV
  have HN : Hid (askR c = false → csrBytesD c = ⟨#[]⟩) := fun h => by show (if _ then _ else _) = _; rw [if_neg (by rw [h]; simp)]
  have HQ : Hid (askR c = true → ∀ V, IsStrs V a c.names → Calls Tryz.prog 86 #[c.val (.slice a c.names.length cap)] V fun e w' => e = .returned (.string (csrBytesD c)) ∧ Below V.heap.size V w') := fun h V hV => by
    have hf : formB c = true := by unfold askR at h; rw [Bool.and_eq_true] at h; exact h.1
    obtain ⟨f1, f2, f3, f4⟩ := ask_fits (formB_ask hf)
    obtain ⟨g1, g2, g3⟩ := sigRB_lt (formB_sig hf)
    have := specAskY c a cap V (by omega) (by omega) (by omega) f2 f4 hV
    rw [show csrBytesD c = askY c from if_pos h]
    exact this
  generalize csrBytesD c = R at *
  generalize askR c = P at *
  clear hl ht
  obtain ⟨key, names, sk, se, ss⟩ := c
  unfold Ask.val at *
  simp only at HP HQ ha ⊢
  generalize names.length = nl at *
  obtain ⟨w1, hw1⟩ : ∃ w1, w1 = w.alloc (.cells #[.int .i64 key, .slice a nl cap, .int .i64 sk, .int .i64 se, .int .i64 ss] 44 (0, 0)) := ⟨_, rfl⟩
  have r0 : w1.heap[w.heap.size]? = some (.cells [Value.int .i64 key, .slice a nl cap, .int .i64 sk, .int .i64 se, .int .i64 ss].toArray 44 (0, 0)) := by rw [hw1]; exact heap_alloc_new w _
  have B1 : Hid (Below w.heap.size w w1) := by rw [hw1]; exact (Below.refl _ _).alloc (Nat.le_refl _) _
  have z1 : w.heap.size < w1.heap.size := by rw [hw1]; simp
  have HK : Hid (∀ V, Below w1.heap.size w1 V → V.cell? ⟨w.heap.size, 0, none⟩ = some (.int .i64 key) ∧ V.cell? ⟨w.heap.size, 1, none⟩ = some (.slice a nl cap) ∧ V.cell? ⟨w.heap.size, 2, none⟩ = some (.int .i64 sk) ∧ V.cell? ⟨w.heap.size, 3, none⟩ = some (.int .i64 se) ∧ V.cell? ⟨w.heap.size, 4, none⟩ = some (.int .i64 ss)) := fun V hV => by
    have hP := (hV.block _ z1).trans r0
    exact ⟨rowFacts hP 0 _ rfl, rowFacts hP 1 _ rfl, rowFacts hP 2 _ rfl, rowFacts hP 3 _ rfl, rowFacts hP 4 _ rfl⟩
  have HA : Hid (∀ V, Below w1.heap.size w1 V → IsStrs V a names) := fun V hV => (ha.keep B1.out).keep hV
  have HB : Hid (∀ V, Below w1.heap.size w1 V → Below w.heap.size w V) := fun V hV => B1.out.trans (hV.mono B1.out.size)
  have I1 : Hid (Below w1.heap.size w1 w1) := Below.refl _ _
  have D1 : Hid (Below w1.heap.size w1 w1.drew) := I1.out.drew
  clear r0 z1 B1 ha
  go_enter Tryz.func27, Tryz.ntmps27
  go_upto_region 1 with fail
  rw [← hw1]
  clear hw1
  obtain ⟨c0, c1, c2, c3, c4⟩ := HK.out w1 I1.out
  go_wp2_with fail
  refine (HP.out _ (HA.out _ I1.out)).mono ?_
  rintro e w2 ⟨rfl, b2⟩
  have K2 : Hid (Below w1.heap.size w1 w2) := b2
  clear b2 c0 c1 c2 c3 c4
  cases P with
  | false =>
    have HF : Hid (R = ⟨#[]⟩) := HN.out rfl
    go_wp2
    go_ret
    exact ⟨by rw [HF.out]; rfl, HB.out _ K2.out⟩
  | true =>
  have Q1 := HQ.out rfl
  have HQ' : Hid _ := Q1
  clear Q1 HQ HP HN
  obtain ⟨c0, c1, c2, c3, c4⟩ := HK.out w2 K2.out
  go_wp2_with fail
  refine (HQ'.out _ (HA.out _ K2.out)).mono ?_
  rintro e w3 ⟨rfl, b3⟩
  have K3 : Hid (Below w1.heap.size w1 w3) := K2.out.trans (b3.mono K2.out.size)
  clear b3
  go_wp2
  go_ret
  exact ⟨rfl, HB.out _ K3.out⟩
end Go.Proofs.YtkhdjmjbdpmdnaaGreatDoor
namespace Go.Proofs.YtkhdjmjbdpmdnaaGreatDoor
open Go.RowKit

set_option linter.unusedSimpArgs false in
set_option maxHeartbeats 4000000 in
set_option maxRecDepth 100000 in
theorem copyCrlG (c : Lst) (a : Option Addr) (cap : Nat) (w : World) (hi : c.issuer.size ≤ 1048576) (hl : c.serials.length ≤ 1048576) (hA : RowL w a cap c.serials) :
    Calls Tryz.prog 93 #[c.val (.slice a c.serials.length cap)] w fun e w' => ∃ v, e = .returned (c.val v) ∧ OwnL w' w.heap.size v c.serials ∧ Below w.heap.size w w' := by
  have HC' : Hid (∀ V (t : ByteArray), t.size ≤ 1048576 → Calls Tryz.prog 117 #[.string t] V fun e w' => e = .returned (.string t) ∧ Below V.heap.size V w') := fun V t h => copyText t V (by omega)
  obtain ⟨i0, hi0, hz0, hz1, hz2⟩ := info_parts infoLong
  have HN : Hid (∀ V, Below w.heap.size w V → SrcRow V a c.serials.length cap (lCells c.serials)) := fun V hV => (hA.keep hV).src
  clear hA
  obtain ⟨iss, fr, till, serials, sk, se, ss⟩ := c
  unfold Lst.val
  simp only at hi hl HN ⊢
  obtain ⟨nl, hnl⟩ : ∃ nl, nl = serials.length := ⟨_, rfl⟩
  rw [← hnl] at hl HN ⊢
  have HNl : Hid (nl = serials.length) := hnl
  clear hnl
  obtain ⟨w1, hw1⟩ : ∃ w1, w1 = (w.alloc (.cells #[.string iss, .int .i64 fr, .int .i64 till, .slice a nl cap, .int .i64 sk, .int .i64 se, .int .i64 ss] 53 (0, 0))).alloc (.cells #[.string ⟨#[]⟩, .int .i64 0, .int .i64 0, .slice none 0 0, .int .i64 0, .int .i64 0, .int .i64 0] 53 (0, 0)) := ⟨_, rfl⟩
  have r0 : w1.heap[w.heap.size]? = some (.cells [Value.string iss, .int .i64 fr, .int .i64 till, .slice a nl cap, .int .i64 sk, .int .i64 se, .int .i64 ss].toArray 53 (0, 0)) := by rw [hw1, Below.heap_alloc _ _ _ (by simp)]; exact heap_alloc_new w _
  have r1 : w1.heap[w.heap.size + 1]? = some (.cells [Value.string ⟨#[]⟩, .int .i64 0, .int .i64 0, .slice none 0 0, .int .i64 0, .int .i64 0, .int .i64 0].toArray 53 (0, 0)) := by rw [hw1]; exact heap_alloc2 w _ _
  have B1 : Hid (Below w.heap.size w w1) := by rw [hw1]; exact ((Below.refl _ _).alloc (Nat.le_refl _) _).alloc (by simp) _
  have HRw : Hid (∀ V, Below w1.heap.size w1 V → V.heap[w.heap.size]? = some (.cells [Value.string iss, .int .i64 fr, .int .i64 till, .slice a nl cap, .int .i64 sk, .int .i64 se, .int .i64 ss].toArray 53 (0, 0)) ∧ V.heap[w.heap.size + 1]? = some (.cells [Value.string ⟨#[]⟩, .int .i64 0, .int .i64 0, .slice none 0 0, .int .i64 0, .int .i64 0, .int .i64 0].toArray 53 (0, 0))) := fun V hV => ⟨(hV.block _ (heap_lt r0)).trans r0, (hV.block _ (heap_lt r1)).trans r1⟩
  have HC : Hid (∀ V : World, V.heap[w.heap.size]? = some (.cells [Value.string iss, .int .i64 fr, .int .i64 till, .slice a nl cap, .int .i64 sk, .int .i64 se, .int .i64 ss].toArray 53 (0, 0)) → V.cell? ⟨w.heap.size, 0, none⟩ = some (.string iss) ∧ V.cell? ⟨w.heap.size, 1, none⟩ = some (.int .i64 fr) ∧ V.cell? ⟨w.heap.size, 2, none⟩ = some (.int .i64 till) ∧ V.cell? ⟨w.heap.size, 3, none⟩ = some (.slice a nl cap) ∧ V.cell? ⟨w.heap.size, 4, none⟩ = some (.int .i64 sk) ∧ V.cell? ⟨w.heap.size, 5, none⟩ = some (.int .i64 se) ∧ V.cell? ⟨w.heap.size, 6, none⟩ = some (.int .i64 ss)) := fun V hP => ⟨rowFacts hP 0 _ rfl, rowFacts hP 1 _ rfl, rowFacts hP 2 _ rfl, rowFacts hP 3 _ rfl, rowFacts hP 4 _ rfl, rowFacts hP 5 _ rfl, rowFacts hP 6 _ rfl⟩
  have HK : Hid (∀ V, Below w1.heap.size w1 V → V.cell? ⟨w.heap.size, 0, none⟩ = some (.string iss) ∧ V.cell? ⟨w.heap.size, 1, none⟩ = some (.int .i64 fr) ∧ V.cell? ⟨w.heap.size, 2, none⟩ = some (.int .i64 till) ∧ V.cell? ⟨w.heap.size, 3, none⟩ = some (.slice a nl cap) ∧ V.cell? ⟨w.heap.size, 4, none⟩ = some (.int .i64 sk) ∧ V.cell? ⟨w.heap.size, 5, none⟩ = some (.int .i64 se) ∧ V.cell? ⟨w.heap.size, 6, none⟩ = some (.int .i64 ss)) := fun V hV => HC.out V (HRw.out V hV).1
  have HB : Hid (∀ V, Below w1.heap.size w1 V → Below w.heap.size w V) := fun V hV => B1.out.trans (hV.mono B1.out.size)
  have Z1 : Hid (w1.heap.size = w.heap.size + 2) := by show _ = _; rw [hw1]; simp
  have I1 : Hid (Below w1.heap.size w1 w1) := Below.refl _ _
  have D1 : Hid (Below w1.heap.size w1 w1.drew) := I1.out.drew
  clear r0 r1 B1
  go_enter Tryz.func93, Tryz.ntmps93
  go_upto_region 1 with fail
  rw [← hw1]
  clear hw1
  obtain ⟨c0, c1, c2, c3, c4, c5, c6⟩ := HK.out w1 I1.out
  go_wp2_with fail
  refine (HC'.out _ iss hi).mono ?_
  rintro e w2 ⟨rfl, b2⟩
  have K2 : Hid (Below w1.heap.size w1 w2) := b2
  clear b2 c0 c1 c2 c3 c4 c5 c6
  obtain ⟨r0, r1⟩ := HRw.out w2 K2.out
  obtain ⟨w3, hw3⟩ : ∃ y, y = w2.setCell ⟨w.heap.size, 0, none⟩ (.string iss) := ⟨_, rfl⟩
  have t0 : w3.heap[w.heap.size]? = some (.cells [Value.string iss, .int .i64 fr, .int .i64 till, .slice a nl cap, .int .i64 sk, .int .i64 se, .int .i64 ss].toArray 53 (0, 0)) := by rw [hw3]; exact rowSet (i := 0) _ r0
  have t1 : w3.heap[w.heap.size + 1]? = some (.cells [Value.string ⟨#[]⟩, .int .i64 0, .int .i64 0, .slice none 0 0, .int .i64 0, .int .i64 0, .int .i64 0].toArray 53 (0, 0)) := by rw [hw3, heap_setCell_other _ _ _ _ (by simp)]; exact r1
  have K3 : Hid (Below w.heap.size w w3) := by rw [hw3]; exact (HB.out _ K2.out).setCell (by simp) _
  have z3 : w.heap.size + 2 ≤ w3.heap.size := by rw [hw3]; have := K2.out.size; have := Z1.out; simp; omega
  have c6 := rowFacts r0 0 _ rfl
  have f6 := rowFree r0 0
  have S0 : Hid _ := t0
  have S1 : Hid _ := t1
  clear r0 r1 t0 t1
  go_upto_region 2 with fail
  rw [← hw3]
  clear hw3 c6 f6
  have c6 := rowFacts S0.out 3 _ rfl
  have hown : w3.ownsRow (w.heap.size + 2) 2 1 (.slice none 0 0) 0 [] := ⟨rfl, .inl ⟨rfl, rfl⟩⟩
  have hnews := HN.out _ K3.out
  have Z3 : Hid (w.heap.size + 2 ≤ w3.heap.size) := z3
  clear z3
  go_wp2_with (at_builtin; refine wpList_append_opt rfl _ _ 51 rfl (w.heap.size + 2) 2 i0 (.int .i64 0) 1 8 Tryz.underlying51 hi0 hz0 hz1 hz2 rfl (by decide) _ _ _ rfl hown a nl cap (lCells serials) rfl ?c0 hnews ?c2 ?c3 ?c4 ?c5 ?_)
  case c0 => rw [HNl.out]; simp [lCells]
  case c2 => exact oneCell_ints .i64 serials
  case c3 => unfold maxLen; omega
  case c4 => omega
  case c5 => have := Z3.out; omega
  intro v' w4 hown' hgrow hnil
  have hkeep : ∀ b, b < w.heap.size + 2 → w4.heap[b]? = w3.heap[b]? := fun b hb => hgrow.block b (by have := Z3.out; omega) (fun e => by have h := (hown.lt b e.symm).1; omega)
  have r0 : w4.heap[w.heap.size]? = some (.cells [Value.string iss, .int .i64 fr, .int .i64 till, .slice a nl cap, .int .i64 sk, .int .i64 se, .int .i64 ss].toArray 53 (0, 0)) := by rw [hkeep _ (by omega)]; exact S0.out
  have r1 : w4.heap[w.heap.size + 1]? = some (.cells [Value.string ⟨#[]⟩, .int .i64 0, .int .i64 0, .slice none 0 0, .int .i64 0, .int .i64 0, .int .i64 0].toArray 53 (0, 0)) := by rw [hkeep _ (by omega)]; exact S1.out
  have K4 : Hid (Below w.heap.size w w4) := K3.out.grown hgrow (by have := Z3.out; omega) (fun k hk => by have := (hown.lt k hk).1; omega)
  have O4 : Hid (OwnL w4 (w.heap.size + 2) v' serials) := by
    show World.ownsRow _ _ _ _ _ _ _
    rw [← HNl.out]
    simpa using hown'
  clear hown' hgrow hnil hkeep hown hnews c6 S0 S1 K2 K3 HN
  obtain ⟨va, vc, hv, _⟩ := OwnL.form O4.out
  rw [← HNl.out] at hv
  subst hv
  obtain ⟨w7, hw7⟩ : ∃ y, y = w4.setCell ⟨w.heap.size, 3, none⟩ (.slice va nl vc) := ⟨_, rfl⟩
  have t0 : w7.heap[w.heap.size]? = some (.cells [Value.string iss, .int .i64 fr, .int .i64 till, .slice va nl vc, .int .i64 sk, .int .i64 se, .int .i64 ss].toArray 53 (0, 0)) := by rw [hw7]; exact rowSet (i := 3) _ r0
  have t1 : w7.heap[w.heap.size + 1]? = some (.cells [Value.string ⟨#[]⟩, .int .i64 0, .int .i64 0, .slice none 0 0, .int .i64 0, .int .i64 0, .int .i64 0].toArray 53 (0, 0)) := by rw [hw7, heap_setCell_other _ _ _ _ (by simp)]; exact r1
  have K7 : Hid (Below w.heap.size w w7) := by rw [hw7]; exact K4.out.setCell (by simp) _
  have O7 : Hid (OwnL w7 (w.heap.size + 2) (.slice va nl vc) serials) := O4.out.same fun b h1 h2 => by rw [hw7, heap_setCell_other _ _ _ _ (by show b ≠ w.heap.size; omega)]
  have c6 := rowFacts r0 3 _ rfl
  have f6 := rowFree r0 3
  have T0 : Hid _ := t0
  have T1 : Hid _ := t1
  clear r0 r1 t0 t1 K4 O4
  go_upto_region 3 with fail
  rw [← hw7]
  clear hw7 c6 f6
  obtain ⟨C, hC⟩ : ∃ C, C = [Value.string iss, .int .i64 fr, .int .i64 till, .slice va nl vc, .int .i64 sk, .int .i64 se, .int .i64 ss] := ⟨_, rfl⟩
  have hr := rangeRow T0.out
  rw [← hC] at hr
  have hR := T1.out
  have h1 : ∀ v ∈ C, v.oneCell' = true := by rw [hC]; simp [Value.oneCell']
  have hi : (Tryz.prog.info? 53).map (·.size) = some C.length := by rw [hC]; exact sizeCrl
  have HLen : Hid ([Value.string ⟨#[]⟩, .int .i64 0, .int .i64 0, .slice none 0 0, .int .i64 0, .int .i64 0, .int .i64 0].length = C.length) := by rw [hC]; rfl
  have HCC : Hid (C = [Value.string iss, .int .i64 fr, .int .i64 till, .slice va nl vc, .int .i64 sk, .int .i64 se, .int .i64 ss]) := hC
  clear hC
  go_wp2_with (first | (refine wpList_load_mid rfl 53 _ rfl (w.heap.size) 0 rfl C _ hr Tryz.underlying53 rfl hi ?_) | (refine wpList_store_row rfl 53 _ _ rfl (w.heap.size + 1) _ C 53 rfl rfl hR HLen.out hi h1 ?_))
  intro w8 hrow ho hs8 hbb
  have HROW : Hid _ := hrow
  have HB8 : Hid (Below w.heap.size w w8) := hbb _ _ (by omega) K7.out
  have O8 : Hid (OwnL w8 (w.heap.size + 2) (.slice va nl vc) serials) := O7.out.same fun b h1 h2 => ho b (by omega)
  clear ho hs8 hbb hrow hr hR h1
  go_wp2
  refine bodyPost_ret (v := .agg C.toArray) ?_ rfl ⟨_, by rw [HCC.out], O8.out.mono (by omega), HB8.out⟩
  have hl3 := run_loadVar_mid (P := Tryz.prog) _ (w.heap.size + 1) 0 53 _ _ (rangeRow HROW.out) Tryz.underlying53 rfl hi
  simp [results, Tryz.results93, asAddr, hl3]
theorem copyCrl (c : Lst) (g o cap : Nat) (w : World) (hi : c.issuer.size ≤ 1048576) (hl : c.serials.length ≤ 1048576) (hgw : g < w.heap.size) (hc : ∀ i, i < c.serials.length → w.cell? ⟨g, o + i, none⟩ = some (.int .i64 (c.serials.getD i 0))) :
    Calls Tryz.prog 93 #[c.val (.slice (some ⟨g, o, none⟩) c.serials.length cap)] w fun e w' => ∃ v, e = .returned (c.val v) ∧ OwnL w' w.heap.size v c.serials ∧ Below w.heap.size w w' :=
  copyCrlG c _ cap w hi hl (.inr ⟨g, o, rfl, hgw, hc⟩)
end Go.Proofs.YtkhdjmjbdpmdnaaGreatDoor
namespace Go.Proofs.YtkhdjmjbdpmdnaaGreatDoor
open Go.RowKit

set_option linter.unusedSimpArgs false in
set_option maxHeartbeats 4000000 in
set_option maxRecDepth 100000 in
theorem signedWithCrl (c : Lst) (v nv : Value) (D : ByteArray) (key' : Int) (E E0 E2 : Value) (tE : TypeId) (pE : Value) (qE : E = .iface tE pE) (w : World) (hD : D.size ≤ 20000) (hw : Keys w) (hE : w.cell? ⟨1, 0, none⟩ = some E) (hE0 : w.cell? ⟨0, 0, none⟩ = some E0) (hE2 : w.cell? ⟨2, 0, none⟩ = some E2) :
    Calls Tryz.prog 98 #[c.box v D nv, .int .i64 key'] w fun r w' => r = .returned (if (decide (D.size ≠ 0) && sigRB c.sk c.se c.ss) = true then (if c.sk = key' then (if sigCB c.sk c.se c.ss D = true then .nilIface else E0) else E2) else E) ∧ Below w.heap.size w w' := by
  have HRt : Hid (∀ V, V.cell? ⟨1, 0, none⟩ = some E → Calls Tryz.prog 94 #[c.box v D nv] V fun e w' => e = .returned (if (decide (D.size ≠ 0) && sigRB c.sk c.se c.ss) = true then .nilIface else E) ∧ Below V.heap.size V w') := fun V hV => rightCrl c v nv D E V hV
  have hEl := World.block_lt_of_cell? w _ hE
  have hEl0 := World.block_lt_of_cell? w _ hE0
  have hEl2 := World.block_lt_of_cell? w _ hE2
  have hkp := hw.pos
  have HKy : Hid (∀ V, Below w.heap.size w V → Keys V) := fun V hV => hw.below hV hkp
  have HE : Hid (∀ V, Below w.heap.size w V → V.cell? ⟨1, 0, none⟩ = some E ∧ V.cell? ⟨0, 0, none⟩ = some E0 ∧ V.cell? ⟨2, 0, none⟩ = some E2) := fun V hV => ⟨by rw [hV.cell hEl]; exact hE, by rw [hV.cell hEl0]; exact hE0, by rw [hV.cell hEl2]; exact hE2⟩
  have HCk : Hid (∀ V, Keys V → Calls Tryz.prog 67 #[.agg #[.int .i64 c.sk, .int .i64 c.se, .int .i64 c.ss], .string D] V fun r w' => r = .returned (.bool (sigCB c.sk c.se c.ss D)) ∧ Below V.heap.size V w') := fun V hV => implSigCheck c.sk c.se c.ss D V (by unfold maxLen; omega) hV
  obtain ⟨P, hP⟩ : ∃ P, P = (decide (D.size ≠ 0) && sigRB c.sk c.se c.ss) := ⟨_, rfl⟩
  rw [← hP] at HRt ⊢
  obtain ⟨Q, hQ⟩ : ∃ Q, Q = sigCB c.sk c.se c.ss D := ⟨_, rfl⟩
  rw [← hQ] at HCk ⊢
  obtain ⟨R, hR⟩ : ∃ R : Value, R = if P = true then (if c.sk = key' then (if Q = true then .nilIface else E0) else E2) else E := ⟨_, rfl⟩
  rw [← hR]
  have HR : Hid (R = if P = true then (if c.sk = key' then (if Q = true then .nilIface else E0) else E2) else E) := hR
  clear hP hQ hE hE0 hE2 hEl hEl0 hEl2 hw hkp hR
  obtain ⟨iss, fr, till, serials, sk, se, ss⟩ := c
  unfold Lst.box at *
  simp only at HRt HCk HR ⊢
  obtain ⟨w1, hw1⟩ : ∃ w1, w1 = w.alloc (.cells #[.string iss, .int .i64 fr, .int .i64 till, v, .int .i64 sk, .int .i64 se, .int .i64 ss, .string D, .int .i64 sk, .int .i64 se, .int .i64 ss, nv] 102 (0, 0)) := ⟨_, rfl⟩
  have r0 : w1.heap[w.heap.size]? = some (.cells [Value.string iss, .int .i64 fr, .int .i64 till, v, .int .i64 sk, .int .i64 se, .int .i64 ss, .string D, .int .i64 sk, .int .i64 se, .int .i64 ss, nv].toArray 102 (0, 0)) := by rw [hw1]; exact heap_alloc_new w _
  have B1 : Hid (Below w.heap.size w w1) := by rw [hw1]; exact (Below.refl _ _).alloc (Nat.le_refl _) _
  have z1 : w.heap.size < w1.heap.size := by rw [hw1]; simp
  have HK : Hid (∀ V, Below w1.heap.size w1 V → V.cell? ⟨w.heap.size, 0, none⟩ = some (.string iss) ∧ V.cell? ⟨w.heap.size, 1, none⟩ = some (.int .i64 fr) ∧ V.cell? ⟨w.heap.size, 2, none⟩ = some (.int .i64 till) ∧ V.cell? ⟨w.heap.size, 3, none⟩ = some (v) ∧ V.cell? ⟨w.heap.size, 4, none⟩ = some (.int .i64 sk) ∧ V.cell? ⟨w.heap.size, 5, none⟩ = some (.int .i64 se) ∧ V.cell? ⟨w.heap.size, 6, none⟩ = some (.int .i64 ss) ∧ V.cell? ⟨w.heap.size, 7, none⟩ = some (.string D) ∧ V.cell? ⟨w.heap.size, 8, none⟩ = some (.int .i64 sk) ∧ V.cell? ⟨w.heap.size, 9, none⟩ = some (.int .i64 se) ∧ V.cell? ⟨w.heap.size, 10, none⟩ = some (.int .i64 ss) ∧ V.cell? ⟨w.heap.size, 11, none⟩ = some (nv)) := fun V hV => by
    have hP := (hV.block _ z1).trans r0
    exact ⟨rowFacts hP 0 _ rfl, rowFacts hP 1 _ rfl, rowFacts hP 2 _ rfl, rowFacts hP 3 _ rfl, rowFacts hP 4 _ rfl, rowFacts hP 5 _ rfl, rowFacts hP 6 _ rfl, rowFacts hP 7 _ rfl, rowFacts hP 8 _ rfl, rowFacts hP 9 _ rfl, rowFacts hP 10 _ rfl, rowFacts hP 11 _ rfl⟩
  have HB : Hid (∀ V, Below w1.heap.size w1 V → Below w.heap.size w V) := fun V hV => B1.out.trans (hV.mono B1.out.size)
  have I1 : Hid (Below w1.heap.size w1 w1) := Below.refl _ _
  have D1 : Hid (Below w1.heap.size w1 w1.drew) := I1.out.drew
  clear r0 z1 B1
  obtain ⟨c0, c1, c2, c3, c4, c5, c6, c7, c8, c9, c10, c11⟩ := HK.out w1 I1.out
  go_enter Tryz.func98, Tryz.ntmps98
  go_upto_region 1 with fail
  rw [← hw1]
  clear hw1
  go_wp2_with fail
  refine (HRt.out _ (HE.out _ (HB.out _ I1.out)).1).mono ?_
  rintro r w2 ⟨rfl, b2⟩
  have K2 : Hid (Below w1.heap.size w1 w2) := b2
  clear b2 c0 c1 c2 c3 c4 c5 c6 c7 c8 c9 c10 c11
  obtain ⟨c0, c1, c2, c3, c4, c5, c6, c7, c8, c9, c10, c11⟩ := HK.out w2 K2.out
  obtain ⟨e1, e0, e2⟩ := HE.out _ (HB.out _ K2.out)
  cases P with
  | false =>
    have HF : Hid (R = E) := HR.out
    rw [qE] at e1 HF ⊢
    go_wp2
    go_ret
    exact ⟨by rw [HF.out]; rfl, HB.out _ K2.out⟩
  | true =>
  by_cases hk : sk = key'
  rotate_left
  · have HF : Hid (R = E2) := by show _ = _; rw [HR.out, if_neg hk]; rfl
    go_wp2
    go_ret
    exact ⟨by rw [HF.out]; rfl, HB.out _ K2.out⟩
  subst hk
  go_wp2_with fail
  refine (HCk.out _ (HKy.out _ (HB.out _ K2.out))).mono ?_
  rintro r w3 ⟨rfl, b3⟩
  have K3 : Hid (Below w1.heap.size w1 w3) := K2.out.trans (b3.mono K2.out.size)
  clear b3 c0 c1 c2 c3 c4 c5 c6 c7 c8 c9 c10 c11 e1 e0 e2
  obtain ⟨e1, e0, e2⟩ := HE.out _ (HB.out _ K3.out)
  cases Q with
  | false =>
    have HF : Hid (R = E0) := by show _ = _; rw [HR.out]; simp
    go_wp2
    go_ret
    exact ⟨by rw [HF.out]; rfl, HB.out _ K3.out⟩
  | true =>
    have HF : Hid (R = .nilIface) := by show _ = _; rw [HR.out]; simp
    go_wp2
    go_ret
    exact ⟨by rw [HF.out]; rfl, HB.out _ K3.out⟩
end Go.Proofs.YtkhdjmjbdpmdnaaGreatDoor
