/- impl.CsrSign, walked. laws.markText, walked. What marks a row of texts, and what looks for the marks: laws.markStringS, heldStringS, walked. A row of texts that bears the marks. laws.markCsr, heldCert, walked. laws.eqStringS, walked. laws.eqSig, walked: of a Sig and itself. laws.eqCsr, walked: of one and itself. -/
import Derived.Test.YthofeoelndplpaaGreatDoorASg05
import Derived.Test.YthofeoelndplpaaGreatDoorASg15
import Derived.Test.YthofeoelndplpaaGreatDoorASg09
import Derived.Test.YthofeoelndplpaaGreatDoorASg14
import Derived.Test.YthofeoelndplpaaGreatDoorASg11
import Derived.Handy
import Derived.Deep.RegionHeld3
import Derived.Test.YthofeoelndplpaaGreatDoorASg03
import Derived.Test.YthofeoelndplpaaGreatDoorASg01
import Derived.Test.YthofeoelndplpaaGreatDoorASg08
import Derived.Deep.Cut
namespace Go.Proofs.YthofeoelndplpaaGreatDoor
open Go.RowKit

set_option linter.unusedSimpArgs false in
set_option maxHeartbeats 4000000 in
set_option maxRecDepth 100000 in
theorem implSignA (x : Int) (ns : List ByteArray) (a : Option Addr) (cap : Nat) (k e s : Int) (w : World) (hl : ns.length ≤ 1048576) (ht : totS ns ns.length ≤ 1048576) (ha : IsStrs w a ns) (hw : Keys w) (hE : Err1 w)
    (hv : askOk x ns = true → signV x (askD (askO x ns)) = .agg #[.int .i64 k, .int .i64 e, .int .i64 s]) :
    Calls Tryz.prog 10 #[.int .i64 x, .slice a ns.length cap] w fun r w' => ∃ v, r = .returned ((signA x ns k e s).val v) ∧ OwnS w' w.heap.size v (signA x ns k e s).names ∧ Below w.heap.size w w' := by
  have HBx : Hid (∀ V, IsStrs V a ns → Calls Tryz.prog 34 #[(askO x ns).val (.slice a ns.length cap)] V fun e w' => ∃ g, e = .returned ((askO x ns).box (.slice a ns.length cap) (askE (askO x ns)) (.slice (some ⟨g, 0, none⟩) 2 2)) ∧ Row2 0 0 w' g ∧ Below V.heap.size V w') := fun V hV => boxCsr (askO x ns) a cap V hl ht hV
  have HCp : Hid (∀ V, IsStrs V a ns → Calls Tryz.prog 37 #[.slice a ns.length cap] V fun e w' => ∃ v, e = .returned v ∧ OwnS w' V.heap.size v ns ∧ Below V.heap.size V w') := fun V hV => copyTexts a ns cap V hl ht hV
  obtain ⟨b1, h1⟩ := hE
  have hkp := hw.pos
  have zE := askE_size (askO x ns)
  have HSn : Hid (∀ V v nv, Below w.heap.size w V → Calls Tryz.prog 36 #[(askO x ns).box v (askE (askO x ns)) nv, .int .i64 x] V fun r w' => (∃ t p, (askOk x ns = false ∧ r = .returned (.tuple #[.agg #[.int .i64 0, .int .i64 0, .int .i64 0], .iface t p])) ∨ (askOk x ns = true ∧ k = pubA x ∧ r = .returned (.tuple #[.agg #[.int .i64 k, .int .i64 e, .int .i64 s], .nilIface]))) ∧ Below V.heap.size V w') := fun V v nv hV => by
    obtain ⟨k', e', s', hks⟩ := signV_is4 x (askE (askO x ns))
    refine (signCsr (askO x ns) v nv (askE (askO x ns)) x k' e' s' _ V (by omega) (hw.below hV hkp) (h1.keep hV).1 hks).mono ?_
    rintro r w' ⟨rfl, hb⟩
    refine ⟨?_, hb⟩
    rw [askE_ne]
    cases e2 : secB x with
    | false =>
      rw [Bool.and_false]
      exact ⟨_, _, .inl ⟨by unfold askOk; rw [e2]; rfl, rfl⟩⟩
    | true =>
      rw [askOk_ask e2, Bool.and_true]
      cases e1 : (namesB ns && decide (0 < ns.length)) with
      | false => exact ⟨_, _, .inl ⟨by unfold askOk; rw [e2, Bool.true_and]; exact e1, rfl⟩⟩
      | true =>
        have hok : askOk x ns = true := by unfold askOk; rw [e2, Bool.true_and]; exact e1
        have hB : askB (askO x ns) = true := by rw [askOk_ask e2]; exact e1
        have hD : askE (askO x ns) = askD (askO x ns) := if_pos hB
        have hkk := signV_key e2 (by have := askD_le hB; omega) (hv hok)
        rw [hD, hv hok] at hks
        simp only [Value.agg.injEq, Array.mk.injEq, List.cons.injEq, Value.int.injEq, true_and, and_true] at hks
        obtain ⟨rfl, rfl, rfl⟩ := hks
        exact ⟨0, .nilIface, .inr ⟨hok, hkk, rfl⟩⟩
  have HY : Hid (askOk x ns = true → signA x ns k e s = ⟨pubA x, ns, k, e, s⟩) := fun h => signA_yes h k e s
  have HNo : Hid (askOk x ns = false → signA x ns k e s = zeroA) := fun h => signA_no h k e s
  have HPu : Hid (∀ V, Calls Tryz.prog 35 #[.int .i64 x] V fun e w' => e = .returned (.int .i64 (pubA x)) ∧ Below V.heap.size V w') := fun V => implPublic x V
  generalize signA x ns k e s = R at *
  generalize askOk x ns = P at *
  generalize askE (askO x ns) = D at *
  unfold askO Ask.val Ask.box at HBx
  unfold askO Ask.box at HSn
  simp only at HBx HSn
  generalize hpk : pubA x = pk at *
  have HA : Hid (∀ V, Below w.heap.size w V → IsStrs V a ns) := fun V hV => ha.keep hV
  clear hv hw h1 hkp zE hl ht ha hpk
  obtain ⟨nl, hnl⟩ : ∃ nl, nl = ns.length := ⟨_, rfl⟩
  rw [← hnl] at HBx HCp ⊢
  have HNl : Hid (nl = ns.length) := hnl
  clear hnl
  obtain ⟨w1, hw1⟩ : ∃ w1, w1 = w.alloc (.cells #[.int .i64 0, .slice none 0 0, .int .i64 0, .int .i64 0, .int .i64 0] 27 (0, 0)) := ⟨_, rfl⟩
  have r1 : w1.heap[w.heap.size]? = some (.cells [Value.int .i64 0, .slice none 0 0, .int .i64 0, .int .i64 0, .int .i64 0].toArray 27 (0, 0)) := by rw [hw1]; exact heap_alloc_new w _
  have B1 : Hid (Below w.heap.size w w1) := by rw [hw1]; exact (Below.refl _ _).alloc (Nat.le_refl _) _
  have HRw : Hid (∀ V, Below w1.heap.size w1 V → V.heap[w.heap.size]? = some (.cells [Value.int .i64 0, .slice none 0 0, .int .i64 0, .int .i64 0, .int .i64 0].toArray 27 (0, 0))) := fun V hV => (hV.block _ (heap_lt r1)).trans r1
  have HB : Hid (∀ V, Below w1.heap.size w1 V → Below w.heap.size w V) := fun V hV => B1.out.trans (hV.mono B1.out.size)
  have Z1 : Hid (w1.heap.size = w.heap.size + 1) := by show _ = _; rw [hw1]; simp
  have I1 : Hid (Below w1.heap.size w1 w1) := Below.refl _ _
  clear r1 B1
  go_enter Tryz.func10, Tryz.ntmps10
  go_upto_region 1 with fail
  rw [← hw1]
  clear hw1
  go_wp2_with fail
  refine (HPu.out _).mono ?_
  rintro r w2 ⟨rfl, b2⟩
  have K2 : Hid (Below w1.heap.size w1 w2) := b2
  clear b2 HPu
  go_wp2_with fail
  refine (HBx.out _ (HA.out _ (HB.out _ K2.out))).mono ?_
  rintro r w3 ⟨g, rfl, r3, b3⟩
  have K3 : Hid (Below w1.heap.size w1 w3) := K2.out.trans (b3.mono K2.out.size)
  clear b3 r3 K2 HBx
  obtain ⟨w4, hw4⟩ : ∃ y, y = w3.alloc (.cells #[.int .i64 pk, .slice a nl cap, .int .i64 0, .int .i64 0, .int .i64 0, .string D, .int .i64 0, .int .i64 0, .int .i64 0, .slice (some ⟨g, 0, none⟩) 2 2] 58 (0, 0)) := ⟨_, rfl⟩
  have r4 : w4.heap[w3.heap.size]? = some (.cells [Value.int .i64 pk, .slice a nl cap, .int .i64 0, .int .i64 0, .int .i64 0, .string D, .int .i64 0, .int .i64 0, .int .i64 0, .slice (some ⟨g, 0, none⟩) 2 2].toArray 58 (0, 0)) := by rw [hw4]; exact heap_alloc_new w3 _
  have K4 : Hid (Below w1.heap.size w1 w4) := by rw [hw4]; exact K3.out.alloc K3.out.size _
  have d0 := rowFacts r4 0 _ rfl
  have d1 := rowFacts r4 1 _ rfl
  have d2 := rowFacts r4 2 _ rfl
  have d3 := rowFacts r4 3 _ rfl
  have d4 := rowFacts r4 4 _ rfl
  have d5 := rowFacts r4 5 _ rfl
  have d6 := rowFacts r4 6 _ rfl
  have d7 := rowFacts r4 7 _ rfl
  have d8 := rowFacts r4 8 _ rfl
  have d9 := rowFacts r4 9 _ rfl
  clear r4 K3
  go_upto_region 2 with fail
  rw [← hw4]
  clear hw4
  go_wp2_with fail
  refine (HSn.out _ _ _ (HB.out _ K4.out)).mono ?_
  rintro r w5 ⟨⟨t5, p5, h5⟩, b5⟩
  have K5 : Hid (Below w1.heap.size w1 w5) := K4.out.trans (b5.mono K4.out.size)
  clear b5 HSn d0 d1 d2 d3 d4 d5 d6 d7 d8 d9 K4
  rcases h5 with ⟨hP, rfl⟩ | ⟨hP, hk, rfl⟩
  · have HF : Hid (R = zeroA) := HNo.out hP
    obtain ⟨w6, hw6⟩ : ∃ y, y = w5.alloc (.cells #[.int .i64 0, .int .i64 0, .int .i64 0] 25 (0, 0)) := ⟨_, rfl⟩
    have K6 : Hid (Below w1.heap.size w1 w6) := by rw [hw6]; exact K5.out.alloc K5.out.size _
    go_upto_region 4 with fail
    rw [← hw6]
    clear hw6
    have hR := HRw.out _ K6.out
    have h1 : ∀ v ∈ [Value.int .i64 0, .slice none 0 0, .int .i64 0, .int .i64 0, .int .i64 0], v.oneCell' = true := by simp [Value.oneCell']
    go_wp2_with (refine wpList_store_row rfl 27 _ _ rfl (w.heap.size) _ [Value.int .i64 0, .slice none 0 0, .int .i64 0, .int .i64 0, .int .i64 0] 27 rfl rfl hR rfl sizeCsr h1 ?_)
    intro w8 hrow ho hs8 hbb
    have HROW : Hid _ := hrow
    have HB8 : Hid (Below w.heap.size w w8) := hbb _ _ (by omega) (HB.out _ K6.out)
    clear ho hs8 hbb hrow hR h1
    go_wp2
    refine bodyPost_ret (v := .agg [Value.int .i64 0, .slice none 0 0, .int .i64 0, .int .i64 0, .int .i64 0].toArray) ?_ rfl ⟨.slice none 0 0, by rw [HF.out]; rfl, by rw [HF.out]; exact ownS_nil _ _, HB8.out⟩
    have hl3 := run_loadVar_mid (P := Tryz.prog) _ (w.heap.size) 0 27 _ _ (rangeRow HROW.out) Tryz.underlying27 rfl sizeCsr
    simp [results, Tryz.results10, asAddr, hl3]
  · subst hk
    have HF : Hid (R = ⟨k, ns, k, e, s⟩) := HY.out hP
    clear HY HNo hP
    obtain ⟨w6, hw6⟩ : ∃ y, y = w5.alloc (.cells #[.int .i64 k, .int .i64 e, .int .i64 s] 25 (0, 0)) := ⟨_, rfl⟩
    have q6 : w6.heap[w5.heap.size]? = some (.cells [Value.int .i64 k, .int .i64 e, .int .i64 s].toArray 25 (0, 0)) := by rw [hw6]; exact heap_alloc_new w5 _
    have K6 : Hid (Below w1.heap.size w1 w6) := by rw [hw6]; exact K5.out.alloc K5.out.size _
    have Q6 : Hid _ := q6
    have y0 := rowFacts q6 0 _ rfl
    have y1 := rowFacts q6 1 _ rfl
    have y2 := rowFacts q6 2 _ rfl
    clear q6
    go_upto_region 5 with fail
    rw [← hw6]
    clear hw6
    have HK6 : Hid (∀ V, Below w6.heap.size w6 V → V.cell? ⟨w5.heap.size, 0, none⟩ = some (.int .i64 k) ∧ V.cell? ⟨w5.heap.size, 1, none⟩ = some (.int .i64 e) ∧ V.cell? ⟨w5.heap.size, 2, none⟩ = some (.int .i64 s)) := fun V hV => by
      have hP := (hV.block _ (heap_lt Q6.out)).trans Q6.out
      exact ⟨rowFacts hP 0 _ rfl, rowFacts hP 1 _ rfl, rowFacts hP 2 _ rfl⟩
    have D6 : Hid (Below w6.heap.size w6 w6.drew) := (Below.refl _ _ : Below w6.heap.size w6 w6).drew
    have HQ : Hid (∀ V, Below w6.heap.size w6 V → Below w1.heap.size w1 V) := fun V hV => K6.out.trans (hV.mono K6.out.size)
    refine wp_region_held_drew (S := fun V => V.cell? ⟨w5.heap.size, 0, none⟩ = some (.int .i64 k) ∧ V.cell? ⟨w5.heap.size, 1, none⟩ = some (.int .i64 e) ∧ V.cell? ⟨w5.heap.size, 2, none⟩ = some (.int .i64 s)) (by kernel_rfl) ?_ (fun hHeld => ?_)
    · exact HK6.out _ D6.out
    refine wpAnyH_take (i := 0) (oi := ⟨some 22, _, _, _, _, _⟩) (v := ?_) rfl (by kernel_rfl) (by kernel_rfl) (by kernel_rfl) (fun _ _ _ h => h) (Or.inl ⟨by kernel_rfl, ?_⟩) (by assumption) ?_
    rotate_left
    · (intro w hSw; (try dsimp only at hSw); go_simp; try with_reducible rfl)
    (try simp only [Act.put, List.setIfInBounds_toArray, List.set_cons_zero, List.set_cons_succ])
    refine wpAnyH_take (i := 1) (oi := ⟨some 23, _, _, _, _, _⟩) (v := ?_) rfl (by kernel_rfl) (by kernel_rfl) (by kernel_rfl) (fun _ _ _ h => h) (Or.inl ⟨by kernel_rfl, ?_⟩) (by assumption) ?_
    rotate_left
    · (intro w hSw; (try dsimp only at hSw); go_simp; try with_reducible rfl)
    (try simp only [Act.put, List.setIfInBounds_toArray, List.set_cons_zero, List.set_cons_succ])
    refine wpAnyH_take (i := 2) (oi := ⟨some 24, _, _, _, _, _⟩) (v := ?_) rfl (by kernel_rfl) (by kernel_rfl) (by kernel_rfl) (fun _ _ _ h => h) (Or.inl ⟨by kernel_rfl, ?_⟩) (by assumption) ?_
    rotate_left
    · (intro w hSw; (try dsimp only at hSw); go_simp; try with_reducible rfl)
    (try simp only [Act.put, List.setIfInBounds_toArray, List.set_cons_zero, List.set_cons_succ])
    refine wpAnyH_take (i := 4) (oi := ⟨some 26, _, _, _, _, _⟩) (v := ?_) rfl (by kernel_rfl) (by kernel_rfl) (by kernel_rfl) (fun _ _ _ h => h) (Or.inl ⟨by kernel_rfl, ?_⟩) (by assumption) ?_
    rotate_left
    · (intro w hSw; (try dsimp only at hSw); go_simp; try with_reducible rfl)
    (try simp only [Act.put, List.setIfInBounds_toArray, List.set_cons_zero, List.set_cons_succ])
    refine wpAnyH_ready (rs := [3]) (by kernel_rfl) (by simp) ?_
    refine AllReadyH.cons (o := ⟨some 25, _, _, _, _, _⟩) rfl (fun K hK => ?_) AllReadyH.nil
    go_simp
    refine (HCp.out _ (HA.out _ (HB.out _ (HQ.out _ D6.out)))).mono ?_
    rintro r V1 ⟨v, rfl, o1, bV⟩
    have J1 : Hid (Below w6.heap.size w6 V1) := D6.out.trans (bV.mono D6.out.size)
    refine hK.out _ _ ?_ (fun hHeld => ?_)
    · exact HK6.out _ J1.out
    clear hK K bV
    (try simp only [Act.put, List.setIfInBounds_toArray, List.set_cons_zero, List.set_cons_succ])
    obtain ⟨va, vc, hv', _⟩ := OwnS.form o1
    rw [← HNl.out] at hv'
    subst hv'
    have z6 : w.heap.size + 1 ≤ w6.heap.size := by have := K6.out.size; have := Z1.out; omega
    have O1 : Hid (OwnS V1 (w.heap.size + 1) (.slice va nl vc) ns) := o1.mono z6
    clear o1 z6
    refine wpAnyH_take (i := 5) (oi := ⟨some 27, _, _, _, _, _⟩) (v := ?_) rfl (by kernel_rfl) (by kernel_rfl) (by kernel_rfl) (fun _ _ _ h => h) (Or.inl ⟨by kernel_rfl, ?_⟩) (by assumption) ?_
    rotate_left
    · (intro w hSw; (try dsimp only at hSw); go_simp; try with_reducible rfl)
    (try simp only [Act.put, List.setIfInBounds_toArray, List.set_cons_zero, List.set_cons_succ])
    refine wpAnyH_ready (rs := [6]) (by kernel_rfl) (by simp) ?_
    refine AllReadyH.cons (o := ⟨none, _, _, _, _, _⟩) rfl (fun K hK => ?_) AllReadyH.nil
    rw [if_pos (by rfl)]
    refine wp_store_row 27 _ _ rfl (w.heap.size) [Value.int .i64 0, .slice none 0 0, .int .i64 0, .int .i64 0, .int .i64 0] [Value.int .i64 k, .slice va nl vc, .int .i64 k, .int .i64 e, .int .i64 s] 27 rfl rfl (HRw.out _ (HQ.out _ J1.out)) rfl sizeCsr (by simp [Value.oneCell']) ?_
    intro w8 hrow ho hs8 hbb
    have HROW : Hid _ := hrow
    have HB8 : Hid (Below w.heap.size w w8) := hbb _ _ (by omega) (HB.out _ (HQ.out _ J1.out))
    have O8 : Hid (OwnS w8 (w.heap.size + 1) (.slice va nl vc) ns) := O1.out.same fun b h1 h2 => ho b (by omega)
    have hne : w5.heap.size ≠ w.heap.size := by have := K5.out.size; have := Z1.out; omega
    refine hK.out _ _ ?_ (fun hHeld => ?_)
    · have hP := (ho _ hne).trans ((J1.out.block _ (heap_lt Q6.out)).trans Q6.out)
      exact ⟨rowFacts hP 0 _ rfl, rowFacts hP 1 _ rfl, rowFacts hP 2 _ rfl⟩
    clear hK K ho hs8 hbb hrow
    (try simp only [Act.put, List.setIfInBounds_toArray, List.set_cons_zero, List.set_cons_succ])
    refine wpAnyH_done (by kernel_rfl) ?_ _
    go_wp2
    refine bodyPost_ret (v := .agg [Value.int .i64 k, .slice va nl vc, .int .i64 k, .int .i64 e, .int .i64 s].toArray) ?_ rfl ⟨.slice va nl vc, by rw [HF.out]; rfl, by rw [HF.out]; exact O8.out.mono (by omega), HB8.out⟩
    have hl3 := run_loadVar_mid (P := Tryz.prog) _ (w.heap.size) 0 27 _ _ (rangeRow HROW.out) Tryz.underlying27 rfl sizeCsr
    simp [results, Tryz.results10, asAddr, hl3]
end Go.Proofs.YthofeoelndplpaaGreatDoor
namespace Go.Proofs.YthofeoelndplpaaGreatDoor
open Go.RowKit

/-- A number's digits of ten. -/
def digK : Nat → Nat → List Int
  | 0, _ => []
  | f + 1, k => if k = 0 then [] else digK f (k / 10) ++ [((k % 10 + 48 : Nat) : Int)]
def mkT (k : Nat) : ByteArray := ⟨#[109]⟩ ++ strOfNums (digK 7 k)
theorem digK_zero (f : Nat) : digK f 0 = [] := by cases f <;> simp [digK]
theorem digK_more {f k : Nat} (h : k ≠ 0) (hf : k < 10 ^ f) : ∃ g, f = g + 1 ∧ k / 10 < 10 ^ g ∧ digK f k = digK g (k / 10) ++ [((k % 10 + 48 : Nat) : Int)] := by
  cases f with
  | zero => simp at hf; omega
  | succ g => exact ⟨g, rfl, by rw [Nat.pow_succ] at hf; omega, by rw [digK, if_neg h]⟩
theorem strCons (x : Int) (l : List Int) : strOfNums [x] ++ strOfNums l = strOfNums (x :: l) := by
  rw [strOfNums, strOfNums, strOfNums, ByteArray.mk_append_mk]; rfl
set_option maxHeartbeats 1000000 in
set_option maxRecDepth 100000 in
theorem markText (k : Nat) (w : World) (h0 : 1 ≤ k) (hk : k < 10000000) :
    Calls Tryz.prog 39 #[.int .i64 (k : Int)] w fun e w' => e = .returned (.string (mkT k)) ∧ Below w.heap.size w w' := by
  go_enter Tryz.func39, Tryz.ntmps39
  go_wp2_with fail
  go_loopw [0, 3] (fun q t wr => ∃ (j f : Nat) (tl : List Int), q = .int .i64 (j : Int) ∧ j < 10 ^ f ∧ j < 10000000 ∧ f + tl.length ≤ 7 ∧ t = .string (strOfNums tl) ∧ digK f j ++ tl = digK 7 k ∧ Below w.heap.size w wr ∧ w.heap.size ≤ wr.heap.size)
    (fun q _ _ => (intOf q).toNat)
  case atStart => exact ⟨k, 7, [], rfl, by omega, hk, by simp, rfl, by simp, Below.refl _ _, Nat.le_refl _⟩
  case round =>
    obtain ⟨j, f, tl, rfl, hf, hj, hlen, rfl, heq, hbel, hsz⟩ := hrel
    have HE : Hid (digK f j ++ tl = digK 7 k) := heq
    have HF : Hid (j < 10 ^ f) := hf
    have hts : (strOfNums tl).size ≤ 7 := by rw [strOfNums_size]; omega
    clear heq hf
    by_cases h0 : j = 0
    · have HS : Hid (mkT k = ⟨#[109]⟩ ++ strOfNums tl) := by
        show _ = _
        rw [mkT, ← HE.out, h0, digK_zero]; rfl
      subst h0
      generalize strOfNums tl = u at *
      go_wp2_with fail
      go_ret
      exact ⟨by rw [HS.out]; rfl, hbel⟩
    · have HN : Hid (j ≠ 0) := h0
      have hp : 0 < j := by omega
      have hcv := fun V => convertRow (V.alloc (.cells #[.int .u8 (48 + (j : Int) % 10)] 5 (0, 0))) V.heap.size [48 + (j : Int) % 10] 5 1 1 rfl (heap_alloc_new V _)
      have HC : Hid (strOfNums [48 + (j : Int) % 10] ++ strOfNums tl = strOfNums (((j % 10 + 48 : Nat) : Int) :: tl)) := by
        show _ = _
        rw [strCons, show (48 + (j : Int) % 10) = ((j % 10 + 48 : Nat) : Int) from by omega]
      have h1s : (strOfNums [48 + (j : Int) % 10]).size = 1 := rfl
      have HBA : Hid (∀ o, Below w.heap.size w (wr.alloc o)) := fun o => hbel.alloc hsz o
      clear h0 hbel
      generalize strOfNums [48 + (j : Int) % 10] = s1 at *
      generalize strOfNums tl = u at *
      go_wp2_with fail
      go_roundw
      case rel =>
        obtain ⟨f', rfl, hf', he⟩ := digK_more HN.out HF.out
        refine ⟨j / 10, f', ((j % 10 + 48 : Nat) : Int) :: tl, by simp, hf', by omega, by simp; omega, by rw [HC.out], ?_, HBA.out _, by simp; omega⟩
        rw [← HE.out, he]; simp
      case measure => simp [intOf]; omega
/-- The marks from k on in a row of n things. -/
def MarksT (k n : Nat) (M : List Value) : Prop := ∀ i, i < n → M[i * 2]? = some (.int .i64 ((k + 2 * i : Nat) : Int)) ∧ M[i * 2 + 1]? = some (.string (mkT (k + 2 * i + 1)))
end Go.Proofs.YthofeoelndplpaaGreatDoor
namespace Go.Proofs.YthofeoelndplpaaGreatDoor
open Go.RowKit

def MarksS (k n : Nat) (M : List Value) : Prop := ∀ i, i < n → M[i]? = some (.string (mkT (k + i)))
set_option maxHeartbeats 2000000 in
set_option maxRecDepth 100000 in
theorem markStrs (g n c k : Nat) (L : List Value) (w : World) (hn : n ≤ 1048576) (hk0 : 1 ≤ k) (hk : k ≤ 1048577) (hL : n ≤ L.length) (hg : w.heap[g]? = some (.cells L.toArray 9 (0, 0))) :
    Calls Tryz.prog 13 #[.slice (some ⟨g, 0, none⟩) n c, .int .i64 (k : Int)] w fun e w' => e = .returned (.int .i64 ((k + n : Nat) : Int)) ∧ (∃ M, w'.heap[g]? = some (.cells M.toArray 9 (0, 0)) ∧ MarksS k n M) ∧
      (∀ b, b ≠ g → b < w.heap.size → w'.heap[b]? = w.heap[b]?) ∧ w.heap.size ≤ w'.heap.size ∧ ∀ B w0, B ≤ g → B ≤ w.heap.size → Below B w0 w → Below B w0 w' := by
  go_enter Tryz.func13, Tryz.ntmps13
  go_wp2_with fail
  go_loopw [1, 5] (fun q i wr => ∃ (j : Nat) (M : List Value), j ≤ n ∧ q = .int .i64 ((k + j : Nat) : Int) ∧ i = .int .i64 (j : Int) ∧ n ≤ M.length ∧ wr.heap[g]? = some (.cells M.toArray 9 (0, 0)) ∧ MarksS k j M ∧
      (∀ b, b ≠ g → b < w.heap.size → wr.heap[b]? = w.heap[b]?) ∧ w.heap.size ≤ wr.heap.size ∧ ∀ B w0, B ≤ g → B ≤ w.heap.size → Below B w0 w → Below B w0 wr)
    (fun _ i _ => n - (intOf i).toNat)
  case atStart => exact ⟨0, L, Nat.zero_le _, by simp, rfl, hL, hg, fun i hi => by omega, fun _ _ _ => rfl, Nat.le_refl _, fun _ _ _ _ h => h⟩
  case round =>
    clear hg hL
    obtain ⟨j, M, hj, rfl, rfl, hM, hgr, hc, ho, hsz, hbl⟩ := hrel
    by_cases hlt : j < n
    · obtain ⟨q, hq⟩ : ∃ q, q = k + j := ⟨_, rfl⟩
      rw [← hq]
      have hq1 : 1 ≤ q := by omega
      have hq2 : q ≤ 2100000 := by omega
      have HMk : Hid (∀ V : World, Calls Tryz.prog 39 #[.int .i64 (q : Int)] V fun e w' => e = .returned (.string (mkT q)) ∧ Below V.heap.size V w') := fun V => markText q V hq1 (by omega)
      have HC : Hid (MarksS k (j + 1) (M.set j (.string (mkT q)))) := fun i hi => by
        by_cases e : i = j
        · subst e
          rw [List.getElem?_set_self (by omega), hq]
        · rw [List.getElem?_set_ne (by omega)]
          exact hc i (by omega)
      have HLn : Hid (∀ v, n ≤ (M.set j v).length) := fun v => by simpa using hM
      have HOt : Hid (∀ b, b ≠ g → b < w.heap.size → wr.heap[b]? = w.heap[b]?) := ho
      have HBl : Hid (∀ B w0, B ≤ g → B ≤ w.heap.size → Below B w0 w → Below B w0 wr) := hbl
      have hgl : g < wr.heap.size := heap_lt hgr
      have HQ : Hid (q = k + j) := hq
      have HML : Hid (j < M.length) := by show _ < _; omega
      have HGr : Hid (wr.heap[g]? = some (.cells M.toArray 9 (0, 0))) := hgr
      have a0 : (0 : Int) ≤ (j : Int) := by omega
      have b0 : (j : Int) < (n : Int) := by omega
      clear hc ho hgr hM hbl hq
      generalize mkT q = u at *
      go_wp2_with fail
      refine (HMk.out _).mono ?_
      rintro e w1 ⟨rfl, hb1⟩
      have hs1 := hb1.size
      have hr1 : w1.heap[g]? = some (.cells M.toArray 9 (0, 0)) := by rw [hb1.block g hgl]; exact HGr.out
      have d1 := rowFacts hr1 j _ (List.getElem?_eq_getElem HML.out)
      have z1 := rowFree hr1 j
      generalize M[j]'HML.out = v1 at d1
      have HR1 : Hid (∀ v, (w1.setCell ⟨g, j, none⟩ v).heap[g]? = some (.cells (M.set j v).toArray 9 (0, 0))) := fun v => rowSet v hr1
      have HO1 : Hid (∀ v b, b ≠ g → b < w.heap.size → (w1.setCell ⟨g, j, none⟩ v).heap[b]? = w.heap[b]?) := fun v b hb hl => by
        rw [heap_setCell_other _ _ _ _ hb, hb1.block b (by omega)]
        exact HOt.out b hb hl
      have HB1 : Hid (∀ v B w0, B ≤ g → B ≤ w.heap.size → Below B w0 w → Below B w0 (w1.setCell ⟨g, j, none⟩ v)) := fun v B w0 h1 h2 h3 =>
        ((HBl.out B w0 h1 h2 h3).trans (hb1.mono (by omega))).setCell h1 v
      clear hb1 hr1 HMk HOt HBl
      go_wp2_with fail
      go_roundw
      case rel => exact ⟨j + 1, _, by omega, by have := HQ.out; go_num, by go_num, HLn.out _, HR1.out _, HC.out, HO1.out _, by simp; omega, HB1.out _⟩
      case measure => simp [intOf]; omega
    · obtain rfl : j = n := by omega
      have HC : Hid (∃ M : List Value, wr.heap[g]? = some (.cells M.toArray 9 (0, 0)) ∧ MarksS k j M) := ⟨M, hgr, hc⟩
      have HOt : Hid (∀ b, b ≠ g → b < w.heap.size → wr.heap[b]? = w.heap[b]?) := ho
      have HBl : Hid (∀ B w0, B ≤ g → B ≤ w.heap.size → Below B w0 w → Below B w0 wr) := hbl
      clear hc ho hgr hbl
      go_wp2_with fail
      go_ret
      exact ⟨rfl, HC.out, HOt.out, hsz, HBl.out⟩
set_option maxHeartbeats 2000000 in
set_option maxRecDepth 100000 in
theorem heldStrs (g n c k : Nat) (M : List Value) (w : World) (hn : n ≤ 1048576) (hk0 : 1 ≤ k) (hk : k ≤ 1048577) (hg : w.heap[g]? = some (.cells M.toArray 9 (0, 0))) (hm : MarksS k n M) :
    Calls Tryz.prog 40 #[.slice (some ⟨g, 0, none⟩) n c, .int .i64 (k : Int)] w fun e w' => e = .returned (.int .i64 ((k + n : Nat) : Int)) ∧ Below w.heap.size w w' := by
  have hgl : g < w.heap.size := heap_lt hg
  have HC : Hid (∀ W, Below w.heap.size w W → ∀ i, i < n → W.cell? ⟨g, i, none⟩ = some (.string (mkT (k + i)))) := fun W hW i hi => by
    rw [hW.cell (p := ⟨g, i, none⟩) hgl]
    exact rowFacts hg _ _ (hm i hi)
  clear hg hm
  go_enter Tryz.func40, Tryz.ntmps40
  go_wp2_with fail
  go_loopw [1, 5] (fun q i wr => ∃ j : Nat, j ≤ n ∧ q = .int .i64 ((k + j : Nat) : Int) ∧ i = .int .i64 (j : Int) ∧ Below w.heap.size w wr)
    (fun _ i _ => n - (intOf i).toNat)
  case atStart => exact ⟨0, Nat.zero_le _, by simp, rfl, Below.refl _ _⟩
  case round =>
    obtain ⟨j, hj, rfl, rfl, hbr⟩ := hrel
    by_cases hlt : j < n
    · obtain ⟨q, hq⟩ : ∃ q, q = k + j := ⟨_, rfl⟩
      have c1 := HC.out wr hbr j hlt
      rw [← hq] at c1 ⊢
      have hq1 : 1 ≤ q := by omega
      have hq2 : q ≤ 2100000 := by omega
      have hsr := hbr.size
      have hgr : g < wr.heap.size := by omega
      have HQ : Hid (q = k + j) := hq
      have HMk : Hid (∀ V : World, Hid (Below wr.heap.size wr V) → Calls Tryz.prog 39 #[.int .i64 (q : Int)] V fun e W => e = .returned (.string (mkT q)) ∧ Hid (Below wr.heap.size wr W) ∧ W.cell? ⟨g, j, none⟩ = some (.string (mkT q))) := fun V hV => by
        refine (markText q V hq1 (by omega)).mono ?_
        rintro e W ⟨rfl, hW⟩
        have hB := hV.out.trans (hW.mono hV.out.size)
        exact ⟨rfl, hB, by rw [hB.cell (p := ⟨g, j, none⟩) hgr]; exact c1⟩
      have HBr : Hid (Below w.heap.size w wr) := hbr
      have HD : Hid (Below wr.heap.size wr wr.drew) := (Below.refl _ wr).drew
      have hji : (j : Int) < (n : Int) := by omega
      have hj0 : (0 : Int) ≤ (j : Int) := by omega
      clear hq hbr
      generalize mkT q = u at *
      go_wp2_with fail
      go_region_held3 (fun V => V.cell? ⟨g, j, none⟩ = some (.string u)) (first | exact p0 | go_keep)
        (first | (go_at_call 39; refine (HMk.out _ (by assumption)).mono ?_; rintro r w1 ⟨rfl, kk, p0⟩))
      have HB1 : Hid (Below w.heap.size w w1) := HBr.out.trans (kk.out.mono hsr)
      clear kk HMk HD p0 c1
      go_wp2_with fail
      go_roundw
      case rel => exact ⟨j + 1, by omega, by have := HQ.out; go_num, by go_num, HB1.out⟩
      case measure => simp [intOf]; omega
    · obtain rfl : j = n := by omega
      go_wp2_with fail
      go_ret
      exact ⟨rfl, hbr⟩
end Go.Proofs.YthofeoelndplpaaGreatDoor
namespace Go.Proofs.YthofeoelndplpaaGreatDoor
open Go.RowKit

/-- A row of n texts bears the marks. -/
def MkS (w : World) (v : Value) (n : Nat) : Prop := (n = 0 ∧ ∃ a c, v = .slice a 0 c) ∨ ∃ g cap M, v = .slice (some ⟨g, 0, none⟩) n cap ∧ w.heap[g]? = some (.cells M.toArray 9 (0, 0)) ∧ MarksS 1 n M
theorem MkS.keep {w w' : World} {v : Value} {n : Nat} (h : MkS w v n) (hb : Below w.heap.size w w') : MkS w' v n := by
  rcases h with h | ⟨g, cap, M, e, hg, hm⟩
  · exact .inl h
  · exact .inr ⟨g, cap, M, e, by rw [hb.block g (heap_lt hg)]; exact hg, hm⟩
end Go.Proofs.YthofeoelndplpaaGreatDoor
namespace Go.Proofs.YthofeoelndplpaaGreatDoor
open Go.RowKit

set_option maxHeartbeats 2000000 in
set_option maxRecDepth 100000 in
theorem markCsrC (c : Ask) (v : Value) (l : List ByteArray) (B : Nat) (w : World) (hl : l.length ≤ 1048576) (ho : OwnS w B v l) :
    Calls Tryz.prog 14 #[c.val v, .int .i64 1] w fun e w' => e = .returned (.int .i64 ((1 + l.length : Nat) : Int)) ∧ MkS w' v l.length ∧
      (∀ b, v.ownBlock ≠ some b → b < w.heap.size → w'.heap[b]? = w.heap[b]?) ∧ w.heap.size ≤ w'.heap.size ∧ ∀ B' w0, B' ≤ B → B' ≤ w.heap.size → Below B' w0 w → Below B' w0 w' := by
  obtain ⟨key, names, sk, se, ss⟩ := c
  unfold Ask.val
  simp only
  rcases ho.2 with ⟨rfl, h0⟩ | ⟨g, cap, cur, rfl, hBg, hg, hnc, hcm, hcs, ht⟩
  · rw [h0]
    have HMk : Hid (∀ V : World, Calls Tryz.prog 13 #[.slice none 0 0, .int .i64 1] V fun e w' => e = .returned (.int .i64 1) ∧ w' = V) := fun V => by
      go_enter Tryz.func13, Tryz.ntmps13
      go_wp2_with fail
      refine wp_loop_rounds 1 ?_
      rw [rounds_succ]
      go_wp2_with fail
      go_ret
      exact ⟨rfl, rfl⟩
    clear ho h0
    go_enter Tryz.func14, Tryz.ntmps14
    go_wp2_with fail
    refine (HMk.out _).mono ?_
    rintro e w1 ⟨rfl, rfl⟩
    go_wp2_with fail
    go_ret
    refine ⟨rfl, .inl ⟨rfl, _, _, rfl⟩, fun b _ hb => Below.heap_alloc _ _ _ hb, by simp, fun B' w0 _ h2 h3 => h3.alloc h2 _⟩
  · have hgl : g < w.heap.size := heap_lt hg
    have HMk : Hid (∀ o, Calls Tryz.prog 13 #[.slice (some ⟨g, 0, none⟩) l.length cap, .int .i64 1] (w.alloc o) fun e w' => e = .returned (.int .i64 ((1 + l.length : Nat) : Int)) ∧ (∃ M, w'.heap[g]? = some (.cells M.toArray 9 (0, 0)) ∧ MarksS 1 l.length M) ∧
        (∀ b, b ≠ g → b < w.heap.size + 1 → w'.heap[b]? = (w.alloc o).heap[b]?) ∧ w.heap.size ≤ w'.heap.size ∧ ∀ B w0, B ≤ g → B ≤ w.heap.size + 1 → Below B w0 (w.alloc o) → Below B w0 w') := fun o => by
      refine (markStrs g l.length cap 1 cur.toList (w.alloc o) hl (by omega) (by omega) ?_ ?_).mono ?_
      · simp only [Array.length_toList, hcs]; omega
      · rw [Below.heap_alloc _ _ _ hgl]; simpa using hg
      · rintro e w' ⟨he, h1, h2, h3, h4⟩
        have hsz : (w.alloc o).heap.size = w.heap.size + 1 := by simp
        exact ⟨he, h1, fun b hb hb2 => h2 b hb (by omega), by omega, fun B w0 hB1 hB2 hB3 => h4 B w0 hB1 (by omega) hB3⟩
    obtain ⟨n, hn⟩ : ∃ n, n = l.length := ⟨_, rfl⟩
    rw [← hn] at hl HMk ⊢
    clear ho hg ht hcs hcm hnc hn
    go_enter Tryz.func14, Tryz.ntmps14
    go_wp2_with fail
    refine (HMk.out _).mono ?_
    rintro e w1 ⟨rfl, ⟨M, hM, hMk⟩, h2, h3, h4⟩
    have HM : Hid (w1.heap[g]? = some (.cells M.toArray 9 (0, 0)) ∧ MarksS 1 n M) := ⟨hM, hMk⟩
    have H2 : Hid (∀ b, b ≠ g → b < w.heap.size → w1.heap[b]? = w.heap[b]?) := fun b hb hl => by
      rw [h2 b hb (by omega)]; exact Below.heap_alloc _ _ _ hl
    have H4 : Hid (∀ B' w0, B' ≤ B → B' ≤ w.heap.size → Below B' w0 w → Below B' w0 w1) := fun B' w0 hB1 hB2 hB3 => h4 B' w0 (by omega) (by omega) (hB3.alloc hB2 _)
    clear hM hMk h2 h4 HMk
    go_wp2_with fail
    go_ret
    refine ⟨rfl, .inr ⟨g, cap, M, rfl, HM.out.1, HM.out.2⟩, fun b hb hl => H2.out b (fun e => hb (by rw [e]; rfl)) hl, h3, H4.out⟩
set_option maxHeartbeats 1000000 in
set_option maxRecDepth 100000 in
theorem heldCsrC (c : Ask) (v : Value) (n : Nat) (w : World) (hl : n ≤ 1048576) (hm : MkS w v n) :
    Calls Tryz.prog 15 #[c.val v, .int .i64 1] w fun e w' => e = .returned (.int .i64 ((1 + n : Nat) : Int)) ∧ Below w.heap.size w w' := by
  obtain ⟨key, names, sk, se, ss⟩ := c
  unfold Ask.val
  simp only
  rcases hm with ⟨rfl, a, c, rfl⟩ | ⟨g, cap, M, rfl, hg, hm⟩
  · have HMk : Hid (∀ V : World, Calls Tryz.prog 40 #[.slice a 0 c, .int .i64 1] V fun e w' => e = .returned (.int .i64 1) ∧ w' = V) := fun V => by
      go_enter Tryz.func40, Tryz.ntmps40
      go_wp2_with fail
      refine wp_loop_rounds 1 ?_
      rw [rounds_succ]
      go_wp2_with fail
      go_ret
      exact ⟨rfl, rfl⟩
    go_enter Tryz.func15, Tryz.ntmps15
    go_wp2_with fail
    refine (HMk.out _).mono ?_
    rintro e w1 ⟨rfl, rfl⟩
    go_wp2_with fail
    go_ret
    exact ⟨rfl, (Below.refl _ _).alloc (Nat.le_refl _) _⟩
  · have hgl : g < w.heap.size := heap_lt hg
    have HMk : Hid (∀ o, Calls Tryz.prog 40 #[.slice (some ⟨g, 0, none⟩) n cap, .int .i64 1] (w.alloc o) fun e w' => e = .returned (.int .i64 ((1 + n : Nat) : Int)) ∧ Below (w.alloc o).heap.size (w.alloc o) w') := fun o =>
      heldStrs g n cap 1 M (w.alloc o) hl (by omega) (by omega) (by rw [Below.heap_alloc _ _ _ hgl]; exact hg) hm
    clear hg hm
    obtain ⟨m, hmm⟩ : ∃ m, m = 1 + n := ⟨_, rfl⟩
    rw [← hmm] at HMk ⊢
    have hm1 : 1 ≤ m := by omega
    clear hmm
    go_enter Tryz.func15, Tryz.ntmps15
    go_wp2_with fail
    refine (HMk.out _).mono ?_
    rintro e w1 ⟨rfl, hb1⟩
    have HB : Hid (Below w.heap.size w w1) := ((Below.refl _ w).alloc (Nat.le_refl _) _).trans (hb1.mono (by simp))
    clear hb1 HMk
    go_wp2_with fail
    go_ret
    exact ⟨rfl, HB.out⟩
end Go.Proofs.YthofeoelndplpaaGreatDoor
namespace Go.Proofs.YthofeoelndplpaaGreatDoor
open Go.RowKit

set_option maxHeartbeats 1000000 in
set_option maxRecDepth 100000 in
theorem eqStrs (a b : Option Addr) (zs : List ByteArray) (c d : Nat) (w : World) (hl : zs.length ≤ 2000000) (ha : IsStrs w a zs) (hb : IsStrs w b zs) :
    Calls Tryz.prog 12 #[.slice a zs.length c, .slice b zs.length d] w fun e w' => e = .returned (.bool true) ∧ Below w.heap.size w w' := by
  go_enter Tryz.func12, Tryz.ntmps12
  go_wp2
  go_loopw [5] (fun i wr => ∃ k : Nat, k ≤ zs.length ∧ i = .int .i64 k ∧ Below w.heap.size w wr) (fun i _ => zs.length - (intOf i).toNat)
  case atStart => exact ⟨0, Nat.zero_le _, rfl, Below.refl _ _⟩
  case round =>
    obtain ⟨k, hk, rfl, hbr⟩ := hrel
    by_cases hlt : k < zs.length
    · obtain ⟨x, o, rfl, hc⟩ : ∃ x o, a = some ⟨x, o, none⟩ ∧ ∀ i, i < zs.length → wr.cell? ⟨x, o + i, none⟩ = some (.string (tAt zs i)) := by
        rcases ha.below hbr ha.lt with rfl | h
        · simp at hlt
        · exact h
      obtain ⟨y, p, rfl, hd⟩ : ∃ x o, b = some ⟨x, o, none⟩ ∧ ∀ i, i < zs.length → wr.cell? ⟨x, o + i, none⟩ = some (.string (tAt zs i)) := by
        rcases hb.below hbr hb.lt with rfl | h
        · simp at hlt
        · exact h
      have hck := hc k hlt
      have hdk := hd k hlt
      have HB : Hid (Below w.heap.size w wr) := hbr
      generalize tAt zs k = z at hck hdk
      generalize hn : zs.length = n at *
      clear hc hd ha hb hbr hn
      go_wp2
      go_quiet (fail)
      go_wp2
      go_roundw
      case rel => exact ⟨k + 1, by omega, by go_num, below_drewN HB.out _⟩
      case measure => simp [intOf]; omega
    · go_wp2
      go_ret
      exact ⟨rfl, hbr⟩
end Go.Proofs.YthofeoelndplpaaGreatDoor
namespace Go.Proofs.YthofeoelndplpaaGreatDoor
open Go.RowKit

set_option maxHeartbeats 1000000 in
set_option maxRecDepth 100000 in
theorem eqSig (k e s : Int) (w : World) :
    Calls Tryz.prog 38 #[.agg #[.int .i64 k, .int .i64 e, .int .i64 s], .agg #[.int .i64 k, .int .i64 e, .int .i64 s]] w fun r w' => r = .returned (.bool true) ∧ Below w.heap.size w w' := by
  go_enter Tryz.func38, Tryz.ntmps38
  go_wp2
  go_ret
  exact ⟨rfl, (allocBelow w _).alloc (by simp) _⟩
end Go.Proofs.YthofeoelndplpaaGreatDoor
namespace Go.Proofs.YthofeoelndplpaaGreatDoor
open Go.RowKit

set_option maxHeartbeats 4000000 in
set_option maxRecDepth 100000 in
theorem eqCsr (c : Ask) (a b : Option Addr) (ca1 cb : Nat) (w : World) (hl : c.names.length ≤ 1048576) (ha : IsStrs w a c.names) (hb : IsStrs w b c.names) :
    Calls Tryz.prog 11 #[c.val (.slice a c.names.length ca1), c.val (.slice b c.names.length cb)] w fun e w' => e = .returned (.bool true) ∧ Below w.heap.size w w' := by
  obtain ⟨key, names, sk, se, ss⟩ := c
  simp only at hl ha hb
  unfold Ask.val
  simp only
  have HE : Hid (∀ V, IsStrs V a names → IsStrs V b names → Calls Tryz.prog 12 #[.slice a names.length ca1, .slice b names.length cb] V fun e w' => e = .returned (.bool true) ∧ Below V.heap.size V w') := fun V h1 h2 => eqStrs a b names ca1 cb V (by omega) h1 h2
  generalize names.length = nl at *
  obtain ⟨w0, hw0⟩ : ∃ w0, w0 = w.alloc (.cells #[.int .i64 key, .slice a nl ca1, .int .i64 sk, .int .i64 se, .int .i64 ss] 27 (0, 0)) := ⟨_, rfl⟩
  obtain ⟨w1, hw1⟩ : ∃ w1, w1 = w0.alloc (.cells #[.int .i64 key, .slice b nl cb, .int .i64 sk, .int .i64 se, .int .i64 ss] 27 (0, 0)) := ⟨_, rfl⟩
  have z0 : w0.heap.size = w.heap.size + 1 := by rw [hw0]; simp
  have r1 : w1.heap[w.heap.size + 1]? = some (.cells [Value.int .i64 key, .slice b nl cb, .int .i64 sk, .int .i64 se, .int .i64 ss].toArray 27 (0, 0)) := by rw [hw1, ← z0]; exact heap_alloc_new w0 _
  have r0 : w1.heap[w.heap.size]? = some (.cells [Value.int .i64 key, .slice a nl ca1, .int .i64 sk, .int .i64 se, .int .i64 ss].toArray 27 (0, 0)) := by rw [hw1, Below.heap_alloc _ _ _ (by omega), hw0]; exact heap_alloc_new w _
  have B1 : Hid (Below w.heap.size w w1) := by rw [hw1, hw0]; exact ((Below.refl _ _).alloc (Nat.le_refl _) _).alloc (by simp) _
  have A1 : Hid (IsStrs w1 a names) := ha.keep B1.out
  have A2 : Hid (IsStrs w1 b names) := hb.keep B1.out
  have c0 := rowFacts r0 0 _ rfl
  have d0 := rowFacts r1 0 _ rfl
  have c1 := rowFacts r0 1 _ rfl
  have d1 := rowFacts r1 1 _ rfl
  have c2 := rowFacts r0 2 _ rfl
  have d2 := rowFacts r1 2 _ rfl
  have c3 := rowFacts r0 3 _ rfl
  have d3 := rowFacts r1 3 _ rfl
  have c4 := rowFacts r0 4 _ rfl
  have d4 := rowFacts r1 4 _ rfl
  have R0 : Hid (w.heap.size < w1.heap.size) := heap_lt r0
  have R1 : Hid (w.heap.size + 1 < w1.heap.size) := heap_lt r1
  rw [hw0] at hw1
  clear r0 r1 ha hb hw0 z0
  go_enter Tryz.func11, Tryz.ntmps11
  go_upto_region 1 with fail
  rw [← hw1]
  clear hw1
  go_wp2_with fail
  refine (HE.out _ A1.out A2.out).mono ?_
  rintro e w2 ⟨rfl, b2⟩
  have B2 : Hid (Below w.heap.size w w2) := B1.out.trans (b2.mono B1.out.size)
  have e2 := (b2.cell (p := ⟨w.heap.size, 2, none⟩) R0.out).trans c2
  have f2 := (b2.cell (p := ⟨w.heap.size + 1, 2, none⟩) R1.out).trans d2
  have e3 := (b2.cell (p := ⟨w.heap.size, 3, none⟩) R0.out).trans c3
  have f3 := (b2.cell (p := ⟨w.heap.size + 1, 3, none⟩) R1.out).trans d3
  have e4 := (b2.cell (p := ⟨w.heap.size, 4, none⟩) R0.out).trans c4
  have f4 := (b2.cell (p := ⟨w.heap.size + 1, 4, none⟩) R1.out).trans d4
  clear b2 B1 A1 A2 HE R0 R1 c0 d0 c1 d1 c2 d2 c3 d3 c4 d4
  go_wp2_with fail
  refine (eqSig sk se ss _).mono ?_
  rintro e w3 ⟨rfl, b3⟩
  have B3 : Hid (Below w.heap.size w w3) := B2.out.trans (b3.mono B2.out.size)
  clear b3 B2
  go_wp2
  go_ret
  exact ⟨rfl, B3.out⟩
end Go.Proofs.YthofeoelndplpaaGreatDoor
