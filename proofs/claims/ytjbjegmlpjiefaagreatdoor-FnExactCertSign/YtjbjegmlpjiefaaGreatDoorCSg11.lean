/- spec.CertSign, walked. impl.copyText, walked. impl.copyTexts, walked. impl.copyCert, walked. math/bits.Len64 and Len, walked. -/
import Derived.Test.YtjbjegmlpjiefaaGreatDoorCSg05
import Derived.Test.YtjbjegmlpjiefaaGreatDoorCSg06
import Derived.Test.YtjbjegmlpjiefaaGreatDoorCSg08
import Derived.Test.YtjbjegmlpjiefaaGreatDoorCSg10
import Derived.Deep.Cut
import Derived.Test.YtjbjegmlpjiefaaGreatDoorCSg01
import Derived.Test.YtjbjegmlpjiefaaGreatDoorCSg02
import Derived.Test.YtjbjegmlpjiefaaGreatDoorCSg04
import Derived.Lib.BitFns
import Derived.Lib.Walk
namespace Go.Proofs.YtjbjegmlpjiefaaGreatDoor
open Go.RowKit

theorem zero_one : ∀ v ∈ [Value.int .i64 0, .string ⟨#[]⟩, .string ⟨#[]⟩, .int .i64 0, .int .i64 0, .int .i64 0, .slice none 0 0, .bool false, .int .i64 0, .int .i64 0, .int .i64 0], v.oneCell' = true := by simp [Value.oneCell']
theorem size11 : (Tryz.prog.info? 30).map (·.size) = some [Value.int .i64 0, .string ⟨#[]⟩, .string ⟨#[]⟩, .int .i64 0, .int .i64 0, .int .i64 0, .slice none 0 0, .bool false, .int .i64 0, .int .i64 0, .int .i64 0].length := sizeCert
set_option maxHeartbeats 4000000 in
set_option maxRecDepth 100000 in
theorem specSignC (x : Int) (c : Paper) (g o cap : Nat) (k e s : Int) (w : World) (hi : c.issuer.size ≤ maxLen) (hs : c.subject.size ≤ maxLen) (hl : c.names.length ≤ 1048576) (ht : totS c.names c.names.length ≤ 1048576) (hgw : g < w.heap.size) (hc : ∀ i, i < c.names.length → w.cell? ⟨g, o + i, none⟩ = some (.string (tAt c.names i)))
    (hv : secB x = true → paperB c = true → signV x (bodyD c) = .agg #[.int .i64 k, .int .i64 e, .int .i64 s]) :
    Calls Tryz.prog 5 #[.int .i64 x, c.val (.slice (some ⟨g, o, none⟩) c.names.length cap)] w fun r w' => ∃ v, r = .returned ((signP x c k e s).val v) ∧ OwnS w' w.heap.size v (signP x c k e s).names ∧ Below w.heap.size w w' := by
  have HP : Hid (∀ V a' cap', IsStrs V a' c.names → Calls Tryz.prog 13 #[c.val (.slice a' c.names.length cap')] V fun e w' => e = .returned (.bool (paperB c)) ∧ Below V.heap.size V w') := fun V a' cap' hV => specPaper c a' cap' V hi hs hl ht hV
  have HCp : Hid (∀ V, Below w.heap.size w V → Calls Tryz.prog 14 #[c.val (.slice (some ⟨g, o, none⟩) c.names.length cap)] V fun e w' => ∃ v, e = .returned (c.val v) ∧ OwnS w' V.heap.size v c.names ∧ Below V.heap.size V w') := fun V hV => specCopy c g o cap V hl (by have := hV.size; omega) (fun i h => by rw [hV.cell (p := ⟨g, o + i, none⟩) hgw]; exact hc i h)
  have HBo : Hid (paperB c = true → ∀ V a' cap', IsStrs V a' c.names → Calls Tryz.prog 16 #[c.val (.slice a' c.names.length cap')] V fun e w' => e = .returned (.string (bodyD c)) ∧ Below V.heap.size V w') := fun h V a' cap' hV => specBody c a' cap' V (paper_fits h) hV
  have HSg : Hid (secB x = true → paperB c = true → ∀ V, Calls Tryz.prog 15 #[.int .i64 x, .string (bodyD c)] V fun r w' => r = .returned (.agg #[.int .i64 k, .int .i64 e, .int .i64 s]) ∧ Below V.heap.size V w') := fun h1 h2 V => by
    have := specSign x (bodyD c) V (by have := bodyD_le (paper_fits h2); unfold maxLen; omega)
    rw [hv h1 h2] at this
    exact this
  have HY : Hid (secB x = true → paperB c = true → signP x c k e s = ⟨c.serial, c.issuer, c.subject, c.fr, c.till, c.key, c.names, c.ca, k, e, s⟩) := fun h1 h2 => signP_yes h1 h2 k e s
  have HNo : Hid (secB x = false ∨ paperB c = false → signP x c k e s = zeroP) := fun h => signP_no h k e s
  have ha : IsStrs w (some ⟨g, o, none⟩) c.names := .inr ⟨g, o, rfl, hc⟩
  generalize signP x c k e s = R at *
  generalize paperB c = P at *
  generalize bodyD c = D at *
  clear hi hs ht hc hv hgw
  obtain ⟨ser, iss, sub, fr, till, key, names, ca, sk, se, ss⟩ := c
  unfold Paper.val at HP HCp HBo
  simp only at HP HCp HBo HY hl ha
  show Calls _ _ #[.int .i64 x, .agg #[.int .i64 ser, .string iss, .string sub, .int .i64 fr, .int .i64 till, .int .i64 key, .slice (some ⟨g, o, none⟩) names.length cap, .bool ca, .int .i64 sk, .int .i64 se, .int .i64 ss]] _ _
  obtain ⟨nl, hnl⟩ : ∃ nl, nl = names.length := ⟨_, rfl⟩
  rw [← hnl] at HP HCp HBo ⊢
  have HNl : Hid (nl = names.length) := hnl
  clear hnl
  obtain ⟨w1, hw1⟩ : ∃ w1, w1 = (w.alloc (.cells #[.int .i64 ser, .string iss, .string sub, .int .i64 fr, .int .i64 till, .int .i64 key, .slice (some ⟨g, o, none⟩) nl cap, .bool ca, .int .i64 sk, .int .i64 se, .int .i64 ss] 30 (0, 0))).alloc (.cells #[.int .i64 0, .string ⟨#[]⟩, .string ⟨#[]⟩, .int .i64 0, .int .i64 0, .int .i64 0, .slice none 0 0, .bool false, .int .i64 0, .int .i64 0, .int .i64 0] 30 (0, 0)) := ⟨_, rfl⟩
  have r0 : w1.heap[w.heap.size]? = some (.cells [Value.int .i64 ser, .string iss, .string sub, .int .i64 fr, .int .i64 till, .int .i64 key, .slice (some ⟨g, o, none⟩) nl cap, .bool ca, .int .i64 sk, .int .i64 se, .int .i64 ss].toArray 30 (0, 0)) := by rw [hw1, Below.heap_alloc _ _ _ (by simp)]; exact heap_alloc_new w _
  have r1 : w1.heap[w.heap.size + 1]? = some (.cells [Value.int .i64 0, .string ⟨#[]⟩, .string ⟨#[]⟩, .int .i64 0, .int .i64 0, .int .i64 0, .slice none 0 0, .bool false, .int .i64 0, .int .i64 0, .int .i64 0].toArray 30 (0, 0)) := by rw [hw1]; exact heap_alloc2 w _ _
  have K1 : Hid (Below w.heap.size w w1) := by rw [hw1]; exact ((Below.refl _ _).alloc (Nat.le_refl _) _).alloc (by simp) _
  have A1 : Hid (IsStrs w1 (some ⟨g, o, none⟩) names) := ha.keep K1.out
  clear ha hl
  go_enter Tryz.func5, Tryz.ntmps5
  go_upto_region 1 with fail
  rw [← hw1]
  clear hw1
  go_wp2_with fail
  refine (specSecret x _).mono ?_
  rintro r w1' ⟨rfl, rfl⟩
  have R0 : Hid _ := r0
  have R1 : Hid _ := r1
  cases hx : secB x with
  | false =>
    have HF : Hid (R = zeroP) := HNo.out (.inl hx)
    have hR := R1.out
    have h1 := zero_one
    clear r0 r1
    go_wp2_with (refine wpList_store_row rfl 30 _ _ rfl (w.heap.size + 1) _ [Value.int .i64 0, .string ⟨#[]⟩, .string ⟨#[]⟩, .int .i64 0, .int .i64 0, .int .i64 0, .slice none 0 0, .bool false, .int .i64 0, .int .i64 0, .int .i64 0] 30 rfl rfl hR rfl size11 h1 ?_)
    intro w8 hrow ho hs8 hbb
    have HROW : Hid _ := hrow
    have HB8 : Hid (Below w.heap.size w w8) := hbb _ _ (by omega) K1.out
    clear ho hs8 hbb hrow hR h1
    go_wp2
    refine bodyPost_ret (v := .agg [Value.int .i64 0, .string ⟨#[]⟩, .string ⟨#[]⟩, .int .i64 0, .int .i64 0, .int .i64 0, .slice none 0 0, .bool false, .int .i64 0, .int .i64 0, .int .i64 0].toArray) ?_ rfl ⟨.slice none 0 0, by rw [HF.out]; rfl, by rw [HF.out]; exact ownS_nil _ _, HB8.out⟩
    have hl3 := run_loadVar_mid (P := Tryz.prog) _ (w.heap.size + 1) 0 30 _ _ (rangeRow HROW.out) Tryz.underlying30 rfl size11
    simp [results, Tryz.results5, asAddr, hl3]
  | true =>
    have c0 := rowFacts R0.out 0 _ rfl
    have c1 := rowFacts R0.out 1 _ rfl
    have c2 := rowFacts R0.out 2 _ rfl
    have c3 := rowFacts R0.out 3 _ rfl
    have c4 := rowFacts R0.out 4 _ rfl
    have c5 := rowFacts R0.out 5 _ rfl
    have c6 := rowFacts R0.out 6 _ rfl
    have c7 := rowFacts R0.out 7 _ rfl
    have c8 := rowFacts R0.out 8 _ rfl
    have c9 := rowFacts R0.out 9 _ rfl
    have c10 := rowFacts R0.out 10 _ rfl
    clear r0 r1
    go_wp2_with fail
    refine (HP.out _ _ _ A1.out).mono ?_
    rintro r w2 ⟨rfl, b2⟩
    have K2 : Hid (Below w.heap.size w w2) := K1.out.trans (b2.mono K1.out.size)
    have S0 : Hid (w2.heap[w.heap.size]? = some (.cells [Value.int .i64 ser, .string iss, .string sub, .int .i64 fr, .int .i64 till, .int .i64 key, .slice (some ⟨g, o, none⟩) nl cap, .bool ca, .int .i64 sk, .int .i64 se, .int .i64 ss].toArray 30 (0, 0))) := by show _ = _; rw [b2.block _ (heap_lt R0.out)]; exact R0.out
    have S1 : Hid (w2.heap[w.heap.size + 1]? = some (.cells [Value.int .i64 0, .string ⟨#[]⟩, .string ⟨#[]⟩, .int .i64 0, .int .i64 0, .int .i64 0, .slice none 0 0, .bool false, .int .i64 0, .int .i64 0, .int .i64 0].toArray 30 (0, 0))) := by show _ = _; rw [b2.block _ (heap_lt R1.out)]; exact R1.out
    clear b2 c0 c1 c2 c3 c4 c5 c6 c7 c8 c9 c10 R0 R1 K1 A1 HP
    have R1 : Hid (w2.heap[w.heap.size + 1]? = some (.cells [Value.int .i64 0, .string ⟨#[]⟩, .string ⟨#[]⟩, .int .i64 0, .int .i64 0, .int .i64 0, .slice none 0 0, .bool false, .int .i64 0, .int .i64 0, .int .i64 0].toArray 30 (0, 0))) := S1
    cases P with
    | false =>
      have HF : Hid (R = zeroP) := HNo.out (.inr rfl)
      have hR := R1.out
      have h1 := zero_one
      go_wp2_with (refine wpList_store_row rfl 30 _ _ rfl (w.heap.size + 1) _ [Value.int .i64 0, .string ⟨#[]⟩, .string ⟨#[]⟩, .int .i64 0, .int .i64 0, .int .i64 0, .slice none 0 0, .bool false, .int .i64 0, .int .i64 0, .int .i64 0] 30 rfl rfl hR rfl size11 h1 ?_)
      intro w8 hrow ho hs8 hbb
      have HROW : Hid _ := hrow
      have HB8 : Hid (Below w.heap.size w w8) := hbb _ _ (by omega) K2.out
      clear ho hs8 hbb hrow hR h1
      go_wp2
      refine bodyPost_ret (v := .agg [Value.int .i64 0, .string ⟨#[]⟩, .string ⟨#[]⟩, .int .i64 0, .int .i64 0, .int .i64 0, .slice none 0 0, .bool false, .int .i64 0, .int .i64 0, .int .i64 0].toArray) ?_ rfl ⟨.slice none 0 0, by rw [HF.out]; rfl, by rw [HF.out]; exact ownS_nil _ _, HB8.out⟩
      have hl3 := run_loadVar_mid (P := Tryz.prog) _ (w.heap.size + 1) 0 30 _ _ (rangeRow HROW.out) Tryz.underlying30 rfl size11
      simp [results, Tryz.results5, asAddr, hl3]
    | true =>
      have hY := HY.out hx rfl
      have HF : Hid (R = ⟨ser, iss, sub, fr, till, key, names, ca, k, e, s⟩) := hY
      have B' := HBo.out rfl
      have HBo' : Hid _ := B'
      have G' := HSg.out hx rfl
      have HSg' : Hid _ := G'
      clear HY HNo HBo HSg hY B' G' R1
      have c0 := rowFacts S0.out 0 _ rfl
      have c1 := rowFacts S0.out 1 _ rfl
      have c2 := rowFacts S0.out 2 _ rfl
      have c3 := rowFacts S0.out 3 _ rfl
      have c4 := rowFacts S0.out 4 _ rfl
      have c5 := rowFacts S0.out 5 _ rfl
      have c6 := rowFacts S0.out 6 _ rfl
      have c7 := rowFacts S0.out 7 _ rfl
      have c8 := rowFacts S0.out 8 _ rfl
      have c9 := rowFacts S0.out 9 _ rfl
      have c10 := rowFacts S0.out 10 _ rfl
      go_wp2_with fail
      refine (HCp.out _ K2.out).mono ?_
      rintro r w3 ⟨v, rfl, o3, b3⟩
      have K3 : Hid (Below w.heap.size w w3) := K2.out.trans (b3.mono K2.out.size)
      have T0 : Hid (w3.heap[w.heap.size]? = some (.cells [Value.int .i64 ser, .string iss, .string sub, .int .i64 fr, .int .i64 till, .int .i64 key, .slice (some ⟨g, o, none⟩) nl cap, .bool ca, .int .i64 sk, .int .i64 se, .int .i64 ss].toArray 30 (0, 0))) := by show _ = _; rw [b3.block _ (heap_lt S0.out)]; exact S0.out
      have T1 : Hid (w3.heap[w.heap.size + 1]? = some (.cells [Value.int .i64 0, .string ⟨#[]⟩, .string ⟨#[]⟩, .int .i64 0, .int .i64 0, .int .i64 0, .slice none 0 0, .bool false, .int .i64 0, .int .i64 0, .int .i64 0].toArray 30 (0, 0))) := by show _ = _; rw [b3.block _ (heap_lt S1.out)]; exact S1.out
      have zz : w.heap.size + 2 ≤ w2.heap.size := by have := heap_lt S1.out; omega
      have O3 : Hid (OwnS w3 (w.heap.size + 2) v names) := o3.mono zz
      obtain ⟨va, vc, hv', _⟩ := OwnS.form o3
      rw [← HNl.out] at hv'
      subst hv'
      clear b3 c0 c1 c2 c3 c4 c5 c6 c7 c8 c9 c10 S0 S1 K2 HCp o3 zz
      have hR0 := T0.out
      have hone1 : ∀ v ∈ [Value.int .i64 ser, .string iss, .string sub, .int .i64 fr, .int .i64 till, .int .i64 key, .slice va nl vc, .bool ca, .int .i64 sk, .int .i64 se, .int .i64 ss], v.oneCell' = true := by simp [Value.oneCell']
      go_wp2_with (refine wpList_store_row rfl 30 _ _ rfl (w.heap.size) _ [Value.int .i64 ser, .string iss, .string sub, .int .i64 fr, .int .i64 till, .int .i64 key, .slice va nl vc, .bool ca, .int .i64 sk, .int .i64 se, .int .i64 ss] 30 rfl rfl hR0 rfl sizeCert hone1 ?_)
      intro w4 hrow4 ho4 hs4 hbb4
      have K4 : Hid (Below w.heap.size w w4) := hbb4 _ _ (by omega) K3.out
      have S0 : Hid (w4.heap[w.heap.size]? = some (.cells [Value.int .i64 ser, .string iss, .string sub, .int .i64 fr, .int .i64 till, .int .i64 key, .slice va nl vc, .bool ca, .int .i64 sk, .int .i64 se, .int .i64 ss].toArray 30 (0, 0))) := hrow4
      have S1 : Hid (w4.heap[w.heap.size + 1]? = some (.cells [Value.int .i64 0, .string ⟨#[]⟩, .string ⟨#[]⟩, .int .i64 0, .int .i64 0, .int .i64 0, .slice none 0 0, .bool false, .int .i64 0, .int .i64 0, .int .i64 0].toArray 30 (0, 0))) := by show _ = _; rw [ho4 _ (by omega)]; exact T1.out
      have O4 : Hid (OwnS w4 (w.heap.size + 2) (.slice va nl vc) names) := O3.out.same fun b h1 h2 => ho4 b (by omega)
      clear hrow4 ho4 hs4 hbb4 T0 T1 K3 O3 hR0 hone1
      have c0 := rowFacts S0.out 0 _ rfl
      have c1 := rowFacts S0.out 1 _ rfl
      have c2 := rowFacts S0.out 2 _ rfl
      have c3 := rowFacts S0.out 3 _ rfl
      have c4 := rowFacts S0.out 4 _ rfl
      have c5 := rowFacts S0.out 5 _ rfl
      have c6 := rowFacts S0.out 6 _ rfl
      have c7 := rowFacts S0.out 7 _ rfl
      have c8 := rowFacts S0.out 8 _ rfl
      have c9 := rowFacts S0.out 9 _ rfl
      have c10 := rowFacts S0.out 10 _ rfl
      go_wp2_with fail
      refine (HBo'.out _ _ _ (OwnS.strs O4.out)).mono ?_
      rintro r w5 ⟨rfl, b5⟩
      have K5 : Hid (Below w.heap.size w w5) := K4.out.trans (b5.mono K4.out.size)
      have T0 : Hid (w5.heap[w.heap.size]? = some (.cells [Value.int .i64 ser, .string iss, .string sub, .int .i64 fr, .int .i64 till, .int .i64 key, .slice va nl vc, .bool ca, .int .i64 sk, .int .i64 se, .int .i64 ss].toArray 30 (0, 0))) := by show _ = _; rw [b5.block _ (heap_lt S0.out)]; exact S0.out
      have T1 : Hid (w5.heap[w.heap.size + 1]? = some (.cells [Value.int .i64 0, .string ⟨#[]⟩, .string ⟨#[]⟩, .int .i64 0, .int .i64 0, .int .i64 0, .slice none 0 0, .bool false, .int .i64 0, .int .i64 0, .int .i64 0].toArray 30 (0, 0))) := by show _ = _; rw [b5.block _ (heap_lt S1.out)]; exact S1.out
      have O5 : Hid (OwnS w5 (w.heap.size + 2) (.slice va nl vc) names) := O4.out.keep b5
      clear b5 c0 c1 c2 c3 c4 c5 c6 c7 c8 c9 c10 S0 S1 K4 O4 HBo'
      go_wp2_with fail
      refine (HSg'.out _).mono ?_
      rintro r w6 ⟨rfl, b6⟩
      have K6 : Hid (Below w.heap.size w w6) := K5.out.trans (b6.mono K5.out.size)
      have r0 : w6.heap[w.heap.size]? = some (.cells [Value.int .i64 ser, .string iss, .string sub, .int .i64 fr, .int .i64 till, .int .i64 key, .slice va nl vc, .bool ca, .int .i64 sk, .int .i64 se, .int .i64 ss].toArray 30 (0, 0)) := by rw [b6.block _ (heap_lt T0.out)]; exact T0.out
      have r1 : w6.heap[w.heap.size + 1]? = some (.cells [Value.int .i64 0, .string ⟨#[]⟩, .string ⟨#[]⟩, .int .i64 0, .int .i64 0, .int .i64 0, .slice none 0 0, .bool false, .int .i64 0, .int .i64 0, .int .i64 0].toArray 30 (0, 0)) := by rw [b6.block _ (heap_lt T1.out)]; exact T1.out
      have O6 : Hid (OwnS w6 (w.heap.size + 2) (.slice va nl vc) names) := O5.out.keep b6
      clear b6 T0 T1 K5 O5 HSg'
      obtain ⟨w7, hw7⟩ : ∃ y, y = ((w6.setCell ⟨w.heap.size, 8, none⟩ (.int .i64 k)).setCell ⟨w.heap.size, 9, none⟩ (.int .i64 e)).setCell ⟨w.heap.size, 10, none⟩ (.int .i64 s) := ⟨_, rfl⟩
      have t0 : w7.heap[w.heap.size]? = some (.cells [Value.int .i64 ser, .string iss, .string sub, .int .i64 fr, .int .i64 till, .int .i64 key, .slice va nl vc, .bool ca, .int .i64 k, .int .i64 e, .int .i64 s].toArray 30 (0, 0)) := by rw [hw7]; exact rowSet (i := 10) _ (rowSet (i := 9) _ (rowSet (i := 8) _ r0))
      have t1 : w7.heap[w.heap.size + 1]? = some (.cells [Value.int .i64 0, .string ⟨#[]⟩, .string ⟨#[]⟩, .int .i64 0, .int .i64 0, .int .i64 0, .slice none 0 0, .bool false, .int .i64 0, .int .i64 0, .int .i64 0].toArray 30 (0, 0)) := by rw [hw7, heap_setCell_other _ _ _ _ (by simp), heap_setCell_other _ _ _ _ (by simp), heap_setCell_other _ _ _ _ (by simp)]; exact r1
      have K7 : Hid (Below w.heap.size w w7) := by rw [hw7]; exact ((K6.out.setCell (by simp) _).setCell (by simp) _).setCell (by simp) _
      have O7 : Hid (OwnS w7 (w.heap.size + 2) (.slice va nl vc) names) := O6.out.same fun b h1 h2 => by rw [hw7, heap_setCell_other _ _ _ _ (by show b ≠ w.heap.size; omega), heap_setCell_other _ _ _ _ (by show b ≠ w.heap.size; omega), heap_setCell_other _ _ _ _ (by show b ≠ w.heap.size; omega)]
      have p8 := rowFacts r0 8 _ rfl
      have p9 := rowFacts r0 9 _ rfl
      have p10 := rowFacts r0 10 _ rfl
      have q8 := rowFree r0 8
      have q9 := rowFree r0 9
      have q10 := rowFree r0 10
      have T0 : Hid _ := t0
      have T1 : Hid _ := t1
      clear r0 r1 t0 t1 K6 O6
      go_upto_region 5 with fail
      rw [← hw7]
      clear hw7 p8 p9 p10 q8 q9 q10
      obtain ⟨C, hC⟩ : ∃ C, C = [Value.int .i64 ser, .string iss, .string sub, .int .i64 fr, .int .i64 till, .int .i64 key, .slice va nl vc, .bool ca, .int .i64 k, .int .i64 e, .int .i64 s] := ⟨_, rfl⟩
      have hr := rangeRow T0.out
      rw [← hC] at hr
      have hR := T1.out
      have h1 : ∀ v ∈ C, v.oneCell' = true := by rw [hC]; simp [Value.oneCell']
      have hi : (Tryz.prog.info? 30).map (·.size) = some C.length := by rw [hC]; exact sizeCert
      have HLen : Hid ([Value.int .i64 0, .string ⟨#[]⟩, .string ⟨#[]⟩, .int .i64 0, .int .i64 0, .int .i64 0, .slice none 0 0, .bool false, .int .i64 0, .int .i64 0, .int .i64 0].length = C.length) := by rw [hC]; rfl
      have HCC : Hid (C = [Value.int .i64 ser, .string iss, .string sub, .int .i64 fr, .int .i64 till, .int .i64 key, .slice va nl vc, .bool ca, .int .i64 k, .int .i64 e, .int .i64 s]) := hC
      clear hC
      go_wp2_with (first | (refine wpList_load_mid rfl 30 _ rfl (w.heap.size) 0 rfl C _ hr Tryz.underlying30 rfl hi ?_) | (refine wpList_store_row rfl 30 _ _ rfl (w.heap.size + 1) _ C 30 rfl rfl hR HLen.out hi h1 ?_))
      intro w8 hrow ho hs8 hbb
      have HROW : Hid _ := hrow
      have HB8 : Hid (Below w.heap.size w w8) := hbb _ _ (by omega) K7.out
      have O8 : Hid (OwnS w8 (w.heap.size + 2) (.slice va nl vc) names) := O7.out.same fun b h1 h2 => ho b (by omega)
      clear ho hs8 hbb hrow hr hR h1
      go_wp2
      refine bodyPost_ret (v := .agg C.toArray) ?_ rfl ⟨.slice va nl vc, by rw [HF.out, HCC.out]; rfl, by rw [HF.out]; exact O8.out.mono (by omega), HB8.out⟩
      have hl3 := run_loadVar_mid (P := Tryz.prog) _ (w.heap.size + 1) 0 30 _ _ (rangeRow HROW.out) Tryz.underlying30 rfl hi
      simp [results, Tryz.results5, asAddr, hl3]
end Go.Proofs.YtjbjegmlpjiefaaGreatDoor
namespace Go.Proofs.YtjbjegmlpjiefaaGreatDoor
open Go.RowKit Go.Lib

set_option maxHeartbeats 1000000 in
set_option maxRecDepth 100000 in
theorem copyText (a : ByteArray) (w : World) (ha : a.size ≤ 1100000) :
    Calls Tryz.prog 49 #[.string a] w fun e w' => e = .returned (.string a) ∧ Below w.heap.size w w' := by
  obtain ⟨i0, hi, hz0, hz1, hz2⟩ := info_parts infoByte
  go_enter Tryz.func49, Tryz.ntmps49
  go_wp2_with (at_make; refine wpList_make_full _ rfl _ _ 76 rfl w.heap.size 5 i0 (.int .u8 0) 1 Tryz.underlying76 hi hz0 hz1 .i64 .i64 _ _ a.size rfl rfl ?c1 ?c2 ?c3 ?c4 ?c5 ?_)
  case c1 => omega
  case c2 => omega
  case c3 => rw [hz2]; omega
  case c4 => unfold maxLen; omega
  case c5 => exact Nat.le_refl _
  intro w1 hown hgrow
  obtain ⟨hrow, hlen⟩ := rowOf hown rfl
  have hB1 : Below w.heap.size w w1 := (Below.refl _ w).grown hgrow (Nat.le_refl _) (fun k hk => by cases hk)
  generalize (madeCells #[Value.int IntKind.u8 0] a.size).toList = L at hrow hlen
  have la : (byteCells a.data.toList).length = a.size := by rw [byteCells_length, ← size_eq]
  have HF : Hid (∀ w3 : World, w3.heap[w.heap.size]? = some (.cells (splice L 0 (byteCells a.data.toList)).toArray 5 (0, 0)) →
      (convert 76 9 (.slice (some ⟨w.heap.size, 0, none⟩) a.size a.size)).run Tryz.prog w3 = .ok (.string a) w3) := by
    intro w3 h3
    rw [splice_one L (byteCells a.data.toList) (by omega)] at h3
    have h4 : w3.heap[w.heap.size]? = some (.cells (byteCells a.data.toList ++ []).toArray 5 (0, 0)) := by simpa using h3
    have := run_convert_row (P := Tryz.prog) (src := 76) (dst := 9) (cap := a.size) Tryz.underlying76 Tryz.underlying5 Tryz.underlying9 h4
    rw [← size_eq] at this
    exact this
  clear hown hgrow la
  go_wp2_with (refine wpList_copy_str rfl _ _ 76 9 rfl 5 Tryz.underlying76 byteSize _ _ _ a rfl rfl w.heap.size 0 L 5 hrow (fun _ => rfl) ?d2 ?d3 w.heap.size w hB1 (Nat.le_refl _) ?_)
  case d2 => exact Nat.le_refl _
  case d3 => omega
  intro w2 H2 hB2 hs2
  have hcv := HF.out w2 H2.out
  clear hrow hB1 hs2
  go_wp2
  go_ret
  exact ⟨rfl, hB2⟩

end Go.Proofs.YtjbjegmlpjiefaaGreatDoor
namespace Go.Proofs.YtjbjegmlpjiefaaGreatDoor
open Go.RowKit

set_option maxHeartbeats 1000000 in
set_option maxRecDepth 100000 in
theorem copyTexts (a : Option Addr) (ss : List ByteArray) (c : Nat) (w : World) (hl : ss.length ≤ 1048576) (hs : totS ss ss.length ≤ 1048576) (ha : IsStrs w a ss) :
    Calls Tryz.prog 50 #[.slice a ss.length c] w fun e w' => ∃ v, e = .returned v ∧ OwnS w' w.heap.size v ss ∧ Below w.heap.size w w' := by
  obtain ⟨i0, hi, hz0, hz1, hz2⟩ := info_parts infoText
  have HSz : Hid (∀ k, k < ss.length → (tAt ss k).size ≤ 1048576) := fun k hk => Nat.le_trans (totS_at ss hk) hs
  clear hs
  go_enter Tryz.func50, Tryz.ntmps50
  go_wp2
  go_loopw [3, 8] (fun v i wr => ∃ k : Nat, k ≤ ss.length ∧ i = .int .i64 k ∧ OwnS wr w.heap.size v (ss.take k) ∧ Below w.heap.size w wr) (fun _ i _ => ss.length - (intOf i).toNat)
  case atStart => exact ⟨0, Nat.zero_le _, rfl, ownS_nil _ _, Below.refl _ _⟩
  case round =>
    obtain ⟨k, hk, rfl, hown, hbr⟩ := hrel
    have HB : Hid (Below w.heap.size w wr) := hbr
    have hlt' : (ss.take k).length = k := by rw [List.length_take]; omega
    obtain ⟨va, vc, rfl, hvc⟩ := OwnS.form hown
    have HO : Hid (OwnS wr w.heap.size (.slice va (ss.take k).length vc) (ss.take k)) := hown
    rw [hlt'] at HO ⊢
    clear hown hvc
    by_cases hlt : k < ss.length
    · obtain ⟨x, o, rfl, hc⟩ : ∃ x o, a = some ⟨x, o, none⟩ ∧ ∀ i, i < ss.length → wr.cell? ⟨x, o + i, none⟩ = some (.string (tAt ss i)) := by
        rcases ha.below hbr ha.lt with rfl | h
        · simp at hlt
        · exact h
      have hck := hc k hlt
      have hz := HSz.out k hlt
      have HC : Hid (∀ V, Calls Tryz.prog 49 #[.string (tAt ss k)] V fun e w' => e = .returned (.string (tAt ss k)) ∧ Below V.heap.size V w') := fun V => copyText _ V (by omega)
      have HT : Hid (ss.take (k + 1) = ss.take k ++ [tAt ss k]) := take_snoc ss hlt
      have HLn : Hid ((ss.take k).length = k) := hlt'
      have a0 : (0 : Int) ≤ (k : Int) := by omega
      have b0 : (k : Int) < (ss.length : Int) := by omega
      generalize tAt ss k = z at *
      clear hc ha hbr HSz hlt'
      go_wp2_with fail
      refine (HC.out _).mono ?_
      rintro e w2 ⟨rfl, b2⟩
      have B2 : Hid (Below w.heap.size w w2) := HB.out.trans (b2.mono HB.out.size)
      have hO : w2.ownsRow w.heap.size 9 1 (.slice va k vc) k (sCells (ss.take k)) := by
        have := HO.out.keep b2
        unfold OwnS at this
        rw [HLn.out] at this
        exact this
      have hsz := B2.out.size
      clear b2
      go_wp2_with (at_builtin; refine wpList_append_own _ rfl _ _ 22 rfl w.heap.size 9 i0 (.string ⟨#[]⟩) 1 16 Tryz.underlying22 hi hz0 hz1 hz2 rfl (by decide) _ _ _ rfl (hO.alloc _) ⟨w2.heap.size, 0, none⟩ 1 1 [.string z] rfl rfl ?c1 ?c2 ?c3 ?c4 ?c5 ?_)
      case c1 => exact cells_one (by simp)
      case c2 => intro u hu; simp at hu; subst hu; rfl
      case c3 => unfold maxLen; omega
      case c4 => omega
      case c5 => simp; omega
      intro v' w3 hown' hgrow _
      have hB3 : Below w.heap.size w w3 := (B2.out.alloc hsz _).grown hgrow (by simp; omega) (fun k hk => (hO.lt k hk).1)
      have HO3 : Hid (OwnS w3 w.heap.size v' (ss.take (k + 1))) := by
        show World.ownsRow _ _ _ _ _ _ _
        rw [HT.out, List.length_append, HLn.out, sCells, List.map_append]
        exact hown'
      have HB3 : Hid (Below w.heap.size w w3) := hB3
      clear hown' hgrow hB3 hO
      go_wp2_with fail
      go_roundw
      case rel => exact ⟨k + 1, by omega, by go_num, HO3.out, HB3.out⟩
      case measure => simp [intOf]; omega
    · obtain rfl : k = ss.length := by omega
      have HF : Hid (OwnS wr w.heap.size (.slice va ss.length vc) ss) := by have := HO.out; rw [List.take_length] at this; exact this
      clear ha hbr HSz
      go_wp2
      go_ret
      exact ⟨_, rfl, HF.out, HB.out⟩
end Go.Proofs.YtjbjegmlpjiefaaGreatDoor
namespace Go.Proofs.YtjbjegmlpjiefaaGreatDoor
open Go.RowKit

set_option maxHeartbeats 4000000 in
set_option maxRecDepth 100000 in
theorem copyCert (c : Paper) (a : Option Addr) (cap : Nat) (w : World) (hi : c.issuer.size ≤ 1048576) (hs : c.subject.size ≤ 1048576) (hl : c.names.length ≤ 1048576) (ht : totS c.names c.names.length ≤ 1048576) (ha : IsStrs w a c.names) :
    Calls Tryz.prog 21 #[c.val (.slice a c.names.length cap)] w fun e w' => ∃ v, e = .returned (c.val v) ∧ OwnS w' w.heap.size v c.names ∧ Below w.heap.size w w' := by
  obtain ⟨ser, iss, sub, fr, till, key, names, ca, sk, se, ss⟩ := c
  simp only at hi hs hl ht ha
  unfold Paper.val
  simp only
  have HT : Hid (∀ V, IsStrs V a names → Calls Tryz.prog 50 #[.slice a names.length cap] V fun e w' => ∃ v, e = .returned v ∧ OwnS w' V.heap.size v names ∧ Below V.heap.size V w') := fun V h1 => copyTexts a names cap V hl ht h1
  have HC : Hid (∀ V (t : ByteArray), t.size ≤ 1048576 → Calls Tryz.prog 49 #[.string t] V fun e w' => e = .returned (.string t) ∧ Below V.heap.size V w') := fun V t h => copyText t V (by omega)
  generalize names.length = nl at *
  obtain ⟨w1, hw1⟩ : ∃ w1, w1 = (w.alloc (.cells #[.int .i64 ser, .string iss, .string sub, .int .i64 fr, .int .i64 till, .int .i64 key, .slice a nl cap, .bool ca, .int .i64 sk, .int .i64 se, .int .i64 ss] 30 (0, 0))).alloc (.cells #[.int .i64 0, .string ⟨#[]⟩, .string ⟨#[]⟩, .int .i64 0, .int .i64 0, .int .i64 0, .slice none 0 0, .bool false, .int .i64 0, .int .i64 0, .int .i64 0] 30 (0, 0)) := ⟨_, rfl⟩
  have r0 : w1.heap[w.heap.size]? = some (.cells [Value.int .i64 ser, .string iss, .string sub, .int .i64 fr, .int .i64 till, .int .i64 key, .slice a nl cap, .bool ca, .int .i64 sk, .int .i64 se, .int .i64 ss].toArray 30 (0, 0)) := by rw [hw1, Below.heap_alloc _ _ _ (by simp)]; exact heap_alloc_new w _
  have r1 : w1.heap[w.heap.size + 1]? = some (.cells [Value.int .i64 0, .string ⟨#[]⟩, .string ⟨#[]⟩, .int .i64 0, .int .i64 0, .int .i64 0, .slice none 0 0, .bool false, .int .i64 0, .int .i64 0, .int .i64 0].toArray 30 (0, 0)) := by rw [hw1]; exact heap_alloc2 w _ _
  have z1 : w1.heap.size = w.heap.size + 2 := by rw [hw1]; simp
  have K1 : Hid (Below w.heap.size w w1) := by rw [hw1]; exact ((Below.refl _ _).alloc (Nat.le_refl _) _).alloc (by simp) _
  have HA : Hid (∀ V, Below w.heap.size w V → IsStrs V a names) := fun V hV => ha.keep hV
  clear ha hl ht
  go_enter Tryz.func21, Tryz.ntmps21
  go_upto_region 1 with fail
  rw [← hw1]
  clear hw1
  have c1 := rowFacts r0 1 _ rfl
  have R0 : Hid _ := r0
  have R1 : Hid _ := r1
  have Z1 : Hid (w1.heap.size = w.heap.size + 2) := z1
  clear r0 r1 z1
  go_wp2_with fail
  refine (HC.out _ iss hi).mono ?_
  rintro e w2 ⟨rfl, b2⟩
  have z2 : w.heap.size + 2 ≤ w2.heap.size := by have := b2.size; have := Z1.out; omega
  have r0 : w2.heap[w.heap.size]? = some (.cells [Value.int .i64 ser, .string iss, .string sub, .int .i64 fr, .int .i64 till, .int .i64 key, .slice a nl cap, .bool ca, .int .i64 sk, .int .i64 se, .int .i64 ss].toArray 30 (0, 0)) := by rw [b2.block _ (by have := Z1.out; omega)]; exact R0.out
  have r1 : w2.heap[w.heap.size + 1]? = some (.cells [Value.int .i64 0, .string ⟨#[]⟩, .string ⟨#[]⟩, .int .i64 0, .int .i64 0, .int .i64 0, .slice none 0 0, .bool false, .int .i64 0, .int .i64 0, .int .i64 0].toArray 30 (0, 0)) := by rw [b2.block _ (by have := Z1.out; omega)]; exact R1.out
  have K2 : Hid (Below w.heap.size w w2) := K1.out.trans (b2.mono K1.out.size)
  clear b2 R0 R1 c1 K1 Z1
  obtain ⟨w3, hw3⟩ : ∃ x, x = w2.setCell ⟨w.heap.size, 1, none⟩ (.string iss) := ⟨_, rfl⟩
  have t0 : w3.heap[w.heap.size]? = some (.cells [Value.int .i64 ser, .string iss, .string sub, .int .i64 fr, .int .i64 till, .int .i64 key, .slice a nl cap, .bool ca, .int .i64 sk, .int .i64 se, .int .i64 ss].toArray 30 (0, 0)) := by rw [hw3]; exact rowSet (i := 1) _ r0
  have t1 : w3.heap[w.heap.size + 1]? = some (.cells [Value.int .i64 0, .string ⟨#[]⟩, .string ⟨#[]⟩, .int .i64 0, .int .i64 0, .int .i64 0, .slice none 0 0, .bool false, .int .i64 0, .int .i64 0, .int .i64 0].toArray 30 (0, 0)) := by rw [hw3, heap_setCell_other _ _ _ _ (by simp)]; exact r1
  have K3 : Hid (Below w.heap.size w w3) := by rw [hw3]; exact K2.out.setCell (by simp) _
  have z3 : w.heap.size + 2 ≤ w3.heap.size := by rw [hw3]; simpa using z2
  have c1 := rowFacts r0 1 _ rfl
  have f1 := rowFree r0 1
  have T0 : Hid _ := t0
  have T1 : Hid _ := t1
  clear r0 r1 t0 t1 K2 z2
  go_upto_region 2 with fail
  rw [← hw3]
  clear hw3 c1 f1
  have c2 := rowFacts T0.out 2 _ rfl
  go_wp2_with fail
  refine (HC.out _ sub hs).mono ?_
  rintro e w4 ⟨rfl, b4⟩
  have z4 : w.heap.size + 2 ≤ w4.heap.size := by have := b4.size; omega
  have r0 : w4.heap[w.heap.size]? = some (.cells [Value.int .i64 ser, .string iss, .string sub, .int .i64 fr, .int .i64 till, .int .i64 key, .slice a nl cap, .bool ca, .int .i64 sk, .int .i64 se, .int .i64 ss].toArray 30 (0, 0)) := by rw [b4.block _ (by omega)]; exact T0.out
  have r1 : w4.heap[w.heap.size + 1]? = some (.cells [Value.int .i64 0, .string ⟨#[]⟩, .string ⟨#[]⟩, .int .i64 0, .int .i64 0, .int .i64 0, .slice none 0 0, .bool false, .int .i64 0, .int .i64 0, .int .i64 0].toArray 30 (0, 0)) := by rw [b4.block _ (by omega)]; exact T1.out
  have K4 : Hid (Below w.heap.size w w4) := K3.out.trans (b4.mono K3.out.size)
  clear b4 T0 T1 c2 K3 z3
  obtain ⟨w5, hw5⟩ : ∃ x, x = w4.setCell ⟨w.heap.size, 2, none⟩ (.string sub) := ⟨_, rfl⟩
  have t0 : w5.heap[w.heap.size]? = some (.cells [Value.int .i64 ser, .string iss, .string sub, .int .i64 fr, .int .i64 till, .int .i64 key, .slice a nl cap, .bool ca, .int .i64 sk, .int .i64 se, .int .i64 ss].toArray 30 (0, 0)) := by rw [hw5]; exact rowSet (i := 2) _ r0
  have t1 : w5.heap[w.heap.size + 1]? = some (.cells [Value.int .i64 0, .string ⟨#[]⟩, .string ⟨#[]⟩, .int .i64 0, .int .i64 0, .int .i64 0, .slice none 0 0, .bool false, .int .i64 0, .int .i64 0, .int .i64 0].toArray 30 (0, 0)) := by rw [hw5, heap_setCell_other _ _ _ _ (by simp)]; exact r1
  have K5 : Hid (Below w.heap.size w w5) := by rw [hw5]; exact K4.out.setCell (by simp) _
  have z5 : w.heap.size + 2 ≤ w5.heap.size := by rw [hw5]; simpa using z4
  have c2 := rowFacts r0 2 _ rfl
  have f2 := rowFree r0 2
  have T0 : Hid _ := t0
  have T1 : Hid _ := t1
  clear r0 r1 t0 t1 K4 z4
  go_upto_region 3 with fail
  rw [← hw5]
  clear hw5 c2 f2
  have c6 := rowFacts T0.out 6 _ rfl
  go_wp2_with fail
  refine (HT.out _ (HA.out _ K5.out)).mono ?_
  rintro e w6 ⟨v6, rfl, o6, b6⟩
  have z6 : w.heap.size + 2 ≤ w6.heap.size := by have := b6.size; omega
  have r0 : w6.heap[w.heap.size]? = some (.cells [Value.int .i64 ser, .string iss, .string sub, .int .i64 fr, .int .i64 till, .int .i64 key, .slice a nl cap, .bool ca, .int .i64 sk, .int .i64 se, .int .i64 ss].toArray 30 (0, 0)) := by rw [b6.block _ (by omega)]; exact T0.out
  have r1 : w6.heap[w.heap.size + 1]? = some (.cells [Value.int .i64 0, .string ⟨#[]⟩, .string ⟨#[]⟩, .int .i64 0, .int .i64 0, .int .i64 0, .slice none 0 0, .bool false, .int .i64 0, .int .i64 0, .int .i64 0].toArray 30 (0, 0)) := by rw [b6.block _ (by omega)]; exact T1.out
  have K6 : Hid (Below w.heap.size w w6) := K5.out.trans (b6.mono K5.out.size)
  have O6 : Hid (OwnS w6 (w.heap.size + 2) v6 names) := o6.mono z5
  clear b6 T0 T1 c6 K5 z5 HT HC HA
  obtain ⟨va, vc, rfl, _⟩ := OwnS.form o6
  clear o6
  obtain ⟨C, hC⟩ : ∃ C, C = [Value.int .i64 ser, .string iss, .string sub, .int .i64 fr, .int .i64 till, .int .i64 key, .slice va names.length vc, .bool ca, .int .i64 sk, .int .i64 se, .int .i64 ss] := ⟨_, rfl⟩
  obtain ⟨w7, hw7⟩ : ∃ x, x = w6.setCell ⟨w.heap.size, 6, none⟩ (.slice va names.length vc) := ⟨_, rfl⟩
  have t0 : w7.heap[w.heap.size]? = some (.cells C.toArray 30 (0, 0)) := by rw [hw7, hC]; exact rowSet (i := 6) _ r0
  have t1 : w7.heap[w.heap.size + 1]? = some (.cells [Value.int .i64 0, .string ⟨#[]⟩, .string ⟨#[]⟩, .int .i64 0, .int .i64 0, .int .i64 0, .slice none 0 0, .bool false, .int .i64 0, .int .i64 0, .int .i64 0].toArray 30 (0, 0)) := by rw [hw7, heap_setCell_other _ _ _ _ (by simp)]; exact r1
  have K7 : Hid (Below w.heap.size w w7) := by rw [hw7]; exact K6.out.setCell (by simp) _
  have O7 : Hid (OwnS w7 (w.heap.size + 2) (.slice va names.length vc) names) := O6.out.same fun k h1 h2 => by rw [hw7, heap_setCell_other _ _ _ _ (by show k ≠ w.heap.size; omega)]
  have hone : ∀ v ∈ C, v.oneCell' = true := by rw [hC]; simp [Value.oneCell']
  have hi : (Tryz.prog.info? 30).map (·.size) = some C.length := by rw [hC]; exact sizeCert
  have hlen : [Value.int .i64 0, .string ⟨#[]⟩, .string ⟨#[]⟩, .int .i64 0, .int .i64 0, .int .i64 0, .slice none 0 0, .bool false, .int .i64 0, .int .i64 0, .int .i64 0].length = C.length := by rw [hC]; rfl
  have HCC : Hid (C = [Value.int .i64 ser, .string iss, .string sub, .int .i64 fr, .int .i64 till, .int .i64 key, .slice va names.length vc, .bool ca, .int .i64 sk, .int .i64 se, .int .i64 ss]) := hC
  have c6 := rowFacts r0 6 _ rfl
  have f6 := rowFree r0 6
  have T0 : Hid _ := t0
  have T1 : Hid _ := t1
  have HOne : Hid (∀ v ∈ C, v.oneCell' = true) := hone
  have HI : Hid ((Tryz.prog.info? 30).map (·.size) = some C.length) := hi
  have HLen : Hid ([Value.int .i64 0, .string ⟨#[]⟩, .string ⟨#[]⟩, .int .i64 0, .int .i64 0, .int .i64 0, .slice none 0 0, .bool false, .int .i64 0, .int .i64 0, .int .i64 0].length = C.length) := hlen
  clear r0 r1 t0 t1 K6 z6 O6 hone hi hlen hC
  go_upto_region 4 with fail
  rw [← hw7]
  clear hw7 c6 f6
  have hr := rangeRow T0.out
  have hR := T1.out
  have h1 := HOne.out
  have hi := HI.out
  go_wp2_with (first | (refine wpList_load_mid rfl 30 _ rfl (w.heap.size) 0 rfl C _ hr Tryz.underlying30 rfl hi ?_) | (refine wpList_store_row rfl 30 _ _ rfl (w.heap.size + 1) _ C 30 rfl rfl hR HLen.out hi h1 ?_))
  intro w8 hrow ho hs8 hbb
  have HROW : Hid _ := hrow
  have HB8 : Hid (Below w.heap.size w w8) := hbb _ _ (by omega) K7.out
  have O8 : Hid (OwnS w8 (w.heap.size + 2) (.slice va names.length vc) names) := O7.out.same fun k h1 h2 => ho k (by omega)
  clear ho hs8 hbb hrow hr hR h1
  go_wp2
  refine bodyPost_ret (v := .agg C.toArray) ?_ rfl ⟨_, by rw [HCC.out], O8.out.mono (by omega), HB8.out⟩
  have hl3 := run_loadVar_mid (P := Tryz.prog) _ (w.heap.size + 1) 0 30 _ _ (rangeRow HROW.out) Tryz.underlying30 rfl hi
  simp [results, Tryz.results21, asAddr, hl3]
end Go.Proofs.YtjbjegmlpjiefaaGreatDoor
namespace Go.Proofs.YtjbjegmlpjiefaaGreatDoor
open Go.RowKit Go.Lib

/-- The table's byte at the top of a number. -/
theorem lenTop (x y : Int) (k : Nat) (hx0 : 0 ≤ x) (hx : x < 18446744073709551616) (hy : y = x / 2 ^ k) (hy1 : y ≤ 255) (hk : (2 : Int) ^ k ≤ x ∨ k = 0) : (k : Int) + Lib.len8 y = (Lib.bitLen x.toNat : Int) := by
  have hp : (0 : Int) < 2 ^ k := Int.pow_pos (by decide)
  have hy0 : 0 ≤ y := by rw [hy]; exact Int.ediv_nonneg hx0 (Int.le_of_lt hp)
  rw [Lib.len8_of y hy0 hy1]
  have e : y.toNat = x.toNat / 2 ^ k := by
    obtain ⟨n, rfl⟩ := Int.eq_ofNat_of_zero_le hx0
    rw [hy]
    have : ((n : Int) / 2 ^ k) = ((n / 2 ^ k : Nat) : Int) := by simp
    rw [this]; rfl
  rcases hk with hk | rfl
  · have h2 : 2 ^ k ≤ x.toNat := by
      obtain ⟨n, rfl⟩ := Int.eq_ofNat_of_zero_le hx0
      have : ((2 ^ k : Nat) : Int) ≤ (n : Int) := by simpa using hk
      show 2 ^ k ≤ n
      exact_mod_cast this
    have h3 : x.toNat < 2 ^ 64 := by
      have : (2 : Nat) ^ 64 = 18446744073709551616 := by decide
      omega
    rw [e, Lib.bitLen_shift k x.toNat h2 h3]
    omega
  · rw [e]; simp
theorem tabAt (y : Int) (h : y.toNat < len8tab.size) : (len8tab[y.toNat].toNat : Int) = Lib.len8 y := by
  unfold Lib.len8
  rw [getElem?_pos len8tab y.toNat h]; rfl
theorem lenGoal (x y : Int) (k : Nat) (h : y.toNat < len8tab.size) (hx0 : 0 ≤ x) (hx : x < 18446744073709551616) (hy : y = x / 2 ^ k) (hy1 : y ≤ 255) (hk : (2 : Int) ^ k ≤ x ∨ k = 0) :
    wrap64 ((k : Int) + wrap64 (len8tab[y.toNat].toNat : Int)) = (Lib.bitLen x.toNat : Int) := by
  have e := lenTop x y k hx0 hx hy hy1 hk
  have l := Lib.bitLen_le x.toNat 64 (by omega) (by have : (2 : Nat) ^ 64 = 18446744073709551616 := by decide
                                                    omega)
  rw [tabAt y h]
  have b : 0 ≤ Lib.len8 y := by unfold Lib.len8; omega
  have w1 : wrap64 (Lib.len8 y) = Lib.len8 y := by unfold wrap64; omega
  rw [w1]
  unfold wrap64
  omega
set_option maxHeartbeats 4000000 in
set_option maxRecDepth 100000 in
theorem len64 (x : Int) (w : World) (h0 : 0 ≤ x) (h1 : x ≤ 18446744073709551615) :
    Calls Tryz.prog 122 #[.int .u64 x] w fun e w' => e = .returned (.int .i64 (Lib.bitLen x.toNat : Int)) ∧ w' = w := by
  have hts : (len8tab.size : Int) = 256 := by rw [len8tab_size]; rfl
  go_enter Tryz.func122, Tryz.ntmps122
  go_wp2
  all_goals
    go_ret
    refine ⟨ret_int ?_, rfl⟩
    first
      | exact lenGoal x _ 56 (by omega) h0 (by omega) (by omega) (by omega) (by omega)
      | exact lenGoal x _ 48 (by omega) h0 (by omega) (by omega) (by omega) (by omega)
      | exact lenGoal x _ 40 (by omega) h0 (by omega) (by omega) (by omega) (by omega)
      | exact lenGoal x _ 32 (by omega) h0 (by omega) (by omega) (by omega) (by omega)
      | exact lenGoal x _ 24 (by omega) h0 (by omega) (by omega) (by omega) (by omega)
      | exact lenGoal x _ 16 (by omega) h0 (by omega) (by omega) (by omega) (by omega)
      | exact lenGoal x _ 8 (by omega) h0 (by omega) (by omega) (by omega) (by omega)
      | (have e := lenGoal x x 0 (by omega) h0 (by omega) (by simp) (by omega) (.inr rfl)
         rw [← e]
         simp)
theorem lenUint (x : Int) (w : World) (h0 : 0 ≤ x) (h1 : x ≤ 18446744073709551615) :
    Calls Tryz.prog 119 #[.int .u64 x] w fun e w' => e = .returned (.int .i64 (Lib.bitLen x.toNat : Int)) ∧ w' = w := by
  go_enter Tryz.func119, Tryz.ntmps119
  go_wp2_with fail
  refine (len64 x _ h0 h1).mono ?_
  rintro e w' ⟨rfl, rfl⟩
  go_wp2
  go_ret
  exact ⟨rfl, rfl⟩
end Go.Proofs.YtjbjegmlpjiefaaGreatDoor
