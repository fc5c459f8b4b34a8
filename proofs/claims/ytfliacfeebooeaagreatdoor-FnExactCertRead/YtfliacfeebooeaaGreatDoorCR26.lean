/- The specification's papers in bytes: spec.CertBytes, walked. spec.CertRead, walked: what is read is laid anew and compared. laws.eqStringS, walked. A Sig in memory. laws.eqSig, walked: of a Sig and itself. laws.eqCert, walked: of a paper and itself. laws.markText, walked. What marks a row of texts, and what looks for the marks: laws.markStringS, heldStringS, walked. -/
import Derived.Test.YtfliacfeebooeaaGreatDoorCR24
import Derived.Test.YtfliacfeebooeaaGreatDoorCR04
import Derived.Test.YtfliacfeebooeaaGreatDoorCR25
import Derived.Test.YtfliacfeebooeaaGreatDoorCR13
import Derived.Test.YtfliacfeebooeaaGreatDoorCR21
import Derived.Test.YtfliacfeebooeaaGreatDoorCR23
import Derived.Test.YtfliacfeebooeaaGreatDoorCR03
import Derived.Handy
import Derived.Deep.Cut
import Derived.Test.YtfliacfeebooeaaGreatDoorCR05
import Derived.Test.YtfliacfeebooeaaGreatDoorCR11
import Derived.Test.YtfliacfeebooeaaGreatDoorCR08
import Derived.Deep.RegionHeld3
namespace Go.Proofs.YtfliacfeebooeaaGreatDoor
open Go.RowKit

set_option maxHeartbeats 4000000 in
set_option maxRecDepth 100000 in
theorem specCertBytes (c : Paper) (a : Option Addr) (cap : Nat) (w : World) (hi : c.issuer.size ≤ maxLen) (hs : c.subject.size ≤ maxLen) (hl : c.names.length ≤ 1048576) (ht : totS c.names c.names.length ≤ 1048576) (ha : IsStrs w a c.names) :
    Calls Tryz.prog 10 #[c.val (.slice a c.names.length cap)] w fun e w' => e = .returned (.string (certBytesD c)) ∧ Below w.heap.size w w' := by
  have HP : Hid (∀ V, IsStrs V a c.names → Calls Tryz.prog 24 #[c.val (.slice a c.names.length cap)] V fun e w' => e = .returned (.bool (certB c)) ∧ Below V.heap.size V w') := fun V hV => specCert c a cap V hi hs hl ht hV
  have HN : Hid (certB c = false → certBytesD c = ⟨#[]⟩) := fun h => by show (if _ then _ else _) = _; rw [if_neg (by rw [h]; simp)]
  have HY : Hid (certB c = true → certBytesD c = seqD (bodyD c ++ (kindD ++ sigD c.sk c.se c.ss))) := fun h => if_pos h
  have HQ : Hid (certB c = true → ∀ V, IsStrs V a c.names → Calls Tryz.prog 26 #[c.val (.slice a c.names.length cap)] V fun e w' => e = .returned (.string (bodyD c)) ∧ Below V.heap.size V w') := fun h V hV => specBody c a cap V (paper_fits (certB_paper h)) hV
  have HZ : Hid (certB c = true → (bodyD c).size ≤ 900) := fun h => bodyD_le (paper_fits (certB_paper h))
  have HSg : Hid (certB c = true → ∀ V, Calls Tryz.prog 28 #[.agg #[.int .i64 c.sk, .int .i64 c.se, .int .i64 c.ss]] V fun r w' => r = .returned (.string (sigD c.sk c.se c.ss)) ∧ Below V.heap.size V w') := fun h V => by
    obtain ⟨h1, h2, h3, h4⟩ := certB_sig h
    exact specSigD _ _ _ V (by omega) (by omega) (by omega)
  have zS := sigD_le c.sk c.se c.ss
  have zK := kindD_le
  generalize certBytesD c = R at *
  generalize certB c = P at *
  generalize bodyD c = D at *
  clear hi hs hl ht
  obtain ⟨ser, iss, sub, fr, till, key, names, ca, sk, se, ss⟩ := c
  unfold Paper.val at *
  simp only at HP HQ HSg HY zS ha ⊢
  generalize sigD sk se ss = G at *
  generalize names.length = nl at *
  obtain ⟨w1, hw1⟩ : ∃ w1, w1 = w.alloc (.cells #[.int .i64 ser, .string iss, .string sub, .int .i64 fr, .int .i64 till, .int .i64 key, .slice a nl cap, .bool ca, .int .i64 sk, .int .i64 se, .int .i64 ss] 26 (0, 0)) := ⟨_, rfl⟩
  have r0 : w1.heap[w.heap.size]? = some (.cells [Value.int .i64 ser, .string iss, .string sub, .int .i64 fr, .int .i64 till, .int .i64 key, .slice a nl cap, .bool ca, .int .i64 sk, .int .i64 se, .int .i64 ss].toArray 26 (0, 0)) := by rw [hw1]; exact heap_alloc_new w _
  have B1 : Hid (Below w.heap.size w w1) := by rw [hw1]; exact (Below.refl _ _).alloc (Nat.le_refl _) _
  have z1 : w.heap.size < w1.heap.size := by rw [hw1]; simp
  have HK : Hid (∀ V, Below w1.heap.size w1 V → V.cell? ⟨w.heap.size, 0, none⟩ = some (.int .i64 ser) ∧ V.cell? ⟨w.heap.size, 1, none⟩ = some (.string iss) ∧ V.cell? ⟨w.heap.size, 2, none⟩ = some (.string sub) ∧ V.cell? ⟨w.heap.size, 3, none⟩ = some (.int .i64 fr) ∧ V.cell? ⟨w.heap.size, 4, none⟩ = some (.int .i64 till) ∧ V.cell? ⟨w.heap.size, 5, none⟩ = some (.int .i64 key) ∧ V.cell? ⟨w.heap.size, 6, none⟩ = some (.slice a nl cap) ∧ V.cell? ⟨w.heap.size, 7, none⟩ = some (.bool ca) ∧ V.cell? ⟨w.heap.size, 8, none⟩ = some (.int .i64 sk) ∧ V.cell? ⟨w.heap.size, 9, none⟩ = some (.int .i64 se) ∧ V.cell? ⟨w.heap.size, 10, none⟩ = some (.int .i64 ss)) := fun V hV => by
    have hP := (hV.block _ z1).trans r0
    exact ⟨rowFacts hP 0 _ rfl, rowFacts hP 1 _ rfl, rowFacts hP 2 _ rfl, rowFacts hP 3 _ rfl, rowFacts hP 4 _ rfl, rowFacts hP 5 _ rfl, rowFacts hP 6 _ rfl, rowFacts hP 7 _ rfl, rowFacts hP 8 _ rfl, rowFacts hP 9 _ rfl, rowFacts hP 10 _ rfl⟩
  have HA : Hid (∀ V, Below w1.heap.size w1 V → IsStrs V a names) := fun V hV => (ha.keep B1.out).keep hV
  have HB : Hid (∀ V, Below w1.heap.size w1 V → Below w.heap.size w V) := fun V hV => B1.out.trans (hV.mono B1.out.size)
  clear r0 ha z1 B1
  go_enter Tryz.func10, Tryz.ntmps10
  go_upto_region 1 with fail
  rw [← hw1]
  clear hw1
  obtain ⟨c0, c1, c2, c3, c4, c5, c6, c7, c8, c9, c10⟩ := HK.out w1 (Below.refl _ _)
  go_wp2_with fail
  refine (HP.out _ (HA.out _ (Below.refl _ _))).mono ?_
  rintro e w2 ⟨rfl, b2⟩
  have K2 : Hid (Below w1.heap.size w1 w2) := b2
  clear b2 c0 c1 c2 c3 c4 c5 c6 c7 c8 c9 c10 HP
  cases P with
  | false =>
    have HF : Hid (R = ⟨#[]⟩) := HN.out rfl
    go_wp2
    go_ret
    exact ⟨by rw [HF.out]; rfl, HB.out _ K2.out⟩
  | true =>
    have hR := HY.out rfl
    have zD := HZ.out rfl
    have Q1 := HQ.out rfl
    have G1 := HSg.out rfl
    have PB : Hid (∀ V, Hid (Below w1.heap.size w1 V) → Calls Tryz.prog 26 #[.agg #[.int .i64 ser, .string iss, .string sub, .int .i64 fr, .int .i64 till, .int .i64 key, .slice a nl cap, .bool ca, .int .i64 sk, .int .i64 se, .int .i64 ss]] V fun e W => e = .returned (.string (D)) ∧ Hid (Below w1.heap.size w1 W)) := fun V hV => (Q1 V (HA.out V hV.out)).mono fun e W h => ⟨h.1, hV.out.trans (h.2.mono hV.out.size)⟩
    have PK : Hid (∀ V, Hid (Below w1.heap.size w1 V) → Calls Tryz.prog 27 #[] V fun e W => e = .returned (.string (kindD)) ∧ Hid (Below w1.heap.size w1 W)) := fun V hV => (specKind V).mono fun e W h => ⟨h.1, hV.out.trans (h.2.mono hV.out.size)⟩
    have PG : Hid (∀ V, Hid (Below w1.heap.size w1 V) → Calls Tryz.prog 28 #[.agg #[.int .i64 sk, .int .i64 se, .int .i64 ss]] V fun e W => e = .returned (.string (G)) ∧ Hid (Below w1.heap.size w1 W)) := fun V hV => (G1 V).mono fun e W h => ⟨h.1, hV.out.trans (h.2.mono hV.out.size)⟩
    clear HN HY HZ HQ HSg Q1 G1
    obtain ⟨x1, q1⟩ : ∃ q, D ++ kindD = q := ⟨_, rfl⟩
    have s1 : x1.size ≤ 1000 := by rw [← q1, ByteArray.size_append]; omega
    obtain ⟨x2, q2⟩ : ∃ q, x1 ++ G = q := ⟨_, rfl⟩
    have s2 : x2.size ≤ 2000 := by rw [← q2, ByteArray.size_append]; omega
    have a1 : ¬ 9223372036854775807 < D.size + kindD.size := by omega
    have a2 : ¬ 9223372036854775807 < x1.size + G.size := by omega
    have PS : Hid (∀ V, Hid (Below w1.heap.size w1 V) → Calls Tryz.prog 25 #[.string x2] V fun e W => e = .returned (.string (R)) ∧ Hid (Below w1.heap.size w1 W)) := fun V hV => by
      have e : R = seqD x2 := by rw [hR, ← q2, ← q1, ByteArray.append_assoc]
      rw [e]
      exact (specSeq x2 V (by omega)).mono fun e W h => ⟨h.1, hV.out.trans (h.2.mono hV.out.size)⟩
    have D2 : Hid (Below w1.heap.size w1 w2.drew) := K2.out.drew
    clear hR zD zS zK s1 s2
    obtain ⟨c0, c1, c2, c3, c4, c5, c6, c7, c8, c9, c10⟩ := HK.out w2 K2.out
    go_wp2_with fail
    go_region_held3 (fun V => V.cell? ⟨w.heap.size, 0, none⟩ = some (.int .i64 ser) ∧ V.cell? ⟨w.heap.size, 1, none⟩ = some (.string iss) ∧ V.cell? ⟨w.heap.size, 2, none⟩ = some (.string sub) ∧ V.cell? ⟨w.heap.size, 3, none⟩ = some (.int .i64 fr) ∧ V.cell? ⟨w.heap.size, 4, none⟩ = some (.int .i64 till) ∧ V.cell? ⟨w.heap.size, 5, none⟩ = some (.int .i64 key) ∧ V.cell? ⟨w.heap.size, 6, none⟩ = some (.slice a nl cap) ∧ V.cell? ⟨w.heap.size, 7, none⟩ = some (.bool ca) ∧ V.cell? ⟨w.heap.size, 8, none⟩ = some (.int .i64 sk) ∧ V.cell? ⟨w.heap.size, 9, none⟩ = some (.int .i64 se) ∧ V.cell? ⟨w.heap.size, 10, none⟩ = some (.int .i64 ss)) (first | (refine ⟨?_, ?_, ?_, ?_, ?_, ?_, ?_, ?_, ?_, ?_, ?_⟩ <;> assumption) | exact HK.out _ (Hid.out (by assumption)))
      (first
        | (go_at_call 26; refine (PB.out _ (by assumption)).mono ?_; rintro r V1 ⟨rfl, k1⟩)
        | (go_at_call 27; refine (PK.out _ (by assumption)).mono ?_; rintro r V2 ⟨rfl, k2⟩)
        | (go_at_call 28; refine (PG.out _ (by assumption)).mono ?_; rintro r V3 ⟨rfl, k3⟩)
        | (go_at_call 25; refine (PS.out _ (by assumption)).mono ?_; rintro r V4 ⟨rfl, k4⟩))
    go_wp2
    go_ret
    exact ⟨rfl, HB.out _ k4.out⟩
end Go.Proofs.YtfliacfeebooeaaGreatDoor
namespace Go.Proofs.YtfliacfeebooeaaGreatDoor
open Go.RowKit

theorem nameR_sz (l : List (Int × ByteArray)) (b : Bool) : (nameR l b).1.size ≤ 4000 := by
  unfold nameR
  simp only
  exact takeR_sz (takeR_rest (inR_4000 _ _ _))
theorem certSP_texts (s : ByteArray) : (certSP s).issuer.size ≤ 4000 ∧ (certSP s).subject.size ≤ 4000 := by
  unfold certSP
  simp only
  exact ⟨nameR_sz _ _, nameR_sz _ _⟩
set_option linter.unusedSimpArgs false in
set_option maxHeartbeats 4000000 in
set_option maxRecDepth 100000 in
theorem specCertRead (s : ByteArray) (w : World) :
    Calls Tryz.prog 4 #[.string s] w fun e w' => ∃ v, e = .returned (certV (certS s).1 v (certS s).2) ∧ OwnS w' w.heap.size v (certS s).1.names ∧ Below w.heap.size w w' := by
  obtain ⟨w1, hw1⟩ : ∃ y, y = w.alloc (.cells #[Value.int .i64 0, .string ⟨#[]⟩, .string ⟨#[]⟩, .int .i64 0, .int .i64 0, .int .i64 0, .slice none 0 0, .bool false, .int .i64 0, .int .i64 0, .int .i64 0, .int .i64 0] 28 (0, 0)) := ⟨_, rfl⟩
  have hz : w1.heap.size = w.heap.size + 1 := by rw [hw1]; simp
  have hg1 : w1.heap[w.heap.size]? = some (.cells [Value.int .i64 0, .string ⟨#[]⟩, .string ⟨#[]⟩, .int .i64 0, .int .i64 0, .int .i64 0, .slice none 0 0, .bool false, .int .i64 0, .int .i64 0, .int .i64 0, .int .i64 0].toArray 28 (0, 0)) := by rw [hw1]; exact heap_alloc_new w _
  have hB1 : Below w.heap.size w w1 := by rw [hw1]; exact (Below.refl _ w).alloc (Nat.le_refl _) _
  have HB : Hid (∀ V, Below w1.heap.size w1 V → Below w.heap.size w V) := fun V hV => hB1.trans (hV.mono (by omega))
  have HRes : Hid (∀ V, Below w1.heap.size w1 V → V.heap[w.heap.size]? = some (.cells [Value.int .i64 0, .string ⟨#[]⟩, .string ⟨#[]⟩, .int .i64 0, .int .i64 0, .int .i64 0, .slice none 0 0, .bool false, .int .i64 0, .int .i64 0, .int .i64 0, .int .i64 0].toArray 28 (0, 0))) := fun V hV => by rw [hV.block _ (by omega)]; exact hg1
  have HRd : Hid (¬ 20000 < s.size → ∀ V, Calls Tryz.prog 9 #[.string s] V fun e w' => ∃ v, e = .returned ((certSP s).val v) ∧ OwnS w' V.heap.size v (certSP s).names ∧ Below V.heap.size V w') := fun h V => specReadP s V (by omega)
  have HNf : Hid (((certSP s).names.length ≤ 1048576 ∧ totS (certSP s).names (certSP s).names.length ≤ 1048576) ∧ (certSP s).issuer.size ≤ 4000 ∧ (certSP s).subject.size ≤ 4000) := ⟨certSP_fit s, certSP_texts s⟩
  have HRn : Hid (¬ 20000 < s.size → certS s = if s.size = 0 ∨ certBytesD (certSP s) ≠ s then (zeroPaper, 3) else (certSP s, 0)) := fun h => by show _ = _; rw [certS, if_neg h]
  obtain ⟨R, hR⟩ : ∃ R, R = certS s := ⟨_, rfl⟩
  rw [← hR]
  have HR : Hid (R = certS s) := hR
  have I1 : Hid (Below w1.heap.size w1 w1) := Below.refl _ _
  have Z1 : Hid (w1.heap.size = w.heap.size + 1) := hz
  clear hR hg1 hB1 hz
  go_enter Tryz.func4, Tryz.ntmps4
  by_cases hl : 20000 < s.size
  · have HF : Hid (R = (zeroPaper, 2)) := by show _ = _; rw [HR.out, certS, if_pos hl]
    go_upto_region 2 with fail
    rw [← hw1]
    clear hw1
    go_wp2_with (refine wpList_store_row rfl 28 _ _ rfl (w.heap.size) _ [Value.int .i64 0, .string ⟨#[]⟩, .string ⟨#[]⟩, .int .i64 0, .int .i64 0, .int .i64 0, .slice none 0 0, .bool false, .int .i64 0, .int .i64 0, .int .i64 0, .int .i64 2] 28 rfl rfl (HRes.out _ I1.out) rfl sizeCertOut (by simp [Value.oneCell']) ?_)
    intro w8 hrow ho hs8 hbb
    have HROW : Hid _ := hrow
    have HB8 : Hid (Below w.heap.size w w8) := hbb _ _ (by omega) (HB.out _ I1.out)
    clear ho hs8 hbb hrow
    go_wp2
    refine bodyPost_ret (v := .agg [Value.int .i64 0, .string ⟨#[]⟩, .string ⟨#[]⟩, .int .i64 0, .int .i64 0, .int .i64 0, .slice none 0 0, .bool false, .int .i64 0, .int .i64 0, .int .i64 0, .int .i64 2].toArray) ?_ rfl ⟨.slice none 0 0, by rw [HF.out]; rfl, by rw [HF.out]; exact ownS_nil _ _, HB8.out⟩
    have hl3 := run_loadVar_mid (P := Tryz.prog) _ (w.heap.size) 0 28 _ _ (rangeRow HROW.out) Tryz.underlying28 rfl sizeCertOut
    simp [results, Tryz.results4, asAddr, hl3]
  · have HRd' : Hid _ := HRd.out hl
    have HRn' : Hid _ := HRn.out hl
    rw [← HR.out] at HRn'
    clear HRd HRn
    go_wp2_with fail
    rw [← hw1]
    refine (HRd'.out w1).mono ?_
    rintro e w3 ⟨v, rfl, o3, b3⟩
    clear HRd' hw1
    obtain ⟨va, vc, rfl, _⟩ := OwnS.form o3
    have O3 : Hid (OwnS w3 (w.heap.size + 1) (.slice va (certSP s).names.length vc) (certSP s).names) := o3.mono (by rw [Z1.out]; omega)
    have B3 : Hid (Below w1.heap.size w1 w3) := b3
    clear o3 b3
    obtain ⟨c, hc⟩ : ∃ c, c = certSP s := ⟨_, rfl⟩
    rw [← hc] at O3 HNf HRn'
    rw [← hc]
    have HIs : Hid (∀ V, Below w3.heap.size w3 V → IsStrs V va c.names) := fun V hV => O3.out.strs.keep hV
    have HBy : Hid (∀ V, Below w3.heap.size w3 V → Calls Tryz.prog 10 #[c.val (.slice va c.names.length vc)] V fun e w' => e = .returned (.string (certBytesD c)) ∧ Below V.heap.size V w') := fun V hV => specCertBytes c va vc V (by have := HNf.out.2.1; unfold maxLen; omega) (by have := HNf.out.2.2; unfold maxLen; omega) HNf.out.1.1 HNf.out.1.2 (HIs.out V hV)
    clear hc HNf HIs HR
    generalize certBytesD c = Y at *
    obtain ⟨ser, iss, sub, fr, till, key, names, ca, sk, se, ss⟩ := c
    unfold Paper.val at *
    simp only at HBy O3 ⊢
    obtain ⟨nl, hnl⟩ : ∃ n, n = names.length := ⟨_, rfl⟩
    rw [← hnl] at O3 HBy ⊢
    have HNl : Hid (nl = names.length) := hnl
    clear hnl
    obtain ⟨w4, hw4⟩ : ∃ y, y = w3.alloc (.cells #[.int .i64 ser, .string iss, .string sub, .int .i64 fr, .int .i64 till, .int .i64 key, .slice va nl vc, .bool ca, .int .i64 sk, .int .i64 se, .int .i64 ss] 26 (0, 0)) := ⟨_, rfl⟩
    have b4 : Below w3.heap.size w3 w4 := by rw [hw4]; exact (Below.refl _ w3).alloc (Nat.le_refl _) _
    have G4 : Hid (w4.heap[w3.heap.size]? = some (.cells [Value.int .i64 ser, .string iss, .string sub, .int .i64 fr, .int .i64 till, .int .i64 key, .slice va nl vc, .bool ca, .int .i64 sk, .int .i64 se, .int .i64 ss].toArray 26 (0, 0))) := by show _ = _; rw [hw4]; exact heap_alloc_new w3 _
    have B4 : Hid (Below w3.heap.size w3 w4) := b4
    have O4 : Hid (OwnS w4 (w.heap.size + 1) (.slice va nl vc) names) := O3.out.keep b4
    have K4 : Hid (Below w1.heap.size w1 w4) := B3.out.trans (b4.mono B3.out.size)
    clear b4 O3
    have d0 := rowFacts G4.out 0 _ rfl
    have d1 := rowFacts G4.out 1 _ rfl
    have d2 := rowFacts G4.out 2 _ rfl
    have d3 := rowFacts G4.out 3 _ rfl
    have d4 := rowFacts G4.out 4 _ rfl
    have d5 := rowFacts G4.out 5 _ rfl
    have d6 := rowFacts G4.out 6 _ rfl
    have d7 := rowFacts G4.out 7 _ rfl
    have d8 := rowFacts G4.out 8 _ rfl
    have d9 := rowFacts G4.out 9 _ rfl
    have d10 := rowFacts G4.out 10 _ rfl
    go_upto_region 4 with fail
    rw [← hw4]
    clear hw4
    by_cases hs0 : s.size = 0
    · have HF : Hid (R = (zeroPaper, 3)) := by show _ = _; rw [HRn'.out, if_pos (Or.inl hs0)]
      have he := isEmpty_of hs0
      clear d0 d1 d2 d3 d4 d5 d6 d7 d8 d9 d10 HBy
      go_wp2_with (refine wpList_store_row rfl 28 _ _ rfl (w.heap.size) _ [Value.int .i64 0, .string ⟨#[]⟩, .string ⟨#[]⟩, .int .i64 0, .int .i64 0, .int .i64 0, .slice none 0 0, .bool false, .int .i64 0, .int .i64 0, .int .i64 0, .int .i64 3] 28 rfl rfl (HRes.out _ K4.out) rfl sizeCertOut (by simp [Value.oneCell']) ?_)
      intro w8 hrow ho hs8 hbb
      have HROW : Hid _ := hrow
      have HB8 : Hid (Below w.heap.size w w8) := hbb _ _ (by omega) (HB.out _ K4.out)
      clear ho hs8 hbb hrow
      go_wp2
      refine bodyPost_ret (v := .agg [Value.int .i64 0, .string ⟨#[]⟩, .string ⟨#[]⟩, .int .i64 0, .int .i64 0, .int .i64 0, .slice none 0 0, .bool false, .int .i64 0, .int .i64 0, .int .i64 0, .int .i64 3].toArray) ?_ rfl ⟨.slice none 0 0, by rw [HF.out]; rfl, by rw [HF.out]; exact ownS_nil _ _, HB8.out⟩
      have hl3 := run_loadVar_mid (P := Tryz.prog) _ (w.heap.size) 0 28 _ _ (rangeRow HROW.out) Tryz.underlying28 rfl sizeCertOut
      simp [results, Tryz.results4, asAddr, hl3]
    have he := isEmpty_not hs0
    go_wp2_with fail
    refine (HBy.out w4 B4.out).mono ?_
    rintro e w6 ⟨rfl, b6⟩
    have K6 : Hid (Below w1.heap.size w1 w6) := K4.out.trans (b6.mono K4.out.size)
    have G6 : Hid (w6.heap[w3.heap.size]? = some (.cells [Value.int .i64 ser, .string iss, .string sub, .int .i64 fr, .int .i64 till, .int .i64 key, .slice va nl vc, .bool ca, .int .i64 sk, .int .i64 se, .int .i64 ss].toArray 26 (0, 0))) := (b6.block _ (heap_lt G4.out)).trans G4.out
    have O6 : Hid (OwnS w6 (w.heap.size + 1) (.slice va nl vc) names) := O4.out.keep b6
    clear b6 d0 d1 d2 d3 d4 d5 d6 d7 d8 d9 d10 HBy B4 K4 G4 O4
    by_cases hY : Y = s
    rotate_left
    · have HF : Hid (R = (zeroPaper, 3)) := by show _ = _; rw [HRn'.out, if_pos (Or.inr hY)]
      have e1 : (Y.toList == s.toList) = false := by rw [same_text, decide_eq_false hY]
      have e2 : (Y.toList != s.toList) = true := by rw [bne, e1]; rfl
      go_wp2_with (refine wpList_store_row rfl 28 _ _ rfl (w.heap.size) _ [Value.int .i64 0, .string ⟨#[]⟩, .string ⟨#[]⟩, .int .i64 0, .int .i64 0, .int .i64 0, .slice none 0 0, .bool false, .int .i64 0, .int .i64 0, .int .i64 0, .int .i64 3] 28 rfl rfl (HRes.out _ K6.out) rfl sizeCertOut (by simp [Value.oneCell']) ?_)
      intro w8 hrow ho hs8 hbb
      have HROW : Hid _ := hrow
      have HB8 : Hid (Below w.heap.size w w8) := hbb _ _ (by omega) (HB.out _ K6.out)
      clear ho hs8 hbb hrow
      go_wp2
      refine bodyPost_ret (v := .agg [Value.int .i64 0, .string ⟨#[]⟩, .string ⟨#[]⟩, .int .i64 0, .int .i64 0, .int .i64 0, .slice none 0 0, .bool false, .int .i64 0, .int .i64 0, .int .i64 0, .int .i64 3].toArray) ?_ rfl ⟨.slice none 0 0, by rw [HF.out]; rfl, by rw [HF.out]; exact ownS_nil _ _, HB8.out⟩
      have hl3 := run_loadVar_mid (P := Tryz.prog) _ (w.heap.size) 0 28 _ _ (rangeRow HROW.out) Tryz.underlying28 rfl sizeCertOut
      simp [results, Tryz.results4, asAddr, hl3]
    have HF : Hid (R = (⟨ser, iss, sub, fr, till, key, names, ca, sk, se, ss⟩, 0)) := by
      show _ = _
      rw [HRn'.out, if_neg]
      rintro (h | h)
      · exact hs0 h
      · exact h hY
    have e2 : (Y.toList != s.toList) = false := by rw [bne, same_text, decide_eq_true hY]; rfl
    have d0 := rowFacts G6.out 0 _ rfl
    have d1 := rowFacts G6.out 1 _ rfl
    have d2 := rowFacts G6.out 2 _ rfl
    have d3 := rowFacts G6.out 3 _ rfl
    have d4 := rowFacts G6.out 4 _ rfl
    have d5 := rowFacts G6.out 5 _ rfl
    have d6 := rowFacts G6.out 6 _ rfl
    have d7 := rowFacts G6.out 7 _ rfl
    have d8 := rowFacts G6.out 8 _ rfl
    have d9 := rowFacts G6.out 9 _ rfl
    have d10 := rowFacts G6.out 10 _ rfl
    go_wp2_with (refine wpList_store_row rfl 28 _ _ rfl (w.heap.size) _ [Value.int .i64 ser, .string iss, .string sub, .int .i64 fr, .int .i64 till, .int .i64 key, .slice va nl vc, .bool ca, .int .i64 sk, .int .i64 se, .int .i64 ss, .int .i64 0] 28 rfl rfl (HRes.out _ K6.out) rfl sizeCertOut (by simp [Value.oneCell']) ?_)
    intro w8 hrow ho hs8 hbb
    have HROW : Hid _ := hrow
    have HB8 : Hid (Below w.heap.size w w8) := hbb _ _ (by omega) (HB.out _ K6.out)
    have O8 : Hid (OwnS w8 (w.heap.size + 1) (.slice va nl vc) names) := O6.out.same fun b h1 h2 => ho b (by omega)
    clear ho hs8 hbb hrow
    go_wp2
    refine bodyPost_ret (v := .agg [Value.int .i64 ser, .string iss, .string sub, .int .i64 fr, .int .i64 till, .int .i64 key, .slice va nl vc, .bool ca, .int .i64 sk, .int .i64 se, .int .i64 ss, .int .i64 0].toArray) ?_ rfl ⟨.slice va nl vc, by rw [HF.out]; rfl, by rw [HF.out]; exact O8.out.mono (by omega), HB8.out⟩
    have hl3 := run_loadVar_mid (P := Tryz.prog) _ (w.heap.size) 0 28 _ _ (rangeRow HROW.out) Tryz.underlying28 rfl sizeCertOut
    simp [results, Tryz.results4, asAddr, hl3]
end Go.Proofs.YtfliacfeebooeaaGreatDoor
namespace Go.Proofs.YtfliacfeebooeaaGreatDoor
open Go.RowKit

set_option maxHeartbeats 1000000 in
set_option maxRecDepth 100000 in
theorem eqStrs (a b : Option Addr) (zs : List ByteArray) (c d : Nat) (w : World) (hl : zs.length ≤ 2000000) (ha : IsStrs w a zs) (hb : IsStrs w b zs) :
    Calls Tryz.prog 40 #[.slice a zs.length c, .slice b zs.length d] w fun e w' => e = .returned (.bool true) ∧ Below w.heap.size w w' := by
  go_enter Tryz.func40, Tryz.ntmps40
  go_wp2
  go_loopw [5] (fun i wr => ∃ k : Nat, k ≤ zs.length ∧ i = .int .i64 k ∧ Below w.heap.size w wr) (fun i _ => zs.length - (intOf i).toNat)
  case atStart => exact ⟨0, Nat.zero_le _, rfl, Below.refl _ _⟩
  case round =>
    obtain ⟨k, hk, rfl, hbr⟩ := hrel
    by_cases hlt : k < zs.length
    · obtain ⟨x, o, rfl, hc⟩ : ∃ x o, a = some ⟨x, o, none⟩ ∧ ∀ i, i < zs.length → wr.cell? ⟨x, o + i, none⟩ = some (.string (tAt zs i)) := by
        rcases ha.below hbr ha.lt with rfl | h
        · simp at hlt
        · exact h
      obtain ⟨y, p, rfl, hd⟩ : ∃ x o, b = some ⟨x, o, none⟩ ∧ ∀ i, i < zs.length → wr.cell? ⟨x, o + i, none⟩ = some (.string (tAt zs i)) := by
        rcases hb.below hbr hb.lt with rfl | h
        · simp at hlt
        · exact h
      have hck := hc k hlt
      have hdk := hd k hlt
      have HB : Hid (Below w.heap.size w wr) := hbr
      generalize tAt zs k = z at hck hdk
      generalize hn : zs.length = n at *
      clear hc hd ha hb hbr hn
      go_wp2
      go_quiet (fail)
      go_wp2
      go_roundw
      case rel => exact ⟨k + 1, by omega, by go_num, below_drewN HB.out _⟩
      case measure => simp [intOf]; omega
    · go_wp2
      go_ret
      exact ⟨rfl, hbr⟩
end Go.Proofs.YtfliacfeebooeaaGreatDoor
namespace Go.Proofs.YtfliacfeebooeaaGreatDoor
open Go.RowKit

theorem sigRow {w : World} {g : Nat} {t : TypeId} {x y z : Value} (hg : w.heap[g]? = some (.cells [x, y, z].toArray t (0, 0))) (a b c : Value) :
    (((w.setCell ⟨g, 0, none⟩ a).setCell ⟨g, 1, none⟩ b).setCell ⟨g, 2, none⟩ c).heap[g]? = some (.cells [a, b, c].toArray t (0, 0)) := rowSet c (rowSet b (rowSet a hg))
theorem sizeSig : (Tryz.prog.info? 24).map (·.size) = some 3 := by kernel_rfl
end Go.Proofs.YtfliacfeebooeaaGreatDoor
namespace Go.Proofs.YtfliacfeebooeaaGreatDoor
open Go.RowKit

set_option maxHeartbeats 1000000 in
set_option maxRecDepth 100000 in
theorem eqSig (k e s : Int) (w : World) :
    Calls Tryz.prog 41 #[.agg #[.int .i64 k, .int .i64 e, .int .i64 s], .agg #[.int .i64 k, .int .i64 e, .int .i64 s]] w fun r w' => r = .returned (.bool true) ∧ Below w.heap.size w w' := by
  go_enter Tryz.func41, Tryz.ntmps41
  go_wp2
  go_ret
  exact ⟨rfl, (allocBelow w _).alloc (by simp) _⟩
end Go.Proofs.YtfliacfeebooeaaGreatDoor
namespace Go.Proofs.YtfliacfeebooeaaGreatDoor
open Go.RowKit

set_option maxHeartbeats 2000000 in
set_option maxRecDepth 100000 in
theorem eqCert (c : Paper) (a b : Option Addr) (ca1 cb : Nat) (w : World) (hl : c.names.length ≤ 1048576) (ha : IsStrs w a c.names) (hb : IsStrs w b c.names) :
    Calls Tryz.prog 15 #[c.val (.slice a c.names.length ca1), c.val (.slice b c.names.length cb)] w fun e w' => e = .returned (.bool true) ∧ Below w.heap.size w w' := by
  obtain ⟨ser, iss, sub, fr, till, key, names, ca, sk, se, ss⟩ := c
  simp only at hl ha hb
  unfold Paper.val
  simp only
  have HE : Hid (∀ V, IsStrs V a names → IsStrs V b names → Calls Tryz.prog 40 #[.slice a names.length ca1, .slice b names.length cb] V fun e w' => e = .returned (.bool true) ∧ Below V.heap.size V w') := fun V h1 h2 => eqStrs a b names ca1 cb V (by omega) h1 h2
  generalize names.length = nl at *
  obtain ⟨w0, hw0⟩ : ∃ w0, w0 = w.alloc (.cells #[.int .i64 ser, .string iss, .string sub, .int .i64 fr, .int .i64 till, .int .i64 key, .slice a nl ca1, .bool ca, .int .i64 sk, .int .i64 se, .int .i64 ss] 26 (0, 0)) := ⟨_, rfl⟩
  obtain ⟨w1, hw1⟩ : ∃ w1, w1 = w0.alloc (.cells #[.int .i64 ser, .string iss, .string sub, .int .i64 fr, .int .i64 till, .int .i64 key, .slice b nl cb, .bool ca, .int .i64 sk, .int .i64 se, .int .i64 ss] 26 (0, 0)) := ⟨_, rfl⟩
  have z0 : w0.heap.size = w.heap.size + 1 := by rw [hw0]; simp
  have r1 : w1.heap[w.heap.size + 1]? = some (.cells [Value.int .i64 ser, .string iss, .string sub, .int .i64 fr, .int .i64 till, .int .i64 key, .slice b nl cb, .bool ca, .int .i64 sk, .int .i64 se, .int .i64 ss].toArray 26 (0, 0)) := by rw [hw1, ← z0]; exact heap_alloc_new w0 _
  have r0 : w1.heap[w.heap.size]? = some (.cells [Value.int .i64 ser, .string iss, .string sub, .int .i64 fr, .int .i64 till, .int .i64 key, .slice a nl ca1, .bool ca, .int .i64 sk, .int .i64 se, .int .i64 ss].toArray 26 (0, 0)) := by rw [hw1, Below.heap_alloc _ _ _ (by omega), hw0]; exact heap_alloc_new w _
  have B1 : Hid (Below w.heap.size w w1) := by rw [hw1, hw0]; exact ((Below.refl _ _).alloc (Nat.le_refl _) _).alloc (by simp) _
  have A1 : Hid (IsStrs w1 a names) := ha.keep B1.out
  have A2 : Hid (IsStrs w1 b names) := hb.keep B1.out
  have c0 := rowFacts r0 0 _ rfl
  have d0 := rowFacts r1 0 _ rfl
  have c1 := rowFacts r0 1 _ rfl
  have d1 := rowFacts r1 1 _ rfl
  have c2 := rowFacts r0 2 _ rfl
  have d2 := rowFacts r1 2 _ rfl
  have c3 := rowFacts r0 3 _ rfl
  have d3 := rowFacts r1 3 _ rfl
  have c4 := rowFacts r0 4 _ rfl
  have d4 := rowFacts r1 4 _ rfl
  have c5 := rowFacts r0 5 _ rfl
  have d5 := rowFacts r1 5 _ rfl
  have c6 := rowFacts r0 6 _ rfl
  have d6 := rowFacts r1 6 _ rfl
  have c7 := rowFacts r0 7 _ rfl
  have d7 := rowFacts r1 7 _ rfl
  have c8 := rowFacts r0 8 _ rfl
  have d8 := rowFacts r1 8 _ rfl
  have c9 := rowFacts r0 9 _ rfl
  have d9 := rowFacts r1 9 _ rfl
  have c10 := rowFacts r0 10 _ rfl
  have d10 := rowFacts r1 10 _ rfl
  have R0 : Hid (w.heap.size < w1.heap.size) := heap_lt r0
  have R1 : Hid (w.heap.size + 1 < w1.heap.size) := heap_lt r1
  rw [hw0] at hw1
  clear r0 r1 ha hb hw0 z0
  go_enter Tryz.func15, Tryz.ntmps15
  go_upto_region 1 with fail
  rw [← hw1]
  clear hw1
  go_wp2_with fail
  refine (HE.out _ A1.out A2.out).mono ?_
  rintro e w2 ⟨rfl, b2⟩
  have B2 : Hid (Below w.heap.size w w2) := B1.out.trans (b2.mono B1.out.size)
  have e7 := (b2.cell (p := ⟨w.heap.size, 7, none⟩) R0.out).trans c7
  have f7 := (b2.cell (p := ⟨w.heap.size + 1, 7, none⟩) R1.out).trans d7
  have e8 := (b2.cell (p := ⟨w.heap.size, 8, none⟩) R0.out).trans c8
  have f8 := (b2.cell (p := ⟨w.heap.size + 1, 8, none⟩) R1.out).trans d8
  have e9 := (b2.cell (p := ⟨w.heap.size, 9, none⟩) R0.out).trans c9
  have f9 := (b2.cell (p := ⟨w.heap.size + 1, 9, none⟩) R1.out).trans d9
  have e10 := (b2.cell (p := ⟨w.heap.size, 10, none⟩) R0.out).trans c10
  have f10 := (b2.cell (p := ⟨w.heap.size + 1, 10, none⟩) R1.out).trans d10
  clear b2 B1 A1 A2 HE R0 R1 c0 d0 c1 d1 c2 d2 c3 d3 c4 d4 c5 d5 c6 d6 c7 d7 c8 d8 c9 d9 c10 d10
  go_wp2_with fail
  refine (eqSig sk se ss _).mono ?_
  rintro e w3 ⟨rfl, b3⟩
  have B3 : Hid (Below w.heap.size w w3) := B2.out.trans (b3.mono B2.out.size)
  clear b3 B2
  go_wp2
  go_ret
  exact ⟨rfl, B3.out⟩
end Go.Proofs.YtfliacfeebooeaaGreatDoor
namespace Go.Proofs.YtfliacfeebooeaaGreatDoor
open Go.RowKit

/-- A number's digits of ten. -/
def digK : Nat → Nat → List Int
  | 0, _ => []
  | f + 1, k => if k = 0 then [] else digK f (k / 10) ++ [((k % 10 + 48 : Nat) : Int)]
def mkT (k : Nat) : ByteArray := ⟨#[109]⟩ ++ strOfNums (digK 7 k)
theorem digK_zero (f : Nat) : digK f 0 = [] := by cases f <;> simp [digK]
theorem digK_more {f k : Nat} (h : k ≠ 0) (hf : k < 10 ^ f) : ∃ g, f = g + 1 ∧ k / 10 < 10 ^ g ∧ digK f k = digK g (k / 10) ++ [((k % 10 + 48 : Nat) : Int)] := by
  cases f with
  | zero => simp at hf; omega
  | succ g => exact ⟨g, rfl, by rw [Nat.pow_succ] at hf; omega, by rw [digK, if_neg h]⟩
theorem strCons (x : Int) (l : List Int) : strOfNums [x] ++ strOfNums l = strOfNums (x :: l) := by
  rw [strOfNums, strOfNums, strOfNums, ByteArray.mk_append_mk]; rfl
set_option maxHeartbeats 1000000 in
set_option maxRecDepth 100000 in
theorem markText (k : Nat) (w : World) (h0 : 1 ≤ k) (hk : k < 10000000) :
    Calls Tryz.prog 77 #[.int .i64 (k : Int)] w fun e w' => e = .returned (.string (mkT k)) ∧ Below w.heap.size w w' := by
  go_enter Tryz.func77, Tryz.ntmps77
  go_wp2_with fail
  go_loopw [0, 3] (fun q t wr => ∃ (j f : Nat) (tl : List Int), q = .int .i64 (j : Int) ∧ j < 10 ^ f ∧ j < 10000000 ∧ f + tl.length ≤ 7 ∧ t = .string (strOfNums tl) ∧ digK f j ++ tl = digK 7 k ∧ Below w.heap.size w wr ∧ w.heap.size ≤ wr.heap.size)
    (fun q _ _ => (intOf q).toNat)
  case atStart => exact ⟨k, 7, [], rfl, by omega, hk, by simp, rfl, by simp, Below.refl _ _, Nat.le_refl _⟩
  case round =>
    obtain ⟨j, f, tl, rfl, hf, hj, hlen, rfl, heq, hbel, hsz⟩ := hrel
    have HE : Hid (digK f j ++ tl = digK 7 k) := heq
    have HF : Hid (j < 10 ^ f) := hf
    have hts : (strOfNums tl).size ≤ 7 := by rw [strOfNums_size]; omega
    clear heq hf
    by_cases h0 : j = 0
    · have HS : Hid (mkT k = ⟨#[109]⟩ ++ strOfNums tl) := by
        show _ = _
        rw [mkT, ← HE.out, h0, digK_zero]; rfl
      subst h0
      generalize strOfNums tl = u at *
      go_wp2_with fail
      go_ret
      exact ⟨by rw [HS.out]; rfl, hbel⟩
    · have HN : Hid (j ≠ 0) := h0
      have hp : 0 < j := by omega
      have hcv := fun V => convertRow (V.alloc (.cells #[.int .u8 (48 + (j : Int) % 10)] 5 (0, 0))) V.heap.size [48 + (j : Int) % 10] 5 1 1 rfl (heap_alloc_new V _)
      have HC : Hid (strOfNums [48 + (j : Int) % 10] ++ strOfNums tl = strOfNums (((j % 10 + 48 : Nat) : Int) :: tl)) := by
        show _ = _
        rw [strCons, show (48 + (j : Int) % 10) = ((j % 10 + 48 : Nat) : Int) from by omega]
      have h1s : (strOfNums [48 + (j : Int) % 10]).size = 1 := rfl
      have HBA : Hid (∀ o, Below w.heap.size w (wr.alloc o)) := fun o => hbel.alloc hsz o
      clear h0 hbel
      generalize strOfNums [48 + (j : Int) % 10] = s1 at *
      generalize strOfNums tl = u at *
      go_wp2_with fail
      go_roundw
      case rel =>
        obtain ⟨f', rfl, hf', he⟩ := digK_more HN.out HF.out
        refine ⟨j / 10, f', ((j % 10 + 48 : Nat) : Int) :: tl, by simp, hf', by omega, by simp; omega, by rw [HC.out], ?_, HBA.out _, by simp; omega⟩
        rw [← HE.out, he]; simp
      case measure => simp [intOf]; omega
/-- The marks from k on in a row of n things. -/
def MarksT (k n : Nat) (M : List Value) : Prop := ∀ i, i < n → M[i * 2]? = some (.int .i64 ((k + 2 * i : Nat) : Int)) ∧ M[i * 2 + 1]? = some (.string (mkT (k + 2 * i + 1)))
end Go.Proofs.YtfliacfeebooeaaGreatDoor
namespace Go.Proofs.YtfliacfeebooeaaGreatDoor
open Go.RowKit

def MarksS (k n : Nat) (M : List Value) : Prop := ∀ i, i < n → M[i]? = some (.string (mkT (k + i)))
set_option maxHeartbeats 2000000 in
set_option maxRecDepth 100000 in
theorem markStrs (g n c k : Nat) (L : List Value) (w : World) (hn : n ≤ 1048576) (hk0 : 1 ≤ k) (hk : k ≤ 1048577) (hL : n ≤ L.length) (hg : w.heap[g]? = some (.cells L.toArray 9 (0, 0))) :
    Calls Tryz.prog 42 #[.slice (some ⟨g, 0, none⟩) n c, .int .i64 (k : Int)] w fun e w' => e = .returned (.int .i64 ((k + n : Nat) : Int)) ∧ (∃ M, w'.heap[g]? = some (.cells M.toArray 9 (0, 0)) ∧ MarksS k n M) ∧
      (∀ b, b ≠ g → b < w.heap.size → w'.heap[b]? = w.heap[b]?) ∧ w.heap.size ≤ w'.heap.size ∧ ∀ B w0, B ≤ g → B ≤ w.heap.size → Below B w0 w → Below B w0 w' := by
  go_enter Tryz.func42, Tryz.ntmps42
  go_wp2_with fail
  go_loopw [1, 5] (fun q i wr => ∃ (j : Nat) (M : List Value), j ≤ n ∧ q = .int .i64 ((k + j : Nat) : Int) ∧ i = .int .i64 (j : Int) ∧ n ≤ M.length ∧ wr.heap[g]? = some (.cells M.toArray 9 (0, 0)) ∧ MarksS k j M ∧
      (∀ b, b ≠ g → b < w.heap.size → wr.heap[b]? = w.heap[b]?) ∧ w.heap.size ≤ wr.heap.size ∧ ∀ B w0, B ≤ g → B ≤ w.heap.size → Below B w0 w → Below B w0 wr)
    (fun _ i _ => n - (intOf i).toNat)
  case atStart => exact ⟨0, L, Nat.zero_le _, by simp, rfl, hL, hg, fun i hi => by omega, fun _ _ _ => rfl, Nat.le_refl _, fun _ _ _ _ h => h⟩
  case round =>
    clear hg hL
    obtain ⟨j, M, hj, rfl, rfl, hM, hgr, hc, ho, hsz, hbl⟩ := hrel
    by_cases hlt : j < n
    · obtain ⟨q, hq⟩ : ∃ q, q = k + j := ⟨_, rfl⟩
      rw [← hq]
      have hq1 : 1 ≤ q := by omega
      have hq2 : q ≤ 2100000 := by omega
      have HMk : Hid (∀ V : World, Calls Tryz.prog 77 #[.int .i64 (q : Int)] V fun e w' => e = .returned (.string (mkT q)) ∧ Below V.heap.size V w') := fun V => markText q V hq1 (by omega)
      have HC : Hid (MarksS k (j + 1) (M.set j (.string (mkT q)))) := fun i hi => by
        by_cases e : i = j
        · subst e
          rw [List.getElem?_set_self (by omega), hq]
        · rw [List.getElem?_set_ne (by omega)]
          exact hc i (by omega)
      have HLn : Hid (∀ v, n ≤ (M.set j v).length) := fun v => by simpa using hM
      have HOt : Hid (∀ b, b ≠ g → b < w.heap.size → wr.heap[b]? = w.heap[b]?) := ho
      have HBl : Hid (∀ B w0, B ≤ g → B ≤ w.heap.size → Below B w0 w → Below B w0 wr) := hbl
      have hgl : g < wr.heap.size := heap_lt hgr
      have HQ : Hid (q = k + j) := hq
      have HML : Hid (j < M.length) := by show _ < _; omega
      have HGr : Hid (wr.heap[g]? = some (.cells M.toArray 9 (0, 0))) := hgr
      have a0 : (0 : Int) ≤ (j : Int) := by omega
      have b0 : (j : Int) < (n : Int) := by omega
      clear hc ho hgr hM hbl hq
      generalize mkT q = u at *
      go_wp2_with fail
      refine (HMk.out _).mono ?_
      rintro e w1 ⟨rfl, hb1⟩
      have hs1 := hb1.size
      have hr1 : w1.heap[g]? = some (.cells M.toArray 9 (0, 0)) := by rw [hb1.block g hgl]; exact HGr.out
      have d1 := rowFacts hr1 j _ (List.getElem?_eq_getElem HML.out)
      have z1 := rowFree hr1 j
      generalize M[j]'HML.out = v1 at d1
      have HR1 : Hid (∀ v, (w1.setCell ⟨g, j, none⟩ v).heap[g]? = some (.cells (M.set j v).toArray 9 (0, 0))) := fun v => rowSet v hr1
      have HO1 : Hid (∀ v b, b ≠ g → b < w.heap.size → (w1.setCell ⟨g, j, none⟩ v).heap[b]? = w.heap[b]?) := fun v b hb hl => by
        rw [heap_setCell_other _ _ _ _ hb, hb1.block b (by omega)]
        exact HOt.out b hb hl
      have HB1 : Hid (∀ v B w0, B ≤ g → B ≤ w.heap.size → Below B w0 w → Below B w0 (w1.setCell ⟨g, j, none⟩ v)) := fun v B w0 h1 h2 h3 =>
        ((HBl.out B w0 h1 h2 h3).trans (hb1.mono (by omega))).setCell h1 v
      clear hb1 hr1 HMk HOt HBl
      go_wp2_with fail
      go_roundw
      case rel => exact ⟨j + 1, _, by omega, by have := HQ.out; go_num, by go_num, HLn.out _, HR1.out _, HC.out, HO1.out _, by simp; omega, HB1.out _⟩
      case measure => simp [intOf]; omega
    · obtain rfl : j = n := by omega
      have HC : Hid (∃ M : List Value, wr.heap[g]? = some (.cells M.toArray 9 (0, 0)) ∧ MarksS k j M) := ⟨M, hgr, hc⟩
      have HOt : Hid (∀ b, b ≠ g → b < w.heap.size → wr.heap[b]? = w.heap[b]?) := ho
      have HBl : Hid (∀ B w0, B ≤ g → B ≤ w.heap.size → Below B w0 w → Below B w0 wr) := hbl
      clear hc ho hgr hbl
      go_wp2_with fail
      go_ret
      exact ⟨rfl, HC.out, HOt.out, hsz, HBl.out⟩
set_option maxHeartbeats 2000000 in
set_option maxRecDepth 100000 in
theorem heldStrs (g n c k : Nat) (M : List Value) (w : World) (hn : n ≤ 1048576) (hk0 : 1 ≤ k) (hk : k ≤ 1048577) (hg : w.heap[g]? = some (.cells M.toArray 9 (0, 0))) (hm : MarksS k n M) :
    Calls Tryz.prog 43 #[.slice (some ⟨g, 0, none⟩) n c, .int .i64 (k : Int)] w fun e w' => e = .returned (.int .i64 ((k + n : Nat) : Int)) ∧ Below w.heap.size w w' := by
  have hgl : g < w.heap.size := heap_lt hg
  have HC : Hid (∀ W, Below w.heap.size w W → ∀ i, i < n → W.cell? ⟨g, i, none⟩ = some (.string (mkT (k + i)))) := fun W hW i hi => by
    rw [hW.cell (p := ⟨g, i, none⟩) hgl]
    exact rowFacts hg _ _ (hm i hi)
  clear hg hm
  go_enter Tryz.func43, Tryz.ntmps43
  go_wp2_with fail
  go_loopw [1, 5] (fun q i wr => ∃ j : Nat, j ≤ n ∧ q = .int .i64 ((k + j : Nat) : Int) ∧ i = .int .i64 (j : Int) ∧ Below w.heap.size w wr)
    (fun _ i _ => n - (intOf i).toNat)
  case atStart => exact ⟨0, Nat.zero_le _, by simp, rfl, Below.refl _ _⟩
  case round =>
    obtain ⟨j, hj, rfl, rfl, hbr⟩ := hrel
    by_cases hlt : j < n
    · obtain ⟨q, hq⟩ : ∃ q, q = k + j := ⟨_, rfl⟩
      have c1 := HC.out wr hbr j hlt
      rw [← hq] at c1 ⊢
      have hq1 : 1 ≤ q := by omega
      have hq2 : q ≤ 2100000 := by omega
      have hsr := hbr.size
      have hgr : g < wr.heap.size := by omega
      have HQ : Hid (q = k + j) := hq
      have HMk : Hid (∀ V : World, Hid (Below wr.heap.size wr V) → Calls Tryz.prog 77 #[.int .i64 (q : Int)] V fun e W => e = .returned (.string (mkT q)) ∧ Hid (Below wr.heap.size wr W) ∧ W.cell? ⟨g, j, none⟩ = some (.string (mkT q))) := fun V hV => by
        refine (markText q V hq1 (by omega)).mono ?_
        rintro e W ⟨rfl, hW⟩
        have hB := hV.out.trans (hW.mono hV.out.size)
        exact ⟨rfl, hB, by rw [hB.cell (p := ⟨g, j, none⟩) hgr]; exact c1⟩
      have HBr : Hid (Below w.heap.size w wr) := hbr
      have HD : Hid (Below wr.heap.size wr wr.drew) := (Below.refl _ wr).drew
      have hji : (j : Int) < (n : Int) := by omega
      have hj0 : (0 : Int) ≤ (j : Int) := by omega
      clear hq hbr
      generalize mkT q = u at *
      go_wp2_with fail
      go_region_held3 (fun V => V.cell? ⟨g, j, none⟩ = some (.string u)) (first | exact p0 | go_keep)
        (first | (go_at_call 77; refine (HMk.out _ (by assumption)).mono ?_; rintro r w1 ⟨rfl, kk, p0⟩))
      have HB1 : Hid (Below w.heap.size w w1) := HBr.out.trans (kk.out.mono hsr)
      clear kk HMk HD p0 c1
      go_wp2_with fail
      go_roundw
      case rel => exact ⟨j + 1, by omega, by have := HQ.out; go_num, by go_num, HB1.out⟩
      case measure => simp [intOf]; omega
    · obtain rfl : j = n := by omega
      go_wp2_with fail
      go_ret
      exact ⟨rfl, hbr⟩
end Go.Proofs.YtfliacfeebooeaaGreatDoor
