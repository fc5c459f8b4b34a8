/- spec.CertRead, walked: what is read is laid anew and compared. impl.GroupPow, walked. impl.ModMul, walked. impl.GroupMul and impl.GroupPow, walked. impl.digestNumber, walked: the number of the digest of two texts, the one behind the other. impl.Challenge, walked. The method challenge of impl.signedText, walked. impl.askedAgain, impl.SigCheck, walked. -/
import Derived.Test.YtkhdjmjbdpmdnaaGreatDoorCT31
import Derived.Test.YtkhdjmjbdpmdnaaGreatDoorCT27
import Derived.Test.YtkhdjmjbdpmdnaaGreatDoorCT30
import Derived.Test.YtkhdjmjbdpmdnaaGreatDoorCT12
import Derived.Test.YtkhdjmjbdpmdnaaGreatDoorCT03
import Derived.Test.YtkhdjmjbdpmdnaaGreatDoorCT02
import Derived.Test.YtkhdjmjbdpmdnaaGreatDoorCT05
import Derived.Test.YtkhdjmjbdpmdnaaGreatDoorCT14
import Derived.Test.YtkhdjmjbdpmdnaaGreatDoorCT17
import Derived.Test.YtkhdjmjbdpmdnaaGreatDoorCT09
import Derived.Test.YtkhdjmjbdpmdnaaGreatDoorCT28
import Derived.Deep.QuietTactic
import Derived.BigQuiet
import Derived.Deep.RegionHeld3
namespace Go.Proofs.YtkhdjmjbdpmdnaaGreatDoor
open Go.RowKit

theorem nameR_sz (l : List (Int × ByteArray)) (b : Bool) : (nameR l b).1.size ≤ 4000 := by
  unfold nameR
  simp only
  exact takeR_sz (takeR_rest (inR_4000 _ _ _))
theorem certSP_texts (s : ByteArray) : (certSP s).issuer.size ≤ 4000 ∧ (certSP s).subject.size ≤ 4000 := by
  unfold certSP
  simp only
  exact ⟨nameR_sz _ _, nameR_sz _ _⟩
set_option linter.unusedSimpArgs false in
set_option maxHeartbeats 4000000 in
set_option maxRecDepth 100000 in
theorem specCertRead (s : ByteArray) (w : World) :
    Calls Tryz.prog 20 #[.string s] w fun e w' => ∃ v, e = .returned (certV (certS s).1 v (certS s).2) ∧ OwnS w' w.heap.size v (certS s).1.names ∧ Below w.heap.size w w' := by
  obtain ⟨w1, hw1⟩ : ∃ y, y = w.alloc (.cells #[Value.int .i64 0, .string ⟨#[]⟩, .string ⟨#[]⟩, .int .i64 0, .int .i64 0, .int .i64 0, .slice none 0 0, .bool false, .int .i64 0, .int .i64 0, .int .i64 0, .int .i64 0] 37 (0, 0)) := ⟨_, rfl⟩
  have hz : w1.heap.size = w.heap.size + 1 := by rw [hw1]; simp
  have hg1 : w1.heap[w.heap.size]? = some (.cells [Value.int .i64 0, .string ⟨#[]⟩, .string ⟨#[]⟩, .int .i64 0, .int .i64 0, .int .i64 0, .slice none 0 0, .bool false, .int .i64 0, .int .i64 0, .int .i64 0, .int .i64 0].toArray 37 (0, 0)) := by rw [hw1]; exact heap_alloc_new w _
  have hB1 : Below w.heap.size w w1 := by rw [hw1]; exact (Below.refl _ w).alloc (Nat.le_refl _) _
  have HB : Hid (∀ V, Below w1.heap.size w1 V → Below w.heap.size w V) := fun V hV => hB1.trans (hV.mono (by omega))
  have HRes : Hid (∀ V, Below w1.heap.size w1 V → V.heap[w.heap.size]? = some (.cells [Value.int .i64 0, .string ⟨#[]⟩, .string ⟨#[]⟩, .int .i64 0, .int .i64 0, .int .i64 0, .slice none 0 0, .bool false, .int .i64 0, .int .i64 0, .int .i64 0, .int .i64 0].toArray 37 (0, 0))) := fun V hV => by rw [hV.block _ (by omega)]; exact hg1
  have HRd : Hid (¬ 20000 < s.size → ∀ V, Calls Tryz.prog 74 #[.string s] V fun e w' => ∃ v, e = .returned ((certSP s).val v) ∧ OwnS w' V.heap.size v (certSP s).names ∧ Below V.heap.size V w') := fun h V => specReadP s V (by omega)
  have HNf : Hid (((certSP s).names.length ≤ 1048576 ∧ totS (certSP s).names (certSP s).names.length ≤ 1048576) ∧ (certSP s).issuer.size ≤ 4000 ∧ (certSP s).subject.size ≤ 4000) := ⟨certSP_fit s, certSP_texts s⟩
  have HRn : Hid (¬ 20000 < s.size → certS s = if s.size = 0 ∨ certBytesD (certSP s) ≠ s then (zeroPaper, 3) else (certSP s, 0)) := fun h => by show _ = _; rw [certS, if_neg h]
  obtain ⟨R, hR⟩ : ∃ R, R = certS s := ⟨_, rfl⟩
  rw [← hR]
  have HR : Hid (R = certS s) := hR
  have I1 : Hid (Below w1.heap.size w1 w1) := Below.refl _ _
  have Z1 : Hid (w1.heap.size = w.heap.size + 1) := hz
  clear hR hg1 hB1 hz
  go_enter Tryz.func20, Tryz.ntmps20
  by_cases hl : 20000 < s.size
  · have HF : Hid (R = (zeroPaper, 2)) := by show _ = _; rw [HR.out, certS, if_pos hl]
    go_upto_region 2 with fail
    rw [← hw1]
    clear hw1
    go_wp2_with (refine wpList_store_row rfl 37 _ _ rfl (w.heap.size) _ [Value.int .i64 0, .string ⟨#[]⟩, .string ⟨#[]⟩, .int .i64 0, .int .i64 0, .int .i64 0, .slice none 0 0, .bool false, .int .i64 0, .int .i64 0, .int .i64 0, .int .i64 2] 37 rfl rfl (HRes.out _ I1.out) rfl sizeCertOut (by simp [Value.oneCell']) ?_)
    intro w8 hrow ho hs8 hbb
    have HROW : Hid _ := hrow
    have HB8 : Hid (Below w.heap.size w w8) := hbb _ _ (by omega) (HB.out _ I1.out)
    clear ho hs8 hbb hrow
    go_wp2
    refine bodyPost_ret (v := .agg [Value.int .i64 0, .string ⟨#[]⟩, .string ⟨#[]⟩, .int .i64 0, .int .i64 0, .int .i64 0, .slice none 0 0, .bool false, .int .i64 0, .int .i64 0, .int .i64 0, .int .i64 2].toArray) ?_ rfl ⟨.slice none 0 0, by rw [HF.out]; rfl, by rw [HF.out]; exact ownS_nil _ _, HB8.out⟩
    have hl3 := run_loadVar_mid (P := Tryz.prog) _ (w.heap.size) 0 37 _ _ (rangeRow HROW.out) Tryz.underlying37 rfl sizeCertOut
    simp [results, Tryz.results20, asAddr, hl3]
  · have HRd' : Hid _ := HRd.out hl
    have HRn' : Hid _ := HRn.out hl
    rw [← HR.out] at HRn'
    clear HRd HRn
    go_wp2_with fail
    rw [← hw1]
    refine (HRd'.out w1).mono ?_
    rintro e w3 ⟨v, rfl, o3, b3⟩
    clear HRd' hw1
    obtain ⟨va, vc, rfl, _⟩ := OwnS.form o3
    have O3 : Hid (OwnS w3 (w.heap.size + 1) (.slice va (certSP s).names.length vc) (certSP s).names) := o3.mono (by rw [Z1.out]; omega)
    have B3 : Hid (Below w1.heap.size w1 w3) := b3
    clear o3 b3
    obtain ⟨c, hc⟩ : ∃ c, c = certSP s := ⟨_, rfl⟩
    rw [← hc] at O3 HNf HRn'
    rw [← hc]
    have HIs : Hid (∀ V, Below w3.heap.size w3 V → IsStrs V va c.names) := fun V hV => O3.out.strs.keep hV
    have HBy : Hid (∀ V, Below w3.heap.size w3 V → Calls Tryz.prog 10 #[c.val (.slice va c.names.length vc)] V fun e w' => e = .returned (.string (certBytesD c)) ∧ Below V.heap.size V w') := fun V hV => specCertBytes c va vc V (by have := HNf.out.2.1; unfold maxLen; omega) (by have := HNf.out.2.2; unfold maxLen; omega) HNf.out.1.1 HNf.out.1.2 (HIs.out V hV)
    clear hc HNf HIs HR
    generalize certBytesD c = Y at *
    obtain ⟨ser, iss, sub, fr, till, key, names, ca, sk, se, ss⟩ := c
    unfold Paper.val at *
    simp only at HBy O3 ⊢
    obtain ⟨nl, hnl⟩ : ∃ n, n = names.length := ⟨_, rfl⟩
    rw [← hnl] at O3 HBy ⊢
    have HNl : Hid (nl = names.length) := hnl
    clear hnl
    obtain ⟨w4, hw4⟩ : ∃ y, y = w3.alloc (.cells #[.int .i64 ser, .string iss, .string sub, .int .i64 fr, .int .i64 till, .int .i64 key, .slice va nl vc, .bool ca, .int .i64 sk, .int .i64 se, .int .i64 ss] 27 (0, 0)) := ⟨_, rfl⟩
    have b4 : Below w3.heap.size w3 w4 := by rw [hw4]; exact (Below.refl _ w3).alloc (Nat.le_refl _) _
    have G4 : Hid (w4.heap[w3.heap.size]? = some (.cells [Value.int .i64 ser, .string iss, .string sub, .int .i64 fr, .int .i64 till, .int .i64 key, .slice va nl vc, .bool ca, .int .i64 sk, .int .i64 se, .int .i64 ss].toArray 27 (0, 0))) := by show _ = _; rw [hw4]; exact heap_alloc_new w3 _
    have B4 : Hid (Below w3.heap.size w3 w4) := b4
    have O4 : Hid (OwnS w4 (w.heap.size + 1) (.slice va nl vc) names) := O3.out.keep b4
    have K4 : Hid (Below w1.heap.size w1 w4) := B3.out.trans (b4.mono B3.out.size)
    clear b4 O3
    have d0 := rowFacts G4.out 0 _ rfl
    have d1 := rowFacts G4.out 1 _ rfl
    have d2 := rowFacts G4.out 2 _ rfl
    have d3 := rowFacts G4.out 3 _ rfl
    have d4 := rowFacts G4.out 4 _ rfl
    have d5 := rowFacts G4.out 5 _ rfl
    have d6 := rowFacts G4.out 6 _ rfl
    have d7 := rowFacts G4.out 7 _ rfl
    have d8 := rowFacts G4.out 8 _ rfl
    have d9 := rowFacts G4.out 9 _ rfl
    have d10 := rowFacts G4.out 10 _ rfl
    go_upto_region 4 with fail
    rw [← hw4]
    clear hw4
    by_cases hs0 : s.size = 0
    · have HF : Hid (R = (zeroPaper, 3)) := by show _ = _; rw [HRn'.out, if_pos (Or.inl hs0)]
      have he := isEmpty_of hs0
      clear d0 d1 d2 d3 d4 d5 d6 d7 d8 d9 d10 HBy
      go_wp2_with (refine wpList_store_row rfl 37 _ _ rfl (w.heap.size) _ [Value.int .i64 0, .string ⟨#[]⟩, .string ⟨#[]⟩, .int .i64 0, .int .i64 0, .int .i64 0, .slice none 0 0, .bool false, .int .i64 0, .int .i64 0, .int .i64 0, .int .i64 3] 37 rfl rfl (HRes.out _ K4.out) rfl sizeCertOut (by simp [Value.oneCell']) ?_)
      intro w8 hrow ho hs8 hbb
      have HROW : Hid _ := hrow
      have HB8 : Hid (Below w.heap.size w w8) := hbb _ _ (by omega) (HB.out _ K4.out)
      clear ho hs8 hbb hrow
      go_wp2
      refine bodyPost_ret (v := .agg [Value.int .i64 0, .string ⟨#[]⟩, .string ⟨#[]⟩, .int .i64 0, .int .i64 0, .int .i64 0, .slice none 0 0, .bool false, .int .i64 0, .int .i64 0, .int .i64 0, .int .i64 3].toArray) ?_ rfl ⟨.slice none 0 0, by rw [HF.out]; rfl, by rw [HF.out]; exact ownS_nil _ _, HB8.out⟩
      have hl3 := run_loadVar_mid (P := Tryz.prog) _ (w.heap.size) 0 37 _ _ (rangeRow HROW.out) Tryz.underlying37 rfl sizeCertOut
      simp [results, Tryz.results20, asAddr, hl3]
    have he := isEmpty_not hs0
    go_wp2_with fail
    refine (HBy.out w4 B4.out).mono ?_
    rintro e w6 ⟨rfl, b6⟩
    have K6 : Hid (Below w1.heap.size w1 w6) := K4.out.trans (b6.mono K4.out.size)
    have G6 : Hid (w6.heap[w3.heap.size]? = some (.cells [Value.int .i64 ser, .string iss, .string sub, .int .i64 fr, .int .i64 till, .int .i64 key, .slice va nl vc, .bool ca, .int .i64 sk, .int .i64 se, .int .i64 ss].toArray 27 (0, 0))) := (b6.block _ (heap_lt G4.out)).trans G4.out
    have O6 : Hid (OwnS w6 (w.heap.size + 1) (.slice va nl vc) names) := O4.out.keep b6
    clear b6 d0 d1 d2 d3 d4 d5 d6 d7 d8 d9 d10 HBy B4 K4 G4 O4
    by_cases hY : Y = s
    rotate_left
    · have HF : Hid (R = (zeroPaper, 3)) := by show _ = _; rw [HRn'.out, if_pos (Or.inr hY)]
      have e1 : (Y.toList == s.toList) = false := by rw [same_text, decide_eq_false hY]
      have e2 : (Y.toList != s.toList) = true := by rw [bne, e1]; rfl
      go_wp2_with (refine wpList_store_row rfl 37 _ _ rfl (w.heap.size) _ [Value.int .i64 0, .string ⟨#[]⟩, .string ⟨#[]⟩, .int .i64 0, .int .i64 0, .int .i64 0, .slice none 0 0, .bool false, .int .i64 0, .int .i64 0, .int .i64 0, .int .i64 3] 37 rfl rfl (HRes.out _ K6.out) rfl sizeCertOut (by simp [Value.oneCell']) ?_)
      intro w8 hrow ho hs8 hbb
      have HROW : Hid _ := hrow
      have HB8 : Hid (Below w.heap.size w w8) := hbb _ _ (by omega) (HB.out _ K6.out)
      clear ho hs8 hbb hrow
      go_wp2
      refine bodyPost_ret (v := .agg [Value.int .i64 0, .string ⟨#[]⟩, .string ⟨#[]⟩, .int .i64 0, .int .i64 0, .int .i64 0, .slice none 0 0, .bool false, .int .i64 0, .int .i64 0, .int .i64 0, .int .i64 3].toArray) ?_ rfl ⟨.slice none 0 0, by rw [HF.out]; rfl, by rw [HF.out]; exact ownS_nil _ _, HB8.out⟩
      have hl3 := run_loadVar_mid (P := Tryz.prog) _ (w.heap.size) 0 37 _ _ (rangeRow HROW.out) Tryz.underlying37 rfl sizeCertOut
      simp [results, Tryz.results20, asAddr, hl3]
    have HF : Hid (R = (⟨ser, iss, sub, fr, till, key, names, ca, sk, se, ss⟩, 0)) := by
      show _ = _
      rw [HRn'.out, if_neg]
      rintro (h | h)
      · exact hs0 h
      · exact h hY
    have e2 : (Y.toList != s.toList) = false := by rw [bne, same_text, decide_eq_true hY]; rfl
    have d0 := rowFacts G6.out 0 _ rfl
    have d1 := rowFacts G6.out 1 _ rfl
    have d2 := rowFacts G6.out 2 _ rfl
    have d3 := rowFacts G6.out 3 _ rfl
    have d4 := rowFacts G6.out 4 _ rfl
    have d5 := rowFacts G6.out 5 _ rfl
    have d6 := rowFacts G6.out 6 _ rfl
    have d7 := rowFacts G6.out 7 _ rfl
    have d8 := rowFacts G6.out 8 _ rfl
    have d9 := rowFacts G6.out 9 _ rfl
    have d10 := rowFacts G6.out 10 _ rfl
    go_wp2_with (refine wpList_store_row rfl 37 _ _ rfl (w.heap.size) _ [Value.int .i64 ser, .string iss, .string sub, .int .i64 fr, .int .i64 till, .int .i64 key, .slice va nl vc, .bool ca, .int .i64 sk, .int .i64 se, .int .i64 ss, .int .i64 0] 37 rfl rfl (HRes.out _ K6.out) rfl sizeCertOut (by simp [Value.oneCell']) ?_)
    intro w8 hrow ho hs8 hbb
    have HROW : Hid _ := hrow
    have HB8 : Hid (Below w.heap.size w w8) := hbb _ _ (by omega) (HB.out _ K6.out)
    have O8 : Hid (OwnS w8 (w.heap.size + 1) (.slice va nl vc) names) := O6.out.same fun b h1 h2 => ho b (by omega)
    clear ho hs8 hbb hrow
    go_wp2
    refine bodyPost_ret (v := .agg [Value.int .i64 ser, .string iss, .string sub, .int .i64 fr, .int .i64 till, .int .i64 key, .slice va nl vc, .bool ca, .int .i64 sk, .int .i64 se, .int .i64 ss, .int .i64 0].toArray) ?_ rfl ⟨.slice va nl vc, by rw [HF.out]; rfl, by rw [HF.out]; exact O8.out.mono (by omega), HB8.out⟩
    have hl3 := run_loadVar_mid (P := Tryz.prog) _ (w.heap.size) 0 37 _ _ (rangeRow HROW.out) Tryz.underlying37 rfl sizeCertOut
    simp [results, Tryz.results20, asAddr, hl3]
end Go.Proofs.YtkhdjmjbdpmdnaaGreatDoor
namespace Go.Proofs.YtkhdjmjbdpmdnaaGreatDoor
open Go.RowKit

set_option maxHeartbeats 1000000 in
set_option maxRecDepth 100000 in
theorem implGroupPow (y n : Int) (w : World) (hn : n ≤ 9223372036854775807) :
    Calls Tryz.prog 120 #[.int .i64 y, .int .i64 n] w fun e w' => e = .returned (.int .i64 (gpowA y n)) ∧ Below w.heap.size w w' := by
  by_cases h1 : unitB y = true
  · by_cases h2 : n < 0
    · have ea : Hid (gpowA y n = 0) := by
        show _ = _
        rw [gpowA, if_neg (by omega)]
      go_enter Tryz.func120, Tryz.ntmps120
      go_wp2_with fail
      refine (implUnit y _).mono ?_
      rintro e w' ⟨rfl, rfl⟩
      rw [h1]
      go_wp2
      go_ret
      exact ⟨ret_int ea.out.symm, Below.refl _ _⟩
    · obtain ⟨x, rfl, x1, x2⟩ := unitB_nat h1
      obtain ⟨k, rfl⟩ := nat_of h2
      rw [gpowA_nat x k h1]
      have t1 : (k : Int).tmod 1073741789 = ((k % 1073741789 : Nat) : Int) := tmodN k 1073741789
      have hb1 : k % 1073741789 ≤ 9223372036854775807 := by omega
      generalize k % 1073741789 = j at *
      have HC : Hid (∀ v : World, Calls Tryz.prog 166 #[.int .i64 (x : Int), .int .i64 (j : Int), .int .i64 2147483579] v fun e w' => e = .returned (.int .i64 ((pm x j 2147483579 : Nat) : Int)) ∧ Below v.heap.size v w') := fun v => by
        have h := implModPow x j 2147483579 v (by omega)
        rw [show (2147483579 : Int) = ((2147483579 : Nat) : Int) from rfl, powA_nat x j 2147483579 modP] at h
        exact h
      generalize pm x j 2147483579 = z at *
      go_enter Tryz.func120, Tryz.ntmps120
      go_wp2_with fail
      refine (implUnit x _).mono ?_
      rintro e w' ⟨rfl, rfl⟩
      rw [h1]
      go_wp2_with fail
      refine (HC.out _).mono ?_
      rintro e w' ⟨rfl, hb⟩
      have HB : Hid _ := hb
      clear hb
      go_wp2
      go_ret
      exact ⟨rfl, HB.out⟩
  · rw [Bool.not_eq_true] at h1
    have ea : Hid (gpowA y n = 0) := by
      show _ = _
      rw [gpowA, if_neg (by rw [h1]; simp)]
    go_enter Tryz.func120, Tryz.ntmps120
    go_wp2_with fail
    refine (implUnit y _).mono ?_
    rintro e w' ⟨rfl, rfl⟩
    rw [h1]
    go_wp2
    go_ret
    exact ⟨ret_int ea.out.symm, Below.refl _ _⟩
end Go.Proofs.YtkhdjmjbdpmdnaaGreatDoor
namespace Go.Proofs.YtkhdjmjbdpmdnaaGreatDoor
open Go.RowKit

set_option maxHeartbeats 1000000 in
set_option maxRecDepth 100000 in
theorem implModMul (a b m : Int) (w : World) :
    Calls Tryz.prog 207 #[.int .i64 a, .int .i64 b, .int .i64 m] w fun e w' => e = .returned (.int .i64 (mulA a b m)) ∧ Below w.heap.size w w' := by
  by_cases h1 : a < 0
  · have ea : Hid (mulA a b m = 0) := by
      show _ = _
      rw [mulA, if_neg (by omega)]
    go_enter Tryz.func207, Tryz.ntmps207
    go_wp2
    go_ret
    exact ⟨ret_int ea.out.symm, Below.refl _ _⟩
  by_cases h2 : b < 0
  · have ea : Hid (mulA a b m = 0) := by
      show _ = _
      rw [mulA, if_neg (by omega)]
    go_enter Tryz.func207, Tryz.ntmps207
    go_wp2
    go_ret
    exact ⟨ret_int ea.out.symm, Below.refl _ _⟩
  by_cases h3 : modB m = true
  · obtain ⟨k, rfl, k1, k2⟩ := modB_nat h3
    obtain ⟨x, rfl⟩ := nat_of h1
    obtain ⟨y, rfl⟩ := nat_of h2
    rw [mulA_nat x y k h3]
    clear h1 h2
    generalize hz : x * y % k = z
    go_enter Tryz.func207, Tryz.ntmps207
    go_wp2_with fail
    refine (implModRight k w).mono ?_
    rintro e w' ⟨rfl, rfl⟩
    rw [h3]
    go_wp2_with fail
    refine (implModulo k _).mono ?_
    rintro e w' ⟨rfl, rfl⟩
    go_wp2_with fail
    refine (implProduct _ x y k _ k1 k2 (newCell _ _ _)).mono ?_
    rintro e w' ⟨rfl, rfl⟩
    rw [hz]
    clear hz
    go_wp2
    go_ret
    exact ⟨rfl, allocBelow _ _⟩
  · rw [Bool.not_eq_true] at h3
    have ea : Hid (mulA a b m = 0) := by
      show _ = _
      rw [mulA, if_neg (by rw [h3]; simp)]
    go_enter Tryz.func207, Tryz.ntmps207
    go_wp2_with fail
    refine (implModRight m w).mono ?_
    rintro e w' ⟨rfl, rfl⟩
    rw [h3]
    go_wp2
    go_ret
    exact ⟨ret_int ea.out.symm, Below.refl _ _⟩
end Go.Proofs.YtkhdjmjbdpmdnaaGreatDoor
namespace Go.Proofs.YtkhdjmjbdpmdnaaGreatDoor
open Go.RowKit

set_option maxHeartbeats 1000000 in
set_option maxRecDepth 100000 in
theorem implGroupMul (a b : Int) (w : World) :
    Calls Tryz.prog 185 #[.int .i64 a, .int .i64 b] w fun e w' => e = .returned (.int .i64 (gmulA a b)) ∧ Below w.heap.size w w' := by
  by_cases h1 : unitB a = true
  · by_cases h2 : unitB b = true
    · obtain ⟨x, rfl, x1, x2⟩ := unitB_nat h1
      obtain ⟨y, rfl, y1, y2⟩ := unitB_nat h2
      rw [gmulA_nat x y h1 h2]
      have HC : Hid (∀ v : World, Calls Tryz.prog 207 #[.int .i64 (x : Int), .int .i64 (y : Int), .int .i64 2147483579] v fun e w' => e = .returned (.int .i64 ((x * y % 2147483579 : Nat) : Int)) ∧ Below v.heap.size v w') := fun v => by
        have h := implModMul x y 2147483579 v
        rw [show (2147483579 : Int) = ((2147483579 : Nat) : Int) from rfl, mulA_nat x y 2147483579 modP] at h
        exact h
      generalize x * y % 2147483579 = z at *
      go_enter Tryz.func185, Tryz.ntmps185
      go_wp2_with fail
      refine (implUnit x _).mono ?_
      rintro e w' ⟨rfl, rfl⟩
      rw [h1]
      go_wp2_with fail
      refine (implUnit y _).mono ?_
      rintro e w' ⟨rfl, rfl⟩
      rw [h2]
      go_wp2_with fail
      refine (HC.out _).mono ?_
      rintro e w' ⟨rfl, hb⟩
      have HB : Hid _ := hb
      clear hb
      go_wp2
      go_ret
      exact ⟨rfl, HB.out⟩
    · rw [Bool.not_eq_true] at h2
      have ea : Hid (gmulA a b = 0) := by
        show _ = _
        rw [gmulA, if_neg (by rw [h2]; simp)]
      go_enter Tryz.func185, Tryz.ntmps185
      go_wp2_with fail
      refine (implUnit a _).mono ?_
      rintro e w' ⟨rfl, rfl⟩
      rw [h1]
      go_wp2_with fail
      refine (implUnit b _).mono ?_
      rintro e w' ⟨rfl, rfl⟩
      rw [h2]
      go_wp2
      go_ret
      exact ⟨ret_int ea.out.symm, Below.refl _ _⟩
  · rw [Bool.not_eq_true] at h1
    have ea : Hid (gmulA a b = 0) := by
      show _ = _
      rw [gmulA, if_neg (by rw [h1]; simp)]
    go_enter Tryz.func185, Tryz.ntmps185
    go_wp2_with fail
    refine (implUnit a _).mono ?_
    rintro e w' ⟨rfl, rfl⟩
    rw [h1]
    go_wp2
    go_ret
    exact ⟨ret_int ea.out.symm, Below.refl _ _⟩
end Go.Proofs.YtkhdjmjbdpmdnaaGreatDoor
namespace Go.Proofs.YtkhdjmjbdpmdnaaGreatDoor
open Go.RowKit

set_option maxHeartbeats 1000000 in
set_option maxRecDepth 100000 in
theorem digestNumber (h t : ByteArray) (w : World) (hh : h.size ≤ 100) (ht : t.size ≤ 20000) (hk : Keys w) :
    Calls Tryz.prog 167 #[.string h, .string t] w fun e w' => e = .returned (.int .i64 (dnum (h ++ t) : Nat)) ∧ Below w.heap.size w w' := by
  have hkp := hk.pos
  go_enter Tryz.func167, Tryz.ntmps167
  go_wp2_with fail
  refine (beginW w).mono ?_
  rintro e w1 ⟨rfl, hb1⟩
  have hs1 := hb1.size
  have HB1 : Hid (Below w.heap.size w w1) := hb1
  clear hb1
  go_wp2_with fail
  generalize hw2 : w1.alloc _ = w2
  have hg2 : w2.heap[w1.heap.size]? = some (.cells (workCells st0 ByteArray.empty 0).toArray 206 (0, 0)) := by rw [← hw2]; exact heap_alloc_new w1 _
  have hb2 : Below w.heap.size w w2 := by rw [← hw2]; exact HB1.out.alloc hs1 _
  refine (takeW st0 ByteArray.empty h 0 w2 w w1.heap.size w.heap.size 206 (by simp) (by omega) (by omega) (by omega) hg2 hb2 hs1 hk hkp).mono ?_
  rintro e w3 ⟨rfl, hg3, hb3⟩
  rw [empty_append] at hg3
  have hg3' : w3.heap[w1.heap.size]? = some (.cells (workCells (more st0 h) (restOf h) (h.size : Nat)).toArray 206 (0, 0)) := by simpa using hg3
  have HG3 : Hid _ := hg3'
  have HB3 : Hid (Below w.heap.size w w3) := hb3
  have HK : Hid (Keys w) := hk
  clear hg3 hg3' hb3 hg2 hb2 hw2 hk
  go_wp2_with fail
  refine (takeW (more st0 h) (restOf h) t (h.size : Nat) w3 w w1.heap.size w.heap.size 206 (by rw [size_restOf]; omega) (by omega) (by omega) (by omega) HG3.out HB3.out hs1 HK.out hkp).mono ?_
  rintro e w4 ⟨rfl, hg4, hb4⟩
  rw [more_more, rest_more] at hg4
  have hg4' : w4.heap[w1.heap.size]? = some (.cells (workCells (more st0 (h ++ t)) (restOf (h ++ t)) ((h ++ t).size : Nat)).toArray 206 (0, 0)) := by rw [size_append]; simpa using hg4
  have HG4 : Hid _ := hg4'
  have HB4 : Hid (Below w.heap.size w w4) := hb4
  clear hg4 hg4' hb4
  go_wp2_with fail
  refine (endW (more st0 (h ++ t)) (restOf (h ++ t)) (h ++ t).size w4 w w1.heap.size w.heap.size 206 (by rw [size_restOf]; omega) (by rw [size_append]; omega) HG4.out HB4.out hs1 HK.out hkp).mono ?_
  rintro e w5 ⟨rfl, hb5⟩
  have HB5 : Hid (Below w.heap.size w w5) := hb5
  clear hb5 HG3 HG4 HB3 HB4 HK HB1
  have hd := digOf_size (h ++ t)
  obtain ⟨D, hD⟩ : ∃ D, strOfNums (digL (endSt (more st0 (h ++ t)) (restOf (h ++ t)) (h ++ t).size)) = D := ⟨_, rfl⟩
  have HD : Hid (digOf (h ++ t) = D) := hD
  rw [show digOf (h ++ t) = D from hD] at hd
  rw [hD]
  clear hD
  go_wp2_with fail
  go_loopw [15, 7] (fun i n wr => ∃ k : Nat, k ≤ 7 ∧ i = .int .i64 k ∧ n = .int .i64 (bnum D k : Nat) ∧ wr = w5) (fun i _ _ => 7 - (intOf i).toNat)
  case atStart => exact ⟨0, by omega, rfl, rfl, rfl⟩
  case round =>
    obtain ⟨k, hk7, rfl, rfl, rfl⟩ := hrel
    by_cases hlt : k < 7
    · have hb := bnum_le D (k := k) (by omega)
      have hc := (byteAt D k).toNat_lt
      have hj := i64_join (bnum D k) (byteAt D k).toNat hb (by omega)
      have hg : byteAt D k = D[k] := byteAt_get D k (by omega)
      have HN : Hid (bnum D (k + 1) = 256 * bnum D k + (byteAt D k).toNat) := rfl
      rw [hg] at hj
      have HG : Hid (byteAt D k = D[k]) := hg
      clear hg hc
      have hb' : (bnum D k : Int) ≤ 281474976710655 := by omega
      have hb0 : (0 : Int) ≤ (bnum D k : Int) := by omega
      obtain ⟨y, hy⟩ : ∃ y : Int, y = (bnum D k : Int) := ⟨_, rfl⟩
      have HY : Hid (y = (bnum D k : Int)) := hy
      obtain ⟨v, hv⟩ : ∃ v : Int, v = ((256 * bnum D k + D[k].toNat : Nat) : Int) := ⟨_, rfl⟩
      have HV : Hid (v = ((256 * bnum D k + D[k].toNat : Nat) : Int)) := hv
      rw [← hv] at hj
      rw [← hy] at hb' hb0 hj ⊢
      have hc' := u8_lt D[k]
      clear hb hy hv
      go_wp2
      go_roundw
      case rel => exact ⟨k + 1, by omega, by go_num, by rw [HN.out, HG.out, HV.out], trivial⟩
      case measure => simp [intOf]; omega
    · go_wp2
      go_ret
      exact ⟨ret_int (by unfold dnum; rw [HD.out, show k = 7 from by omega]), HB5.out⟩
end Go.Proofs.YtkhdjmjbdpmdnaaGreatDoor
namespace Go.Proofs.YtkhdjmjbdpmdnaaGreatDoor
open Go.RowKit

set_option maxHeartbeats 1000000 in
set_option maxRecDepth 100000 in
theorem implChallenge (r key : Int) (t : ByteArray) (w : World) (ht : t.size ≤ maxLen) (hk : Keys w) :
    Calls Tryz.prog 168 #[.int .i64 r, .int .i64 key, .string t] w fun e w' => e = .returned (.int .i64 (challA r key t)) ∧ Below w.heap.size w w' := by
  have HK : Hid (Keys w) := hk
  have hkp := hk.pos
  clear hk
  by_cases h1 : 20000 < t.size
  · have ea : Hid (challA r key t = 0) := by
      show _ = _
      rw [challA, if_neg (by omega)]
    have hd : decide (20000 < t.size) = true := decide_eq_true h1
    go_enter Tryz.func168, Tryz.ntmps168
    go_wp2_with fail
    refine (tooLong t _ ht).mono ?_
    rintro e w' ⟨rfl, rfl⟩
    rw [hd]
    clear h1 hd ht
    go_wp2
    go_ret
    exact ⟨ret_int ea.out.symm, Below.refl _ _⟩
  have hd : decide (20000 < t.size) = false := decide_eq_false h1
  by_cases h2 : unitB r = true
  · by_cases h3 : unitB key = true
    · have ea : Hid (challA r key t = (chal r key t : Int)) := by
        show _ = _
        rw [challA, if_pos ⟨by omega, h2, h3⟩]
      have b2 : 1 ≤ r ∧ r < 2147483579 := of_decide_eq_true h2
      have b3 : 1 ≤ key ∧ key < 2147483579 := of_decide_eq_true h3
      have s2 := putS_size r
      have s3 := putS_size key
      have P2 : Hid (∀ v : World, Calls Tryz.prog 123 #[.int .i64 r] v fun e w' => e = .returned (.string (putS r)) ∧ Below v.heap.size v w') := fun v => implPut r v (by omega) (by omega)
      have P3 : Hid (∀ v : World, Calls Tryz.prog 123 #[.int .i64 key] v fun e w' => e = .returned (.string (putS key)) ∧ Below v.heap.size v w') := fun v => implPut key v (by omega) (by omega)
      have EC : Hid ((dnum (putS r ++ putS key ++ t) % 1073741789 : Nat) = chal r key t) := rfl
      have ld := dnum_lt (putS r ++ putS key ++ t)
      have LD : Hid (∀ a b : ByteArray, a = putS r → b = putS key → dnum (a ++ b ++ t) < 72057594037927936 ∧ dnum (a ++ b ++ t) % 1073741789 = chal r key t) := fun a b ha hb => by subst ha hb; exact ⟨ld, EC.out⟩
      generalize hp : putS r = p at s2 P2
      generalize hq : putS key = q at s3 P3
      have LD' := LD.out p q hp.symm hq.symm
      have LE : Hid (dnum (p ++ q ++ t) < 72057594037927936 ∧ dnum (p ++ q ++ t) % 1073741789 = chal r key t) := LD'
      clear LD LD' ld EC hp hq
      go_enter Tryz.func168, Tryz.ntmps168
      go_wp2_with fail
      refine (tooLong t _ ht).mono ?_
      rintro e w' ⟨rfl, rfl⟩
      rw [hd]
      go_wp2_with fail
      refine (implUnit r _).mono ?_
      rintro e w' ⟨rfl, rfl⟩
      rw [h2]
      go_wp2_with fail
      refine (implUnit key _).mono ?_
      rintro e w' ⟨rfl, rfl⟩
      rw [h3]
      go_wp2_with fail
      refine (P2.out _).mono ?_
      rintro e w1 ⟨rfl, hb1⟩
      have B1 : Hid (Below w'.heap.size w' w1) := hb1
      have z1 := hb1.size
      clear hb1
      go_wp2_with fail
      refine (P3.out _).mono ?_
      rintro e w2 ⟨rfl, hb2⟩
      have B2 : Hid (Below w'.heap.size w' w2) := B1.out.trans (hb2.mono z1)
      have z2 := B2.out.size
      clear hb2
      go_wp2_with fail
      refine (joinTexts p q _ (by omega) (by omega)).mono ?_
      rintro e w3 ⟨rfl, hb3⟩
      have B3 : Hid (Below w'.heap.size w' w3) := B2.out.trans (hb3.mono z2)
      have z3 := B3.out.size
      have K3 : Hid (Keys w3) := HK.out.below B3.out hkp
      clear hb3
      go_wp2_with fail
      refine (digestNumber (p ++ q) t _ (by rw [size_append]; omega) (by omega) K3.out).mono ?_
      rintro e w4 ⟨rfl, hb4⟩
      have B4 : Hid (Below w'.heap.size w' w4) := B3.out.trans (hb4.mono z3)
      clear hb4
      obtain ⟨l1, l2⟩ := LE.out
      generalize dnum (p ++ q ++ t) = d at l1 l2
      have t1 : (d : Int).tmod 1073741789 = ((d % 1073741789 : Nat) : Int) := tmodN d 1073741789
      rw [l2] at t1
      clear LE l1 l2
      go_wp2
      go_ret
      exact ⟨ret_int ea.out.symm, B4.out⟩
    · rw [Bool.not_eq_true] at h3
      have ea : Hid (challA r key t = 0) := by
        show _ = _
        rw [challA, if_neg (by rw [h3]; simp)]
      go_enter Tryz.func168, Tryz.ntmps168
      go_wp2_with fail
      refine (tooLong t _ ht).mono ?_
      rintro e w' ⟨rfl, rfl⟩
      rw [hd]
      go_wp2_with fail
      refine (implUnit r _).mono ?_
      rintro e w' ⟨rfl, rfl⟩
      rw [h2]
      go_wp2_with fail
      refine (implUnit key _).mono ?_
      rintro e w' ⟨rfl, rfl⟩
      rw [h3]
      go_wp2
      go_ret
      exact ⟨ret_int ea.out.symm, Below.refl _ _⟩
  · rw [Bool.not_eq_true] at h2
    have ea : Hid (challA r key t = 0) := by
      show _ = _
      rw [challA, if_neg (by rw [h2]; simp)]
    go_enter Tryz.func168, Tryz.ntmps168
    go_wp2_with fail
    refine (tooLong t _ ht).mono ?_
    rintro e w' ⟨rfl, rfl⟩
    rw [hd]
    go_wp2_with fail
    refine (implUnit r _).mono ?_
    rintro e w' ⟨rfl, rfl⟩
    rw [h2]
    go_wp2
    go_ret
    exact ⟨ret_int ea.out.symm, Below.refl _ _⟩
end Go.Proofs.YtkhdjmjbdpmdnaaGreatDoor
namespace Go.Proofs.YtkhdjmjbdpmdnaaGreatDoor
open Go.RowKit

set_option maxHeartbeats 1000000 in
set_option maxRecDepth 100000 in
theorem askChallenge (key r : Int) (t : ByteArray) (w : World) (ht : t.size ≤ maxLen) (hk : Keys w) :
    Calls Tryz.prog 119 #[.agg #[.int .i64 key, .string t], .int .i64 r] w fun e w' => e = .returned (.int .i64 (challA r key t)) ∧ Below w.heap.size w w' := by
  have hkp := hk.pos
  have HK : Hid (∀ o, Keys (w.alloc o)) := fun o => hk.below (allocBelow w o) hkp
  clear hk
  go_enter Tryz.func119, Tryz.ntmps119
  go_wp2_with fail
  refine (implChallenge r key t _ ht (HK.out _)).mono ?_
  rintro e w1 ⟨rfl, hb1⟩
  have B1 : Hid (Below w.heap.size w w1) := (allocBelow w _).trans (hb1.mono (by simp))
  clear hb1
  generalize hz : challA r key t = z
  have HZ : Hid (challA r key t = z) := hz
  clear hz
  go_wp2
  go_ret
  exact ⟨ret_int HZ.out.symm, B1.out⟩
end Go.Proofs.YtkhdjmjbdpmdnaaGreatDoor
namespace Go.Proofs.YtkhdjmjbdpmdnaaGreatDoor
open Go.RowKit

set_option maxHeartbeats 1000000 in
set_option maxRecDepth 100000 in
theorem askedAgain (K E S : Nat) (t : ByteArray) (w : World) (ht : t.size ≤ 20000) (hk : K < 2147483579) (he : E < 1073741789) (hs : S < 1073741789) (hp : pm K 1073741789 2147483579 = 1) (hw : Keys w) :
    Calls Tryz.prog 143 #[.agg #[.int .i64 (K : Int), .int .i64 (E : Int), .int .i64 (S : Int)], .func (.func 119) #[.agg #[.int .i64 (K : Int), .string t]] #[]] w fun r w' => r = .returned (sigV K (chal (backR K E S : Nat) K t) S) ∧ Below w.heap.size w w' := by
  obtain ⟨j, hj⟩ : ∃ j : Nat, j = 1073741789 - E := ⟨_, rfl⟩
  obtain ⟨y1, hy1⟩ : ∃ y : Nat, y = pm 4 S 2147483579 := ⟨_, rfl⟩
  obtain ⟨y2, hy2⟩ : ∃ y : Nat, y = pm K j 2147483579 := ⟨_, rfl⟩
  obtain ⟨b, hb⟩ : ∃ b : Nat, b = backR K E S := ⟨_, rfl⟩
  obtain ⟨c, hc⟩ : ∃ c : Nat, c = chal (b : Int) K t := ⟨_, rfl⟩
  have e1 : gpowA 4 (S : Int) = (y1 : Int) := by rw [hy1]; exact gpow_in (y := 4) (by omega) pm4 S
  have e2 : gpowA (K : Int) (j : Int) = (y2 : Int) := by rw [hy2]; exact gpow_in hk hp j
  have e3 : gmulA (y1 : Int) (y2 : Int) = (b : Int) := by rw [hy1, hy2, hb, hj]; exact back_mul hp
  have hj' : (1073741789 : Int) - (E : Int) = (j : Int) := by omega
  have hj2 : IntKind.i64.wrap (j : Int) = (j : Int) := by rw [IntKind.wrap_i64]; omega
  have hjm : (j : Int) ≤ 1073741789 := by omega
  have e4 : challA (b : Int) (K : Int) t = (c : Int) := by
    rw [challA, if_pos ⟨ht, by rw [hb]; exact back_unit hp, unit_of hk hp⟩, hc]
  rw [← hb, ← hc]
  have hkp := hw.pos
  have htm : t.size ≤ maxLen := by unfold maxLen; omega
  have HW : Hid (Keys w) := hw
  have E3 : Hid (gmulA (y1 : Int) (y2 : Int) = (b : Int)) := e3
  have E4 : Hid (challA (b : Int) (K : Int) t = (c : Int)) := e4
  clear hj hy1 hy2 hb hc hp hw e3 e4 hk
  have hA : ∀ x y, Below w.heap.size w ((w.alloc x).alloc y) := fun x y => ((Below.refl _ w).alloc (Nat.le_refl _) x).alloc (by simp) y
  go_enter Tryz.func143, Tryz.ntmps143
  go_wp2_with fail
  obtain ⟨w1, hw1⟩ : ∃ w1, (w.alloc (.cells #[.int .i64 (K : Int), .int .i64 (E : Int), .int .i64 (S : Int)] 25 (0, 0))).alloc (.cells #[.int .i64 0, .int .i64 0, .int .i64 0] 25 (0, 0)) = w1 := ⟨_, rfl⟩
  have hb1 : Below w.heap.size w w1 := by rw [← hw1]; exact hA _ _
  have hs1 : w1.heap.size = w.heap.size + 2 := by rw [← hw1]; simp
  have hP1 : w1.heap[w.heap.size]? = some (.cells [Value.int .i64 (K : Int), .int .i64 (E : Int), .int .i64 (S : Int)].toArray 25 (0, 0)) := by
    rw [← hw1, Below.heap_alloc _ _ _ (by simp)]; exact heap_alloc_new w _
  have hR1 : w1.heap[w.heap.size + 1]? = some (.cells [Value.int .i64 0, .int .i64 0, .int .i64 0].toArray 25 (0, 0)) := by rw [← hw1]; exact heap_alloc2 w _ _
  rw [hw1]
  have HKEEP : Hid (∀ W, Below (w.heap.size + 2) w1 W → W.heap[w.heap.size + 1]? = some (.cells [Value.int .i64 0, .int .i64 0, .int .i64 0].toArray 25 (0, 0)) ∧ W.cell? ⟨w.heap.size, 0, none⟩ = some (.int .i64 (K : Int)) ∧ W.cell? ⟨w.heap.size, 1, none⟩ = some (.int .i64 (E : Int)) ∧ W.cell? ⟨w.heap.size, 2, none⟩ = some (.int .i64 (S : Int)) ∧ W.cell? ⟨w.heap.size + 1, 0, none⟩ = some (.int .i64 0) ∧ W.cell? ⟨w.heap.size + 1, 1, none⟩ = some (.int .i64 0) ∧ W.cell? ⟨w.heap.size + 1, 2, none⟩ = some (.int .i64 0) ∧ W.frozen? ⟨w.heap.size + 1, 0, none⟩ = false ∧ W.frozen? ⟨w.heap.size + 1, 1, none⟩ = false ∧ W.frozen? ⟨w.heap.size + 1, 2, none⟩ = false) := fun W hW => by
    have hP : W.heap[w.heap.size]? = some (.cells [Value.int .i64 (K : Int), .int .i64 (E : Int), .int .i64 (S : Int)].toArray 25 (0, 0)) := by rw [hW.block _ (by omega)]; exact hP1
    have hR : W.heap[w.heap.size + 1]? = some (.cells [Value.int .i64 0, .int .i64 0, .int .i64 0].toArray 25 (0, 0)) := by rw [hW.block _ (by omega)]; exact hR1
    exact ⟨hR, rowFacts hP 0 _ rfl, rowFacts hP 1 _ rfl, rowFacts hP 2 _ rfl, rowFacts hR 0 _ rfl, rowFacts hR 1 _ rfl, rowFacts hR 2 _ rfl, frozen_of_row W _ 0 _ _ hR, frozen_of_row W _ 1 _ _ hR, frozen_of_row W _ 2 _ _ hR⟩
  have HT1 : Hid (∀ V (y n : Int), Hid (Below (w.heap.size + 2) w1 V) → n ≤ 9223372036854775807 → Calls Tryz.prog 120 #[.int .i64 y, .int .i64 n] V fun r W => r = .returned (.int .i64 (gpowA y n)) ∧ Hid (Below (w.heap.size + 2) w1 W) ∧ W.cell? ⟨w.heap.size, 0, none⟩ = some (.int .i64 (K : Int)) ∧ W.cell? ⟨w.heap.size, 1, none⟩ = some (.int .i64 (E : Int)) ∧ W.cell? ⟨w.heap.size, 2, none⟩ = some (.int .i64 (S : Int))) := fun V y n hV hn => by
    refine (implGroupPow y n V hn).mono ?_
    rintro r W ⟨rfl, hb⟩
    have hbW : Below (w.heap.size + 2) w1 W := hV.out.trans (hb.mono (by have := hV.out.size; omega))
    have h := HKEEP.out W hbW
    exact ⟨rfl, hbW, h.2.1, h.2.2.1, h.2.2.2.1⟩
  have HT2 : Hid (∀ V (y n : Int), Hid (Below (w.heap.size + 2) w1 V) → Calls Tryz.prog 185 #[.int .i64 y, .int .i64 n] V fun r W => r = .returned (.int .i64 (gmulA y n)) ∧ Hid (Below (w.heap.size + 2) w1 W) ∧ W.cell? ⟨w.heap.size, 0, none⟩ = some (.int .i64 (K : Int)) ∧ W.cell? ⟨w.heap.size, 1, none⟩ = some (.int .i64 (E : Int)) ∧ W.cell? ⟨w.heap.size, 2, none⟩ = some (.int .i64 (S : Int))) := fun V y n hV => by
    refine (implGroupMul y n V).mono ?_
    rintro r W ⟨rfl, hb⟩
    have hbW : Below (w.heap.size + 2) w1 W := hV.out.trans (hb.mono (by have := hV.out.size; omega))
    have h := HKEEP.out W hbW
    exact ⟨rfl, hbW, h.2.1, h.2.2.1, h.2.2.2.1⟩
  have HB1 : Hid (Below w.heap.size w w1) := hb1
  have HS1 : Hid (w1.heap.size = w.heap.size + 2) := hs1
  have HD1 : Hid (Below (w.heap.size + 2) w1 w1.drew) := (Below.refl _ w1).drew
  obtain ⟨_, p0, p1, p2, o0, o1, o2, y0, y1', y2'⟩ := HKEEP.out w1 (Below.refl _ _)
  clear hw1 hP1 hR1 hb1 hA hs1 o0 o1 o2 y0 y1' y2'
  go_region_held3 (fun V => V.cell? ⟨w.heap.size, 0, none⟩ = some (.int .i64 (K : Int)) ∧ V.cell? ⟨w.heap.size, 1, none⟩ = some (.int .i64 (E : Int)) ∧ V.cell? ⟨w.heap.size, 2, none⟩ = some (.int .i64 (S : Int))) (first | exact ⟨d0, d1, d2⟩ | exact ⟨c0, c1, c2⟩ | go_keep)
    (first | (go_at_call 185; refine (HT2.out _ _ _ (by assumption)).mono ?_; rintro r W2 ⟨rfl, kk2, d0, d1, d2⟩) | (go_at_call 120; refine (HT1.out _ _ _ (by assumption) (by omega)).mono ?_; rintro r W ⟨rfl, kk, c0, c1, c2⟩))
  rw [E3.out]
  have hk2 := kk2.out
  have HT3 : Hid (Calls Tryz.prog 119 #[.agg #[.int .i64 (K : Int), .string t], .int .i64 (b : Int)] W2.drew fun r W => r = .returned (.int .i64 (c : Int)) ∧ Hid (Below (w.heap.size + 2) w1 W) ∧ W.cell? ⟨w.heap.size, 0, none⟩ = some (.int .i64 (K : Int)) ∧ W.cell? ⟨w.heap.size, 1, none⟩ = some (.int .i64 (E : Int)) ∧ W.cell? ⟨w.heap.size, 2, none⟩ = some (.int .i64 (S : Int)) ∧ W.cell? ⟨w.heap.size + 1, 0, none⟩ = some (.int .i64 0) ∧ W.cell? ⟨w.heap.size + 1, 1, none⟩ = some (.int .i64 0) ∧ W.cell? ⟨w.heap.size + 1, 2, none⟩ = some (.int .i64 0) ∧ W.frozen? ⟨w.heap.size + 1, 0, none⟩ = false ∧ W.frozen? ⟨w.heap.size + 1, 1, none⟩ = false ∧ W.frozen? ⟨w.heap.size + 1, 2, none⟩ = false) := by
    show Calls _ _ _ _ _
    have z2 := hk2.size
    have hsz : w1.heap.size = w.heap.size + 2 := HS1.out
    have hB : Below w.heap.size w W2 := HB1.out.trans (hk2.mono (by omega))
    refine (askChallenge (K : Int) (b : Int) t W2.drew htm (HW.out.below hB.drew hkp)).mono ?_
    rintro r W ⟨rfl, hb⟩
    have hbW : Below (w.heap.size + 2) w1 W := hk2.drew.trans (hb.mono (by show _ ≤ W2.heap.size; omega))
    have h := HKEEP.out W hbW
    exact ⟨by rw [E4.out], hbW, h.2⟩
  clear hk2 kk2 kk HT1 HT2 HD1 e1 e2 hj' hj2 hjm c0 c1 c2 p0 p1 p2
  go_wp2_with fail
  go_region_held3 (fun V => V.cell? ⟨w.heap.size, 0, none⟩ = some (.int .i64 (K : Int)) ∧ V.cell? ⟨w.heap.size, 2, none⟩ = some (.int .i64 (S : Int))) (first | exact ⟨q0, q2⟩ | go_keep)
    (first | (go_at_call 119; refine HT3.out.mono ?_; rintro r W3 ⟨rfl, kk3, q0, q1, q2, r0, r1, r2, f0, f1, f2⟩))
  all_goals
    have G4 := (HKEEP.out _ kk3.out).1
    have B4 := HB1.out.trans (kk3.out.mono (by omega))
    clear HT3 HKEEP
    have HG : Hid _ := G4
    have HB : Hid _ := B4
    clear G4 B4
    go_wp2
    refine bodyPost_ret (v := sigV K c S) ?_ rfl ⟨rfl, ?_⟩
    · have hrow := sigRow HG.out (.int .i64 (K : Int)) (.int .i64 (c : Int)) (.int .i64 (S : Int))
      have hl3 := run_loadVar_mid (P := Tryz.prog) _ (w.heap.size + 1) 0 25 _ _ (rangeRow hrow) Tryz.underlying25 rfl sizeSig
      simp [results, Tryz.results143, asAddr, hl3, sigV]
    · exact ((HB.out.setCell (by simp) _).setCell (by simp) _).setCell (by simp) _
set_option maxHeartbeats 1000000 in
set_option maxRecDepth 100000 in
theorem implSigCheck (k e s : Int) (t : ByteArray) (w : World) (ht : t.size ≤ maxLen) (hw : Keys w) :
    Calls Tryz.prog 67 #[.agg #[.int .i64 k, .int .i64 e, .int .i64 s], .string t] w fun r w' => r = .returned (.bool (sigCB k e s t)) ∧ Below w.heap.size w w' := by
  have hkp := hw.pos
  have HW : Hid (Keys w) := hw
  clear hw
  by_cases h1 : 20000 < t.size
  · have ea : Hid (sigCB k e s t = false) := sigCB_long h1
    have hd : decide (20000 < t.size) = true := decide_eq_true h1
    go_enter Tryz.func67, Tryz.ntmps67
    go_wp2_with fail
    refine (tooLong t _ ht).mono ?_
    rintro r w' ⟨rfl, rfl⟩
    rw [hd]
    clear h1 hd ht
    go_wp2
    go_ret
    exact ⟨by rw [ea.out]; rfl, allocBelow _ _⟩
  have hd : decide (20000 < t.size) = false := decide_eq_false h1
  have ht2 : t.size ≤ 20000 := by omega
  by_cases h2 : sigRB k e s = true
  · obtain ⟨K, E, S, rfl, rfl, rfl, hk, he, hs, hp⟩ := sigRB_nat h2
    have ea : Hid (sigCB K E S t = decide ((chal (backR K E S : Nat) K t : Int) = (E : Int))) := sigCB_right ht2 h2
    have HX : Hid (∀ v : World, Keys v → Calls Tryz.prog 143 #[.agg #[.int .i64 (K : Int), .int .i64 (E : Int), .int .i64 (S : Int)], .func (.func 119) #[.agg #[.int .i64 (K : Int), .string t]] #[]] v fun r w' => r = .returned (sigV K (chal (backR K E S : Nat) K t) S) ∧ Below v.heap.size v w') := fun v hv => askedAgain K E S t v ht2 hk he hs hp hv
    generalize chal (backR K E S : Nat) K t = c at *
    go_enter Tryz.func67, Tryz.ntmps67
    go_wp2_with fail
    refine (tooLong t _ ht).mono ?_
    rintro r w' ⟨rfl, rfl⟩
    rw [hd]
    go_wp2_with fail
    refine (implSigRight K E S _).mono ?_
    rintro r w1 ⟨rfl, hb1⟩
    rw [h2]
    have c0 : w1.cell? ⟨w.heap.size, 0, none⟩ = some (.int .i64 (K : Int)) := by rw [hb1.cell (p := ⟨w.heap.size, 0, none⟩) (by simp)]; simp
    have c1 : w1.cell? ⟨w.heap.size, 1, none⟩ = some (.int .i64 (E : Int)) := by rw [hb1.cell (p := ⟨w.heap.size, 1, none⟩) (by simp)]; simp
    have c2 : w1.cell? ⟨w.heap.size, 2, none⟩ = some (.int .i64 (S : Int)) := by rw [hb1.cell (p := ⟨w.heap.size, 2, none⟩) (by simp)]; simp
    have hl : w.heap.size < w1.heap.size := by have := hb1.size; simp at this; omega
    have B1 : Hid (Below w.heap.size w w1) := (allocBelow w _).trans (hb1.mono (by simp))
    have HT : Hid (Calls Tryz.prog 143 #[.agg #[.int .i64 (K : Int), .int .i64 (E : Int), .int .i64 (S : Int)], .func (.func 119) #[.agg #[.int .i64 (K : Int), .string t]] #[]] w1.drew fun r W => r = .returned (.agg #[.int .i64 (K : Int), .int .i64 (c : Int), .int .i64 (S : Int)]) ∧ Hid (Below w.heap.size w W) ∧ W.cell? ⟨w.heap.size, 0, none⟩ = some (.int .i64 (K : Int)) ∧ W.cell? ⟨w.heap.size, 1, none⟩ = some (.int .i64 (E : Int)) ∧ W.cell? ⟨w.heap.size, 2, none⟩ = some (.int .i64 (S : Int))) := by
      show Calls _ _ _ _ _
      refine (HX.out w1.drew (HW.out.below B1.out.drew hkp)).mono ?_
      rintro r W ⟨rfl, hb⟩
      exact ⟨rfl, B1.out.drew.trans (hb.mono (Nat.le_of_lt hl)), by rw [hb.cell hl]; exact c0, by rw [hb.cell hl]; exact c1, by rw [hb.cell hl]; exact c2⟩
    clear hb1 HX hl hp
    by_cases hc : E = c
    · obtain rfl := hc
      go_wp2_with fail
      go_region_held3 (fun V => V.cell? ⟨w.heap.size, 0, none⟩ = some (.int .i64 (K : Int)) ∧ V.cell? ⟨w.heap.size, 1, none⟩ = some (.int .i64 (E : Int)) ∧ V.cell? ⟨w.heap.size, 2, none⟩ = some (.int .i64 (S : Int))) (first | exact ⟨q0, q1, q2⟩ | go_keep)
        (first | (go_at_call 143; refine HT.out.mono ?_; rintro r W3 ⟨rfl, kk3, q0, q1, q2⟩))
      all_goals
        go_wp2
        go_ret
        exact ⟨by rw [ea.out]; simp, kk3.out⟩
    · have hb : ((E : Int) == (c : Int)) = false := by rw [beq_eq_false_iff_ne]; omega
      have HC : Hid (decide ((c : Int) = (E : Int)) = false) := decide_eq_false (by omega)
      go_wp2_with fail
      go_region_held3 (fun V => V.cell? ⟨w.heap.size, 0, none⟩ = some (.int .i64 (K : Int)) ∧ V.cell? ⟨w.heap.size, 1, none⟩ = some (.int .i64 (E : Int)) ∧ V.cell? ⟨w.heap.size, 2, none⟩ = some (.int .i64 (S : Int))) (first | exact ⟨q0, q1, q2⟩ | go_keep)
        (first | (go_at_call 143; refine HT.out.mono ?_; rintro r W3 ⟨rfl, kk3, q0, q1, q2⟩))
      all_goals
        go_wp2
        go_ret
        exact ⟨by rw [ea.out, HC.out]; rfl, kk3.out⟩
  · rw [Bool.not_eq_true] at h2
    have ea : Hid (sigCB k e s t = false) := sigCB_wrong h2
    go_enter Tryz.func67, Tryz.ntmps67
    go_wp2_with fail
    refine (tooLong t _ ht).mono ?_
    rintro r w' ⟨rfl, rfl⟩
    rw [hd]
    go_wp2_with fail
    refine (implSigRight k e s _).mono ?_
    rintro r w1 ⟨rfl, hb1⟩
    rw [h2]
    have B1 : Hid (Below w.heap.size w w1) := (allocBelow w _).trans (hb1.mono (by simp))
    clear hb1
    go_wp2
    go_ret
    exact ⟨by rw [ea.out]; rfl, B1.out⟩
end Go.Proofs.YtkhdjmjbdpmdnaaGreatDoor
