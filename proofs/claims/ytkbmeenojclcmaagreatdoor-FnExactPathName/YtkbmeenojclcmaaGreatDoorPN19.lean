/- The specification's side of lists: spec.l07List, walked. spec.l07Listed, walked. -/
import Derived.Test.YtkbmeenojclcmaaGreatDoorPN11
import Derived.Test.YtkbmeenojclcmaaGreatDoorPN05
import Derived.Test.YtkbmeenojclcmaaGreatDoorPN14
import Derived.Deep.Cut
import Derived.Test.YtkbmeenojclcmaaGreatDoorPN15
import Derived.Deep.RegionHeld3
namespace Go.Proofs.YtkbmeenojclcmaaGreatDoor
open Go.RowKit

set_option linter.unusedSimpArgs false in
set_option maxHeartbeats 4000000 in
set_option maxRecDepth 100000 in
theorem specList (c : Lst) (a : Option Addr) (cap : Nat) (w : World) (hi : c.issuer.size ≤ maxLen) (hl : c.serials.length ≤ 1048576) (ha : IsInts w a c.serials) :
    Calls Tryz.prog 18 #[c.val (.slice a c.serials.length cap)] w fun e w' => e = .returned (.bool (listB c)) ∧ Below w.heap.size w w' := by
  obtain ⟨R, hR⟩ : ∃ R, R = listB c := ⟨_, rfl⟩
  rw [← hR]
  have HR : Hid (R = (nameB c.issuer && timeB c.fr && timeB c.till && decide (c.fr ≤ c.till) && serialsB c.serials)) := hR
  clear hR
  obtain ⟨iss, fr, till, serials, sk, se, ss⟩ := c
  unfold Lst.val
  simp only at HR hi hl ha ⊢
  obtain ⟨zs, hzs⟩ : ∃ zs, zs = serials := ⟨_, rfl⟩
  rw [← hzs] at HR hl ha ⊢
  clear hzs
  have HSB : Hid (serialsB zs = (okSTo zs zs.length && decide (zs.length ≤ 40))) := rfl
  obtain ⟨nl, hnl⟩ : ∃ nl, nl = zs.length := ⟨_, rfl⟩
  rw [← hnl] at hl ⊢
  have HNl : Hid (nl = zs.length) := hnl
  clear hnl
  obtain ⟨w1, hw1⟩ : ∃ w1, w1 = w.alloc (.cells #[.string iss, .int .i64 fr, .int .i64 till, .slice a nl cap, .int .i64 sk, .int .i64 se, .int .i64 ss] 38 (0, 0)) := ⟨_, rfl⟩
  have r0 : w1.heap[w.heap.size]? = some (.cells [Value.string iss, .int .i64 fr, .int .i64 till, .slice a nl cap, .int .i64 sk, .int .i64 se, .int .i64 ss].toArray 38 (0, 0)) := by rw [hw1]; exact heap_alloc_new w _
  have B1 : Hid (Below w.heap.size w w1) := by rw [hw1]; exact (Below.refl _ _).alloc (Nat.le_refl _) _
  have z1 : w.heap.size < w1.heap.size := by rw [hw1]; simp
  have HK : Hid (∀ V, Below w1.heap.size w1 V → V.cell? ⟨w.heap.size, 0, none⟩ = some (.string iss) ∧ V.cell? ⟨w.heap.size, 1, none⟩ = some (.int .i64 fr) ∧ V.cell? ⟨w.heap.size, 2, none⟩ = some (.int .i64 till) ∧ V.cell? ⟨w.heap.size, 3, none⟩ = some (.slice a nl cap) ∧ V.cell? ⟨w.heap.size, 4, none⟩ = some (.int .i64 sk) ∧ V.cell? ⟨w.heap.size, 5, none⟩ = some (.int .i64 se) ∧ V.cell? ⟨w.heap.size, 6, none⟩ = some (.int .i64 ss)) := fun V hV => by
    have hP := (hV.block _ z1).trans r0
    exact ⟨rowFacts hP 0 _ rfl, rowFacts hP 1 _ rfl, rowFacts hP 2 _ rfl, rowFacts hP 3 _ rfl, rowFacts hP 4 _ rfl, rowFacts hP 5 _ rfl, rowFacts hP 6 _ rfl⟩
  have HA : Hid (∀ V, Below w1.heap.size w1 V → IsInts V a zs) := fun V hV => (ha.keep B1.out).keep hV
  have HB : Hid (∀ V, Below w1.heap.size w1 V → Below w.heap.size w V) := fun V hV => B1.out.trans (hV.mono B1.out.size)
  have I1 : Hid (Below w1.heap.size w1 w1) := Below.refl _ _
  have D1 : Hid (Below w1.heap.size w1 w1.drew) := I1.out.drew
  clear r0 z1 B1 ha
  go_enter Tryz.func18, Tryz.ntmps18
  go_upto_region 1 with fail
  rw [← hw1]
  clear hw1
  obtain ⟨c0, c1, c2, c3, c4, c5, c6⟩ := HK.out w1 I1.out
  go_wp2
  go_loopw [3] (fun i wr => ∃ k : Nat, k ≤ nl ∧ i = .int .i64 k ∧ okSTo zs k = true ∧ Below w1.heap.size w1 wr) (fun i _ => nl - (intOf i).toNat)
  case atStart => exact ⟨0, Nat.zero_le _, rfl, rfl, Below.refl _ _⟩
  case round =>
    clear c0 c1 c2 c3 c4 c5 c6
    obtain ⟨k, hk, rfl, hok, hbr⟩ := hrel
    have HOk : Hid (okSTo zs k = true) := hok
    have K : Hid (Below w1.heap.size w1 wr) := hbr
    obtain ⟨c0, c1, c2, c3, c4, c5, c6⟩ := HK.out wr hbr
    have hav := HA.out wr hbr
    clear hok hbr
    by_cases hlt : k < nl
    · obtain ⟨x, o, rfl, hc⟩ : ∃ x o, a = some ⟨x, o, none⟩ ∧ ∀ i, i < zs.length → wr.cell? ⟨x, o + i, none⟩ = some (.int .i64 (zs.getD i 0)) := by
        have := HNl.out
        rcases hav with rfl | h
        · simp at this; omega
        · exact h
      clear hav
      have hltz : k < zs.length := by rw [← HNl.out]; exact hlt
      have HLt : Hid (k < zs.length) := hltz
      have hck := hc k hltz
      have HNm : Hid (∀ V : World, Calls Tryz.prog 22 #[.int .i64 (zs.getD k 0), .int .i64 1, .int .i64 1000000000] V fun e w' => e = .returned (.bool (serB (zs.getD k 0))) ∧ w' = V) := fun V => specIs _ _ _ V
      have a0 : (0 : Int) ≤ (k : Int) := by omega
      have b0 : (k : Int) < (nl : Int) := by omega
      cases hn : serB (zs.getD k 0) with
      | false =>
        have HF : Hid (R = false) := by show _ = _; rw [HR.out, HSB.out, okSTo_no (okS_not hn) HLt.out]; simp
        rw [hn] at HNm
        generalize zs.getD k 0 = z at *
        clear hc hn hltz
        go_wp2_with fail
        go_quiet ((go_at_call 22; exact Calls.quiet_of_same (HNm.out _)))
        go_wp2
        go_ret
        exact ⟨by rw [HF.out]; rfl, HB.out _ (below_drewN K.out _)⟩
      | true =>
        rw [hn] at HNm
        by_cases h0 : k = 0
        · subst h0
          have HF : Hid (okS zs 0 = true) := okS_zero hn
          rw [Nat.add_zero] at hck
          generalize zs.getD 0 0 = z at *
          clear hc hn hltz
          go_wp2_with fail
          go_quiet ((go_at_call 22; exact Calls.quiet_of_same (HNm.out _)))
          go_wp2
          go_roundw
          case rel => exact ⟨1, by omega, by go_num, okSTo_yes HOk.out HF.out, below_drewN K.out _⟩
          case measure => simp [intOf]; omega
        · have hck1 := hc (k - 1) (by omega)
          have ek : ((k : Int) - 1) = ((k - 1 : Nat) : Int) := by omega
          have ew : IntKind.i64.wrap ((k : Int) - 1) = ((k - 1 : Nat) : Int) := by rw [IntKind.wrap_i64]; omega
          have a1 : (0 : Int) < (k : Int) := by omega
          have a2 : 0 < k := by omega
          have g1 : decide ((0 : Int) < (k : Int)) = true := decide_eq_true a1
          have b1 : ((k - 1 : Nat) : Int) < (nl : Int) := by omega
          have hbl := okS_more (zs := zs) (k := k) (by omega) hn
          clear hltz
          by_cases hr : zs.getD (k - 1) 0 < zs.getD k 0
          rotate_left
          · have HF : Hid (R = false) := by show _ = _; rw [HR.out, HSB.out, okSTo_no (hbl.trans (decide_eq_false hr)) HLt.out]; simp
            have hr' : zs.getD k 0 ≤ zs.getD (k - 1) 0 := by omega
            generalize zs.getD k 0 = z at *
            generalize zs.getD (k - 1) 0 = y at *
            generalize k - 1 = k1 at *
            clear hc hn hbl hlt
            go_wp2_with fail
            go_quiet ((go_at_call 22; exact Calls.quiet_of_same (HNm.out _)))
            go_wp2
            go_ret
            exact ⟨by rw [HF.out]; rfl, HB.out _ (below_drewN K.out _)⟩
          · have HF : Hid (okS zs k = true) := hbl.trans (decide_eq_true hr)
            have hr' : ¬ zs.getD k 0 ≤ zs.getD (k - 1) 0 := by omega
            have HRl : Hid (∃ j : Nat, j ≤ nl ∧ Value.int .i64 ((k : Int) + 1) = .int .i64 (j : Int) ∧ okSTo zs j = true) := ⟨k + 1, by omega, by congr 1, okSTo_yes HOk.out HF.out⟩
            generalize zs.getD k 0 = z at *
            generalize zs.getD (k - 1) 0 = y at *
            generalize k - 1 = k1 at *
            clear hc hn hbl hlt
            go_wp2_with fail
            go_quiet ((go_at_call 22; exact Calls.quiet_of_same (HNm.out _)))
            go_wp2
            go_roundw
            case rel =>
              obtain ⟨j, j1, j2, j3⟩ := HRl.out
              exact ⟨j, j1, by first | exact j2 | (rw [← j2]; simp; omega), j3, below_drewN K.out _⟩
            case measure => simp [intOf]; omega
    · obtain rfl : k = nl := by omega
      have hsb : serialsB zs = decide (k ≤ 40) := by
        have h1 := HNl.out
        have h2 := HOk.out
        rw [h1] at h2 ⊢
        rw [HSB.out, h2]
        rfl
      rw [hsb] at HR
      clear hav hsb
      go_wp2_with fail
      refine (specNameB iss _ hi).mono ?_
      rintro e w2 ⟨rfl, h2w⟩
      subst w2
      cases h1 : nameB iss with
      | false =>
        have HF : Hid (R = false) := by show _ = _; rw [HR.out, h1]; simp
        go_wp2
        go_ret
        exact ⟨by rw [HF.out]; rfl, HB.out _ K.out⟩
      | true =>
      rw [h1] at HR
      go_wp2_with fail
      refine (specTime fr _).mono ?_
      rintro e w2 ⟨rfl, h2w⟩
      subst w2
      cases h2 : timeB fr with
      | false =>
        have HF : Hid (R = false) := by show _ = _; rw [HR.out, h2]; simp
        go_wp2
        go_ret
        exact ⟨by rw [HF.out]; rfl, HB.out _ K.out⟩
      | true =>
      rw [h2] at HR
      go_wp2_with fail
      refine (specTime till _).mono ?_
      rintro e w2 ⟨rfl, h2w⟩
      subst w2
      cases h3 : timeB till with
      | false =>
        have HF : Hid (R = false) := by show _ = _; rw [HR.out, h3]; simp
        go_wp2
        go_ret
        exact ⟨by rw [HF.out]; rfl, HB.out _ K.out⟩
      | true =>
      rw [h3] at HR
      by_cases h4 : fr ≤ till
      rotate_left
      · have h4' : till < fr := by omega
        have HF : Hid (R = false) := by show _ = _; rw [HR.out, decide_eq_false h4]; simp
        go_wp2
        go_ret
        exact ⟨by rw [HF.out]; first | rfl | (simp; omega), HB.out _ K.out⟩
      rw [decide_eq_true h4] at HR
      by_cases h5 : k ≤ 40
      · have HF : Hid (R = true) := by show _ = _; rw [HR.out, decide_eq_true h5]; rfl
        go_wp2
        go_ret
        exact ⟨by rw [HF.out]; first | rfl | (simp; omega), HB.out _ K.out⟩
      · have HF : Hid (R = false) := by show _ = _; rw [HR.out, decide_eq_false h5]; rfl
        go_wp2
        go_ret
        exact ⟨by rw [HF.out]; first | rfl | (simp; omega), HB.out _ K.out⟩
end Go.Proofs.YtkbmeenojclcmaaGreatDoor
namespace Go.Proofs.YtkbmeenojclcmaaGreatDoor
open Go.RowKit

set_option linter.unusedSimpArgs false in
set_option maxHeartbeats 4000000 in
set_option maxRecDepth 100000 in
theorem specListD (c : Lst) (a : Option Addr) (cap : Nat) (w : World) (h : LFits c) (ha : IsInts w a c.serials) :
    Calls Tryz.prog 46 #[c.val (.slice a c.serials.length cap)] w fun e w' => e = .returned (.string (listD c)) ∧ Below w.heap.size w w' := by
  have HS : Hid (∀ i, i < c.serials.length → 1 ≤ c.serials.getD i 0 ∧ c.serials.getD i 0 ≤ 1000000000) := h.each
  have hl := h.len
  have hi := h.iss
  have hfr : 0 ≤ c.fr ∧ c.fr ≤ 1000000000 := ⟨h.fr0, h.fr1⟩
  have htl : 0 ≤ c.till ∧ c.till ≤ 1000000000 := ⟨h.till0, h.till1⟩
  obtain ⟨R, hR⟩ : ∃ R, R = listD c := ⟨_, rfl⟩
  rw [← hR]
  have HR : Hid (R = seqD (nameD c.issuer ++ (intD c.fr ++ (intD c.till ++ seqD (serD c.serials c.serials.length))))) := hR
  clear hR h
  obtain ⟨iss, fr, till, serials, sk, se, ss⟩ := c
  unfold Lst.val
  simp only at HR HS hi hl hfr htl ha ⊢
  obtain ⟨zs, hzs⟩ : ∃ zs, zs = serials := ⟨_, rfl⟩
  rw [← hzs] at HR HS hl ha ⊢
  clear hzs
  obtain ⟨nl, hnl⟩ : ∃ nl, nl = zs.length := ⟨_, rfl⟩
  rw [← hnl] at hl HR HS ⊢
  have HNl : Hid (nl = zs.length) := hnl
  clear hnl
  obtain ⟨w1, hw1⟩ : ∃ w1, w1 = w.alloc (.cells #[.string iss, .int .i64 fr, .int .i64 till, .slice a nl cap, .int .i64 sk, .int .i64 se, .int .i64 ss] 38 (0, 0)) := ⟨_, rfl⟩
  have r0 : w1.heap[w.heap.size]? = some (.cells [Value.string iss, .int .i64 fr, .int .i64 till, .slice a nl cap, .int .i64 sk, .int .i64 se, .int .i64 ss].toArray 38 (0, 0)) := by rw [hw1]; exact heap_alloc_new w _
  have B1 : Hid (Below w.heap.size w w1) := by rw [hw1]; exact (Below.refl _ _).alloc (Nat.le_refl _) _
  have z1 : w.heap.size < w1.heap.size := by rw [hw1]; simp
  have HK : Hid (∀ V, Below w1.heap.size w1 V → V.cell? ⟨w.heap.size, 0, none⟩ = some (.string iss) ∧ V.cell? ⟨w.heap.size, 1, none⟩ = some (.int .i64 fr) ∧ V.cell? ⟨w.heap.size, 2, none⟩ = some (.int .i64 till) ∧ V.cell? ⟨w.heap.size, 3, none⟩ = some (.slice a nl cap) ∧ V.cell? ⟨w.heap.size, 4, none⟩ = some (.int .i64 sk) ∧ V.cell? ⟨w.heap.size, 5, none⟩ = some (.int .i64 se) ∧ V.cell? ⟨w.heap.size, 6, none⟩ = some (.int .i64 ss)) := fun V hV => by
    have hP := (hV.block _ z1).trans r0
    exact ⟨rowFacts hP 0 _ rfl, rowFacts hP 1 _ rfl, rowFacts hP 2 _ rfl, rowFacts hP 3 _ rfl, rowFacts hP 4 _ rfl, rowFacts hP 5 _ rfl, rowFacts hP 6 _ rfl⟩
  have HA : Hid (∀ V, Below w1.heap.size w1 V → IsInts V a zs) := fun V hV => (ha.keep B1.out).keep hV
  have HB : Hid (∀ V, Below w1.heap.size w1 V → Below w.heap.size w V) := fun V hV => B1.out.trans (hV.mono B1.out.size)
  have I1 : Hid (Below w1.heap.size w1 w1) := Below.refl _ _
  have D1 : Hid (Below w1.heap.size w1 w1.drew) := I1.out.drew
  clear r0 z1 B1 ha
  go_enter Tryz.func46, Tryz.ntmps46
  go_upto_region 1 with fail
  rw [← hw1]
  clear hw1
  obtain ⟨c0, c1, c2, c3, c4, c5, c6⟩ := HK.out w1 I1.out
  go_wp2
  go_loopw [3, 4] (fun t i wr => ∃ k : Nat, k ≤ nl ∧ i = .int .i64 k ∧ t = .string (serD zs k) ∧ Below w1.heap.size w1 wr) (fun _ i _ => nl - (intOf i).toNat)
  case atStart => exact ⟨0, Nat.zero_le _, rfl, rfl, Below.refl _ _⟩
  case round =>
    clear c0 c1 c2 c3 c4 c5 c6
    obtain ⟨k, hk, rfl, rfl, hbr⟩ := hrel
    have K : Hid (Below w1.heap.size w1 wr) := hbr
    obtain ⟨c0, c1, c2, c3, c4, c5, c6⟩ := HK.out wr hbr
    have hav := HA.out wr hbr
    clear hbr
    by_cases hlt : k < nl
    · obtain ⟨x, o, rfl, hc⟩ : ∃ x o, a = some ⟨x, o, none⟩ ∧ ∀ i, i < zs.length → wr.cell? ⟨x, o + i, none⟩ = some (.int .i64 (zs.getD i 0)) := by
        have := HNl.out
        rcases hav with rfl | h
        · simp at this; omega
        · exact h
      have hltz : k < zs.length := by rw [← HNl.out]; exact hlt
      have hck := hc k hltz
      have hz := HS.out k hlt
      have HP : Hid (∀ V, Calls Tryz.prog 58 #[.int .i64 (zs.getD k 0)] V fun e w' => e = .returned (.string (intD (zs.getD k 0))) ∧ Below V.heap.size V w') := fun V => specDerInt _ V (by omega) (by omega)
      have he : serD zs k ++ intD (zs.getD k 0) = serD zs (k + 1) := rfl
      have a0 : (0 : Int) ≤ (k : Int) := by omega
      have b0 : (k : Int) < (nl : Int) := by omega
      have z0 := serD_le zs k
      have z1 := intD_le (zs.getD k 0)
      have HRl : Hid (∃ j : Nat, j ≤ nl ∧ Value.int .i64 ((k : Int) + 1) = .int .i64 (j : Int) ∧ Value.string (serD zs (k + 1)) = .string (serD zs j)) := ⟨k + 1, by omega, by congr 1, rfl⟩
      generalize serD zs (k + 1) = h1 at *
      generalize intD (zs.getD k 0) = h2 at *
      generalize zs.getD k 0 = z at *
      clear hc hav hltz HS HR
      go_wp2_with fail
      refine (HP.out _).mono ?_
      rintro e w2 ⟨rfl, b2⟩
      have K2 : Hid (Below w1.heap.size w1 w2) := K.out.trans (b2.mono K.out.size)
      clear b2 c0 c1 c2 c3 c4 c5 c6
      go_wp2_with fail
      go_roundw
      case rel =>
        obtain ⟨j, j1, j2, j3⟩ := HRl.out
        exact ⟨j, j1, by first | exact j2 | (rw [← j2]; simp; omega), j3, K2.out⟩
      case measure => simp [intOf]; omega
    · obtain rfl : nl = k := by omega
      have hR : R = seqD (nameD iss ++ (intD fr ++ (intD till ++ seqD (serD zs nl)))) := HR.out
      have y1 := nameD_le iss
      have y2 := intD_le fr
      have y3 := intD_le till
      have y4 := serD_le zs nl
      have y5 := seqD_le (serD zs nl)
      obtain ⟨T, qT⟩ : ∃ q, q = serD zs nl := ⟨_, rfl⟩
      rw [← qT] at hR y4 y5 ⊢
      obtain ⟨G, qG⟩ : ∃ q, q = seqD T := ⟨_, rfl⟩
      rw [← qG] at hR y5
      obtain ⟨x1, q1⟩ : ∃ q, nameD iss ++ intD fr = q := ⟨_, rfl⟩
      have s1 : x1.size ≤ 200 := by rw [← q1, ByteArray.size_append]; omega
      obtain ⟨x2, q2⟩ : ∃ q, x1 ++ intD till = q := ⟨_, rfl⟩
      have s2 : x2.size ≤ 300 := by rw [← q2, ByteArray.size_append]; omega
      obtain ⟨x3, q3⟩ : ∃ q, x2 ++ G = q := ⟨_, rfl⟩
      have s3 : x3.size ≤ 1000 := by rw [← q3, ByteArray.size_append]; omega
      have e3 : R = seqD x3 := by rw [hR, ← q3, ← q2, ← q1]; simp only [ByteArray.append_assoc]
      have a1 : ¬ 9223372036854775807 < (nameD iss).size + (intD fr).size := by omega
      have a2 : ¬ 9223372036854775807 < x1.size + (intD till).size := by omega
      have a3 : ¬ 9223372036854775807 < x2.size + G.size := by omega
      have PNm : Hid (∀ V, Hid (Below w1.heap.size w1 V) → Calls Tryz.prog 60 #[.string iss] V fun e W => e = .returned (.string (nameD iss)) ∧ Hid (Below w1.heap.size w1 W)) := fun V hV => (specNameD iss V (by omega)).mono fun e W h => ⟨h.1, hV.out.trans (h.2.mono hV.out.size)⟩
      have PD : Hid (∀ V (n : Int), Hid (Below w1.heap.size w1 V) → 0 ≤ n ∧ n ≤ 1000000000 → Calls Tryz.prog 58 #[.int .i64 n] V fun e W => e = .returned (.string (intD n)) ∧ Hid (Below w1.heap.size w1 W)) := fun V n hV hn => (specDerInt n V (by omega) (by omega)).mono fun e W h => ⟨h.1, hV.out.trans (h.2.mono hV.out.size)⟩
      have PS : Hid (∀ V (q : ByteArray), Hid (Below w1.heap.size w1 V) → q.size ≤ 1000 → Calls Tryz.prog 61 #[.string q] V fun e W => e = .returned (.string (seqD q)) ∧ Hid (Below w1.heap.size w1 W)) := fun V q hV hq => (specSeq q V (by omega)).mono fun e W h => ⟨h.1, hV.out.trans (h.2.mono hV.out.size)⟩
      have sT : T.size ≤ 1000 := by omega
      have DK : Hid (Below w1.heap.size w1 wr.drew) := K.out.drew
      have HF : Hid (R = seqD x3) := e3
      clear hR HR hav y1 y2 y3 y4 y5 s1 s2 hi qT e3 HS
      rw [qG] at a3 q3
      go_wp2_with fail
      go_region_held3 (fun V => V.cell? ⟨w.heap.size, 0, none⟩ = some (.string iss) ∧ V.cell? ⟨w.heap.size, 1, none⟩ = some (.int .i64 fr) ∧ V.cell? ⟨w.heap.size, 2, none⟩ = some (.int .i64 till) ∧ V.cell? ⟨w.heap.size, 3, none⟩ = some (.slice a nl cap) ∧ V.cell? ⟨w.heap.size, 4, none⟩ = some (.int .i64 sk) ∧ V.cell? ⟨w.heap.size, 5, none⟩ = some (.int .i64 se) ∧ V.cell? ⟨w.heap.size, 6, none⟩ = some (.int .i64 ss)) (first | (refine ⟨?_, ?_, ?_, ?_, ?_, ?_, ?_⟩ <;> assumption) | exact HK.out _ (Hid.out (by assumption)))
        (first
          | (go_at_call 60; refine (PNm.out _ (by assumption)).mono ?_; rintro r V1 ⟨rfl, k1⟩)
          | (go_at_call 58; refine (PD.out _ _ (by assumption) (by assumption)).mono ?_; rintro r V2 ⟨rfl, k2⟩)
          | (go_at_call 61; refine (PS.out _ _ (by assumption) (by assumption)).mono ?_; rintro r V3 ⟨rfl, k3⟩))
      go_wp2
      go_ret
      refine ⟨by rw [HF.out]; rfl, HB.out _ (Hid.out (by assumption))⟩
end Go.Proofs.YtkbmeenojclcmaaGreatDoor
