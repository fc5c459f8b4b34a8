/- spec.l06Seq, spec.l06Name, walked. spec.DerInt, walked. spec.l07Listed, walked. spec.l04In, spec.SigRight, walked. spec.l06Sig, walked. spec.l07Listed, spec.CrlBytes, walked. -/
import Derived.Test.YtekflbicjokdnaaGreatDoorCL04
import Derived.Test.YtekflbicjokdnaaGreatDoorCL06
import Derived.Test.YtekflbicjokdnaaGreatDoorCL16
import Derived.Test.YtekflbicjokdnaaGreatDoorCL10
import Derived.Deep.RegionHeld3
import Derived.Test.YtekflbicjokdnaaGreatDoorCL03
import Derived.Test.YtekflbicjokdnaaGreatDoorCL07
import Derived.Deep.Cut
namespace Go.Proofs.YtekflbicjokdnaaGreatDoor
open Go.RowKit

theorem specSeq (b : ByteArray) (w : World) (hb : b.size ≤ 20000) :
    Calls Tryz.prog 56 #[.string b] w fun e w' => e = .returned (.string (seqD b)) ∧ Below w.heap.size w w' := by
  have H : Hid (Calls Tryz.prog 79 #[.int .i64 48, .string b] w fun e w' => e = .returned (.string (seqD b)) ∧ Below w.heap.size w w') := specThing 48 b w (by omega) (by omega) hb
  generalize seqD b = q at *
  go_enter Tryz.func56, Tryz.ntmps56
  go_wp2_with fail
  refine H.out.mono ?_
  rintro e w2 ⟨rfl, b2⟩
  have B2 : Hid (Below w.heap.size w w2) := b2
  clear b2
  go_wp2
  go_ret
  exact ⟨rfl, B2.out⟩
/-- Four arcs that were just laid. -/
theorem specOid4 (x y z u : Int) (w : World) (h : arcsB [x, y, z, u] = true) :
    Calls Tryz.prog 107 #[.slice (some ⟨w.heap.size, 0, none⟩) 4 4] (w.alloc (.cells #[.int .i64 x, .int .i64 y, .int .i64 z, .int .i64 u] 2 (0, 0))) fun e w' => e = .returned (.string (oidT [x, y, z, u])) ∧ Below w.heap.size w w' := by
  refine (specOid (some ⟨w.heap.size, 0, none⟩) [x, y, z, u] 4 _ h (IsInts.row (rest := []) (heap_alloc_new w _))).mono ?_
  rintro e w' ⟨rfl, hb⟩
  exact ⟨rfl, ((Below.refl _ w).alloc (Nat.le_refl _) _).trans (hb.mono (by simp))⟩
set_option maxHeartbeats 1000000 in
theorem specNameD (t : ByteArray) (w : World) (ht : t.size ≤ 4000) :
    Calls Tryz.prog 105 #[.string t] w fun e w' => e = .returned (.string (nameD t)) ∧ Below w.heap.size w w' := by
  have h1 := arcs_lit arcsName
  have h2 := thingD_le 12 t
  have H1 : Hid (Calls Tryz.prog 107 #[.slice (some ⟨w.heap.size, 0, none⟩) 4 4] (w.alloc (.cells #[.int .i64 2, .int .i64 5, .int .i64 4, .int .i64 3] 2 (0, 0))) fun e w' => e = .returned (.string (oidT [2, 5, 4, 3])) ∧ Below w.heap.size w w') := specOid4 2 5 4 3 w arcsName
  have H2 : Hid (∀ V, Calls Tryz.prog 79 #[.int .i64 12, .string t] V fun e w' => e = .returned (.string (thingD 12 t)) ∧ Below V.heap.size V w') := fun V => specThing 12 t V (by omega) (by omega) (by omega)
  have e3 : (oidT [2, 5, 4, 3] ++ thingD 12 t).size ≤ 4053 := by rw [ByteArray.size_append]; omega
  have H3 : Hid (∀ V, Calls Tryz.prog 56 #[.string (oidT [2, 5, 4, 3] ++ thingD 12 t)] V fun e w' => e = .returned (.string (seqD (oidT [2, 5, 4, 3] ++ thingD 12 t))) ∧ Below V.heap.size V w') := fun V => specSeq _ V (by omega)
  have e4 := seqD_le (oidT [2, 5, 4, 3] ++ thingD 12 t)
  have e5 := thingD_le 49 (seqD (oidT [2, 5, 4, 3] ++ thingD 12 t))
  have H4 : Hid (∀ V, Calls Tryz.prog 79 #[.int .i64 49, .string (seqD (oidT [2, 5, 4, 3] ++ thingD 12 t))] V fun e w' => e = .returned (.string (thingD 49 (seqD (oidT [2, 5, 4, 3] ++ thingD 12 t)))) ∧ Below V.heap.size V w') := fun V => specThing 49 _ V (by omega) (by omega) (by omega)
  have H5 : Hid (∀ V, Calls Tryz.prog 56 #[.string (thingD 49 (seqD (oidT [2, 5, 4, 3] ++ thingD 12 t)))] V fun e w' => e = .returned (.string (nameD t)) ∧ Below V.heap.size V w') := fun V => specSeq _ V (by omega)
  clear e3 e4 e5
  generalize nameD t = n at *
  generalize thingD 49 (seqD (oidT [2, 5, 4, 3] ++ thingD 12 t)) = q4 at *
  generalize seqD (oidT [2, 5, 4, 3] ++ thingD 12 t) = q3 at *
  obtain ⟨q, hq⟩ : ∃ q, oidT [2, 5, 4, 3] ++ thingD 12 t = q := ⟨_, rfl⟩
  rw [hq] at H3
  generalize oidT [2, 5, 4, 3] = q1 at *
  generalize thingD 12 t = q2 at *
  go_enter Tryz.func105, Tryz.ntmps105
  go_wp2_with fail
  refine H1.out.mono ?_
  rintro e w2 ⟨rfl, b2⟩
  have B2 : Hid (Below w.heap.size w w2) := b2
  clear b2
  go_wp2_with fail
  refine (H2.out _).mono ?_
  rintro e w3 ⟨rfl, b3⟩
  have B3 : Hid (Below w.heap.size w w3) := B2.out.trans (b3.mono B2.out.size)
  clear b3
  go_wp2_with fail
  refine (H3.out _).mono ?_
  rintro e w4 ⟨rfl, b4⟩
  have B4 : Hid (Below w.heap.size w w4) := B3.out.trans (b4.mono B3.out.size)
  clear b4
  go_wp2_with fail
  refine (H4.out _).mono ?_
  rintro e w5 ⟨rfl, b5⟩
  have B5 : Hid (Below w.heap.size w w5) := B4.out.trans (b5.mono B4.out.size)
  clear b5
  go_wp2_with fail
  refine (H5.out _).mono ?_
  rintro e w6 ⟨rfl, b6⟩
  have B6 : Hid (Below w.heap.size w w6) := B5.out.trans (b6.mono B5.out.size)
  clear b6
  go_wp2
  go_ret
  exact ⟨rfl, B6.out⟩
end Go.Proofs.YtekflbicjokdnaaGreatDoor
namespace Go.Proofs.YtekflbicjokdnaaGreatDoor
open Go.RowKit Go.Lib

theorem specDerInt (n : Int) (w : World) (h0 : -9223372036854775808 ≤ n) (h1 : n ≤ 9223372036854775807) :
    Calls Tryz.prog 104 #[.int .i64 n] w fun e w' => e = .returned (.string (thingD 2 (strOfNums (intL n)))) ∧ Below w.heap.size w w' := by
  have hl := (intL_len n).2
  have HB : Hid (∀ v : World, Calls Tryz.prog 138 #[.int .i64 n] v fun e w' => e = .returned (.string (strOfNums (intL n))) ∧ Below v.heap.size v w') := fun v => specBytes n v h0 h1
  have hs : (strOfNums (intL n)).size ≤ 8 := by rw [strOfNums_size]; exact hl
  generalize strOfNums (intL n) = s at *
  go_enter Tryz.func104, Tryz.ntmps104
  go_wp2_with fail
  refine (HB.out _).mono ?_
  rintro e w1 ⟨rfl, hb1⟩
  go_wp2_with fail
  refine (specThing 2 s _ (by omega) (by omega) (by omega)).mono ?_
  rintro e w2 ⟨rfl, hb2⟩
  go_wp2
  go_ret
  exact ⟨rfl, hb1.trans (hb2.mono hb1.size)⟩
end Go.Proofs.YtekflbicjokdnaaGreatDoor
namespace Go.Proofs.YtekflbicjokdnaaGreatDoor
open Go.RowKit

set_option linter.unusedSimpArgs false in
set_option maxHeartbeats 4000000 in
set_option maxRecDepth 100000 in
theorem specListD (c : Lst) (a : Option Addr) (cap : Nat) (w : World) (h : LFits c) (ha : IsInts w a c.serials) :
    Calls Tryz.prog 93 #[c.val (.slice a c.serials.length cap)] w fun e w' => e = .returned (.string (listD c)) ∧ Below w.heap.size w w' := by
  have HS : Hid (∀ i, i < c.serials.length → 1 ≤ c.serials.getD i 0 ∧ c.serials.getD i 0 ≤ 1000000000) := h.each
  have hl := h.len
  have hi := h.iss
  have hfr : 0 ≤ c.fr ∧ c.fr ≤ 1000000000 := ⟨h.fr0, h.fr1⟩
  have htl : 0 ≤ c.till ∧ c.till ≤ 1000000000 := ⟨h.till0, h.till1⟩
  obtain ⟨R, hR⟩ : ∃ R, R = listD c := ⟨_, rfl⟩
  rw [← hR]
  have HR : Hid (R = seqD (nameD c.issuer ++ (intD c.fr ++ (intD c.till ++ seqD (serD c.serials c.serials.length))))) := hR
  clear hR h
  obtain ⟨iss, fr, till, serials, sk, se, ss⟩ := c
  unfold Lst.val
  simp only at HR HS hi hl hfr htl ha ⊢
  obtain ⟨zs, hzs⟩ : ∃ zs, zs = serials := ⟨_, rfl⟩
  rw [← hzs] at HR HS hl ha ⊢
  clear hzs
  obtain ⟨nl, hnl⟩ : ∃ nl, nl = zs.length := ⟨_, rfl⟩
  rw [← hnl] at hl HR HS ⊢
  have HNl : Hid (nl = zs.length) := hnl
  clear hnl
  obtain ⟨w1, hw1⟩ : ∃ w1, w1 = w.alloc (.cells #[.string iss, .int .i64 fr, .int .i64 till, .slice a nl cap, .int .i64 sk, .int .i64 se, .int .i64 ss] 42 (0, 0)) := ⟨_, rfl⟩
  have r0 : w1.heap[w.heap.size]? = some (.cells [Value.string iss, .int .i64 fr, .int .i64 till, .slice a nl cap, .int .i64 sk, .int .i64 se, .int .i64 ss].toArray 42 (0, 0)) := by rw [hw1]; exact heap_alloc_new w _
  have B1 : Hid (Below w.heap.size w w1) := by rw [hw1]; exact (Below.refl _ _).alloc (Nat.le_refl _) _
  have z1 : w.heap.size < w1.heap.size := by rw [hw1]; simp
  have HK : Hid (∀ V, Below w1.heap.size w1 V → V.cell? ⟨w.heap.size, 0, none⟩ = some (.string iss) ∧ V.cell? ⟨w.heap.size, 1, none⟩ = some (.int .i64 fr) ∧ V.cell? ⟨w.heap.size, 2, none⟩ = some (.int .i64 till) ∧ V.cell? ⟨w.heap.size, 3, none⟩ = some (.slice a nl cap) ∧ V.cell? ⟨w.heap.size, 4, none⟩ = some (.int .i64 sk) ∧ V.cell? ⟨w.heap.size, 5, none⟩ = some (.int .i64 se) ∧ V.cell? ⟨w.heap.size, 6, none⟩ = some (.int .i64 ss)) := fun V hV => by
    have hP := (hV.block _ z1).trans r0
    exact ⟨rowFacts hP 0 _ rfl, rowFacts hP 1 _ rfl, rowFacts hP 2 _ rfl, rowFacts hP 3 _ rfl, rowFacts hP 4 _ rfl, rowFacts hP 5 _ rfl, rowFacts hP 6 _ rfl⟩
  have HA : Hid (∀ V, Below w1.heap.size w1 V → IsInts V a zs) := fun V hV => (ha.keep B1.out).keep hV
  have HB : Hid (∀ V, Below w1.heap.size w1 V → Below w.heap.size w V) := fun V hV => B1.out.trans (hV.mono B1.out.size)
  have I1 : Hid (Below w1.heap.size w1 w1) := Below.refl _ _
  have D1 : Hid (Below w1.heap.size w1 w1.drew) := I1.out.drew
  clear r0 z1 B1 ha
  go_enter Tryz.func93, Tryz.ntmps93
  go_upto_region 1 with fail
  rw [← hw1]
  clear hw1
  obtain ⟨c0, c1, c2, c3, c4, c5, c6⟩ := HK.out w1 I1.out
  go_wp2
  go_loopw [3, 4] (fun t i wr => ∃ k : Nat, k ≤ nl ∧ i = .int .i64 k ∧ t = .string (serD zs k) ∧ Below w1.heap.size w1 wr) (fun _ i _ => nl - (intOf i).toNat)
  case atStart => exact ⟨0, Nat.zero_le _, rfl, rfl, Below.refl _ _⟩
  case round =>
    clear c0 c1 c2 c3 c4 c5 c6
    obtain ⟨k, hk, rfl, rfl, hbr⟩ := hrel
    have K : Hid (Below w1.heap.size w1 wr) := hbr
    obtain ⟨c0, c1, c2, c3, c4, c5, c6⟩ := HK.out wr hbr
    have hav := HA.out wr hbr
    clear hbr
    by_cases hlt : k < nl
    · obtain ⟨x, o, rfl, hc⟩ : ∃ x o, a = some ⟨x, o, none⟩ ∧ ∀ i, i < zs.length → wr.cell? ⟨x, o + i, none⟩ = some (.int .i64 (zs.getD i 0)) := by
        have := HNl.out
        rcases hav with rfl | h
        · simp at this; omega
        · exact h
      have hltz : k < zs.length := by rw [← HNl.out]; exact hlt
      have hck := hc k hltz
      have hz := HS.out k hlt
      have HP : Hid (∀ V, Calls Tryz.prog 104 #[.int .i64 (zs.getD k 0)] V fun e w' => e = .returned (.string (intD (zs.getD k 0))) ∧ Below V.heap.size V w') := fun V => specDerInt _ V (by omega) (by omega)
      have he : serD zs k ++ intD (zs.getD k 0) = serD zs (k + 1) := rfl
      have a0 : (0 : Int) ≤ (k : Int) := by omega
      have b0 : (k : Int) < (nl : Int) := by omega
      have z0 := serD_le zs k
      have z1 := intD_le (zs.getD k 0)
      have HRl : Hid (∃ j : Nat, j ≤ nl ∧ Value.int .i64 ((k : Int) + 1) = .int .i64 (j : Int) ∧ Value.string (serD zs (k + 1)) = .string (serD zs j)) := ⟨k + 1, by omega, by congr 1, rfl⟩
      generalize serD zs (k + 1) = h1 at *
      generalize intD (zs.getD k 0) = h2 at *
      generalize zs.getD k 0 = z at *
      clear hc hav hltz HS HR
      go_wp2_with fail
      refine (HP.out _).mono ?_
      rintro e w2 ⟨rfl, b2⟩
      have K2 : Hid (Below w1.heap.size w1 w2) := K.out.trans (b2.mono K.out.size)
      clear b2 c0 c1 c2 c3 c4 c5 c6
      go_wp2_with fail
      go_roundw
      case rel =>
        obtain ⟨j, j1, j2, j3⟩ := HRl.out
        exact ⟨j, j1, by first | exact j2 | (rw [← j2]; simp; omega), j3, K2.out⟩
      case measure => simp [intOf]; omega
    · obtain rfl : nl = k := by omega
      have hR : R = seqD (nameD iss ++ (intD fr ++ (intD till ++ seqD (serD zs nl)))) := HR.out
      have y1 := nameD_le iss
      have y2 := intD_le fr
      have y3 := intD_le till
      have y4 := serD_le zs nl
      have y5 := seqD_le (serD zs nl)
      obtain ⟨T, qT⟩ : ∃ q, q = serD zs nl := ⟨_, rfl⟩
      rw [← qT] at hR y4 y5 ⊢
      obtain ⟨G, qG⟩ : ∃ q, q = seqD T := ⟨_, rfl⟩
      rw [← qG] at hR y5
      obtain ⟨x1, q1⟩ : ∃ q, nameD iss ++ intD fr = q := ⟨_, rfl⟩
      have s1 : x1.size ≤ 200 := by rw [← q1, ByteArray.size_append]; omega
      obtain ⟨x2, q2⟩ : ∃ q, x1 ++ intD till = q := ⟨_, rfl⟩
      have s2 : x2.size ≤ 300 := by rw [← q2, ByteArray.size_append]; omega
      obtain ⟨x3, q3⟩ : ∃ q, x2 ++ G = q := ⟨_, rfl⟩
      have s3 : x3.size ≤ 1000 := by rw [← q3, ByteArray.size_append]; omega
      have e3 : R = seqD x3 := by rw [hR, ← q3, ← q2, ← q1]; simp only [ByteArray.append_assoc]
      have a1 : ¬ 9223372036854775807 < (nameD iss).size + (intD fr).size := by omega
      have a2 : ¬ 9223372036854775807 < x1.size + (intD till).size := by omega
      have a3 : ¬ 9223372036854775807 < x2.size + G.size := by omega
      have PNm : Hid (∀ V, Hid (Below w1.heap.size w1 V) → Calls Tryz.prog 105 #[.string iss] V fun e W => e = .returned (.string (nameD iss)) ∧ Hid (Below w1.heap.size w1 W)) := fun V hV => (specNameD iss V (by omega)).mono fun e W h => ⟨h.1, hV.out.trans (h.2.mono hV.out.size)⟩
      have PD : Hid (∀ V (n : Int), Hid (Below w1.heap.size w1 V) → 0 ≤ n ∧ n ≤ 1000000000 → Calls Tryz.prog 104 #[.int .i64 n] V fun e W => e = .returned (.string (intD n)) ∧ Hid (Below w1.heap.size w1 W)) := fun V n hV hn => (specDerInt n V (by omega) (by omega)).mono fun e W h => ⟨h.1, hV.out.trans (h.2.mono hV.out.size)⟩
      have PS : Hid (∀ V (q : ByteArray), Hid (Below w1.heap.size w1 V) → q.size ≤ 1000 → Calls Tryz.prog 56 #[.string q] V fun e W => e = .returned (.string (seqD q)) ∧ Hid (Below w1.heap.size w1 W)) := fun V q hV hq => (specSeq q V (by omega)).mono fun e W h => ⟨h.1, hV.out.trans (h.2.mono hV.out.size)⟩
      have sT : T.size ≤ 1000 := by omega
      have DK : Hid (Below w1.heap.size w1 wr.drew) := K.out.drew
      have HF : Hid (R = seqD x3) := e3
      clear hR HR hav y1 y2 y3 y4 y5 s1 s2 hi qT e3 HS
      rw [qG] at a3 q3
      go_wp2_with fail
      go_region_held3 (fun V => V.cell? ⟨w.heap.size, 0, none⟩ = some (.string iss) ∧ V.cell? ⟨w.heap.size, 1, none⟩ = some (.int .i64 fr) ∧ V.cell? ⟨w.heap.size, 2, none⟩ = some (.int .i64 till) ∧ V.cell? ⟨w.heap.size, 3, none⟩ = some (.slice a nl cap) ∧ V.cell? ⟨w.heap.size, 4, none⟩ = some (.int .i64 sk) ∧ V.cell? ⟨w.heap.size, 5, none⟩ = some (.int .i64 se) ∧ V.cell? ⟨w.heap.size, 6, none⟩ = some (.int .i64 ss)) (first | (refine ⟨?_, ?_, ?_, ?_, ?_, ?_, ?_⟩ <;> assumption) | exact HK.out _ (Hid.out (by assumption)))
        (first
          | (go_at_call 105; refine (PNm.out _ (by assumption)).mono ?_; rintro r V1 ⟨rfl, k1⟩)
          | (go_at_call 104; refine (PD.out _ _ (by assumption) (by assumption)).mono ?_; rintro r V2 ⟨rfl, k2⟩)
          | (go_at_call 56; refine (PS.out _ _ (by assumption) (by assumption)).mono ?_; rintro r V3 ⟨rfl, k3⟩))
      go_wp2
      go_ret
      refine ⟨by rw [HF.out]; rfl, HB.out _ (Hid.out (by assumption))⟩
end Go.Proofs.YtekflbicjokdnaaGreatDoor
namespace Go.Proofs.YtekflbicjokdnaaGreatDoor
open Go.RowKit

theorem specRem (n : Int) (w : World) :
    Calls Tryz.prog 130 #[.int .i64 n] w fun e w' => e = .returned (.bool (remB n)) ∧ w' = w := by
  by_cases h1 : 0 ≤ n
  · by_cases h2 : n < 1073741789
    · have e : remB n = true := decide_eq_true ⟨h1, h2⟩
      rw [e]
      go_enter Tryz.func130, Tryz.ntmps130
      go_wp2
      go_ret
      exact ⟨rfl, rfl⟩
    · have e : remB n = false := decide_eq_false (by omega)
      rw [e]
      go_enter Tryz.func130, Tryz.ntmps130
      go_wp2
      go_ret
      exact ⟨rfl, rfl⟩
  · have e : remB n = false := decide_eq_false (by omega)
    rw [e]
    go_enter Tryz.func130, Tryz.ntmps130
    go_wp2
    go_ret
    exact ⟨rfl, rfl⟩
set_option maxHeartbeats 1000000 in
set_option maxRecDepth 100000 in
theorem specSigRight (k e s : Int) (w : World) :
    Calls Tryz.prog 77 #[.agg #[.int .i64 k, .int .i64 e, .int .i64 s]] w fun r w' => r = .returned (.bool (sigRB k e s)) ∧ Below w.heap.size w w' := by
  go_enter Tryz.func77, Tryz.ntmps77
  go_wp2_with fail
  refine (specGroupRight k _).mono ?_
  rintro e1 w1 ⟨rfl, rfl⟩
  by_cases h1 : rightG k = true
  · rw [h1]
    go_wp2_with fail
    refine (specRem e _).mono ?_
    rintro e2 w2 ⟨rfl, rfl⟩
    by_cases h2 : remB e = true
    · rw [h2]
      go_wp2_with fail
      refine (specRem s _).mono ?_
      rintro e3 w3 ⟨rfl, rfl⟩
      generalize hb3 : remB s = b
      go_wp2
      go_ret
      exact ⟨by simp [sigRB, *], allocBelow _ _⟩
    · rw [Bool.not_eq_true] at h2
      rw [h2]
      go_wp2
      go_ret
      exact ⟨by simp [sigRB, *], allocBelow _ _⟩
  · rw [Bool.not_eq_true] at h1
    rw [h1]
    go_wp2
    go_ret
    exact ⟨by simp [sigRB, *], allocBelow _ _⟩
end Go.Proofs.YtekflbicjokdnaaGreatDoor
namespace Go.Proofs.YtekflbicjokdnaaGreatDoor
open Go.RowKit

set_option maxHeartbeats 4000000 in
set_option maxRecDepth 100000 in
theorem specSigD (k e s : Int) (w : World) (hk : -9223372036854775808 ≤ k ∧ k ≤ 9223372036854775807) (he : -9223372036854775808 ≤ e ∧ e ≤ 9223372036854775807) (hs : -9223372036854775808 ≤ s ∧ s ≤ 9223372036854775807) :
    Calls Tryz.prog 59 #[.agg #[.int .i64 k, .int .i64 e, .int .i64 s]] w fun r w' => r = .returned (.string (sigD k e s)) ∧ Below w.heap.size w w' := by
  have y1 := putS_size k
  have y2 := putS_size e
  have y3 := putS_size s
  have y4 := sigT_le k e s
  obtain ⟨R, hR⟩ : ∃ R, R = sigD k e s := ⟨_, rfl⟩
  rw [← hR]
  obtain ⟨x1, q1⟩ : ∃ q, (⟨#[0]⟩ : ByteArray) ++ putS k = q := ⟨_, rfl⟩
  have s1 : x1.size ≤ 11 := by rw [← q1, ByteArray.size_append]; show 1 + _ ≤ _; omega
  obtain ⟨x2, q2⟩ : ∃ q, x1 ++ putS e = q := ⟨_, rfl⟩
  have s2 : x2.size ≤ 21 := by rw [← q2, ByteArray.size_append]; omega
  obtain ⟨x3, q3⟩ : ∃ q, x2 ++ putS s = q := ⟨_, rfl⟩
  have e3 : x3 = sigT k e s := by rw [← q3, ← q2, ← q1]; rfl
  have a1 : ¬ 9223372036854775807 < (⟨#[0]⟩ : ByteArray).size + (putS k).size := by show ¬ _ < 1 + _; omega
  have a1' : ¬ 9223372036854775807 < 1 + (putS k).size := by omega
  have a2 : ¬ 9223372036854775807 < x1.size + (putS e).size := by omega
  have a3 : ¬ 9223372036854775807 < x2.size + (putS s).size := by omega
  obtain ⟨w1, hw1⟩ : ∃ w1, w1 = w.alloc (.cells #[.int .i64 k, .int .i64 e, .int .i64 s] 24 (0, 0)) := ⟨_, rfl⟩
  have r0 : w1.heap[w.heap.size]? = some (.cells [Value.int .i64 k, .int .i64 e, .int .i64 s].toArray 24 (0, 0)) := by rw [hw1]; exact heap_alloc_new w _
  have B1 : Hid (Below w.heap.size w w1) := by rw [hw1]; exact (Below.refl _ _).alloc (Nat.le_refl _) _
  have z1 : w.heap.size < w1.heap.size := by rw [hw1]; simp
  have HK : Hid (∀ V, Below w1.heap.size w1 V → V.cell? ⟨w.heap.size, 0, none⟩ = some (.int .i64 k) ∧ V.cell? ⟨w.heap.size, 1, none⟩ = some (.int .i64 e) ∧ V.cell? ⟨w.heap.size, 2, none⟩ = some (.int .i64 s)) := fun V hV => by
    have hP := (hV.block _ z1).trans r0
    exact ⟨rowFacts hP 0 _ rfl, rowFacts hP 1 _ rfl, rowFacts hP 2 _ rfl⟩
  have HB : Hid (∀ V, Below w1.heap.size w1 V → Below w.heap.size w V) := fun V hV => B1.out.trans (hV.mono B1.out.size)
  have PP : Hid (∀ V (n : Int), Hid (Below w1.heap.size w1 V) → -9223372036854775808 ≤ n ∧ n ≤ 9223372036854775807 → Calls Tryz.prog 80 #[.int .i64 n] V fun e W => e = .returned (.string (putS n)) ∧ Hid (Below w1.heap.size w1 W)) := fun V n hV hn => (specPut n V hn.1 hn.2).mono fun e W h => ⟨h.1, hV.out.trans (h.2.mono hV.out.size)⟩
  have P3 : Hid (∀ V, Hid (Below w1.heap.size w1 V) → Calls Tryz.prog 79 #[.int .i64 3, .string x3] V fun e W => e = .returned (.string (R)) ∧ Hid (Below w1.heap.size w1 W)) := fun V hV => by
    rw [hR, e3]
    exact (specThing 3 (sigT k e s) V (by omega) (by omega) (by omega)).mono fun e W h => ⟨h.1, hV.out.trans (h.2.mono hV.out.size)⟩
  have I1 : Hid (Below w1.heap.size w1 w1) := Below.refl _ _
  have D1 : Hid (Below w1.heap.size w1 w1.drew) := I1.out.drew
  clear r0 z1 B1 y1 y2 y3 y4 s1 s2 hR e3
  obtain ⟨c0, c1, c2⟩ := HK.out w1 I1.out
  go_enter Tryz.func59, Tryz.ntmps59
  go_upto_region 1 with fail
  rw [← hw1]
  clear hw1
  go_region_held3 (fun V => V.cell? ⟨w.heap.size, 0, none⟩ = some (.int .i64 k) ∧ V.cell? ⟨w.heap.size, 1, none⟩ = some (.int .i64 e) ∧ V.cell? ⟨w.heap.size, 2, none⟩ = some (.int .i64 s)) (first | (refine ⟨?_, ?_, ?_⟩ <;> assumption) | exact HK.out _ (Hid.out (by assumption)))
    (first
      | (go_at_call 80; refine (PP.out _ _ (by assumption) (by assumption)).mono ?_; rintro r V1 ⟨rfl, k1⟩)
      | (go_at_call 79; refine (P3.out _ (by assumption)).mono ?_; rintro r V2 ⟨rfl, k2⟩))
  go_wp2
  go_ret
  exact ⟨rfl, HB.out _ k2.out⟩
end Go.Proofs.YtekflbicjokdnaaGreatDoor
namespace Go.Proofs.YtekflbicjokdnaaGreatDoor
open Go.RowKit

set_option linter.unusedSimpArgs false in
set_option maxHeartbeats 4000000 in
set_option maxRecDepth 100000 in
theorem specCrlBytes (c : Lst) (a : Option Addr) (cap : Nat) (w : World) (hi : c.issuer.size ≤ maxLen) (hl : c.serials.length ≤ 1048576) (ha : IsInts w a c.serials) :
    Calls Tryz.prog 48 #[c.val (.slice a c.serials.length cap)] w fun e w' => e = .returned (.string (crlBytesD c)) ∧ Below w.heap.size w w' := by
  have HP : Hid (∀ V, IsInts V a c.serials → Calls Tryz.prog 92 #[c.val (.slice a c.serials.length cap)] V fun e w' => e = .returned (.bool (listB c)) ∧ Below V.heap.size V w') := fun V hV => specList c a cap V hi hl hV
  have HN : Hid (listB c = false ∨ sigRB c.sk c.se c.ss = false → crlBytesD c = ⟨#[]⟩) := fun h => by
    show (if _ then _ else _) = _
    rw [if_neg]
    unfold crlB
    rcases h with h | h <;> rw [h] <;> simp
  have HY : Hid (listB c = true → sigRB c.sk c.se c.ss = true → crlBytesD c = seqD (listD c ++ sigD c.sk c.se c.ss)) := fun h h' => if_pos (by unfold crlB; rw [h, h']; rfl)
  have HQ : Hid (listB c = true → ∀ V, IsInts V a c.serials → Calls Tryz.prog 93 #[c.val (.slice a c.serials.length cap)] V fun e w' => e = .returned (.string (listD c)) ∧ Below V.heap.size V w') := fun h V hV => specListD c a cap V (list_fits h) hV
  have HZ : Hid (listB c = true → (listD c).size ≤ 700) := fun h => listD_le (list_fits h)
  have HSg : Hid (sigRB c.sk c.se c.ss = true → ∀ V, Calls Tryz.prog 59 #[.agg #[.int .i64 c.sk, .int .i64 c.se, .int .i64 c.ss]] V fun r w' => r = .returned (.string (sigD c.sk c.se c.ss)) ∧ Below V.heap.size V w') := fun h V => by
    obtain ⟨h1, h2, h3, h4⟩ := sigRB_lt h
    exact specSigD _ _ _ V (by omega) (by omega) (by omega)
  have zS := sigD_le c.sk c.se c.ss
  generalize crlBytesD c = R at *
  generalize listB c = P at *
  generalize listD c = D at *
  clear hi hl
  obtain ⟨iss, fr, till, serials, sk, se, ss⟩ := c
  unfold Lst.val at *
  simp only at HP HQ HSg HY HN zS ha ⊢
  generalize sigD sk se ss = G at *
  generalize serials.length = nl at *
  obtain ⟨w1, hw1⟩ : ∃ w1, w1 = w.alloc (.cells #[.string iss, .int .i64 fr, .int .i64 till, .slice a nl cap, .int .i64 sk, .int .i64 se, .int .i64 ss] 42 (0, 0)) := ⟨_, rfl⟩
  have r0 : w1.heap[w.heap.size]? = some (.cells [Value.string iss, .int .i64 fr, .int .i64 till, .slice a nl cap, .int .i64 sk, .int .i64 se, .int .i64 ss].toArray 42 (0, 0)) := by rw [hw1]; exact heap_alloc_new w _
  have B1 : Hid (Below w.heap.size w w1) := by rw [hw1]; exact (Below.refl _ _).alloc (Nat.le_refl _) _
  have z1 : w.heap.size < w1.heap.size := by rw [hw1]; simp
  have HK : Hid (∀ V, Below w1.heap.size w1 V → V.cell? ⟨w.heap.size, 0, none⟩ = some (.string iss) ∧ V.cell? ⟨w.heap.size, 1, none⟩ = some (.int .i64 fr) ∧ V.cell? ⟨w.heap.size, 2, none⟩ = some (.int .i64 till) ∧ V.cell? ⟨w.heap.size, 3, none⟩ = some (.slice a nl cap) ∧ V.cell? ⟨w.heap.size, 4, none⟩ = some (.int .i64 sk) ∧ V.cell? ⟨w.heap.size, 5, none⟩ = some (.int .i64 se) ∧ V.cell? ⟨w.heap.size, 6, none⟩ = some (.int .i64 ss)) := fun V hV => by
    have hP := (hV.block _ z1).trans r0
    exact ⟨rowFacts hP 0 _ rfl, rowFacts hP 1 _ rfl, rowFacts hP 2 _ rfl, rowFacts hP 3 _ rfl, rowFacts hP 4 _ rfl, rowFacts hP 5 _ rfl, rowFacts hP 6 _ rfl⟩
  have HA : Hid (∀ V, Below w1.heap.size w1 V → IsInts V a serials) := fun V hV => (ha.keep B1.out).keep hV
  have HB : Hid (∀ V, Below w1.heap.size w1 V → Below w.heap.size w V) := fun V hV => B1.out.trans (hV.mono B1.out.size)
  have I1 : Hid (Below w1.heap.size w1 w1) := Below.refl _ _
  have D1 : Hid (Below w1.heap.size w1 w1.drew) := I1.out.drew
  clear r0 z1 B1 ha
  go_enter Tryz.func48, Tryz.ntmps48
  go_upto_region 1 with fail
  rw [← hw1]
  clear hw1
  obtain ⟨c0, c1, c2, c3, c4, c5, c6⟩ := HK.out w1 I1.out
  go_wp2_with fail
  refine (HP.out _ (HA.out _ I1.out)).mono ?_
  rintro e w2 ⟨rfl, b2⟩
  have K2 : Hid (Below w1.heap.size w1 w2) := b2
  clear b2 c0 c1 c2 c3 c4 c5 c6 HP
  obtain ⟨c0, c1, c2, c3, c4, c5, c6⟩ := HK.out w2 K2.out
  cases P with
  | false =>
    have HF : Hid (R = ⟨#[]⟩) := HN.out (.inl rfl)
    go_wp2
    go_ret
    exact ⟨by rw [HF.out]; rfl, HB.out _ K2.out⟩
  | true =>
  go_wp2_with fail
  refine (specSigRight sk se ss _).mono ?_
  rintro e w3 ⟨rfl, b3⟩
  have K3 : Hid (Below w1.heap.size w1 w3) := K2.out.trans (b3.mono K2.out.size)
  clear b3 c0 c1 c2 c3 c4 c5 c6
  cases hs : sigRB sk se ss with
  | false =>
    have HF : Hid (R = ⟨#[]⟩) := HN.out (.inr hs)
    go_wp2
    go_ret
    exact ⟨by rw [HF.out]; rfl, HB.out _ K3.out⟩
  | true =>
  have hR := HY.out (by simp) hs
  have zD := HZ.out (by simp)
  have Q1 := HQ.out (by simp)
  have G1 := HSg.out hs
  have PB : Hid (∀ V, Hid (Below w1.heap.size w1 V) → Calls Tryz.prog 93 #[.agg #[.string iss, .int .i64 fr, .int .i64 till, .slice a nl cap, .int .i64 sk, .int .i64 se, .int .i64 ss]] V fun e W => e = .returned (.string D) ∧ Hid (Below w1.heap.size w1 W)) := fun V hV => (Q1 V (HA.out V hV.out)).mono fun e W h => ⟨h.1, hV.out.trans (h.2.mono hV.out.size)⟩
  have PG : Hid (∀ V, Hid (Below w1.heap.size w1 V) → Calls Tryz.prog 59 #[.agg #[.int .i64 sk, .int .i64 se, .int .i64 ss]] V fun e W => e = .returned (.string G) ∧ Hid (Below w1.heap.size w1 W)) := fun V hV => (G1 V).mono fun e W h => ⟨h.1, hV.out.trans (h.2.mono hV.out.size)⟩
  obtain ⟨x1, q1⟩ : ∃ q, D ++ G = q := ⟨_, rfl⟩
  have s1 : x1.size ≤ 1000 := by rw [← q1, ByteArray.size_append]; omega
  have a1 : ¬ 9223372036854775807 < D.size + G.size := by omega
  have PS : Hid (∀ V, Hid (Below w1.heap.size w1 V) → Calls Tryz.prog 56 #[.string x1] V fun e W => e = .returned (.string R) ∧ Hid (Below w1.heap.size w1 W)) := fun V hV => by
    rw [hR, q1]
    exact (specSeq x1 V (by omega)).mono fun e W h => ⟨h.1, hV.out.trans (h.2.mono hV.out.size)⟩
  have D3 : Hid (Below w1.heap.size w1 w3.drew) := K3.out.drew
  clear HN HY HZ HQ HSg Q1 G1 hR zD zS s1 hs
  obtain ⟨c0, c1, c2, c3, c4, c5, c6⟩ := HK.out w3 K3.out
  go_wp2_with fail
  go_region_held3 (fun V => V.cell? ⟨w.heap.size, 0, none⟩ = some (.string iss) ∧ V.cell? ⟨w.heap.size, 1, none⟩ = some (.int .i64 fr) ∧ V.cell? ⟨w.heap.size, 2, none⟩ = some (.int .i64 till) ∧ V.cell? ⟨w.heap.size, 3, none⟩ = some (.slice a nl cap) ∧ V.cell? ⟨w.heap.size, 4, none⟩ = some (.int .i64 sk) ∧ V.cell? ⟨w.heap.size, 5, none⟩ = some (.int .i64 se) ∧ V.cell? ⟨w.heap.size, 6, none⟩ = some (.int .i64 ss)) (first | (refine ⟨?_, ?_, ?_, ?_, ?_, ?_, ?_⟩ <;> assumption) | exact HK.out _ (Hid.out (by assumption)))
    (first
      | (go_at_call 93; refine (PB.out _ (by assumption)).mono ?_; rintro r V1 ⟨rfl, k1⟩)
      | (go_at_call 59; refine (PG.out _ (by assumption)).mono ?_; rintro r V2 ⟨rfl, k2⟩)
      | (go_at_call 56; refine (PS.out _ (by assumption)).mono ?_; rintro r V3 ⟨rfl, k3⟩))
  go_wp2
  go_ret
  exact ⟨rfl, HB.out _ k3.out⟩
end Go.Proofs.YtekflbicjokdnaaGreatDoor
