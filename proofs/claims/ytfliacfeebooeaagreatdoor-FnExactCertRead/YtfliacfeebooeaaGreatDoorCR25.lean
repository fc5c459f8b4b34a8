/- The specification's papers in bytes: spec.l06More, walked. spec.DerInt, walked. spec.l06Body, walked. spec.l06Sig, walked. -/
import Derived.Test.YtfliacfeebooeaaGreatDoorCR24
import Derived.Deep.Cut
import Derived.Deep.RegionHeld3
import Derived.Test.YtfliacfeebooeaaGreatDoorCR09
import Derived.Test.YtfliacfeebooeaaGreatDoorCR06
import Derived.Test.YtfliacfeebooeaaGreatDoorCR07
import Derived.Test.YtfliacfeebooeaaGreatDoorCR04
namespace Go.Proofs.YtfliacfeebooeaaGreatDoor
open Go.RowKit

set_option maxHeartbeats 4000000 in
set_option maxRecDepth 100000 in
theorem specMoreD (c : Paper) (a : Option Addr) (cap : Nat) (w : World) (hl : c.names.length ≤ 5) (hs : ∀ i, i < c.names.length → (tAt c.names i).size ≤ 40) (ha : IsStrs w a c.names) :
    Calls Tryz.prog 53 #[c.val (.slice a c.names.length cap)] w fun e w' => e = .returned (.string (moreD c.names c.ca)) ∧ Below w.heap.size w w' := by
  obtain ⟨ser, iss, sub, fr, till, key, names, ca, sk, se, ss⟩ := c
  simp only at hl hs ha ⊢
  unfold Paper.val
  simp only
  have HHo : Hid (∀ V, IsStrs V a names → Calls Tryz.prog 87 #[.slice a names.length cap] V fun e w' => e = .returned (.string (seqD (hostsD names names.length))) ∧ Below V.heap.size V w') := fun V hV => specHosts a names cap V hl hs hV
  have zN := namesD_le hl hs
  have zC := caT_le
  have zH := hostsD_le (ss := names) names.length hs
  obtain ⟨M, hM⟩ : ∃ M, M = moreD names ca := ⟨_, rfl⟩
  rw [← hM]
  have HM : Hid (M = moreT (namesD names ++ caD ca)) := hM
  clear hM
  have HN0 : Hid (names.length = 0 → namesD names = ⟨#[]⟩) := fun h => if_pos h
  have HN1 : Hid (names.length ≠ 0 → namesD names = seqD (oidT [2, 5, 29, 17] ++ thingD 4 (seqD (hostsD names names.length)))) := fun h => if_neg h
  obtain ⟨nl, hnl⟩ : ∃ nl, nl = names.length := ⟨_, rfl⟩
  rw [← hnl] at hl HHo zH HN0 HN1 ⊢
  have HNl : Hid (nl = names.length) := hnl
  clear hnl hs
  obtain ⟨w1, hw1⟩ : ∃ w1, w1 = w.alloc (.cells #[.int .i64 ser, .string iss, .string sub, .int .i64 fr, .int .i64 till, .int .i64 key, .slice a nl cap, .bool ca, .int .i64 sk, .int .i64 se, .int .i64 ss] 26 (0, 0)) := ⟨_, rfl⟩
  have r0 : w1.heap[w.heap.size]? = some (.cells [Value.int .i64 ser, .string iss, .string sub, .int .i64 fr, .int .i64 till, .int .i64 key, .slice a nl cap, .bool ca, .int .i64 sk, .int .i64 se, .int .i64 ss].toArray 26 (0, 0)) := by rw [hw1]; exact heap_alloc_new w _
  have B1 : Hid (Below w.heap.size w w1) := by rw [hw1]; exact (Below.refl _ _).alloc (Nat.le_refl _) _
  have z1 : w.heap.size < w1.heap.size := by rw [hw1]; simp
  have HK : Hid (∀ V, Below w1.heap.size w1 V → V.cell? ⟨w.heap.size, 0, none⟩ = some (.int .i64 ser) ∧ V.cell? ⟨w.heap.size, 1, none⟩ = some (.string iss) ∧ V.cell? ⟨w.heap.size, 2, none⟩ = some (.string sub) ∧ V.cell? ⟨w.heap.size, 3, none⟩ = some (.int .i64 fr) ∧ V.cell? ⟨w.heap.size, 4, none⟩ = some (.int .i64 till) ∧ V.cell? ⟨w.heap.size, 5, none⟩ = some (.int .i64 key) ∧ V.cell? ⟨w.heap.size, 6, none⟩ = some (.slice a nl cap) ∧ V.cell? ⟨w.heap.size, 7, none⟩ = some (.bool ca) ∧ V.cell? ⟨w.heap.size, 8, none⟩ = some (.int .i64 sk) ∧ V.cell? ⟨w.heap.size, 9, none⟩ = some (.int .i64 se) ∧ V.cell? ⟨w.heap.size, 10, none⟩ = some (.int .i64 ss)) := fun V hV => by
    have hP := (hV.block _ z1).trans r0
    exact ⟨rowFacts hP 0 _ rfl, rowFacts hP 1 _ rfl, rowFacts hP 2 _ rfl, rowFacts hP 3 _ rfl, rowFacts hP 4 _ rfl, rowFacts hP 5 _ rfl, rowFacts hP 6 _ rfl, rowFacts hP 7 _ rfl, rowFacts hP 8 _ rfl, rowFacts hP 9 _ rfl, rowFacts hP 10 _ rfl⟩
  have HA : Hid (∀ V, Below w1.heap.size w1 V → IsStrs V a names) := fun V hV => (ha.keep B1.out).keep hV
  have HB : Hid (∀ V, Below w1.heap.size w1 V → Below w.heap.size w V) := fun V hV => B1.out.trans (hV.mono B1.out.size)
  clear r0 ha z1 B1
  have PT : Hid (∀ V (t : Int) (b : ByteArray), Hid (Below w1.heap.size w1 V) → 0 ≤ t → t ≤ 255 → b.size ≤ 20000 → Calls Tryz.prog 49 #[.int .i64 t, .string b] V fun e W => e = .returned (.string (thingD t b)) ∧ Hid (Below w1.heap.size w1 W)) := fun V t b hV h0 h1 hb => by
    refine (specThing t b V h0 h1 hb).mono ?_
    rintro e W ⟨rfl, hW⟩
    exact ⟨rfl, hV.out.trans (hW.mono hV.out.size)⟩
  have PS : Hid (∀ V (b : ByteArray), Hid (Below w1.heap.size w1 V) → b.size ≤ 20000 → Calls Tryz.prog 25 #[.string b] V fun e W => e = .returned (.string (seqD b)) ∧ Hid (Below w1.heap.size w1 W)) := fun V b hV hb => by
    refine (specSeq b V hb).mono ?_
    rintro e W ⟨rfl, hW⟩
    exact ⟨rfl, hV.out.trans (hW.mono hV.out.size)⟩
  have PO : Hid (∀ V (x y z u : Int) (g : Nat), V.heap[g]? = some (.cells (lCells [x, y, z, u] ++ []).toArray 2 (0, 0)) → Hid (Below w1.heap.size w1 V) → arcsB [x, y, z, u] = true → Calls Tryz.prog 54 #[.slice (some ⟨g, 0, none⟩) 4 4] V fun e W => e = .returned (.string (oidT [x, y, z, u])) ∧ Hid (Below w1.heap.size w1 W)) := fun V x y z u g hg hV ha => by
    refine (specOid (some ⟨g, 0, none⟩) [x, y, z, u] 4 V ha (IsInts.row hg)).mono ?_
    rintro e W ⟨rfl, hW⟩
    exact ⟨rfl, hV.out.trans (hW.mono hV.out.size)⟩
  have PH : Hid (∀ V, Hid (Below w1.heap.size w1 V) → Calls Tryz.prog 87 #[.slice a nl cap] V fun e W => e = .returned (.string (seqD (hostsD names nl))) ∧ Hid (Below w1.heap.size w1 W)) := fun V hV => by
    refine (HHo.out V (HA.out V hV.out)).mono ?_
    rintro e W ⟨rfl, hW⟩
    exact ⟨rfl, hV.out.trans (hW.mono hV.out.size)⟩
  have AL : Hid (∀ V o, Hid (Below w1.heap.size w1 V) → Hid (Below w1.heap.size w1 (V.alloc o))) := fun V o h => h.out.alloc h.out.size o
  have DR : Hid (∀ V, Hid (Below w1.heap.size w1 V) → Hid (Below w1.heap.size w1 V.drew)) := fun V h => h.out.drew
  have I1 : Hid (Below w1.heap.size w1 w1) := Below.refl _ _
  clear HHo
  go_enter Tryz.func53, Tryz.ntmps53
  go_upto_region 2 with fail
  rw [← hw1]
  clear hw1
  obtain ⟨c0, c1, c2, c3, c4, c5, c6, c7, c8, c9, c10⟩ := HK.out w1 I1.out
  go_upto_if 7 with fail
  go_cut [3] from 4 (fun s3 wx => s3 = .string (namesD names) ∧ Below w1.heap.size w1 wx)
  case first =>
    by_cases hn : nl = 0
    · subst hn
      have HF : Hid (namesD names = ⟨#[]⟩) := HN0.out rfl
      go_wp2_with fail
      go_meet
      case rel => exact ⟨by rw [HF.out], I1.out⟩
    · have HF : Hid (namesD names = seqD (oidT [2, 5, 29, 17] ++ thingD 4 (seqD (hostsD names nl)))) := HN1.out hn
      have hni : (0 : Int) < (nl : Int) := by omega
      have y1 := arcs_lit arcs17
      have y2 := thingD_le 4 (seqD (hostsD names nl))
      have y3 := seqD_le (hostsD names nl)
      have y4 : (oidT [2, 5, 29, 17] ++ thingD 4 (seqD (hostsD names nl))).size ≤ 20000 := by rw [ByteArray.size_append]; omega
      have y5 : (seqD (hostsD names nl)).size ≤ 20000 := by omega
      have D1 : Hid (Below w1.heap.size w1 w1.drew) := DR.out _ I1
      have P0 : Hid (∀ V (g : Nat), V.heap[g]? = some (.cells #[.int .i64 2, .int .i64 5, .int .i64 29, .int .i64 17] 2 (0, 0)) → Hid (Below w1.heap.size w1 V) → Calls Tryz.prog 54 #[.slice (some ⟨g, 0, none⟩) 4 4] V fun e W => e = .returned (.string (oidT [2, 5, 29, 17])) ∧ Hid (Below w1.heap.size w1 W)) := fun V g hg hV => PO.out V 2 5 29 17 g hg hV arcs17
      have P3 : Hid (∀ V, Hid (Below w1.heap.size w1 V) → Calls Tryz.prog 49 #[.int .i64 4, .string (seqD (hostsD names nl))] V fun e W => e = .returned (.string (thingD 4 (seqD (hostsD names nl)))) ∧ Hid (Below w1.heap.size w1 W)) := fun V hV => PT.out V 4 _ hV (by omega) (by omega) y5
      have P4 : Hid (∀ V, Hid (Below w1.heap.size w1 V) → Calls Tryz.prog 25 #[.string (oidT [2, 5, 29, 17] ++ thingD 4 (seqD (hostsD names nl)))] V fun e W => e = .returned (.string (namesD names)) ∧ Hid (Below w1.heap.size w1 W)) := fun V hV => by rw [HF.out]; exact PS.out V _ hV y4
      have hadd : ¬ 9223372036854775807 < (oidT [2, 5, 29, 17]).size + (thingD 4 (seqD (hostsD names nl))).size := by omega
      clear y1 y2 y3 y4 y5 HF HM HN0 HN1 zN zH zC
      generalize thingD 4 (seqD (hostsD names nl)) = q3 at *
      generalize seqD (hostsD names nl) = q2 at *
      generalize oidT [2, 5, 29, 17] = q1 at *
      go_wp2_with fail
      go_region_held3 (fun V => V.cell? ⟨w.heap.size, 6, none⟩ = some (.slice a nl cap)) (first | assumption | exact (HK.out _ (Hid.out (by assumption))).2.2.2.2.2.2.1 | go_keep)
        (first
          | (go_at_call 54; refine (P0.out _ _ (heap_alloc_new _ _) (by first | assumption | exact DR.out _ (AL.out _ _ (by assumption)) | exact AL.out _ _ (by assumption))).mono ?_; rintro r V1 ⟨rfl, k1⟩)
          | (go_at_call 87; refine (PH.out _ (by assumption)).mono ?_; rintro r V2 ⟨rfl, k2⟩)
          | (go_at_call 49; refine (P3.out _ (by assumption)).mono ?_; rintro r V3 ⟨rfl, k3⟩)
          | (go_at_call 25; refine (P4.out _ (by assumption)).mono ?_; rintro r V4 ⟨rfl, k4⟩))
      go_wp2_with fail
      go_meet
      case rel => exact ⟨rfl, k4.out⟩
  case rest =>
    obtain ⟨rfl, hcut⟩ := hcut
    have J1 : Hid (Below w1.heap.size w1 wc) := hcut
    clear hcut c0 c1 c2 c3 c4 c5 c6 c7 c8 c9 c10 HN0 HN1 zH hl HNl HA I1
    generalize namesD names = N at *
    obtain ⟨c0, c1, c2, c3, c4, c5, c6, c7, c8, c9, c10⟩ := HK.out wc J1.out
    go_upto_if 17 with fail
    go_cut [3] from 4 (fun s3 wx => s3 = .string (N ++ caD ca) ∧ Below w1.heap.size w1 wx)
    case first =>
      cases ca with
      | false =>
        have HF : Hid (N ++ caD false = N) := by show N ++ (⟨#[]⟩ : ByteArray) = N; exact ByteArray.append_empty
        go_wp2_with fail
        go_meet
        case rel => exact ⟨by rw [HF.out], J1.out⟩
      | true =>
        have HF : Hid (N ++ caD true = N ++ caT) := rfl
        have x1 := arcs_lit arcs19
        have x2 := soD_le
        have x3 := seqD_le soD
        have x4 := thingD_le 4 (seqD soD)
        have P1 : Hid (∀ V, Hid (Below w1.heap.size w1 V) → Calls Tryz.prog 49 #[.int .i64 1, .string ⟨#[255]⟩] V fun e W => e = .returned (.string soD) ∧ Hid (Below w1.heap.size w1 W)) := fun V hV => PT.out V 1 ⟨#[255]⟩ hV (by omega) (by omega) (by show 1 ≤ 20000; omega)
        have P2 : Hid (∀ V, Hid (Below w1.heap.size w1 V) → Calls Tryz.prog 25 #[.string soD] V fun e W => e = .returned (.string (seqD soD)) ∧ Hid (Below w1.heap.size w1 W)) := fun V hV => PS.out V soD hV (by omega)
        have P3 : Hid (∀ V, Hid (Below w1.heap.size w1 V) → Calls Tryz.prog 49 #[.int .i64 4, .string (seqD soD)] V fun e W => e = .returned (.string (thingD 4 (seqD soD))) ∧ Hid (Below w1.heap.size w1 W)) := fun V hV => PT.out V 4 (seqD soD) hV (by omega) (by omega) (by omega)
        have P4 : Hid (∀ V, Hid (Below w1.heap.size w1 V) → Calls Tryz.prog 25 #[.string (oidT [2, 5, 29, 19] ++ soD ++ thingD 4 (seqD soD))] V fun e W => e = .returned (.string caT) ∧ Hid (Below w1.heap.size w1 W)) := fun V hV => by
          have h := PS.out V (oidT [2, 5, 29, 19] ++ soD ++ thingD 4 (seqD soD)) hV (by rw [ByteArray.size_append, ByteArray.size_append]; omega)
          have e : seqD (oidT [2, 5, 29, 19] ++ soD ++ thingD 4 (seqD soD)) = caT := by unfold caT; rw [ByteArray.append_assoc]
          rw [e] at h
          exact h
        have P0 : Hid (∀ V (g : Nat), V.heap[g]? = some (.cells #[.int .i64 2, .int .i64 5, .int .i64 29, .int .i64 19] 2 (0, 0)) → Hid (Below w1.heap.size w1 V) → Calls Tryz.prog 54 #[.slice (some ⟨g, 0, none⟩) 4 4] V fun e W => e = .returned (.string (oidT [2, 5, 29, 19])) ∧ Hid (Below w1.heap.size w1 W)) := fun V g hg hV => PO.out V 2 5 29 19 g hg hV arcs19
        generalize thingD 4 (seqD soD) = q4 at *
        generalize seqD soD = q3 at *
        generalize soD = q2 at *
        generalize oidT [2, 5, 29, 19] = q1 at *
        generalize caT = q5 at *
        clear HM PT PS PO PH
        go_wp2_with fail
        refine (P0.out _ _ (heap_alloc_new _ _) (AL.out _ _ J1)).mono ?_
        rintro r V1 ⟨rfl, k1⟩
        go_wp2_with fail
        refine (P1.out _ k1).mono ?_
        rintro r V2 ⟨rfl, k2⟩
        go_wp2_with fail
        refine (P1.out _ k2).mono ?_
        rintro r V3 ⟨rfl, k3⟩
        go_wp2_with fail
        refine (P2.out _ k3).mono ?_
        rintro r V4 ⟨rfl, k4⟩
        go_wp2_with fail
        refine (P3.out _ k4).mono ?_
        rintro r V5 ⟨rfl, k5⟩
        go_wp2_with fail
        refine (P4.out _ k5).mono ?_
        rintro r V6 ⟨rfl, k6⟩
        go_wp2_with fail
        go_meet
        case rel => exact ⟨by rw [HF.out], k6.out⟩
    case rest =>
      obtain ⟨rfl, hcut⟩ := hcut
      have J2 : Hid (Below w1.heap.size w1 wc) := hcut
      have hT : (N ++ caD ca).size ≤ 370 := by rw [ByteArray.size_append]; have := caD_le ca; omega
      clear hcut c0 c1 c2 c3 c4 c5 c6 c7 c8 c9 c10 J1
      generalize N ++ caD ca = T at *
      by_cases h0 : T.size = 0
      · have HF : Hid (M = ⟨#[]⟩) := by show _ = _; rw [HM.out, moreT, if_pos h0]
        have he := isEmpty_of h0
        go_upto_if 30 with fail
        try rw [he]
        go_wp2
        go_ret
        exact ⟨by rw [HF.out]; rfl, HB.out _ J2.out⟩
      · have HF : Hid (M = thingD 163 (seqD T)) := by show _ = _; rw [HM.out, moreT, if_neg h0]
        have he := isEmpty_not h0
        have x1 := seqD_le T
        go_upto_if 30 with fail
        try rw [he]
        go_wp2_with fail
        refine (PS.out _ _ J2 (by omega)).mono ?_
        rintro r V1 ⟨rfl, k1⟩
        go_wp2_with fail
        refine (PT.out _ 163 _ k1 (by omega) (by omega) (by omega)).mono ?_
        rintro r V2 ⟨rfl, k2⟩
        rw [← HF.out]
        go_wp2
        go_ret
        exact ⟨rfl, HB.out _ k2.out⟩
end Go.Proofs.YtfliacfeebooeaaGreatDoor
namespace Go.Proofs.YtfliacfeebooeaaGreatDoor
open Go.RowKit Go.Lib

theorem specDerInt (n : Int) (w : World) (h0 : -9223372036854775808 ≤ n) (h1 : n ≤ 9223372036854775807) :
    Calls Tryz.prog 50 #[.int .i64 n] w fun e w' => e = .returned (.string (thingD 2 (strOfNums (intL n)))) ∧ Below w.heap.size w w' := by
  have hl := (intL_len n).2
  have HB : Hid (∀ v : World, Calls Tryz.prog 79 #[.int .i64 n] v fun e w' => e = .returned (.string (strOfNums (intL n))) ∧ Below v.heap.size v w') := fun v => specBytes n v h0 h1
  have hs : (strOfNums (intL n)).size ≤ 8 := by rw [strOfNums_size]; exact hl
  generalize strOfNums (intL n) = s at *
  go_enter Tryz.func50, Tryz.ntmps50
  go_wp2_with fail
  refine (HB.out _).mono ?_
  rintro e w1 ⟨rfl, hb1⟩
  go_wp2_with fail
  refine (specThing 2 s _ (by omega) (by omega) (by omega)).mono ?_
  rintro e w2 ⟨rfl, hb2⟩
  go_wp2
  go_ret
  exact ⟨rfl, hb1.trans (hb2.mono hb1.size)⟩
end Go.Proofs.YtfliacfeebooeaaGreatDoor
namespace Go.Proofs.YtfliacfeebooeaaGreatDoor
open Go.RowKit

set_option maxHeartbeats 4000000 in
set_option maxRecDepth 100000 in
theorem specBody (c : Paper) (a : Option Addr) (cap : Nat) (w : World) (h : PFits c) (ha : IsStrs w a c.names) :
    Calls Tryz.prog 26 #[c.val (.slice a c.names.length cap)] w fun e w' => e = .returned (.string (bodyD c)) ∧ Below w.heap.size w w' := by
  have HMo : Hid (∀ V, IsStrs V a c.names → Calls Tryz.prog 53 #[c.val (.slice a c.names.length cap)] V fun e w' => e = .returned (.string (moreD c.names c.ca)) ∧ Below V.heap.size V w') := fun V hV => specMoreD c a cap V h.len h.each hV
  have zM := moreD_le h.len h.each c.ca
  have zi := h.iss
  have zs := h.sub
  have hser : -9223372036854775808 ≤ c.serial ∧ c.serial ≤ 9223372036854775807 := by have := h.ser0; have := h.ser1; omega
  have hfr : -9223372036854775808 ≤ c.fr ∧ c.fr ≤ 9223372036854775807 := by have := h.fr0; have := h.fr1; omega
  have htl : -9223372036854775808 ≤ c.till ∧ c.till ≤ 9223372036854775807 := by have := h.till0; have := h.till1; omega
  have hkey : -9223372036854775808 ≤ c.key ∧ c.key ≤ 9223372036854775807 := by have := h.key0; have := h.key1; omega
  obtain ⟨R, hR⟩ : ∃ R, R = bodyD c := ⟨_, rfl⟩
  rw [← hR]
  have HR : Hid (R = bodyD c) := hR
  clear hR h
  obtain ⟨ser, iss, sub, fr, till, key, names, ca, sk, se, ss⟩ := c
  unfold Paper.val at *
  unfold bodyD keyD at HR
  simp only at HMo zM zi zs hser hfr htl hkey ha HR ⊢
  generalize moreD names ca = m at *
  generalize names.length = nl at *
  obtain ⟨w1, hw1⟩ : ∃ w1, w1 = w.alloc (.cells #[.int .i64 ser, .string iss, .string sub, .int .i64 fr, .int .i64 till, .int .i64 key, .slice a nl cap, .bool ca, .int .i64 sk, .int .i64 se, .int .i64 ss] 26 (0, 0)) := ⟨_, rfl⟩
  have r0 : w1.heap[w.heap.size]? = some (.cells [Value.int .i64 ser, .string iss, .string sub, .int .i64 fr, .int .i64 till, .int .i64 key, .slice a nl cap, .bool ca, .int .i64 sk, .int .i64 se, .int .i64 ss].toArray 26 (0, 0)) := by rw [hw1]; exact heap_alloc_new w _
  have B1 : Hid (Below w.heap.size w w1) := by rw [hw1]; exact (Below.refl _ _).alloc (Nat.le_refl _) _
  have z1 : w.heap.size < w1.heap.size := by rw [hw1]; simp
  have HK : Hid (∀ V, Below w1.heap.size w1 V → V.cell? ⟨w.heap.size, 0, none⟩ = some (.int .i64 ser) ∧ V.cell? ⟨w.heap.size, 1, none⟩ = some (.string iss) ∧ V.cell? ⟨w.heap.size, 2, none⟩ = some (.string sub) ∧ V.cell? ⟨w.heap.size, 3, none⟩ = some (.int .i64 fr) ∧ V.cell? ⟨w.heap.size, 4, none⟩ = some (.int .i64 till) ∧ V.cell? ⟨w.heap.size, 5, none⟩ = some (.int .i64 key) ∧ V.cell? ⟨w.heap.size, 6, none⟩ = some (.slice a nl cap) ∧ V.cell? ⟨w.heap.size, 7, none⟩ = some (.bool ca) ∧ V.cell? ⟨w.heap.size, 8, none⟩ = some (.int .i64 sk) ∧ V.cell? ⟨w.heap.size, 9, none⟩ = some (.int .i64 se) ∧ V.cell? ⟨w.heap.size, 10, none⟩ = some (.int .i64 ss)) := fun V hV => by
    have hP := (hV.block _ z1).trans r0
    exact ⟨rowFacts hP 0 _ rfl, rowFacts hP 1 _ rfl, rowFacts hP 2 _ rfl, rowFacts hP 3 _ rfl, rowFacts hP 4 _ rfl, rowFacts hP 5 _ rfl, rowFacts hP 6 _ rfl, rowFacts hP 7 _ rfl, rowFacts hP 8 _ rfl, rowFacts hP 9 _ rfl, rowFacts hP 10 _ rfl⟩
  have HA : Hid (∀ V, Below w1.heap.size w1 V → IsStrs V a names) := fun V hV => (ha.keep B1.out).keep hV
  have HB : Hid (∀ V, Below w1.heap.size w1 V → Below w.heap.size w V) := fun V hV => B1.out.trans (hV.mono B1.out.size)
  clear r0 ha z1 B1
  have PT : Hid (∀ V (t : Int) (b : ByteArray), Hid (Below w1.heap.size w1 V) → 0 ≤ t → t ≤ 255 → b.size ≤ 20000 → Calls Tryz.prog 49 #[.int .i64 t, .string b] V fun e W => e = .returned (.string (thingD t b)) ∧ Hid (Below w1.heap.size w1 W)) := fun V t b hV h0 h1 hb => by
    refine (specThing t b V h0 h1 hb).mono ?_
    rintro e W ⟨rfl, hW⟩
    exact ⟨rfl, hV.out.trans (hW.mono hV.out.size)⟩
  have PS : Hid (∀ V (b : ByteArray), Hid (Below w1.heap.size w1 V) → b.size ≤ 20000 → Calls Tryz.prog 25 #[.string b] V fun e W => e = .returned (.string (seqD b)) ∧ Hid (Below w1.heap.size w1 W)) := fun V b hV hb => by
    refine (specSeq b V hb).mono ?_
    rintro e W ⟨rfl, hW⟩
    exact ⟨rfl, hV.out.trans (hW.mono hV.out.size)⟩
  have PI : Hid (∀ V (n : Int), Hid (Below w1.heap.size w1 V) → -9223372036854775808 ≤ n ∧ n ≤ 9223372036854775807 → Calls Tryz.prog 50 #[.int .i64 n] V fun e W => e = .returned (.string (intD n)) ∧ Hid (Below w1.heap.size w1 W)) := fun V n hV hn => by
    refine (specDerInt n V hn.1 hn.2).mono ?_
    rintro e W ⟨rfl, hW⟩
    exact ⟨rfl, hV.out.trans (hW.mono hV.out.size)⟩
  have PK : Hid (∀ V, Hid (Below w1.heap.size w1 V) → Calls Tryz.prog 27 #[] V fun e W => e = .returned (.string (kindD)) ∧ Hid (Below w1.heap.size w1 W)) := fun V hV => by
    refine (specKind V).mono ?_
    rintro e W ⟨rfl, hW⟩
    exact ⟨rfl, hV.out.trans (hW.mono hV.out.size)⟩
  have PN : Hid (∀ V (b : ByteArray), Hid (Below w1.heap.size w1 V) → b.size ≤ 40 → Calls Tryz.prog 51 #[.string b] V fun e W => e = .returned (.string (nameD b)) ∧ Hid (Below w1.heap.size w1 W)) := fun V b hV hb => by
    refine (specNameD b V (by omega)).mono ?_
    rintro e W ⟨rfl, hW⟩
    exact ⟨rfl, hV.out.trans (hW.mono hV.out.size)⟩
  have PP : Hid (∀ V (n : Int), Hid (Below w1.heap.size w1 V) → -9223372036854775808 ≤ n ∧ n ≤ 9223372036854775807 → Calls Tryz.prog 52 #[.int .i64 n] V fun e W => e = .returned (.string (putS n)) ∧ Hid (Below w1.heap.size w1 W)) := fun V n hV hn => by
    refine (specPut n V hn.1 hn.2).mono ?_
    rintro e W ⟨rfl, hW⟩
    exact ⟨rfl, hV.out.trans (hW.mono hV.out.size)⟩
  have PM : Hid (∀ V, Hid (Below w1.heap.size w1 V) → Calls Tryz.prog 53 #[.agg #[.int .i64 ser, .string iss, .string sub, .int .i64 fr, .int .i64 till, .int .i64 key, .slice a nl cap, .bool ca, .int .i64 sk, .int .i64 se, .int .i64 ss]] V fun e W => e = .returned (.string (m)) ∧ Hid (Below w1.heap.size w1 W)) := fun V hV => by
    refine (HMo.out V (HA.out V hV.out)).mono ?_
    rintro e W ⟨rfl, hW⟩
    exact ⟨rfl, hV.out.trans (hW.mono hV.out.size)⟩
  have DR : Hid (∀ V, Hid (Below w1.heap.size w1 V) → Hid (Below w1.heap.size w1 V.drew)) := fun V h => h.out.drew
  have I1 : Hid (Below w1.heap.size w1 w1) := Below.refl _ _
  have D1 : Hid (Below w1.heap.size w1 w1.drew) := DR.out _ I1
  have y1 := intD_le 2
  have y2 := intD_le ser
  have y3 := kindD_le
  have y4 := nameD_le iss
  have y5 := nameD_le sub
  have y6 := intD_le fr
  have y7 := intD_le till
  have y8 := putS_size key
  have y9 := thingD_le 160 (intD 2)
  have b2 : (intD 2).size ≤ 20000 := by omega
  obtain ⟨p1, e1⟩ : ∃ q, thingD 160 (intD 2) = q := ⟨_, rfl⟩
  rw [e1] at y9 HR
  obtain ⟨x1, q1⟩ : ∃ q, p1 ++ intD ser = q := ⟨_, rfl⟩
  have s1 : x1.size ≤ 100 := by rw [← q1, ByteArray.size_append]; omega
  obtain ⟨x2, q2⟩ : ∃ q, x1 ++ kindD = q := ⟨_, rfl⟩
  have s2 : x2.size ≤ 200 := by rw [← q2, ByteArray.size_append]; omega
  obtain ⟨x3, q3⟩ : ∃ q, x2 ++ nameD iss = q := ⟨_, rfl⟩
  have s3 : x3.size ≤ 400 := by rw [← q3, ByteArray.size_append]; omega
  obtain ⟨v1, g1⟩ : ∃ q, intD fr ++ intD till = q := ⟨_, rfl⟩
  have t1 : v1.size ≤ 20000 := by rw [← g1, ByteArray.size_append]; omega
  have t1' : v1.size ≤ 24 := by rw [← g1, ByteArray.size_append]; omega
  have u1 := seqD_le v1
  obtain ⟨x4, q4⟩ : ∃ q, x3 ++ seqD v1 = q := ⟨_, rfl⟩
  have s4 : x4.size ≤ 500 := by rw [← q4, ByteArray.size_append]; omega
  obtain ⟨x5, q5⟩ : ∃ q, x4 ++ nameD sub = q := ⟨_, rfl⟩
  have s5 : x5.size ≤ 700 := by rw [← q5, ByteArray.size_append]; omega
  obtain ⟨v2, g2⟩ : ∃ q, (⟨#[0]⟩ : ByteArray) ++ putS key = q := ⟨_, rfl⟩
  have t2 : v2.size ≤ 20000 := by rw [← g2, ByteArray.size_append]; show 1 + _ ≤ _; omega
  have t2' : v2.size ≤ 11 := by rw [← g2, ByteArray.size_append]; show 1 + _ ≤ _; omega
  have u2 := thingD_le 3 v2
  obtain ⟨v3, g3⟩ : ∃ q, kindD ++ thingD 3 v2 = q := ⟨_, rfl⟩
  have t3 : v3.size ≤ 20000 := by rw [← g3, ByteArray.size_append]; omega
  have t3' : v3.size ≤ 68 := by rw [← g3, ByteArray.size_append]; omega
  have u3 := seqD_le v3
  obtain ⟨x6, q6⟩ : ∃ q, x5 ++ seqD v3 = q := ⟨_, rfl⟩
  have s6 : x6.size ≤ 900 := by rw [← q6, ByteArray.size_append]; omega
  obtain ⟨x7, q7⟩ : ∃ q, x6 ++ m = q := ⟨_, rfl⟩
  have s7 : x7.size ≤ 20000 := by rw [← q7, ByteArray.size_append]; omega
  have HRR : Hid (seqD x7 = R) := by
    show _ = _
    rw [HR.out, g2, g3, ← q7, ← q6, ← q5, ← q4, ← q3, ← q2, ← q1, g1]
    simp only [ByteArray.append_assoc]
  have a1 : ¬ 9223372036854775807 < p1.size + (intD ser).size := by omega
  have a2 : ¬ 9223372036854775807 < x1.size + kindD.size := by omega
  have a3 : ¬ 9223372036854775807 < x2.size + (nameD iss).size := by omega
  have a4 : ¬ 9223372036854775807 < (intD fr).size + (intD till).size := by omega
  have a5 : ¬ 9223372036854775807 < x3.size + (seqD v1).size := by omega
  have a6 : ¬ 9223372036854775807 < x4.size + (nameD sub).size := by omega
  have a7 : ¬ 9223372036854775807 < (⟨#[0]⟩ : ByteArray).size + (putS key).size := by show ¬ _ < 1 + _; omega
  have a7' : ¬ 9223372036854775807 < 1 + (putS key).size := by omega
  have a8 : ¬ 9223372036854775807 < kindD.size + (thingD 3 v2).size := by omega
  have a9 : ¬ 9223372036854775807 < x5.size + (seqD v3).size := by omega
  have a10 : x6.size + m.size ≤ 9223372036854775807 := by omega
  have P160 : Hid (∀ V, Hid (Below w1.heap.size w1 V) → Calls Tryz.prog 49 #[.int .i64 160, .string (intD 2)] V fun e W => e = .returned (.string (p1)) ∧ Hid (Below w1.heap.size w1 W)) := fun V hV => by rw [← e1]; exact PT.out V 160 _ hV (by omega) (by omega) b2
  have P3 : Hid (∀ V, Hid (Below w1.heap.size w1 V) → Calls Tryz.prog 49 #[.int .i64 3, .string v2] V fun e W => e = .returned (.string (thingD 3 v2)) ∧ Hid (Below w1.heap.size w1 W)) := fun V hV => PT.out V 3 _ hV (by omega) (by omega) t2
  have PIser : -9223372036854775808 ≤ (2 : Int) ∧ (2 : Int) ≤ 9223372036854775807 := by omega
  clear HR y1 y2 y3 y4 y5 y6 y7 y8 y9 b2 s1 s2 s3 s4 s5 s6 u1 u2 u3 t1' t2' t3' PT HMo zM e1
  go_enter Tryz.func26, Tryz.ntmps26
  go_upto_region 1 with fail
  rw [← hw1]
  clear hw1
  obtain ⟨c0, c1, c2, c3, c4, c5, c6, c7, c8, c9, c10⟩ := HK.out w1 I1.out
  go_cut [3] from 4 (fun s3 wx => s3 = .string x3 ∧ Below w1.heap.size w1 wx)
  case first =>
    clear q4 q5 q6 q7 g1 g2 g3 a4 a5 a6 a7 a7' a8 a9 a10 t1 t2 t3 s7
    go_region_held3 (fun V => V.cell? ⟨w.heap.size, 0, none⟩ = some (.int .i64 ser) ∧ V.cell? ⟨w.heap.size, 1, none⟩ = some (.string iss)) (first | (refine ⟨?_, ?_⟩ <;> assumption) | exact ⟨(HK.out _ (Hid.out (by assumption))).1, (HK.out _ (Hid.out (by assumption))).2.1⟩)
      (first
        | (go_at_call 50; refine (PI.out _ _ (by assumption) (by assumption)).mono ?_; rintro r V1 ⟨rfl, k1⟩)
        | (go_at_call 49; refine (P160.out _ (by assumption)).mono ?_; rintro r V2 ⟨rfl, k2⟩)
        | (go_at_call 27; refine (PK.out _ (by assumption)).mono ?_; rintro r V3 ⟨rfl, k3⟩)
        | (go_at_call 51; refine (PN.out _ _ (by assumption) (by assumption)).mono ?_; rintro r V4 ⟨rfl, k4⟩))
    go_wp2_with fail
    go_meet
    case rel => exact ⟨rfl, k4.out⟩
  case rest =>
    obtain ⟨rfl, hcut⟩ := hcut
    have J1 : Hid (Below w1.heap.size w1 wc) := hcut
    have D2 : Hid (Below w1.heap.size w1 wc.drew) := DR.out _ J1
    clear hcut c0 c1 c2 c3 c4 c5 c6 c7 c8 c9 c10 q1 q2 q3 a1 a2 a3 D1 I1 P160 PIser
    obtain ⟨c0, c1, c2, c3, c4, c5, c6, c7, c8, c9, c10⟩ := HK.out wc J1.out
    go_upto_region 2 with fail
    go_cut [3] from 4 (fun s3 wx => s3 = .string x6 ∧ Below w1.heap.size w1 wx)
    case first =>
      clear q7 a10 s7
      go_region_held3 (fun V => V.cell? ⟨w.heap.size, 2, none⟩ = some (.string sub) ∧ V.cell? ⟨w.heap.size, 3, none⟩ = some (.int .i64 fr) ∧ V.cell? ⟨w.heap.size, 4, none⟩ = some (.int .i64 till) ∧ V.cell? ⟨w.heap.size, 5, none⟩ = some (.int .i64 key)) (first | (refine ⟨?_, ?_, ?_, ?_⟩ <;> assumption) | exact ⟨(HK.out _ (Hid.out (by assumption))).2.2.1, (HK.out _ (Hid.out (by assumption))).2.2.2.1, (HK.out _ (Hid.out (by assumption))).2.2.2.2.1, (HK.out _ (Hid.out (by assumption))).2.2.2.2.2.1⟩)
        (first
          | (go_at_call 50; refine (PI.out _ _ (by assumption) (by assumption)).mono ?_; rintro r V1 ⟨rfl, k1⟩)
          | (go_at_call 25; refine (PS.out _ _ (by assumption) (by assumption)).mono ?_; rintro r V2 ⟨rfl, k2⟩)
          | (go_at_call 51; refine (PN.out _ _ (by assumption) (by assumption)).mono ?_; rintro r V3 ⟨rfl, k3⟩)
          | (go_at_call 27; refine (PK.out _ (by assumption)).mono ?_; rintro r V4 ⟨rfl, k4⟩)
          | (go_at_call 52; refine (PP.out _ _ (by assumption) (by assumption)).mono ?_; rintro r V5 ⟨rfl, k5⟩)
          | (go_at_call 49; refine (P3.out _ (by assumption)).mono ?_; rintro r V6 ⟨rfl, k6⟩))
      go_wp2_with fail
      go_meet
      case rel => exact ⟨rfl, Hid.out (by assumption)⟩
    case rest =>
      obtain ⟨rfl, hcut⟩ := hcut
      have J2 : Hid (Below w1.heap.size w1 wc) := hcut
      clear hcut c0 c1 c2 c3 c4 c5 c6 c7 c8 c9 c10 J1 D2 q4 q5 q6 g1 g2 g3 a4 a5 a6 a7 a7' a8 a9 t1 t2 t3 P3 PP PN PK PI
      obtain ⟨c0, c1, c2, c3, c4, c5, c6, c7, c8, c9, c10⟩ := HK.out wc J2.out
      go_wp2_with fail
      refine (PM.out _ J2).mono ?_
      rintro r V1 ⟨rfl, k1⟩
      clear c0 c1 c2 c3 c4 c5 c6 c7 c8 c9 c10
      go_wp2_with fail
      refine (PS.out _ x7 k1 s7).mono ?_
      rintro r V2 ⟨rfl, k2⟩
      rw [HRR.out]
      go_wp2
      go_ret
      exact ⟨rfl, HB.out _ k2.out⟩
end Go.Proofs.YtfliacfeebooeaaGreatDoor
namespace Go.Proofs.YtfliacfeebooeaaGreatDoor
open Go.RowKit

set_option maxHeartbeats 4000000 in
set_option maxRecDepth 100000 in
theorem specSigD (k e s : Int) (w : World) (hk : -9223372036854775808 ≤ k ∧ k ≤ 9223372036854775807) (he : -9223372036854775808 ≤ e ∧ e ≤ 9223372036854775807) (hs : -9223372036854775808 ≤ s ∧ s ≤ 9223372036854775807) :
    Calls Tryz.prog 28 #[.agg #[.int .i64 k, .int .i64 e, .int .i64 s]] w fun r w' => r = .returned (.string (sigD k e s)) ∧ Below w.heap.size w w' := by
  have y1 := putS_size k
  have y2 := putS_size e
  have y3 := putS_size s
  have y4 := sigT_le k e s
  obtain ⟨R, hR⟩ : ∃ R, R = sigD k e s := ⟨_, rfl⟩
  rw [← hR]
  obtain ⟨x1, q1⟩ : ∃ q, (⟨#[0]⟩ : ByteArray) ++ putS k = q := ⟨_, rfl⟩
  have s1 : x1.size ≤ 11 := by rw [← q1, ByteArray.size_append]; show 1 + _ ≤ _; omega
  obtain ⟨x2, q2⟩ : ∃ q, x1 ++ putS e = q := ⟨_, rfl⟩
  have s2 : x2.size ≤ 21 := by rw [← q2, ByteArray.size_append]; omega
  obtain ⟨x3, q3⟩ : ∃ q, x2 ++ putS s = q := ⟨_, rfl⟩
  have e3 : x3 = sigT k e s := by rw [← q3, ← q2, ← q1]; rfl
  have a1 : ¬ 9223372036854775807 < (⟨#[0]⟩ : ByteArray).size + (putS k).size := by show ¬ _ < 1 + _; omega
  have a1' : ¬ 9223372036854775807 < 1 + (putS k).size := by omega
  have a2 : ¬ 9223372036854775807 < x1.size + (putS e).size := by omega
  have a3 : ¬ 9223372036854775807 < x2.size + (putS s).size := by omega
  obtain ⟨w1, hw1⟩ : ∃ w1, w1 = w.alloc (.cells #[.int .i64 k, .int .i64 e, .int .i64 s] 24 (0, 0)) := ⟨_, rfl⟩
  have r0 : w1.heap[w.heap.size]? = some (.cells [Value.int .i64 k, .int .i64 e, .int .i64 s].toArray 24 (0, 0)) := by rw [hw1]; exact heap_alloc_new w _
  have B1 : Hid (Below w.heap.size w w1) := by rw [hw1]; exact (Below.refl _ _).alloc (Nat.le_refl _) _
  have z1 : w.heap.size < w1.heap.size := by rw [hw1]; simp
  have HK : Hid (∀ V, Below w1.heap.size w1 V → V.cell? ⟨w.heap.size, 0, none⟩ = some (.int .i64 k) ∧ V.cell? ⟨w.heap.size, 1, none⟩ = some (.int .i64 e) ∧ V.cell? ⟨w.heap.size, 2, none⟩ = some (.int .i64 s)) := fun V hV => by
    have hP := (hV.block _ z1).trans r0
    exact ⟨rowFacts hP 0 _ rfl, rowFacts hP 1 _ rfl, rowFacts hP 2 _ rfl⟩
  have HB : Hid (∀ V, Below w1.heap.size w1 V → Below w.heap.size w V) := fun V hV => B1.out.trans (hV.mono B1.out.size)
  have PP : Hid (∀ V (n : Int), Hid (Below w1.heap.size w1 V) → -9223372036854775808 ≤ n ∧ n ≤ 9223372036854775807 → Calls Tryz.prog 52 #[.int .i64 n] V fun e W => e = .returned (.string (putS n)) ∧ Hid (Below w1.heap.size w1 W)) := fun V n hV hn => (specPut n V hn.1 hn.2).mono fun e W h => ⟨h.1, hV.out.trans (h.2.mono hV.out.size)⟩
  have P3 : Hid (∀ V, Hid (Below w1.heap.size w1 V) → Calls Tryz.prog 49 #[.int .i64 3, .string x3] V fun e W => e = .returned (.string (R)) ∧ Hid (Below w1.heap.size w1 W)) := fun V hV => by
    rw [hR, e3]
    exact (specThing 3 (sigT k e s) V (by omega) (by omega) (by omega)).mono fun e W h => ⟨h.1, hV.out.trans (h.2.mono hV.out.size)⟩
  have I1 : Hid (Below w1.heap.size w1 w1) := Below.refl _ _
  have D1 : Hid (Below w1.heap.size w1 w1.drew) := I1.out.drew
  clear r0 z1 B1 y1 y2 y3 y4 s1 s2 hR e3
  obtain ⟨c0, c1, c2⟩ := HK.out w1 I1.out
  go_enter Tryz.func28, Tryz.ntmps28
  go_upto_region 1 with fail
  rw [← hw1]
  clear hw1
  go_region_held3 (fun V => V.cell? ⟨w.heap.size, 0, none⟩ = some (.int .i64 k) ∧ V.cell? ⟨w.heap.size, 1, none⟩ = some (.int .i64 e) ∧ V.cell? ⟨w.heap.size, 2, none⟩ = some (.int .i64 s)) (first | (refine ⟨?_, ?_, ?_⟩ <;> assumption) | exact HK.out _ (Hid.out (by assumption)))
    (first
      | (go_at_call 52; refine (PP.out _ _ (by assumption) (by assumption)).mono ?_; rintro r V1 ⟨rfl, k1⟩)
      | (go_at_call 49; refine (P3.out _ (by assumption)).mono ?_; rintro r V2 ⟨rfl, k2⟩))
  go_wp2
  go_ret
  exact ⟨rfl, HB.out _ k2.out⟩
end Go.Proofs.YtfliacfeebooeaaGreatDoor
