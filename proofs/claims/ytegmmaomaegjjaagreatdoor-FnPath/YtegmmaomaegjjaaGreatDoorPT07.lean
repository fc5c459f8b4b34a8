/- The specification's papers in bytes: spec.l06More, walked. spec.GroupRight, walked. spec.l05Is, walked. spec.l06Time, spec.NameRight, walked. spec.l06Time, spec.l06Names, walked. spec.l06Right, walked. spec.l05Bytes, walked. spec.DerInt, walked. spec.PutNum, walked. -/
import Derived.Test.YtegmmaomaegjjaaGreatDoorPT06
import Derived.Deep.Cut
import Derived.Deep.RegionHeld3
import Derived.Test.YtegmmaomaegjjaaGreatDoorPT03
import Derived.Test.YtegmmaomaegjjaaGreatDoorPT01
import Derived.WalkLawsBesides
namespace Go.Proofs.YtegmmaomaegjjaaGreatDoor
open Go.RowKit

set_option maxHeartbeats 4000000 in
set_option maxRecDepth 100000 in
theorem specMoreD (c : Paper) (a : Option Addr) (cap : Nat) (w : World) (hl : c.names.length ≤ 5) (hs : ∀ i, i < c.names.length → (tAt c.names i).size ≤ 40) (ha : IsStrs w a c.names) :
    Calls Tryz.prog 92 #[c.val (.slice a c.names.length cap)] w fun e w' => e = .returned (.string (moreD c.names c.ca)) ∧ Below w.heap.size w w' := by
  obtain ⟨ser, iss, sub, fr, till, key, names, ca, sk, se, ss⟩ := c
  simp only at hl hs ha ⊢
  unfold Paper.val
  simp only
  have HHo : Hid (∀ V, IsStrs V a names → Calls Tryz.prog 118 #[.slice a names.length cap] V fun e w' => e = .returned (.string (seqD (hostsD names names.length))) ∧ Below V.heap.size V w') := fun V hV => specHosts a names cap V hl hs hV
  have zN := namesD_le hl hs
  have zC := caT_le
  have zH := hostsD_le (ss := names) names.length hs
  obtain ⟨M, hM⟩ : ∃ M, M = moreD names ca := ⟨_, rfl⟩
  rw [← hM]
  have HM : Hid (M = moreT (namesD names ++ caD ca)) := hM
  clear hM
  have HN0 : Hid (names.length = 0 → namesD names = ⟨#[]⟩) := fun h => if_pos h
  have HN1 : Hid (names.length ≠ 0 → namesD names = seqD (oidT [2, 5, 29, 17] ++ thingD 4 (seqD (hostsD names names.length)))) := fun h => if_neg h
  obtain ⟨nl, hnl⟩ : ∃ nl, nl = names.length := ⟨_, rfl⟩
  rw [← hnl] at hl HHo zH HN0 HN1 ⊢
  have HNl : Hid (nl = names.length) := hnl
  clear hnl hs
  obtain ⟨w1, hw1⟩ : ∃ w1, w1 = w.alloc (.cells #[.int .i64 ser, .string iss, .string sub, .int .i64 fr, .int .i64 till, .int .i64 key, .slice a nl cap, .bool ca, .int .i64 sk, .int .i64 se, .int .i64 ss] 27 (0, 0)) := ⟨_, rfl⟩
  have r0 : w1.heap[w.heap.size]? = some (.cells [Value.int .i64 ser, .string iss, .string sub, .int .i64 fr, .int .i64 till, .int .i64 key, .slice a nl cap, .bool ca, .int .i64 sk, .int .i64 se, .int .i64 ss].toArray 27 (0, 0)) := by rw [hw1]; exact heap_alloc_new w _
  have B1 : Hid (Below w.heap.size w w1) := by rw [hw1]; exact (Below.refl _ _).alloc (Nat.le_refl _) _
  have z1 : w.heap.size < w1.heap.size := by rw [hw1]; simp
  have HK : Hid (∀ V, Below w1.heap.size w1 V → V.cell? ⟨w.heap.size, 0, none⟩ = some (.int .i64 ser) ∧ V.cell? ⟨w.heap.size, 1, none⟩ = some (.string iss) ∧ V.cell? ⟨w.heap.size, 2, none⟩ = some (.string sub) ∧ V.cell? ⟨w.heap.size, 3, none⟩ = some (.int .i64 fr) ∧ V.cell? ⟨w.heap.size, 4, none⟩ = some (.int .i64 till) ∧ V.cell? ⟨w.heap.size, 5, none⟩ = some (.int .i64 key) ∧ V.cell? ⟨w.heap.size, 6, none⟩ = some (.slice a nl cap) ∧ V.cell? ⟨w.heap.size, 7, none⟩ = some (.bool ca) ∧ V.cell? ⟨w.heap.size, 8, none⟩ = some (.int .i64 sk) ∧ V.cell? ⟨w.heap.size, 9, none⟩ = some (.int .i64 se) ∧ V.cell? ⟨w.heap.size, 10, none⟩ = some (.int .i64 ss)) := fun V hV => by
    have hP := (hV.block _ z1).trans r0
    exact ⟨rowFacts hP 0 _ rfl, rowFacts hP 1 _ rfl, rowFacts hP 2 _ rfl, rowFacts hP 3 _ rfl, rowFacts hP 4 _ rfl, rowFacts hP 5 _ rfl, rowFacts hP 6 _ rfl, rowFacts hP 7 _ rfl, rowFacts hP 8 _ rfl, rowFacts hP 9 _ rfl, rowFacts hP 10 _ rfl⟩
  have HA : Hid (∀ V, Below w1.heap.size w1 V → IsStrs V a names) := fun V hV => (ha.keep B1.out).keep hV
  have HB : Hid (∀ V, Below w1.heap.size w1 V → Below w.heap.size w V) := fun V hV => B1.out.trans (hV.mono B1.out.size)
  clear r0 ha z1 B1
  have PT : Hid (∀ V (t : Int) (b : ByteArray), Hid (Below w1.heap.size w1 V) → 0 ≤ t → t ≤ 255 → b.size ≤ 20000 → Calls Tryz.prog 87 #[.int .i64 t, .string b] V fun e W => e = .returned (.string (thingD t b)) ∧ Hid (Below w1.heap.size w1 W)) := fun V t b hV h0 h1 hb => by
    refine (specThing t b V h0 h1 hb).mono ?_
    rintro e W ⟨rfl, hW⟩
    exact ⟨rfl, hV.out.trans (hW.mono hV.out.size)⟩
  have PS : Hid (∀ V (b : ByteArray), Hid (Below w1.heap.size w1 V) → b.size ≤ 20000 → Calls Tryz.prog 91 #[.string b] V fun e W => e = .returned (.string (seqD b)) ∧ Hid (Below w1.heap.size w1 W)) := fun V b hV hb => by
    refine (specSeq b V hb).mono ?_
    rintro e W ⟨rfl, hW⟩
    exact ⟨rfl, hV.out.trans (hW.mono hV.out.size)⟩
  have PO : Hid (∀ V (x y z u : Int) (g : Nat), V.heap[g]? = some (.cells (lCells [x, y, z, u] ++ []).toArray 2 (0, 0)) → Hid (Below w1.heap.size w1 V) → arcsB [x, y, z, u] = true → Calls Tryz.prog 117 #[.slice (some ⟨g, 0, none⟩) 4 4] V fun e W => e = .returned (.string (oidT [x, y, z, u])) ∧ Hid (Below w1.heap.size w1 W)) := fun V x y z u g hg hV ha => by
    refine (specOid (some ⟨g, 0, none⟩) [x, y, z, u] 4 V ha (IsInts.row hg)).mono ?_
    rintro e W ⟨rfl, hW⟩
    exact ⟨rfl, hV.out.trans (hW.mono hV.out.size)⟩
  have PH : Hid (∀ V, Hid (Below w1.heap.size w1 V) → Calls Tryz.prog 118 #[.slice a nl cap] V fun e W => e = .returned (.string (seqD (hostsD names nl))) ∧ Hid (Below w1.heap.size w1 W)) := fun V hV => by
    refine (HHo.out V (HA.out V hV.out)).mono ?_
    rintro e W ⟨rfl, hW⟩
    exact ⟨rfl, hV.out.trans (hW.mono hV.out.size)⟩
  have AL : Hid (∀ V o, Hid (Below w1.heap.size w1 V) → Hid (Below w1.heap.size w1 (V.alloc o))) := fun V o h => h.out.alloc h.out.size o
  have DR : Hid (∀ V, Hid (Below w1.heap.size w1 V) → Hid (Below w1.heap.size w1 V.drew)) := fun V h => h.out.drew
  have I1 : Hid (Below w1.heap.size w1 w1) := Below.refl _ _
  clear HHo
  go_enter Tryz.func92, Tryz.ntmps92
  go_upto_region 2 with fail
  rw [← hw1]
  clear hw1
  obtain ⟨c0, c1, c2, c3, c4, c5, c6, c7, c8, c9, c10⟩ := HK.out w1 I1.out
  go_upto_if 7 with fail
  go_cut [3] from 4 (fun s3 wx => s3 = .string (namesD names) ∧ Below w1.heap.size w1 wx)
  case first =>
    by_cases hn : nl = 0
    · subst hn
      have HF : Hid (namesD names = ⟨#[]⟩) := HN0.out rfl
      go_wp2_with fail
      go_meet
      case rel => exact ⟨by rw [HF.out], I1.out⟩
    · have HF : Hid (namesD names = seqD (oidT [2, 5, 29, 17] ++ thingD 4 (seqD (hostsD names nl)))) := HN1.out hn
      have hni : (0 : Int) < (nl : Int) := by omega
      have y1 := arcs_lit arcs17
      have y2 := thingD_le 4 (seqD (hostsD names nl))
      have y3 := seqD_le (hostsD names nl)
      have y4 : (oidT [2, 5, 29, 17] ++ thingD 4 (seqD (hostsD names nl))).size ≤ 20000 := by rw [ByteArray.size_append]; omega
      have y5 : (seqD (hostsD names nl)).size ≤ 20000 := by omega
      have D1 : Hid (Below w1.heap.size w1 w1.drew) := DR.out _ I1
      have P0 : Hid (∀ V (g : Nat), V.heap[g]? = some (.cells #[.int .i64 2, .int .i64 5, .int .i64 29, .int .i64 17] 2 (0, 0)) → Hid (Below w1.heap.size w1 V) → Calls Tryz.prog 117 #[.slice (some ⟨g, 0, none⟩) 4 4] V fun e W => e = .returned (.string (oidT [2, 5, 29, 17])) ∧ Hid (Below w1.heap.size w1 W)) := fun V g hg hV => PO.out V 2 5 29 17 g hg hV arcs17
      have P3 : Hid (∀ V, Hid (Below w1.heap.size w1 V) → Calls Tryz.prog 87 #[.int .i64 4, .string (seqD (hostsD names nl))] V fun e W => e = .returned (.string (thingD 4 (seqD (hostsD names nl)))) ∧ Hid (Below w1.heap.size w1 W)) := fun V hV => PT.out V 4 _ hV (by omega) (by omega) y5
      have P4 : Hid (∀ V, Hid (Below w1.heap.size w1 V) → Calls Tryz.prog 91 #[.string (oidT [2, 5, 29, 17] ++ thingD 4 (seqD (hostsD names nl)))] V fun e W => e = .returned (.string (namesD names)) ∧ Hid (Below w1.heap.size w1 W)) := fun V hV => by rw [HF.out]; exact PS.out V _ hV y4
      have hadd : ¬ 9223372036854775807 < (oidT [2, 5, 29, 17]).size + (thingD 4 (seqD (hostsD names nl))).size := by omega
      clear y1 y2 y3 y4 y5 HF HM HN0 HN1 zN zH zC
      generalize thingD 4 (seqD (hostsD names nl)) = q3 at *
      generalize seqD (hostsD names nl) = q2 at *
      generalize oidT [2, 5, 29, 17] = q1 at *
      go_wp2_with fail
      go_region_held3 (fun V => V.cell? ⟨w.heap.size, 6, none⟩ = some (.slice a nl cap)) (first | assumption | exact (HK.out _ (Hid.out (by assumption))).2.2.2.2.2.2.1 | go_keep)
        (first
          | (go_at_call 117; refine (P0.out _ _ (heap_alloc_new _ _) (by first | assumption | exact DR.out _ (AL.out _ _ (by assumption)) | exact AL.out _ _ (by assumption))).mono ?_; rintro r V1 ⟨rfl, k1⟩)
          | (go_at_call 118; refine (PH.out _ (by assumption)).mono ?_; rintro r V2 ⟨rfl, k2⟩)
          | (go_at_call 87; refine (P3.out _ (by assumption)).mono ?_; rintro r V3 ⟨rfl, k3⟩)
          | (go_at_call 91; refine (P4.out _ (by assumption)).mono ?_; rintro r V4 ⟨rfl, k4⟩))
      go_wp2_with fail
      go_meet
      case rel => exact ⟨rfl, k4.out⟩
  case rest =>
    obtain ⟨rfl, hcut⟩ := hcut
    have J1 : Hid (Below w1.heap.size w1 wc) := hcut
    clear hcut c0 c1 c2 c3 c4 c5 c6 c7 c8 c9 c10 HN0 HN1 zH hl HNl HA I1
    generalize namesD names = N at *
    obtain ⟨c0, c1, c2, c3, c4, c5, c6, c7, c8, c9, c10⟩ := HK.out wc J1.out
    go_upto_if 17 with fail
    go_cut [3] from 4 (fun s3 wx => s3 = .string (N ++ caD ca) ∧ Below w1.heap.size w1 wx)
    case first =>
      cases ca with
      | false =>
        have HF : Hid (N ++ caD false = N) := by show N ++ (⟨#[]⟩ : ByteArray) = N; exact ByteArray.append_empty
        go_wp2_with fail
        go_meet
        case rel => exact ⟨by rw [HF.out], J1.out⟩
      | true =>
        have HF : Hid (N ++ caD true = N ++ caT) := rfl
        have x1 := arcs_lit arcs19
        have x2 := soD_le
        have x3 := seqD_le soD
        have x4 := thingD_le 4 (seqD soD)
        have P1 : Hid (∀ V, Hid (Below w1.heap.size w1 V) → Calls Tryz.prog 87 #[.int .i64 1, .string ⟨#[255]⟩] V fun e W => e = .returned (.string soD) ∧ Hid (Below w1.heap.size w1 W)) := fun V hV => PT.out V 1 ⟨#[255]⟩ hV (by omega) (by omega) (by show 1 ≤ 20000; omega)
        have P2 : Hid (∀ V, Hid (Below w1.heap.size w1 V) → Calls Tryz.prog 91 #[.string soD] V fun e W => e = .returned (.string (seqD soD)) ∧ Hid (Below w1.heap.size w1 W)) := fun V hV => PS.out V soD hV (by omega)
        have P3 : Hid (∀ V, Hid (Below w1.heap.size w1 V) → Calls Tryz.prog 87 #[.int .i64 4, .string (seqD soD)] V fun e W => e = .returned (.string (thingD 4 (seqD soD))) ∧ Hid (Below w1.heap.size w1 W)) := fun V hV => PT.out V 4 (seqD soD) hV (by omega) (by omega) (by omega)
        have P4 : Hid (∀ V, Hid (Below w1.heap.size w1 V) → Calls Tryz.prog 91 #[.string (oidT [2, 5, 29, 19] ++ soD ++ thingD 4 (seqD soD))] V fun e W => e = .returned (.string caT) ∧ Hid (Below w1.heap.size w1 W)) := fun V hV => by
          have h := PS.out V (oidT [2, 5, 29, 19] ++ soD ++ thingD 4 (seqD soD)) hV (by rw [ByteArray.size_append, ByteArray.size_append]; omega)
          have e : seqD (oidT [2, 5, 29, 19] ++ soD ++ thingD 4 (seqD soD)) = caT := by unfold caT; rw [ByteArray.append_assoc]
          rw [e] at h
          exact h
        have P0 : Hid (∀ V (g : Nat), V.heap[g]? = some (.cells #[.int .i64 2, .int .i64 5, .int .i64 29, .int .i64 19] 2 (0, 0)) → Hid (Below w1.heap.size w1 V) → Calls Tryz.prog 117 #[.slice (some ⟨g, 0, none⟩) 4 4] V fun e W => e = .returned (.string (oidT [2, 5, 29, 19])) ∧ Hid (Below w1.heap.size w1 W)) := fun V g hg hV => PO.out V 2 5 29 19 g hg hV arcs19
        generalize thingD 4 (seqD soD) = q4 at *
        generalize seqD soD = q3 at *
        generalize soD = q2 at *
        generalize oidT [2, 5, 29, 19] = q1 at *
        generalize caT = q5 at *
        clear HM PT PS PO PH
        go_wp2_with fail
        refine (P0.out _ _ (heap_alloc_new _ _) (AL.out _ _ J1)).mono ?_
        rintro r V1 ⟨rfl, k1⟩
        go_wp2_with fail
        refine (P1.out _ k1).mono ?_
        rintro r V2 ⟨rfl, k2⟩
        go_wp2_with fail
        refine (P1.out _ k2).mono ?_
        rintro r V3 ⟨rfl, k3⟩
        go_wp2_with fail
        refine (P2.out _ k3).mono ?_
        rintro r V4 ⟨rfl, k4⟩
        go_wp2_with fail
        refine (P3.out _ k4).mono ?_
        rintro r V5 ⟨rfl, k5⟩
        go_wp2_with fail
        refine (P4.out _ k5).mono ?_
        rintro r V6 ⟨rfl, k6⟩
        go_wp2_with fail
        go_meet
        case rel => exact ⟨by rw [HF.out], k6.out⟩
    case rest =>
      obtain ⟨rfl, hcut⟩ := hcut
      have J2 : Hid (Below w1.heap.size w1 wc) := hcut
      have hT : (N ++ caD ca).size ≤ 370 := by rw [ByteArray.size_append]; have := caD_le ca; omega
      clear hcut c0 c1 c2 c3 c4 c5 c6 c7 c8 c9 c10 J1
      generalize N ++ caD ca = T at *
      by_cases h0 : T.size = 0
      · have HF : Hid (M = ⟨#[]⟩) := by show _ = _; rw [HM.out, moreT, if_pos h0]
        have he := isEmpty_of h0
        go_upto_if 30 with fail
        try rw [he]
        go_wp2
        go_ret
        exact ⟨by rw [HF.out]; rfl, HB.out _ J2.out⟩
      · have HF : Hid (M = thingD 163 (seqD T)) := by show _ = _; rw [HM.out, moreT, if_neg h0]
        have he := isEmpty_not h0
        have x1 := seqD_le T
        go_upto_if 30 with fail
        try rw [he]
        go_wp2_with fail
        refine (PS.out _ _ J2 (by omega)).mono ?_
        rintro r V1 ⟨rfl, k1⟩
        go_wp2_with fail
        refine (PT.out _ 163 _ k1 (by omega) (by omega) (by omega)).mono ?_
        rintro r V2 ⟨rfl, k2⟩
        rw [← HF.out]
        go_wp2
        go_ret
        exact ⟨rfl, HB.out _ k2.out⟩
end Go.Proofs.YtegmmaomaegjjaaGreatDoor
namespace Go.Proofs.YtegmmaomaegjjaaGreatDoor
open Go.RowKit

set_option maxHeartbeats 1000000 in
set_option maxRecDepth 100000 in
theorem specGroupRight (y : Int) (w : World) :
    Calls Tryz.prog 61 #[.int .i64 y] w fun e w' => e = .returned (.bool (rightG y)) ∧ w' = w := by
  by_cases h1 : 1 < y
  · by_cases h2 : y < 2147483579
    · obtain ⟨x, rfl⟩ := nat_of (show ¬ y < 0 by omega)
      have HC : Hid (∀ v : World, Calls Tryz.prog 48 #[.int .i64 (x : Int), .int .i64 1073741789, .int .i64 2147483579] v fun e w' => e = .returned (.int .i64 ((pm x 1073741789 2147483579 : Nat) : Int)) ∧ w' = v) := fun v => specPow x 1073741789 2147483579 v (by omega) (by omega) (by omega)
      have hrt := rightG_pos (x := x) (by omega) (by omega)
      have hrf := rightG_neg (x := x)
      generalize pm x 1073741789 2147483579 = z at *
      by_cases hz : z = 1
      · subst hz
        rw [hrt rfl]
        clear hrt hrf
        go_enter Tryz.func61, Tryz.ntmps61
        go_wp2_with fail
        refine (HC.out _).mono ?_
        rintro e w2 ⟨rfl, rfl⟩
        go_wp2
        go_ret
        exact ⟨rfl, rfl⟩
      · rw [hrf hz]
        clear hrt hrf
        have hz' : ((z : Int) == 1) = false := by rw [beq_eq_false_iff_ne]; omega
        go_enter Tryz.func61, Tryz.ntmps61
        go_wp2_with fail
        refine (HC.out _).mono ?_
        rintro e w2 ⟨rfl, rfl⟩
        go_wp2
        go_ret
        exact ⟨rfl, rfl⟩
    · rw [rightG_out (by omega)]
      go_enter Tryz.func61, Tryz.ntmps61
      go_wp2
      go_ret
      exact ⟨rfl, rfl⟩
  · rw [rightG_out (by omega)]
    go_enter Tryz.func61, Tryz.ntmps61
    go_wp2
    go_ret
    exact ⟨rfl, rfl⟩
end Go.Proofs.YtegmmaomaegjjaaGreatDoor
namespace Go.Proofs.YtegmmaomaegjjaaGreatDoor
open Go.RowKit Go.Lib

theorem specIs (n l h : Int) (w : World) :
    Calls Tryz.prog 37 #[.int .i64 n, .int .i64 l, .int .i64 h] w fun e w' => e = .returned (.bool (decide (l ≤ n) && decide (n ≤ h))) ∧ w' = w := by
  by_cases h1 : l ≤ n
  · go_enter Tryz.func37, Tryz.ntmps37
    go_wp2
    go_ret
    exact ⟨by simp [h1], rfl⟩
  · go_enter Tryz.func37, Tryz.ntmps37
    go_wp2
    go_ret
    exact ⟨by simp; omega, rfl⟩
end Go.Proofs.YtegmmaomaegjjaaGreatDoor
namespace Go.Proofs.YtegmmaomaegjjaaGreatDoor
open Go.RowKit

theorem specTime (n : Int) (w : World) :
    Calls Tryz.prog 35 #[.int .i64 n] w fun e w' => e = .returned (.bool (timeB n)) ∧ w' = w := by
  go_enter Tryz.func35, Tryz.ntmps35
  go_wp2_with fail
  refine (specIs n 0 1000000000 _).mono ?_
  rintro e w' ⟨rfl, rfl⟩
  go_wp2
  go_ret
  exact ⟨rfl, rfl⟩
theorem specNameB (s : ByteArray) (w : World) (hs : s.size ≤ maxLen) :
    Calls Tryz.prog 60 #[.string s] w fun e w' => e = .returned (.bool (nameB s)) ∧ w' = w :=
  (specName s w hs).mono fun _ _ h => ⟨ans_name h.1, h.2⟩
end Go.Proofs.YtegmmaomaegjjaaGreatDoor
namespace Go.Proofs.YtegmmaomaegjjaaGreatDoor
open Go.RowKit

set_option maxHeartbeats 1000000 in
set_option maxRecDepth 100000 in
theorem specNames (a : Option Addr) (ss : List ByteArray) (c : Nat) (w : World) (hl : ss.length ≤ 1048576) (hs : totS ss ss.length ≤ 1048576) (ha : IsStrs w a ss) :
    Calls Tryz.prog 83 #[.slice a ss.length c] w fun e w' => e = .returned (.bool (namesB ss)) ∧ Below w.heap.size w w' := by
  have HSz : Hid (∀ k, k < ss.length → (tAt ss k).size ≤ 1048576) := fun k hk => Nat.le_trans (totS_at ss hk) hs
  clear hs
  go_enter Tryz.func83, Tryz.ntmps83
  go_wp2
  go_loopw [3] (fun i wr => ∃ k : Nat, k ≤ ss.length ∧ i = .int .i64 k ∧ okTo ss k = true ∧ Below w.heap.size w wr) (fun i _ => ss.length - (intOf i).toNat)
  case atStart => exact ⟨0, Nat.zero_le _, rfl, rfl, Below.refl _ _⟩
  case round =>
    obtain ⟨k, hk, rfl, hok, hbr⟩ := hrel
    have HOk : Hid (okTo ss k = true) := hok
    have HB : Hid (Below w.heap.size w wr) := hbr
    clear hok
    by_cases hlt : k < ss.length
    · obtain ⟨x, o, rfl, hc⟩ : ∃ x o, a = some ⟨x, o, none⟩ ∧ ∀ i, i < ss.length → wr.cell? ⟨x, o + i, none⟩ = some (.string (tAt ss i)) := by
        rcases ha.below hbr ha.lt with rfl | h
        · simp at hlt
        · exact h
      have hck := hc k hlt
      have hz := HSz.out k hlt
      have HNm : Hid (∀ V : World, Calls Tryz.prog 60 #[.string (tAt ss k)] V fun e w' => e = .returned (.bool (nameB (tAt ss k))) ∧ w' = V) := fun V => specNameB _ V (by unfold maxLen; omega)
      clear hz
      have a0 : (0 : Int) ≤ (k : Int) := by omega
      have b0 : (k : Int) < (ss.length : Int) := by omega
      cases hn : nameB (tAt ss k) with
      | false =>
        have HF : Hid (namesB ss = false) := by show _ = _; rw [namesB, okTo_no (okN_not hn) hlt]; rfl
        rw [hn] at HNm
        generalize tAt ss k = z at *
        generalize ss.length = n at *
        clear hc ha hbr hn HSz
        go_wp2_with fail
        go_quiet ((go_at_call 60; exact Calls.quiet_of_same (HNm.out _)))
        go_wp2
        go_ret
        exact ⟨by rw [HF.out]; rfl, below_drewN HB.out _⟩
      | true =>
        rw [hn] at HNm
        by_cases h0 : k = 0
        · subst h0
          have HF : Hid (okN ss 0 = true) := okN_zero hn
          rw [Nat.add_zero] at hck
          generalize tAt ss 0 = z at *
          generalize ss.length = n at *
          clear hc ha hbr hn HSz
          go_wp2_with fail
          go_quiet ((go_at_call 60; exact Calls.quiet_of_same (HNm.out _)))
          go_wp2
          go_roundw
          case rel => exact ⟨1, by omega, by go_num, okTo_yes HOk.out HF.out, below_drewN HB.out _⟩
          case measure => simp [intOf]; omega
        · have hck1 := hc (k - 1) (by omega)
          have ek : ((k : Int) - 1) = ((k - 1 : Nat) : Int) := by omega
          have ew : IntKind.i64.wrap ((k : Int) - 1) = ((k - 1 : Nat) : Int) := by rw [IntKind.wrap_i64]; omega
          have a1 : (0 : Int) < (k : Int) := by omega
          have a2 : 0 < k := by omega
          have g1 : decide ((0 : Int) < (k : Int)) = true := decide_eq_true a1
          have b1 : ((k - 1 : Nat) : Int) < (ss.length : Int) := by omega
          have hbl := okN_more (ss := ss) (k := k) (by omega) hn
          cases hr : Op.bytesLess (tAt ss (k - 1)).toList (tAt ss k).toList with
          | false =>
            have HF : Hid (namesB ss = false) := by show _ = _; rw [namesB, okTo_no (hbl.trans hr) hlt]; rfl
            generalize tAt ss k = z at *
            generalize tAt ss (k - 1) = y at *
            generalize k - 1 = k1 at *
            generalize ss.length = n at *
            clear hc ha hbr hn HSz hbl
            go_wp2_with fail
            go_quiet ((go_at_call 60; exact Calls.quiet_of_same (HNm.out _)))
            go_wp2
            go_ret
            exact ⟨by rw [HF.out]; rfl, below_drewN HB.out _⟩
          | true =>
            have HF : Hid (okN ss k = true) := hbl.trans hr
            generalize tAt ss k = z at *
            generalize tAt ss (k - 1) = y at *
            generalize k - 1 = k1 at *
            generalize ss.length = n at *
            clear hc ha hbr hn HSz hbl
            go_wp2_with fail
            go_quiet ((go_at_call 60; exact Calls.quiet_of_same (HNm.out _)))
            go_wp2
            go_roundw
            case rel => exact ⟨k + 1, by omega, by go_num, okTo_yes HOk.out HF.out, below_drewN HB.out _⟩
            case measure => simp [intOf]; omega
    · obtain rfl : k = ss.length := by omega
      have HF : Hid (namesB ss = decide (ss.length ≤ 5)) := by show _ = _; rw [namesB, HOk.out]; rfl
      clear ha hbr
      by_cases h5 : ss.length ≤ 5
      · rw [decide_eq_true h5] at HF
        go_wp2
        go_ret
        exact ⟨by rw [HF.out]; first | rfl | (simp; omega), HB.out⟩
      · rw [decide_eq_false h5] at HF
        go_wp2
        go_ret
        exact ⟨by rw [HF.out]; first | rfl | (simp; omega), HB.out⟩
end Go.Proofs.YtegmmaomaegjjaaGreatDoor
namespace Go.Proofs.YtegmmaomaegjjaaGreatDoor
open Go.RowKit

set_option maxHeartbeats 2000000 in
set_option maxRecDepth 100000 in
theorem specPaper (c : Paper) (a : Option Addr) (cap : Nat) (w : World) (hi : c.issuer.size ≤ maxLen) (hs : c.subject.size ≤ maxLen) (hl : c.names.length ≤ 1048576) (ht : totS c.names c.names.length ≤ 1048576) (ha : IsStrs w a c.names) :
    Calls Tryz.prog 51 #[c.val (.slice a c.names.length cap)] w fun e w' => e = .returned (.bool (paperB c)) ∧ Below w.heap.size w w' := by
  obtain ⟨ser, iss, sub, fr, till, key, names, ca, sk, se, ss⟩ := c
  simp only at hi hs hl ht ha
  unfold Paper.val
  simp only
  obtain ⟨R, hR⟩ : ∃ R, R = paperB ⟨ser, iss, sub, fr, till, key, names, ca, sk, se, ss⟩ := ⟨_, rfl⟩
  rw [← hR]
  have HR : Hid (R = (decide (1 ≤ ser) && decide (ser ≤ 1000000000) && nameB iss && nameB sub && timeB fr && timeB till && decide (fr ≤ till) && rightG key && namesB names)) := hR
  clear hR
  obtain ⟨w1, hw1⟩ : ∃ w1, w1 = w.alloc (.cells #[.int .i64 ser, .string iss, .string sub, .int .i64 fr, .int .i64 till, .int .i64 key, .slice a names.length cap, .bool ca, .int .i64 sk, .int .i64 se, .int .i64 ss] 27 (0, 0)) := ⟨_, rfl⟩
  have hrow : w1.heap[w.heap.size]? = some (.cells [Value.int .i64 ser, .string iss, .string sub, .int .i64 fr, .int .i64 till, .int .i64 key, .slice a names.length cap, .bool ca, .int .i64 sk, .int .i64 se, .int .i64 ss].toArray 27 (0, 0)) := by rw [hw1]; exact heap_alloc_new w _
  have B1 : Hid (Below w.heap.size w w1) := by rw [hw1]; exact (Below.refl _ _).alloc (Nat.le_refl _) _
  have A1 : Hid (IsStrs w1 a names) := ha.keep B1.out
  have c0 := rowFacts hrow 0 _ rfl
  have c1 := rowFacts hrow 1 _ rfl
  have c2 := rowFacts hrow 2 _ rfl
  have c3 := rowFacts hrow 3 _ rfl
  have c4 := rowFacts hrow 4 _ rfl
  have c5 := rowFacts hrow 5 _ rfl
  have c6 := rowFacts hrow 6 _ rfl
  have HNm : Hid (∀ V, IsStrs V a names → Calls Tryz.prog 83 #[.slice a names.length cap] V fun e w' => e = .returned (.bool (namesB names)) ∧ Below V.heap.size V w') := fun V hV => specNames a names cap V hl ht hV
  have HRow : Hid (w1.heap[w.heap.size]? = some (.cells [Value.int .i64 ser, .string iss, .string sub, .int .i64 fr, .int .i64 till, .int .i64 key, .slice a names.length cap, .bool ca, .int .i64 sk, .int .i64 se, .int .i64 ss].toArray 27 (0, 0))) := hrow
  generalize names.length = nl at *
  clear hrow ha hl ht
  go_enter Tryz.func51, Tryz.ntmps51
  go_upto_region 1 with fail
  rw [← hw1]
  clear hw1
  go_wp2_with fail
  refine (specIs ser 1 1000000000 _).mono ?_
  rintro e w2 ⟨rfl, rfl⟩
  cases h1 : (decide (1 ≤ ser) && decide (ser ≤ 1000000000)) with
  | false =>
    have HF : Hid (R = false) := by show _ = _; rw [HR.out]; simp [h1]
    go_wp2
    go_ret
    exact ⟨by rw [HF.out]; rfl, B1.out⟩
  | true =>
  rw [h1] at HR
  go_wp2_with fail
  refine (specNameB iss _ hi).mono ?_
  rintro e w2 ⟨rfl, rfl⟩
  cases h3 : nameB iss with
  | false =>
    have HF : Hid (R = false) := by show _ = _; rw [HR.out]; simp [h3]
    go_wp2
    go_ret
    exact ⟨by rw [HF.out]; rfl, B1.out⟩
  | true =>
  rw [h3] at HR
  go_wp2_with fail
  refine (specNameB sub _ hs).mono ?_
  rintro e w2 ⟨rfl, rfl⟩
  cases h4 : nameB sub with
  | false =>
    have HF : Hid (R = false) := by show _ = _; rw [HR.out]; simp [h4]
    go_wp2
    go_ret
    exact ⟨by rw [HF.out]; rfl, B1.out⟩
  | true =>
  rw [h4] at HR
  go_wp2_with fail
  refine (specTime fr _).mono ?_
  rintro e w2 ⟨rfl, rfl⟩
  cases h5 : timeB fr with
  | false =>
    have HF : Hid (R = false) := by show _ = _; rw [HR.out]; simp [h5]
    go_wp2
    go_ret
    exact ⟨by rw [HF.out]; rfl, B1.out⟩
  | true =>
  rw [h5] at HR
  go_wp2_with fail
  refine (specTime till _).mono ?_
  rintro e w2 ⟨rfl, rfl⟩
  cases h6 : timeB till with
  | false =>
    have HF : Hid (R = false) := by show _ = _; rw [HR.out]; simp [h6]
    go_wp2
    go_ret
    exact ⟨by rw [HF.out]; rfl, B1.out⟩
  | true =>
  rw [h6] at HR
  by_cases h7 : fr ≤ till
  rotate_left
  · have h7' : till < fr := by omega
    have HF : Hid (R = false) := by show _ = _; rw [HR.out]; simp [h7]
    go_wp2
    go_ret
    exact ⟨by rw [HF.out]; rfl, B1.out⟩
  rw [decide_eq_true h7] at HR
  go_wp2_with fail
  refine (specGroupRight key _).mono ?_
  rintro e w2 ⟨rfl, rfl⟩
  cases h8 : rightG key with
  | false =>
    have HF : Hid (R = false) := by show _ = _; rw [HR.out]; simp [h8]
    go_wp2
    go_ret
    exact ⟨by rw [HF.out]; rfl, B1.out⟩
  | true =>
  rw [h8] at HR
  have HF : Hid (R = namesB names) := by show _ = _; rw [HR.out]; simp
  go_wp2_with fail
  refine (HNm.out _ A1.out).mono ?_
  rintro e w4 ⟨rfl, b4⟩
  rw [← HF.out]
  have B4 : Hid (Below w.heap.size w w4) := B1.out.trans (b4.mono B1.out.size)
  clear b4
  go_wp2
  go_ret
  exact ⟨rfl, B4.out⟩
end Go.Proofs.YtegmmaomaegjjaaGreatDoor
namespace Go.Proofs.YtegmmaomaegjjaaGreatDoor
open Go.RowKit Go.Lib

theorem own_slice {w : World} {B e n : Nat} {v : Value} {xs : List Value} (h : w.ownsRow B e 1 v n xs) (hn : 0 < n) : ∃ g cap, v = .slice (some ⟨g, 0, none⟩) n cap := by
  rcases h.2 with ⟨_, h'⟩ | ⟨g, cap, _, h', _⟩
  · omega
  · exact ⟨g, cap, h'⟩
def sLen : Value → Nat
  | .slice _ n _ => n
  | _ => 0
set_option maxHeartbeats 1000000 in
set_option maxRecDepth 100000 in
theorem specBytes (n : Int) (w : World) (h0 : -9223372036854775808 ≤ n) (h1 : n ≤ 9223372036854775807) :
    Calls Tryz.prog 116 #[.int .i64 n] w fun e w' => e = .returned (.string (strOfNums (intL n))) ∧ Below w.heap.size w w' := by
  obtain ⟨i0, hi, hz0, hz1, hz2⟩ := info_parts infoByte
  have hF := fits7 h0 h1
  go_enter Tryz.func116, Tryz.ntmps116
  go_wp2_with fail
  go_loopw [3, 4] (fun b r wr => ∃ (m : Int) (f g c : Nat) (tl : List Int), Fits f m ∧ -9223372036854775808 ≤ m ∧ m ≤ 9223372036854775807 ∧ f + tl.length ≤ 7 ∧ b = .slice (some ⟨g, 0, none⟩) (tl.length + 1) c ∧ r = .int .i64 (m / 256) ∧
      wr.ownsRow w.heap.size 5 1 (.slice (some ⟨g, 0, none⟩) (tl.length + 1) c) (tl.length + 1) ((m % 256 :: tl).map (Value.int .u8)) ∧ Below w.heap.size w wr ∧ w.heap.size ≤ wr.heap.size ∧ intF f m ++ tl = intL n)
    (fun b _ _ => 10 - sLen b)
  case atStart =>
    exact ⟨n, 7, _, 1, [], hF, h0, h1, by simp, rfl, rfl, World.ownsRow_lit _ _ 1 (Nat.le_refl _) (by decide) rfl, (Below.refl _ _).alloc (Nat.le_refl _) _, by simp, by simp [intL]⟩
  case round =>
    obtain ⟨m, f, g, c, tl, hf, m0, m1, hlen, rfl, rfl, hown, hbel, hsz, heq⟩ := hrel
    have c0 : wr.cell? ⟨g, 0, none⟩ = some (.int .u8 (m % 256)) := by have := hown.cellAt 0 (by omega); simpa using this
    have HE : Hid (intF f m ++ tl = intL n) := heq
    have HF : Hid (Fits f m) := hf
    obtain ⟨q, hq⟩ : ∃ q, q = m / 256 := ⟨_, rfl⟩
    obtain ⟨r, hr⟩ : ∃ r, r = m % 256 := ⟨_, rfl⟩
    have q0 : -9223372036854775808 ≤ q := by omega
    have q1 : q ≤ 9223372036854775807 := by omega
    have r0 : 0 ≤ r := by omega
    have r1 : r < 256 := by omega
    have HM : Hid (q = m / 256 ∧ r = m % 256) := ⟨hq, hr⟩
    rw [← hq]
    rw [← hr] at c0 hown
    by_cases hst : -128 ≤ m ∧ m < 128
    · have HS : Hid (intL n = r :: tl) := by
        show _ = _
        rw [← HE.out, intF_last hst.1 hst.2, hr]; rfl
      have hcv := run_convert_own (P := Tryz.prog) (src := 22) (dst := 9) Tryz.underlying22 Tryz.underlying5 Tryz.underlying9 hown
      have hc : (q = 0 ∧ r < 128) ∨ (q = -1 ∧ 128 ≤ r) := by omega
      clear hq hr hst heq hf m0 m1 hF h0 h1 hown HE HF HM
      rcases hc with ⟨rfl, hc⟩ | ⟨rfl, hc⟩
      all_goals
        go_wp2
        go_ret
        exact ⟨by rw [HS.out]; rfl, hbel⟩
    · have hc : (q = 0 ∧ decide (r < 128) = false ∧ decide (128 ≤ r) = true) ∨ (q = -1 ∧ decide (r < 128) = true ∧ decide (128 ≤ r) = false) ∨ ((q == 0) = false ∧ (q == -1) = false) := by simp; omega
      have HN : Hid (¬(-128 ≤ m ∧ m < 128)) := hst
      have HSRC : Hid (∀ j u, ((r :: tl).map (Value.int .u8))[j]? = some u → wr.cell? ⟨g, j, none⟩ = some u) := fun j u hj => by
        rw [hown.cellAt j (by
          rcases Nat.lt_or_ge j (tl.length + 1) with h | h
          · omega
          · rw [List.getElem?_eq_none (by simpa using h)] at hj; cases hj)]
        exact hj
      clear hq hr hst heq hf m0 m1 hF h0 h1
      have hlt := (hown.lt g rfl).2
      rcases hc with ⟨rfl, hc, hc'⟩ | ⟨rfl, hc, hc'⟩ | ⟨hc, hc'⟩
      all_goals
        go_wp2_with (at_builtin; refine wpList_append_own _ rfl _ _ 22 rfl w.heap.size 5 i0 (.int .u8 0) 1 1 Tryz.underlying22 hi hz0 hz1 hz2 rfl (by decide) _ 1 _ rfl (World.ownsRow_lit _ _ 1 hsz (by decide) rfl) ⟨g, 0, none⟩ (tl.length + 1) c ((r :: tl).map (Value.int .u8)) rfl (by simp) ?c1 ?c2 ?c3 ?c4 ?c5 ?_)
        case c1 =>
          intro j u hj
          rw [Addr.add_lit, Nat.zero_add, World.cell?_alloc_lt _ _ ⟨g, j, none⟩ hlt]
          exact HSRC.out j u hj
        case c2 => intro u hu; exact oneCell_ints .u8 _ u hu
        case c3 => unfold maxLen; omega
        case c4 => omega
        case c5 => simp; omega
        intro v' w1 hown' hgrow hx
        obtain ⟨g', cap, rfl⟩ := own_slice hown' (by omega)
        have hb1 : Below w.heap.size w w1 := (hbel.alloc hsz _).grown hgrow (by simp; omega) (fun k hk => (World.ownsRow_lit (base := w.heap.size) (e := 5) (size := 1) wr #[.int .u8 0] 1 hsz (by decide) rfl).lt k hk |>.1)
        have hs1 : w.heap.size ≤ w1.heap.size := hb1.size
        have HO : Hid (w1.ownsRow w.heap.size 5 1 (.slice (some ⟨g', 0, none⟩) ((r :: tl).length + 1) cap) ((r :: tl).length + 1) (((m / 256) % 256 :: r :: tl).map (Value.int .u8))) := by
          show World.ownsRow _ _ _ _ _ _ _
          rw [← HM.out.1]
          have e1 : 1 + (tl.length + 1) = (r :: tl).length + 1 := by simp; omega
          rw [e1] at hown'
          simpa using hown'
        have hw : 1 + (tl.length + 1) = (r :: tl).length + 1 := by simp; omega
        rw [hw]
        clear hown' hgrow hx hown hbel hlt HSRC
        go_wp2
        go_roundw
        case rel =>
          obtain ⟨f', rfl, hf', he⟩ := intF_more HN.out HF.out
          have hq := HM.out.1
          refine ⟨m / 256, f', g', cap, r :: tl, hf', by omega, by omega, by simp; omega, rfl, ?_, HO.out, hb1, hs1, ?_⟩
          · first | (rw [← hq]; done) | (rw [← hq]; rfl)
          · rw [← HE.out, he, HM.out.2]; simp
        case measure => simp [sLen]; omega
end Go.Proofs.YtegmmaomaegjjaaGreatDoor
namespace Go.Proofs.YtegmmaomaegjjaaGreatDoor
open Go.RowKit Go.Lib

theorem specDerInt (n : Int) (w : World) (h0 : -9223372036854775808 ≤ n) (h1 : n ≤ 9223372036854775807) :
    Calls Tryz.prog 88 #[.int .i64 n] w fun e w' => e = .returned (.string (thingD 2 (strOfNums (intL n)))) ∧ Below w.heap.size w w' := by
  have hl := (intL_len n).2
  have HB : Hid (∀ v : World, Calls Tryz.prog 116 #[.int .i64 n] v fun e w' => e = .returned (.string (strOfNums (intL n))) ∧ Below v.heap.size v w') := fun v => specBytes n v h0 h1
  have hs : (strOfNums (intL n)).size ≤ 8 := by rw [strOfNums_size]; exact hl
  generalize strOfNums (intL n) = s at *
  go_enter Tryz.func88, Tryz.ntmps88
  go_wp2_with fail
  refine (HB.out _).mono ?_
  rintro e w1 ⟨rfl, hb1⟩
  go_wp2_with fail
  refine (specThing 2 s _ (by omega) (by omega) (by omega)).mono ?_
  rintro e w2 ⟨rfl, hb2⟩
  go_wp2
  go_ret
  exact ⟨rfl, hb1.trans (hb2.mono hb1.size)⟩
end Go.Proofs.YtegmmaomaegjjaaGreatDoor
namespace Go.Proofs.YtegmmaomaegjjaaGreatDoor
open Go.RowKit


theorem specFold (n : Int) (w : World) (h0 : -9223372036854775808 ≤ n) (h1 : n ≤ 9223372036854775807) :
    Calls Tryz.prog 115 #[.int .i64 n] w fun e w' => e = .returned (.int .u64 (foldI n : Int)) ∧ w' = w := by
  by_cases hn : n < 0
  · go_enter Tryz.func115, Tryz.ntmps115
    go_wp2
    go_ret
    exact ⟨ret_int (by unfold foldI; rw [if_pos hn]; omega), rfl⟩
  · go_enter Tryz.func115, Tryz.ntmps115
    go_wp2
    go_ret
    exact ⟨ret_int (by unfold foldI; rw [if_neg (by omega)]; omega), rfl⟩

theorem putRel {B : Nat} {w wr w1 : World} {v v' : Value} {xs : List Int} {x : Int} (o : Obj) (hB : B ≤ wr.heap.size) (hb : Below B w wr) (hown : wr.ownsRow B 5 1 v xs.length (xs.map (Value.int .u8)))
    (hown' : w1.ownsRow B 5 1 v' (xs.length + 1) (xs.map (Value.int .u8) ++ [Value.int .u8 x])) (hg : (wr.alloc o).grownBy w1 v.ownBlock) :
    w1.ownsRow B 5 1 v' (xs ++ [x]).length ((xs ++ [x]).map (Value.int .u8)) ∧ Below B w w1 ∧ B ≤ w1.heap.size := by
  refine ⟨by simpa using hown', (hb.alloc hB o).grown hg (by simp; omega) (fun k hk => (hown.lt k hk).1), ?_⟩
  have := hg.size
  simp at this
  omega

set_option maxHeartbeats 1000000 in
set_option maxRecDepth 100000 in
theorem specPut (n : Int) (w : World) (h0 : -9223372036854775808 ≤ n) (h1 : n ≤ 9223372036854775807) :
    Calls Tryz.prog 85 #[.int .i64 n] w fun e w' => e = .returned (.string (strOfNums (putF 9 (foldI n)))) ∧ Below w.heap.size w w' := by
  obtain ⟨i0, hi, hz0, hz1, hz2⟩ := info_parts infoByte
  have hf : (foldI n : Int) ≤ 18446744073709551615 := by unfold foldI; split <;> omega
  obtain ⟨u, hu⟩ : ∃ u, u = foldI n := ⟨_, rfl⟩
  rw [← hu] at hf ⊢
  have HU : Hid (u = foldI n) := hu
  clear hu
  go_enter Tryz.func85, Tryz.ntmps85
  go_wp2_with fail
  refine (specFold n _ h0 h1).mono ?_
  rintro e w' ⟨rfl, rfl⟩
  rw [← HU.out]
  go_wp2_with fail
  go_loopw [3, 4] (fun a b wr => ∃ (x f : Nat) (xs : List Int), (x : Int) ≤ 18446744073709551615 ∧ x < pw f ∧ xs.length + f ≤ 9 ∧ a = .int .u64 x ∧ wr.ownsRow w'.heap.size 5 1 b xs.length (xs.map (Value.int .u8)) ∧
      Below w'.heap.size w' wr ∧ w'.heap.size ≤ wr.heap.size ∧ xs ++ putF f x = putF 9 u)
    (fun a _ _ => (intOf a).toNat)
  case atStart =>
    exact ⟨u, 9, [], hf, by rw [pw9]; omega, by simp, rfl, World.ownsRow_made _ #[] 0 (Nat.le_refl _) (Nat.zero_le _) rfl, (Below.refl _ _).alloc (Nat.le_refl _) _, by simp, by simp⟩
  case round =>
    obtain ⟨x, f, xs, hx, hpw, hlen, rfl, hown, hbel, hsz, heq⟩ := hrel
    have HE : Hid (xs ++ putF f x = putF 9 u) := heq
    have HP : Hid (x < pw f) := hpw
    clear heq hpw hf h0 h1
    by_cases hlt : 128 ≤ x
    · go_wp2_with (at_builtin; refine wpList_append_own _ rfl _ _ 22 rfl w'.heap.size 5 i0 (.int .u8 0) 1 1 Tryz.underlying22 hi hz0 hz1 hz2 rfl (by decide) _ _ _ rfl (hown.alloc _) ⟨wr.heap.size, 0, none⟩ 1 1 [.int .u8 ((x : Int) % 128 + 128)] rfl rfl ?c1 ?c2 ?c3 ?c4 ?c5 ?_)
      case c1 => exact cells_one (by simp)
      case c2 => intro u hu; simp at hu; subst hu; rfl
      case c3 => unfold maxLen; omega
      case c4 => omega
      case c5 => simp; omega
      intro v' w1 hown' hgrow _
      have R := putRel _ hsz hbel hown hown' hgrow
      clear hown' hgrow hown hbel
      go_wp2
      go_roundw
      case rel =>
        obtain ⟨g, rfl, hg⟩ := pw_step HP.out hlt
        have he := HE.out
        rw [putF_more hlt] at he
        refine ⟨x / 128, g, xs ++ [(x : Int) % 128 + 128], by omega, hg, by simp; omega, by go_num, R.1, R.2.1, R.2.2, ?_⟩
        rw [List.append_assoc, ← he]
        simp
      case measure => simp [intOf]; omega
    · go_wp2_with (at_builtin; refine wpList_append_own _ rfl _ _ 22 rfl w'.heap.size 5 i0 (.int .u8 0) 1 1 Tryz.underlying22 hi hz0 hz1 hz2 rfl (by decide) _ _ _ rfl (hown.alloc _) ⟨wr.heap.size, 0, none⟩ 1 1 [.int .u8 (x : Int)] rfl rfl ?d1 ?d2 ?d3 ?d4 ?d5 ?_)
      case d1 => exact cells_one (by simp)
      case d2 => intro u hu; simp at hu; subst hu; rfl
      case d3 => unfold maxLen; omega
      case d4 => omega
      case d5 => simp; omega
      intro v' w1 hown' hgrow _
      have R := putRel _ hsz hbel hown hown' hgrow
      clear hown' hgrow hown hbel
      have hcv := run_convert_own (P := Tryz.prog) (src := 22) (dst := 9) Tryz.underlying22 Tryz.underlying5 Tryz.underlying9 R.1
      have HR := R.2.1
      clear R
      go_wp2
      go_ret
      refine ⟨?_, HR⟩
      have he := HE.out
      rw [putF_last (by omega)] at he
      rw [← he]
      rfl
end Go.Proofs.YtegmmaomaegjjaaGreatDoor
