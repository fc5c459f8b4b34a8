/- impl.putNumbers, putNames, moreArcs, (moreParts).layNames, layCa, walked. impl.(moreParts).layNames, layCa, walked. impl.putMore, walked. impl.layThing at a number, impl.DerInt, walked. -/
import Derived.Test.YtfliacfeebooeaaGreatDoorCR07
import Derived.Test.YtfliacfeebooeaaGreatDoorCR06
import Derived.Deep.Cut
import Derived.Deep.RegionHeld3
import Derived.Test.YtfliacfeebooeaaGreatDoorCR18
import Derived.Test.YtfliacfeebooeaaGreatDoorCR14
import Derived.Test.YtfliacfeebooeaaGreatDoorCR05
import Derived.Deep.RegionWith
namespace Go.Proofs.YtfliacfeebooeaaGreatDoor
open Go.RowKit

set_option maxHeartbeats 1000000 in
set_option maxRecDepth 100000 in
theorem implHosts (a : Option Addr) (ss : List ByteArray) (c : Nat) (w : World) (hl : ss.length ≤ 5) (hs : ∀ i, i < ss.length → (tAt ss i).size ≤ 40) (ha : IsStrs w a ss) :
    Calls Tryz.prog 128 #[.slice a ss.length c] w fun e w' => e = .returned (.string (seqD (hostsD ss ss.length))) ∧ Below w.heap.size w w' := by
  have HS : Hid (∀ i, i < ss.length → (tAt ss i).size ≤ 40) := hs
  have HL : Hid (∀ k, k ≤ ss.length → (hostsD ss k).size ≤ 44 * k) := fun k hk => hostsD_le k (fun i hi => hs i (by omega))
  clear hs
  go_enter Tryz.func128, Tryz.ntmps128
  go_wp2
  go_loopw [3, 8] (fun t i wr => ∃ k : Nat, k ≤ ss.length ∧ i = .int .i64 k ∧ t = .string (hostsD ss k) ∧ Below w.heap.size w wr) (fun _ i _ => ss.length - (intOf i).toNat)
  case atStart => exact ⟨0, Nat.zero_le _, rfl, rfl, Below.refl _ _⟩
  case round =>
    obtain ⟨k, hk, rfl, rfl, hbr⟩ := hrel
    have HB : Hid (Below w.heap.size w wr) := hbr
    by_cases hlt : k < ss.length
    · obtain ⟨x, o, rfl, hc⟩ : ∃ x o, a = some ⟨x, o, none⟩ ∧ ∀ i, i < ss.length → wr.cell? ⟨x, o + i, none⟩ = some (.string (tAt ss i)) := by
        rcases ha.below hbr ha.lt with rfl | h
        · simp at hlt
        · exact h
      have hck := hc k hlt
      have hz := HS.out k hlt
      have z0 := HL.out k (by omega)
      have z1 := thingD_le 130 (tAt ss k)
      have HP : Hid (∀ V, Calls Tryz.prog 76 #[.int .i64 130, .string (tAt ss k)] V fun e w' => e = .returned (.string (thingD 130 (tAt ss k))) ∧ Below V.heap.size V w') := fun V => by
        have := implDerPut 130 (tAt ss k) V (by unfold maxLen; omega)
        rw [putD_right (by decide) (by omega)] at this
        exact this
      have HJ : Hid (∀ V, Calls Tryz.prog 74 #[.string (hostsD ss k), .string (thingD 130 (tAt ss k))] V fun e w' => e = .returned (.string (hostsD ss (k + 1))) ∧ Below V.heap.size V w') := fun V => joinTexts _ _ V (by omega) (by omega)
      have a0 : (0 : Int) ≤ (k : Int) := by omega
      have b0 : (k : Int) < (ss.length : Int) := by omega
      have HR : Hid (∃ j : Nat, j ≤ ss.length ∧ Value.int .i64 ((k : Int) + 1) = .int .i64 (j : Int) ∧ Value.string (hostsD ss (k + 1)) = .string (hostsD ss j)) := ⟨k + 1, by omega, by congr 1, rfl⟩
      generalize hostsD ss (k + 1) = h1 at *
      generalize thingD 130 (tAt ss k) = h2 at *
      generalize tAt ss k = z at *
      clear hc ha hbr HS HL z0 z1 hz
      go_wp2_with fail
      refine (HP.out _).mono ?_
      rintro e w2 ⟨rfl, b2⟩
      have B2 : Hid (Below w.heap.size w w2) := HB.out.trans (b2.mono HB.out.size)
      clear b2
      go_wp2_with fail
      refine (HJ.out _).mono ?_
      rintro e w3 ⟨rfl, b3⟩
      have B3 : Hid (Below w.heap.size w w3) := B2.out.trans (b3.mono B2.out.size)
      clear b3
      go_wp2_with fail
      go_roundw
      case rel =>
        obtain ⟨j, j1, j2, j3⟩ := HR.out
        exact ⟨j, j1, by first | exact j2 | (rw [← j2]; simp; omega), j3, B3.out⟩
      case measure => simp [intOf]; omega
    · obtain rfl : k = ss.length := by omega
      have z0 := HL.out ss.length (Nat.le_refl _)
      have HP : Hid (∀ V (g : Nat), V.heap[g]? = some (.cells #[.string (hostsD ss ss.length)] 9 (0, 0)) → Calls Tryz.prog 36 #[.slice (some ⟨g, 0, none⟩) 1 1] V fun e w' => e = .returned (.string (seqD (hostsD ss ss.length))) ∧ Below V.heap.size V w') := fun V g hg => implSeq1 _ g V (by omega) hg
      clear ha hbr HS HL
      go_wp2_with fail
      refine (HP.out _ _ (heap_alloc_new wr _)).mono ?_
      rintro e w2 ⟨rfl, b2⟩
      have B2 : Hid (Below w.heap.size w w2) := (HB.out.alloc HB.out.size _).trans (b2.mono (by have := HB.out.size; simp; omega))
      clear b2
      go_wp2
      go_ret
      exact ⟨rfl, B2.out⟩
end Go.Proofs.YtfliacfeebooeaaGreatDoor
namespace Go.Proofs.YtfliacfeebooeaaGreatDoor
open Go.RowKit

set_option maxHeartbeats 4000000 in
set_option maxRecDepth 100000 in
theorem implLayNames (a : Option Addr) (names : List ByteArray) (cap : Nat) (ca : Bool) (w : World) (hl : names.length ≤ 5) (hs : ∀ i, i < names.length → (tAt names i).size ≤ 40) (ha : IsStrs w a names) :
    Calls Tryz.prog 102 #[.agg #[.slice a names.length cap, .bool ca]] w fun e w' => e = .returned (.string (namesD names)) ∧ Below w.heap.size w w' := by
  by_cases hn : names.length = 0
  · have HF : Hid (namesD names = ⟨#[]⟩) := if_pos hn
    rw [hn]
    go_enter Tryz.func102, Tryz.ntmps102
    go_wp2
    go_ret
    exact ⟨by rw [HF.out]; rfl, (Below.refl _ w).alloc (Nat.le_refl _) _⟩
  have hF : namesD names = seqD (oidT [2, 5, 29, 17] ++ thingD 4 (seqD (hostsD names names.length))) := if_neg hn
  have HHo : Hid (∀ V, IsStrs V a names → Calls Tryz.prog 128 #[.slice a names.length cap] V fun e w' => e = .returned (.string (seqD (hostsD names names.length))) ∧ Below V.heap.size V w') := fun V hV => implHosts a names cap V hl hs hV
  have zH := hostsD_le (ss := names) names.length hs
  have y1 := arcs_lit arcs17
  have y2 := thingD_le 4 (seqD (hostsD names names.length))
  have y3 := seqD_le (hostsD names names.length)
  obtain ⟨w1, hw1⟩ : ∃ w1, w1 = w.alloc (.cells #[.slice a names.length cap, .bool ca] 57 (0, 0)) := ⟨_, rfl⟩
  have r0 : w1.heap[w.heap.size]? = some (.cells [Value.slice a names.length cap, .bool ca].toArray 57 (0, 0)) := by rw [hw1]; exact heap_alloc_new w _
  have B1 : Hid (Below w.heap.size w w1) := by rw [hw1]; exact (Below.refl _ _).alloc (Nat.le_refl _) _
  have z1 : w.heap.size < w1.heap.size := by rw [hw1]; simp
  have HK : Hid (∀ V, Below w1.heap.size w1 V → V.cell? ⟨w.heap.size, 0, none⟩ = some (.slice a names.length cap)) := fun V hV => rowFacts ((hV.block _ z1).trans r0) 0 _ rfl
  have HA : Hid (∀ V, Below w1.heap.size w1 V → IsStrs V a names) := fun V hV => (ha.keep B1.out).keep hV
  have HB : Hid (∀ V, Below w1.heap.size w1 V → Below w.heap.size w V) := fun V hV => B1.out.trans (hV.mono B1.out.size)
  have PA : Hid (∀ V, Hid (Below w1.heap.size w1 V) → Calls Tryz.prog 60 #[.int .i64 17] V fun e W => e = .returned (.slice (some ⟨V.heap.size, 0, none⟩) 4 4) ∧ Hid (W.heap[V.heap.size]? = some (.cells #[.int .i64 2, .int .i64 5, .int .i64 29, .int .i64 17] 2 (0, 0))) ∧ Hid (Below w1.heap.size w1 W)) := fun V hV => by
    refine (implArcs 17 V).mono ?_
    rintro e W ⟨rfl, hr, hW⟩
    exact ⟨rfl, hr, hV.out.trans (hW.mono hV.out.size)⟩
  have PO : Hid (∀ V (g : Nat), Hid (Below w1.heap.size w1 V) → Hid (V.heap[g]? = some (.cells #[.int .i64 2, .int .i64 5, .int .i64 29, .int .i64 17] 2 (0, 0))) → Calls Tryz.prog 73 #[.slice (some ⟨g, 0, none⟩) 4 4] V fun e W => e = .returned (.string (oidT [2, 5, 29, 17])) ∧ Hid (Below w1.heap.size w1 W)) := fun V g hV hg => (implOid4 2 5 29 17 g V arcs17 hg.out).mono fun e W h => ⟨h.1, hV.out.trans (h.2.mono hV.out.size)⟩
  have PH : Hid (∀ V, Hid (Below w1.heap.size w1 V) → Calls Tryz.prog 128 #[.slice a names.length cap] V fun e W => e = .returned (.string (seqD (hostsD names names.length))) ∧ Hid (Below w1.heap.size w1 W)) := fun V hV => (HHo.out V (HA.out V hV.out)).mono fun e W h => ⟨h.1, hV.out.trans (h.2.mono hV.out.size)⟩
  have PP : Hid (∀ V (g : Nat), Hid (Below w1.heap.size w1 V) → V.heap[g]? = some (.cells #[.string (seqD (hostsD names names.length))] 9 (0, 0)) → Calls Tryz.prog 69 #[.int .i64 4, .slice (some ⟨g, 0, none⟩) 1 1] V fun e W => e = .returned (.string (thingD 4 (seqD (hostsD names names.length)))) ∧ Hid (Below w1.heap.size w1 W)) := fun V g hV hg => (implParts1 4 _ g V (by decide) (by omega) hg).mono fun e W h => ⟨h.1, hV.out.trans (h.2.mono hV.out.size)⟩
  have PS : Hid (∀ V (g : Nat), Hid (Below w1.heap.size w1 V) → V.heap[g]? = some (.cells #[.string (oidT [2, 5, 29, 17]), .string (thingD 4 (seqD (hostsD names names.length)))] 9 (0, 0)) → Calls Tryz.prog 36 #[.slice (some ⟨g, 0, none⟩) 2 2] V fun e W => e = .returned (.string (namesD names)) ∧ Hid (Below w1.heap.size w1 W)) := fun V g hV hg => by
    rw [hF]
    refine (implSeq2 _ _ g V (by omega) hg).mono ?_
    rintro e W ⟨rfl, hW⟩
    exact ⟨rfl, hV.out.trans (hW.mono hV.out.size)⟩
  have AL : Hid (∀ V o, Hid (Below w1.heap.size w1 V) → Hid (Below w1.heap.size w1 (V.alloc o))) := fun V o h => h.out.alloc h.out.size o
  have I1 : Hid (Below w1.heap.size w1 w1) := Below.refl _ _
  have D1 : Hid (Below w1.heap.size w1 w1.drew) := I1.out.drew
  have hni : (names.length : Int) ≠ 0 := by omega
  have hnb : ((names.length : Int) == 0) = false := by rw [beq_eq_false_iff_ne]; exact hni
  clear r0 ha z1 B1 HHo zH y1 y2 y3 hs hF
  generalize namesD names = N at *
  generalize thingD 4 (seqD (hostsD names names.length)) = q3 at *
  generalize seqD (hostsD names names.length) = q2 at *
  generalize oidT [2, 5, 29, 17] = q1 at *
  generalize names.length = nl at *
  have c0 := HK.out w1 I1.out
  go_enter Tryz.func102, Tryz.ntmps102
  go_upto_region 1 with fail
  rw [← hw1]
  clear hw1
  go_wp2_with fail
  go_region_held3 (fun V => V.cell? ⟨w.heap.size, 0, none⟩ = some (.slice a nl cap)) (first | assumption | exact HK.out _ (Hid.out (by assumption)) | go_keep)
    (first
      | (go_at_call 60; refine (PA.out _ (by assumption)).mono ?_; rintro r V1 ⟨rfl, kr, k1⟩)
      | (go_at_call 73; refine (PO.out _ _ (by assumption) (by assumption)).mono ?_; rintro r V2 ⟨rfl, k2⟩)
      | (go_at_call 128; refine (PH.out _ (by assumption)).mono ?_; rintro r V3 ⟨rfl, k3⟩)
      | (go_at_call 69; refine (PP.out _ _ (AL.out _ _ (by assumption)) (heap_alloc_new _ _)).mono ?_; rintro r V4 ⟨rfl, k4⟩)
      | (go_at_call 36; refine (PS.out _ _ (AL.out _ _ (by assumption)) (heap_alloc_new _ _)).mono ?_; rintro r V5 ⟨rfl, k5⟩))
  go_wp2
  go_ret
  exact ⟨rfl, HB.out _ k5.out⟩
set_option maxHeartbeats 4000000 in
set_option maxRecDepth 100000 in
theorem implLayCa (v : Value) (ca : Bool) (w : World) :
    Calls Tryz.prog 103 #[.agg #[v, .bool ca]] w fun e w' => e = .returned (.string (caD ca)) ∧ Below w.heap.size w w' := by
  cases ca with
  | false =>
    go_enter Tryz.func103, Tryz.ntmps103
    go_wp2
    go_ret
    exact ⟨rfl, (Below.refl _ w).alloc (Nat.le_refl _) _⟩
  | true =>
    have hF : caD true = caT := rfl
    rw [hF]
    have x1 := arcs_lit arcs19
    have x2 := soD_le
    have x3 := seqD_le soD
    have x4 := thingD_le 4 (seqD soD)
    obtain ⟨w1, hw1⟩ : ∃ w1, w1 = w.alloc (.cells #[v, .bool true] 57 (0, 0)) := ⟨_, rfl⟩
    have B1 : Hid (Below w.heap.size w w1) := by rw [hw1]; exact (Below.refl _ _).alloc (Nat.le_refl _) _
    have r0 : w1.heap[w.heap.size]? = some (.cells [v, Value.bool true].toArray 57 (0, 0)) := by rw [hw1]; exact heap_alloc_new w _
    have c1 := rowFacts r0 1 _ rfl
    have HB : Hid (∀ V, Below w1.heap.size w1 V → Below w.heap.size w V) := fun V hV => B1.out.trans (hV.mono B1.out.size)
    have P0 : Hid (∀ V, Hid (Below w1.heap.size w1 V) → Calls Tryz.prog 76 #[.int .i64 1, .string ⟨#[255]⟩] V fun e W => e = .returned (.string (soD)) ∧ Hid (Below w1.heap.size w1 W)) := fun V hV => by
      have h := implDerPut 1 ⟨#[255]⟩ V (by show 1 ≤ maxLen; decide)
      rw [putD_right (by decide) (by show 1 ≤ 4000; omega)] at h
      refine h.mono ?_
      rintro e W ⟨rfl, hW⟩
      exact ⟨rfl, hV.out.trans (hW.mono hV.out.size)⟩
    have PA : Hid (∀ V, Hid (Below w1.heap.size w1 V) → Calls Tryz.prog 60 #[.int .i64 19] V fun e W => e = .returned (.slice (some ⟨V.heap.size, 0, none⟩) 4 4) ∧ Hid (W.heap[V.heap.size]? = some (.cells #[.int .i64 2, .int .i64 5, .int .i64 29, .int .i64 19] 2 (0, 0))) ∧ Hid (Below w1.heap.size w1 W)) := fun V hV => by
      refine (implArcs 19 V).mono ?_
      rintro e W ⟨rfl, hr, hW⟩
      exact ⟨rfl, hr, hV.out.trans (hW.mono hV.out.size)⟩
    have PO : Hid (∀ V (g : Nat), Hid (Below w1.heap.size w1 V) → Hid (V.heap[g]? = some (.cells #[.int .i64 2, .int .i64 5, .int .i64 29, .int .i64 19] 2 (0, 0))) → Calls Tryz.prog 73 #[.slice (some ⟨g, 0, none⟩) 4 4] V fun e W => e = .returned (.string (oidT [2, 5, 29, 19])) ∧ Hid (Below w1.heap.size w1 W)) := fun V g hV hg => (implOid4 2 5 29 19 g V arcs19 hg.out).mono fun e W h => ⟨h.1, hV.out.trans (h.2.mono hV.out.size)⟩
    have P1 : Hid (∀ V (g : Nat), Hid (Below w1.heap.size w1 V) → V.heap[g]? = some (.cells #[.string soD] 9 (0, 0)) → Calls Tryz.prog 36 #[.slice (some ⟨g, 0, none⟩) 1 1] V fun e W => e = .returned (.string (seqD soD)) ∧ Hid (Below w1.heap.size w1 W)) := fun V g hV hg => (implSeq1 _ g V (by omega) hg).mono fun e W h => ⟨h.1, hV.out.trans (h.2.mono hV.out.size)⟩
    have P2 : Hid (∀ V (g : Nat), Hid (Below w1.heap.size w1 V) → V.heap[g]? = some (.cells #[.string (seqD soD)] 9 (0, 0)) → Calls Tryz.prog 69 #[.int .i64 4, .slice (some ⟨g, 0, none⟩) 1 1] V fun e W => e = .returned (.string (thingD 4 (seqD soD))) ∧ Hid (Below w1.heap.size w1 W)) := fun V g hV hg => (implParts1 4 _ g V (by decide) (by omega) hg).mono fun e W h => ⟨h.1, hV.out.trans (h.2.mono hV.out.size)⟩
    have P3 : Hid (∀ V (g : Nat), Hid (Below w1.heap.size w1 V) → V.heap[g]? = some (.cells #[.string (oidT [2, 5, 29, 19]), .string soD, .string (thingD 4 (seqD soD))] 9 (0, 0)) → Calls Tryz.prog 36 #[.slice (some ⟨g, 0, none⟩) 3 3] V fun e W => e = .returned (.string (caT)) ∧ Hid (Below w1.heap.size w1 W)) := fun V g hV hg => (implSeq3 _ _ _ g V (by omega) hg).mono fun e W h => ⟨h.1, hV.out.trans (h.2.mono hV.out.size)⟩
    have AL : Hid (∀ V o, Hid (Below w1.heap.size w1 V) → Hid (Below w1.heap.size w1 (V.alloc o))) := fun V o h => h.out.alloc h.out.size o
    have I1 : Hid (Below w1.heap.size w1 w1) := Below.refl _ _
    clear x1 x2 x3 x4 r0 B1 hF
    generalize caT = q5 at *
    generalize thingD 4 (seqD soD) = q4 at *
    generalize seqD soD = q3 at *
    generalize soD = q2 at *
    generalize oidT [2, 5, 29, 19] = q1 at *
    go_enter Tryz.func103, Tryz.ntmps103
    go_upto_region 1 with fail
    rw [← hw1]
    clear hw1
    go_wp2_with fail
    refine (P0.out _ I1).mono ?_
    rintro e V1 ⟨rfl, k1⟩
    go_wp2_with fail
    refine (PA.out _ k1).mono ?_
    rintro e V2 ⟨rfl, kr, k2⟩
    go_wp2_with fail
    refine (PO.out _ _ k2 kr).mono ?_
    rintro e V3 ⟨rfl, k3⟩
    go_wp2_with fail
    refine (P1.out _ _ (AL.out _ _ k3) (heap_alloc_new V3 _)).mono ?_
    rintro e V4 ⟨rfl, k4⟩
    go_wp2_with fail
    refine (P2.out _ _ (AL.out _ _ k4) (heap_alloc_new V4 _)).mono ?_
    rintro e V5 ⟨rfl, k5⟩
    go_wp2_with fail
    refine (P3.out _ _ (AL.out _ _ k5) (heap_alloc_new V5 _)).mono ?_
    rintro e V6 ⟨rfl, k6⟩
    go_wp2
    go_ret
    exact ⟨rfl, HB.out _ k6.out⟩
end Go.Proofs.YtfliacfeebooeaaGreatDoor
namespace Go.Proofs.YtfliacfeebooeaaGreatDoor
open Go.RowKit

set_option maxHeartbeats 4000000 in
set_option maxRecDepth 100000 in
theorem implMore (a : Option Addr) (names : List ByteArray) (cap : Nat) (ca : Bool) (w : World) (hl : names.length ≤ 5) (hs : ∀ i, i < names.length → (tAt names i).size ≤ 40) (ha : IsStrs w a names) :
    Calls Tryz.prog 72 #[.agg #[.slice a names.length cap, .bool ca]] w fun e w' => e = .returned (.string (moreD names ca)) ∧ Below w.heap.size w w' := by
  have zN := namesD_le hl hs
  have zC := caD_le ca
  have HLn : Hid (∀ V, IsStrs V a names → Calls Tryz.prog 102 #[.agg #[.slice a names.length cap, .bool ca]] V fun e w' => e = .returned (.string (namesD names)) ∧ Below V.heap.size V w') := fun V hV => implLayNames a names cap ca V hl hs hV
  have HLc : Hid (∀ V, Calls Tryz.prog 103 #[.agg #[.slice a names.length cap, .bool ca]] V fun e w' => e = .returned (.string (caD ca)) ∧ Below V.heap.size V w') := fun V => implLayCa _ ca V
  have HJ1 : Hid (∀ V, Calls Tryz.prog 74 #[.string ⟨#[]⟩, .string (namesD names)] V fun e w' => e = .returned (.string (namesD names)) ∧ Below V.heap.size V w') := fun V => by
    have h := joinTexts ⟨#[]⟩ (namesD names) V (by show 0 ≤ _; omega) (by omega)
    have e : (⟨#[]⟩ : ByteArray) ++ namesD names = namesD names := ByteArray.empty_append
    rw [e] at h
    exact h
  have HJ2 : Hid (∀ V, Calls Tryz.prog 74 #[.string (namesD names), .string (caD ca)] V fun e w' => e = .returned (.string (namesD names ++ caD ca)) ∧ Below V.heap.size V w') := fun V => joinTexts _ _ V (by omega) (by omega)
  have zT : (namesD names ++ caD ca).size ≤ 370 := by rw [ByteArray.size_append]; omega
  obtain ⟨M, hM⟩ : ∃ M, M = moreD names ca := ⟨_, rfl⟩
  rw [← hM]
  have HM : Hid (M = moreT (namesD names ++ caD ca)) := hM
  clear hM zN zC hl hs
  generalize namesD names ++ caD ca = T at *
  generalize namesD names = N at *
  generalize caD ca = C at *
  generalize names.length = nl at *
  have TR : Hid (∀ V W, Hid (Below w.heap.size w V) → Below V.heap.size V W → Hid (Below w.heap.size w W)) := fun V W h k => h.out.trans (k.mono h.out.size)
  have HA : Hid (∀ V, Below w.heap.size w V → IsStrs V a names) := fun V hV => ha.keep hV
  clear ha
  go_enter Tryz.func72, Tryz.ntmps72
  go_wp2_with fail
  refine wp_loop_rounds 3 ?_
  rw [rounds_succ]
  go_wp2_with fail
  refine (HLn.out _ (HA.out _ (((Below.refl _ w).alloc (Nat.le_refl _) _).alloc (by simp) _))).mono ?_
  rintro e V1 ⟨rfl, b1⟩
  have f1 := b1.cell (p := ⟨w.heap.size + 1, 1, none⟩) (by simp)
  have g0 := b1.cell (p := ⟨w.heap.size, 0, none⟩) (by simp; omega)
  have g1 := b1.cell (p := ⟨w.heap.size, 1, none⟩) (by simp; omega)
  have z1 := b1.size
  simp at f1 g0 g1 z1
  have K1 : Hid (Below w.heap.size w V1) := (((Below.refl _ w).alloc (Nat.le_refl _) _).alloc (by simp) _).trans (b1.mono (by simp; omega))
  clear b1
  go_wp2_with fail
  refine (HJ1.out _).mono ?_
  rintro e V2 ⟨rfl, b2⟩
  have K2 := TR.out _ _ K1 b2
  have f2 := (b2.cell (p := ⟨w.heap.size + 1, 1, none⟩) (show w.heap.size + 1 < V1.heap.size by omega)).trans f1
  have h0 := (b2.cell (p := ⟨w.heap.size, 0, none⟩) (show w.heap.size < V1.heap.size by omega)).trans g0
  have h1 := (b2.cell (p := ⟨w.heap.size, 1, none⟩) (show w.heap.size < V1.heap.size by omega)).trans g1
  clear b2 f1 g0 g1 K1 z1 HJ1 HLn
  go_wp2_with fail
  rw [rounds_succ]
  go_wp2_with fail
  refine (HLc.out _).mono ?_
  rintro e V3 ⟨rfl, b3⟩
  have K3 := TR.out _ _ K2 b3
  clear b3 f2 h0 h1 K2 HLc
  go_wp2_with fail
  refine (HJ2.out _).mono ?_
  rintro e V4 ⟨rfl, b4⟩
  have K4 := TR.out _ _ K3 b4
  clear b4 K3 HJ2
  go_wp2_with fail
  rw [rounds_succ]
  by_cases ht : T.size = 0
  · have HF : Hid (M = ⟨#[]⟩) := by show _ = _; rw [HM.out, moreT, if_pos ht]
    have he := isEmpty_of ht
    go_wp2
    go_ret
    exact ⟨by rw [HF.out]; rfl, K4.out⟩
  · have hF : M = thingD 163 (seqD T) := by rw [HM.out, moreT, if_neg ht]
    have he := isEmpty_not ht
    have x1 := seqD_le T
    have P1 : Hid (∀ V (g : Nat), V.heap[g]? = some (.cells #[.string T] 9 (0, 0)) → Calls Tryz.prog 36 #[.slice (some ⟨g, 0, none⟩) 1 1] V fun e w' => e = .returned (.string (seqD T)) ∧ Below V.heap.size V w') := fun V g hg => implSeq1 _ g V (by omega) hg
    have P2 : Hid (∀ V (g : Nat), V.heap[g]? = some (.cells #[.string (seqD T)] 9 (0, 0)) → Calls Tryz.prog 69 #[.int .i64 163, .slice (some ⟨g, 0, none⟩) 1 1] V fun e w' => e = .returned (.string M) ∧ Below V.heap.size V w') := fun V g hg => by rw [hF]; exact implParts1 163 _ g V (by decide) (by omega) hg
    clear hF x1 HM
    generalize seqD T = q at *
    have AL : Hid (∀ V o, Hid (Below w.heap.size w V) → Hid (Below w.heap.size w (V.alloc o))) := fun V o h => h.out.alloc h.out.size o
    go_wp2_with fail
    refine (P1.out _ _ (heap_alloc_new V4 _)).mono ?_
    rintro e V5 ⟨rfl, b5⟩
    have K5 := TR.out _ _ (AL.out _ _ K4) b5
    clear b5
    go_wp2_with fail
    refine (P2.out _ _ (heap_alloc_new V5 _)).mono ?_
    rintro e V6 ⟨rfl, b6⟩
    have K6 := TR.out _ _ (AL.out _ _ K5) b6
    clear b6
    go_wp2
    go_ret
    exact ⟨rfl, K6.out⟩
end Go.Proofs.YtfliacfeebooeaaGreatDoor
namespace Go.Proofs.YtfliacfeebooeaaGreatDoor
open Go.RowKit Go.Lib

theorem tagNumber (n : Int) (w : World) :
    Calls Tryz.prog 126 #[.iface 107 (.agg #[.int .i64 n])] w fun e w' => e = .returned (.int .i64 2) ∧ Below w.heap.size w w' := by
  have x0 := as10
  go_enter Tryz.func126, Tryz.ntmps126
  go_wp2
  go_ret
  exact ⟨rfl, (Below.refl _ _).alloc (Nat.le_refl _) _⟩
theorem methodNumber (v : Value) (w : World) : (Go.method 305 107 v "loop.example/g00371/impl.body").run Tryz.prog w = .ok (92, v) w := by kernel_rfl
set_option maxHeartbeats 1000000 in
set_option maxRecDepth 100000 in
theorem layNumber (n : Int) (b : ByteArray) (w : World) (h0 : -9223372036854775808 ≤ n) (h1 : n ≤ 9223372036854775807) (heq : b = strOfNums (intL n)) :
    Calls Tryz.prog 101 #[.iface 107 (.agg #[.int .i64 n])] w fun e w' => e = .returned (.string (thingD 2 b)) ∧ Below w.heap.size w w' := by
  have hb : b.size ≤ 4000 := by have := (intL_len n).2; rw [heq, strOfNums_size]; omega
  have hmt := methodNumber
  have ew : IntKind.u8.wrap 2 = 2 := by rw [IntKind.wrap_u8]; rfl
  go_enter Tryz.func101, Tryz.ntmps101
  go_wp2_with fail
  refine (bodyNumber n _ h0 h1).mono ?_
  rintro e w1 ⟨rfl, hb1⟩
  rw [← heq]
  clear heq h0 h1
  have s1 := hb1.size
  have HT1 : Hid (∀ V : World, Hid (Below w.heap.size w V) → Calls Tryz.prog 126 #[.iface 107 (.agg #[.int .i64 n])] V fun e W => e = .returned (.int .i64 2) ∧ Hid (Below w.heap.size w W)) := fun V hV => by
    refine (tagNumber n V).mono ?_
    rintro e W ⟨rfl, hW⟩
    exact ⟨rfl, hV.out.trans (hW.mono hV.out.size)⟩
  have HT2 : Hid (∀ V : World, Hid (Below w.heap.size w V) → Calls Tryz.prog 127 #[.int .i64 (b.size : Int)] V fun e W => e = .returned (.string (strOfNums (lenD b.size))) ∧ Hid (Below w.heap.size w W) ∧ Hid (∀ k o, V.heap[k]? = some o → W.heap[k]? = some o)) := fun V hV => by
    refine (putLength b.size V hb).mono ?_
    rintro e W ⟨rfl, hW⟩
    refine ⟨rfl, hV.out.trans (hW.mono hV.out.size), fun k o hk => ?_⟩
    rw [hW.block k (heap_lt hk)]; exact hk
  have HF : Hid (∀ s l, s = strOfNums [2] → l = strOfNums (lenD b.size) → s ++ l ++ b = thingD 2 b) := fun s l hs hl => by
    subst hs hl
    unfold thingD headD
    congr 1
  have hl1 : (strOfNums [2]).size = 1 := rfl
  have hl2 : (strOfNums (lenD b.size)).size ≤ 3 := by rw [strOfNums_size]; exact lenD_le _
  have hcv := fun V => convertLit V #[.int .u8 2] [2] rfl 1 rfl 5
  have HE := HF.out _ _ rfl rfl
  have HCR := fun W2 k h => convertRow W2 k [2] 5 1 1 rfl h
  generalize strOfNums [2] = s at *
  generalize strOfNums (lenD b.size) = l at *
  have HE : Hid (s ++ l ++ b = thingD 2 b) := HE
  have HCR : Hid (∀ (W2 : World) (k : Nat), W2.heap[k]? = some (.cells ([2].map (Value.int .u8)).toArray 5 (0, 0)) → (convert 94 9 (.slice (some ⟨k, 0, none⟩) 1 1)).run Tryz.prog W2 = .ok (.string s) W2) := HCR
  have HJ : Hid (∀ (V : World) (x y : ByteArray), Hid (Below w.heap.size w V) → x.size ≤ 4 → y.size ≤ 4000 → Calls Tryz.prog 74 #[.string x, .string y] V fun e W => e = .returned (.string (x ++ y)) ∧ Hid (Below w.heap.size w W)) := fun V x y hV hx hy => by
    refine (joinTexts x y V (by omega) (by omega)).mono ?_
    rintro e W ⟨rfl, hW⟩
    exact ⟨rfl, hV.out.trans (hW.mono hV.out.size)⟩
  have B1 : Hid (Below w.heap.size w w1) := hb1
  have HA : Hid (∀ V o, Hid (Below w.heap.size w V) → Hid (Below w.heap.size w (V.alloc o))) := fun V o h => h.out.alloc h.out.size o
  clear hb1 hmt HF
  go_wp2_with fail
  have D1 : Hid (Below w.heap.size w w1.drew) := B1.out.drew
  go_region_with (first
    | (go_at_call 126; refine (HT1.out _ (by first | assumption | exact HA.out _ _ (by assumption))).mono ?_; rintro r W1 ⟨rfl, k1⟩)
    | (go_at_call 127; refine (HT2.out _ (by first | assumption | exact HA.out _ _ (by assumption))).mono ?_; rintro r W2 ⟨rfl, k2, e2⟩; (first | have hcv2 := HCR.out W2 _ (e2.out _ _ (heap_alloc_new _ _)) | skip))
    | (go_at_call 74; refine (HJ.out _ _ _ (by first | assumption | exact HA.out _ _ (by assumption)) (by omega) (by omega)).mono ?_; rintro r W3 ⟨rfl, k3⟩))
  all_goals
    have hl3 : (s ++ l).size ≤ 4 := by rw [ByteArray.size_append]; omega
    have HQ := HJ.out W3 (s ++ l) b k3 hl3 hb
    rw [HE.out] at HQ
    generalize s ++ l = q at *
    have HQ : Hid (Calls Tryz.prog 74 #[.string q, .string b] W3 fun e W => e = .returned (.string (thingD 2 b)) ∧ Hid (Below w.heap.size w W)) := HQ
    clear HT1 HT2 HJ HCR HE hcv
    go_wp2_with fail
    refine HQ.out.mono ?_
    rintro r W4 ⟨rfl, k4⟩
    go_wp2
    go_ret
    exact ⟨rfl, k4.out⟩

theorem implDerInt (n : Int) (w : World) (h0 : -9223372036854775808 ≤ n) (h1 : n ≤ 9223372036854775807) :
    Calls Tryz.prog 70 #[.int .i64 n] w fun e w' => e = .returned (.string (thingD 2 (strOfNums (intL n)))) ∧ Below w.heap.size w w' := by
  have HB : Hid (∀ v : World, Calls Tryz.prog 101 #[.iface 107 (.agg #[.int .i64 n])] v fun e w' => e = .returned (.string (thingD 2 (strOfNums (intL n)))) ∧ Below v.heap.size v w') := fun v => layNumber n _ v h0 h1 rfl
  generalize thingD 2 (strOfNums (intL n)) = s at *
  go_enter Tryz.func70, Tryz.ntmps70
  go_wp2_with fail
  refine (HB.out _).mono ?_
  rintro e w1 ⟨rfl, hb1⟩
  go_wp2
  go_ret
  exact ⟨rfl, hb1⟩
end Go.Proofs.YtfliacfeebooeaaGreatDoor
