/- spec.l06Seq, spec.l06Name, walked. spec.l06Kind, walked. The specification's papers in bytes: spec.l06Seq, l06Kind, l06Name, l06Hosts, walked. The specification's papers in bytes: spec.l06More, walked. spec.l05Bytes, walked. spec.DerInt, walked. -/
import Derived.Test.YtkbmeenojclcmaaGreatDoorPN03
import Derived.Test.YtkbmeenojclcmaaGreatDoorPN07
import Derived.Test.YtkbmeenojclcmaaGreatDoorPN14
import Derived.Deep.Cut
import Derived.Deep.RegionHeld3
import Derived.Test.YtkbmeenojclcmaaGreatDoorPN01
import Derived.Test.YtkbmeenojclcmaaGreatDoorPN02
namespace Go.Proofs.YtkbmeenojclcmaaGreatDoor
open Go.RowKit

theorem specSeq (b : ByteArray) (w : World) (hb : b.size ≤ 20000) :
    Calls Tryz.prog 61 #[.string b] w fun e w' => e = .returned (.string (seqD b)) ∧ Below w.heap.size w w' := by
  have H : Hid (Calls Tryz.prog 57 #[.int .i64 48, .string b] w fun e w' => e = .returned (.string (seqD b)) ∧ Below w.heap.size w w') := specThing 48 b w (by omega) (by omega) hb
  generalize seqD b = q at *
  go_enter Tryz.func61, Tryz.ntmps61
  go_wp2_with fail
  refine H.out.mono ?_
  rintro e w2 ⟨rfl, b2⟩
  have B2 : Hid (Below w.heap.size w w2) := b2
  clear b2
  go_wp2
  go_ret
  exact ⟨rfl, B2.out⟩
/-- Four arcs that were just laid. -/
theorem specOid4 (x y z u : Int) (w : World) (h : arcsB [x, y, z, u] = true) :
    Calls Tryz.prog 83 #[.slice (some ⟨w.heap.size, 0, none⟩) 4 4] (w.alloc (.cells #[.int .i64 x, .int .i64 y, .int .i64 z, .int .i64 u] 2 (0, 0))) fun e w' => e = .returned (.string (oidT [x, y, z, u])) ∧ Below w.heap.size w w' := by
  refine (specOid (some ⟨w.heap.size, 0, none⟩) [x, y, z, u] 4 _ h (IsInts.row (rest := []) (heap_alloc_new w _))).mono ?_
  rintro e w' ⟨rfl, hb⟩
  exact ⟨rfl, ((Below.refl _ w).alloc (Nat.le_refl _) _).trans (hb.mono (by simp))⟩
set_option maxHeartbeats 1000000 in
theorem specNameD (t : ByteArray) (w : World) (ht : t.size ≤ 4000) :
    Calls Tryz.prog 60 #[.string t] w fun e w' => e = .returned (.string (nameD t)) ∧ Below w.heap.size w w' := by
  have h1 := arcs_lit arcsName
  have h2 := thingD_le 12 t
  have H1 : Hid (Calls Tryz.prog 83 #[.slice (some ⟨w.heap.size, 0, none⟩) 4 4] (w.alloc (.cells #[.int .i64 2, .int .i64 5, .int .i64 4, .int .i64 3] 2 (0, 0))) fun e w' => e = .returned (.string (oidT [2, 5, 4, 3])) ∧ Below w.heap.size w w') := specOid4 2 5 4 3 w arcsName
  have H2 : Hid (∀ V, Calls Tryz.prog 57 #[.int .i64 12, .string t] V fun e w' => e = .returned (.string (thingD 12 t)) ∧ Below V.heap.size V w') := fun V => specThing 12 t V (by omega) (by omega) (by omega)
  have e3 : (oidT [2, 5, 4, 3] ++ thingD 12 t).size ≤ 4053 := by rw [ByteArray.size_append]; omega
  have H3 : Hid (∀ V, Calls Tryz.prog 61 #[.string (oidT [2, 5, 4, 3] ++ thingD 12 t)] V fun e w' => e = .returned (.string (seqD (oidT [2, 5, 4, 3] ++ thingD 12 t))) ∧ Below V.heap.size V w') := fun V => specSeq _ V (by omega)
  have e4 := seqD_le (oidT [2, 5, 4, 3] ++ thingD 12 t)
  have e5 := thingD_le 49 (seqD (oidT [2, 5, 4, 3] ++ thingD 12 t))
  have H4 : Hid (∀ V, Calls Tryz.prog 57 #[.int .i64 49, .string (seqD (oidT [2, 5, 4, 3] ++ thingD 12 t))] V fun e w' => e = .returned (.string (thingD 49 (seqD (oidT [2, 5, 4, 3] ++ thingD 12 t)))) ∧ Below V.heap.size V w') := fun V => specThing 49 _ V (by omega) (by omega) (by omega)
  have H5 : Hid (∀ V, Calls Tryz.prog 61 #[.string (thingD 49 (seqD (oidT [2, 5, 4, 3] ++ thingD 12 t)))] V fun e w' => e = .returned (.string (nameD t)) ∧ Below V.heap.size V w') := fun V => specSeq _ V (by omega)
  clear e3 e4 e5
  generalize nameD t = n at *
  generalize thingD 49 (seqD (oidT [2, 5, 4, 3] ++ thingD 12 t)) = q4 at *
  generalize seqD (oidT [2, 5, 4, 3] ++ thingD 12 t) = q3 at *
  obtain ⟨q, hq⟩ : ∃ q, oidT [2, 5, 4, 3] ++ thingD 12 t = q := ⟨_, rfl⟩
  rw [hq] at H3
  generalize oidT [2, 5, 4, 3] = q1 at *
  generalize thingD 12 t = q2 at *
  go_enter Tryz.func60, Tryz.ntmps60
  go_wp2_with fail
  refine H1.out.mono ?_
  rintro e w2 ⟨rfl, b2⟩
  have B2 : Hid (Below w.heap.size w w2) := b2
  clear b2
  go_wp2_with fail
  refine (H2.out _).mono ?_
  rintro e w3 ⟨rfl, b3⟩
  have B3 : Hid (Below w.heap.size w w3) := B2.out.trans (b3.mono B2.out.size)
  clear b3
  go_wp2_with fail
  refine (H3.out _).mono ?_
  rintro e w4 ⟨rfl, b4⟩
  have B4 : Hid (Below w.heap.size w w4) := B3.out.trans (b4.mono B3.out.size)
  clear b4
  go_wp2_with fail
  refine (H4.out _).mono ?_
  rintro e w5 ⟨rfl, b5⟩
  have B5 : Hid (Below w.heap.size w w5) := B4.out.trans (b5.mono B4.out.size)
  clear b5
  go_wp2_with fail
  refine (H5.out _).mono ?_
  rintro e w6 ⟨rfl, b6⟩
  have B6 : Hid (Below w.heap.size w w6) := B5.out.trans (b6.mono B5.out.size)
  clear b6
  go_wp2
  go_ret
  exact ⟨rfl, B6.out⟩
end Go.Proofs.YtkbmeenojclcmaaGreatDoor
namespace Go.Proofs.YtkbmeenojclcmaaGreatDoor
open Go.RowKit

theorem specKind (w : World) :
    Calls Tryz.prog 59 #[] w fun e w' => e = .returned (.string kindD) ∧ Below w.heap.size w w' := by
  have H1 : Hid (Calls Tryz.prog 83 #[.slice (some ⟨w.heap.size, 0, none⟩) 4 4] (w.alloc (.cells #[.int .i64 1, .int .i64 3, .int .i64 101, .int .i64 112] 2 (0, 0))) fun e w' => e = .returned (.string (oidT [1, 3, 101, 112])) ∧ Below w.heap.size w w') := specOid4 1 3 101 112 w arcsKind
  have H2 : Hid (∀ V, Calls Tryz.prog 61 #[.string (oidT [1, 3, 101, 112])] V fun e w' => e = .returned (.string kindD) ∧ Below V.heap.size V w') := fun V => specSeq _ V (by have := arcs_lit arcsKind; omega)
  generalize oidT [1, 3, 101, 112] = q at *
  generalize kindD = k at *
  go_enter Tryz.func59, Tryz.ntmps59
  go_wp2_with fail
  refine H1.out.mono ?_
  rintro e w2 ⟨rfl, b2⟩
  have B2 : Hid (Below w.heap.size w w2) := b2
  clear b2
  go_wp2_with fail
  refine (H2.out _).mono ?_
  rintro e w3 ⟨rfl, b3⟩
  have B3 : Hid (Below w.heap.size w w3) := B2.out.trans (b3.mono B2.out.size)
  clear b3
  go_wp2
  go_ret
  exact ⟨rfl, B3.out⟩
end Go.Proofs.YtkbmeenojclcmaaGreatDoor
namespace Go.Proofs.YtkbmeenojclcmaaGreatDoor
open Go.RowKit

set_option maxHeartbeats 1000000 in
set_option maxRecDepth 100000 in
theorem specHosts (a : Option Addr) (ss : List ByteArray) (c : Nat) (w : World) (hl : ss.length ≤ 5) (hs : ∀ i, i < ss.length → (tAt ss i).size ≤ 40) (ha : IsStrs w a ss) :
    Calls Tryz.prog 85 #[.slice a ss.length c] w fun e w' => e = .returned (.string (seqD (hostsD ss ss.length))) ∧ Below w.heap.size w w' := by
  have HS : Hid (∀ i, i < ss.length → (tAt ss i).size ≤ 40) := hs
  have HL : Hid (∀ k, k ≤ ss.length → (hostsD ss k).size ≤ 44 * k) := fun k hk => hostsD_le k (fun i hi => hs i (by omega))
  clear hs
  go_enter Tryz.func85, Tryz.ntmps85
  go_wp2
  go_loopw [3, 4] (fun t i wr => ∃ k : Nat, k ≤ ss.length ∧ i = .int .i64 k ∧ t = .string (hostsD ss k) ∧ Below w.heap.size w wr) (fun _ i _ => ss.length - (intOf i).toNat)
  case atStart => exact ⟨0, Nat.zero_le _, rfl, rfl, Below.refl _ _⟩
  case round =>
    obtain ⟨k, hk, rfl, rfl, hbr⟩ := hrel
    have HB : Hid (Below w.heap.size w wr) := hbr
    by_cases hlt : k < ss.length
    · obtain ⟨x, o, rfl, hc⟩ : ∃ x o, a = some ⟨x, o, none⟩ ∧ ∀ i, i < ss.length → wr.cell? ⟨x, o + i, none⟩ = some (.string (tAt ss i)) := by
        rcases ha.below hbr ha.lt with rfl | h
        · simp at hlt
        · exact h
      have hck := hc k hlt
      have hz := HS.out k hlt
      have HP : Hid (∀ V, Calls Tryz.prog 57 #[.int .i64 130, .string (tAt ss k)] V fun e w' => e = .returned (.string (thingD 130 (tAt ss k))) ∧ Below V.heap.size V w') := fun V => specThing 130 _ V (by omega) (by omega) (by omega)
      have he : hostsD ss k ++ thingD 130 (tAt ss k) = hostsD ss (k + 1) := rfl
      have a0 : (0 : Int) ≤ (k : Int) := by omega
      have b0 : (k : Int) < (ss.length : Int) := by omega
      have z0 := HL.out k (by omega)
      have z1 := thingD_le 130 (tAt ss k)
      have HR : Hid (∃ j : Nat, j ≤ ss.length ∧ Value.int .i64 ((k : Int) + 1) = .int .i64 (j : Int) ∧ Value.string (hostsD ss (k + 1)) = .string (hostsD ss j)) := ⟨k + 1, by omega, by congr 1, rfl⟩
      generalize hostsD ss (k + 1) = h1 at *
      generalize thingD 130 (tAt ss k) = h2 at *
      generalize tAt ss k = z at *
      clear hc ha hbr HS HL
      go_wp2_with fail
      refine (HP.out _).mono ?_
      rintro e w2 ⟨rfl, b2⟩
      have B2 : Hid (Below w.heap.size w w2) := HB.out.trans (b2.mono HB.out.size)
      clear b2
      go_wp2_with fail
      go_roundw
      case rel =>
        obtain ⟨j, j1, j2, j3⟩ := HR.out
        exact ⟨j, j1, by first | exact j2 | (rw [← j2]; simp; omega), j3, B2.out⟩
      case measure => simp [intOf]; omega
    · obtain rfl : k = ss.length := by omega
      have z0 := HL.out ss.length (Nat.le_refl _)
      have HP : Hid (∀ V, Calls Tryz.prog 61 #[.string (hostsD ss ss.length)] V fun e w' => e = .returned (.string (seqD (hostsD ss ss.length))) ∧ Below V.heap.size V w') := fun V => specSeq _ V (by omega)
      clear ha hbr HS HL
      go_wp2_with fail
      refine (HP.out _).mono ?_
      rintro e w2 ⟨rfl, b2⟩
      have B2 : Hid (Below w.heap.size w w2) := HB.out.trans (b2.mono HB.out.size)
      clear b2
      go_wp2
      go_ret
      exact ⟨rfl, B2.out⟩
end Go.Proofs.YtkbmeenojclcmaaGreatDoor
namespace Go.Proofs.YtkbmeenojclcmaaGreatDoor
open Go.RowKit

set_option maxHeartbeats 4000000 in
set_option maxRecDepth 100000 in
theorem specMoreD (c : Paper) (a : Option Addr) (cap : Nat) (w : World) (hl : c.names.length ≤ 5) (hs : ∀ i, i < c.names.length → (tAt c.names i).size ≤ 40) (ha : IsStrs w a c.names) :
    Calls Tryz.prog 63 #[c.val (.slice a c.names.length cap)] w fun e w' => e = .returned (.string (moreD c.names c.ca)) ∧ Below w.heap.size w w' := by
  obtain ⟨ser, iss, sub, fr, till, key, names, ca, sk, se, ss⟩ := c
  simp only at hl hs ha ⊢
  unfold Paper.val
  simp only
  have HHo : Hid (∀ V, IsStrs V a names → Calls Tryz.prog 85 #[.slice a names.length cap] V fun e w' => e = .returned (.string (seqD (hostsD names names.length))) ∧ Below V.heap.size V w') := fun V hV => specHosts a names cap V hl hs hV
  have zN := namesD_le hl hs
  have zC := caT_le
  have zH := hostsD_le (ss := names) names.length hs
  obtain ⟨M, hM⟩ : ∃ M, M = moreD names ca := ⟨_, rfl⟩
  rw [← hM]
  have HM : Hid (M = moreT (namesD names ++ caD ca)) := hM
  clear hM
  have HN0 : Hid (names.length = 0 → namesD names = ⟨#[]⟩) := fun h => if_pos h
  have HN1 : Hid (names.length ≠ 0 → namesD names = seqD (oidT [2, 5, 29, 17] ++ thingD 4 (seqD (hostsD names names.length)))) := fun h => if_neg h
  obtain ⟨nl, hnl⟩ : ∃ nl, nl = names.length := ⟨_, rfl⟩
  rw [← hnl] at hl HHo zH HN0 HN1 ⊢
  have HNl : Hid (nl = names.length) := hnl
  clear hnl hs
  obtain ⟨w1, hw1⟩ : ∃ w1, w1 = w.alloc (.cells #[.int .i64 ser, .string iss, .string sub, .int .i64 fr, .int .i64 till, .int .i64 key, .slice a nl cap, .bool ca, .int .i64 sk, .int .i64 se, .int .i64 ss] 35 (0, 0)) := ⟨_, rfl⟩
  have r0 : w1.heap[w.heap.size]? = some (.cells [Value.int .i64 ser, .string iss, .string sub, .int .i64 fr, .int .i64 till, .int .i64 key, .slice a nl cap, .bool ca, .int .i64 sk, .int .i64 se, .int .i64 ss].toArray 35 (0, 0)) := by rw [hw1]; exact heap_alloc_new w _
  have B1 : Hid (Below w.heap.size w w1) := by rw [hw1]; exact (Below.refl _ _).alloc (Nat.le_refl _) _
  have z1 : w.heap.size < w1.heap.size := by rw [hw1]; simp
  have HK : Hid (∀ V, Below w1.heap.size w1 V → V.cell? ⟨w.heap.size, 0, none⟩ = some (.int .i64 ser) ∧ V.cell? ⟨w.heap.size, 1, none⟩ = some (.string iss) ∧ V.cell? ⟨w.heap.size, 2, none⟩ = some (.string sub) ∧ V.cell? ⟨w.heap.size, 3, none⟩ = some (.int .i64 fr) ∧ V.cell? ⟨w.heap.size, 4, none⟩ = some (.int .i64 till) ∧ V.cell? ⟨w.heap.size, 5, none⟩ = some (.int .i64 key) ∧ V.cell? ⟨w.heap.size, 6, none⟩ = some (.slice a nl cap) ∧ V.cell? ⟨w.heap.size, 7, none⟩ = some (.bool ca) ∧ V.cell? ⟨w.heap.size, 8, none⟩ = some (.int .i64 sk) ∧ V.cell? ⟨w.heap.size, 9, none⟩ = some (.int .i64 se) ∧ V.cell? ⟨w.heap.size, 10, none⟩ = some (.int .i64 ss)) := fun V hV => by
    have hP := (hV.block _ z1).trans r0
    exact ⟨rowFacts hP 0 _ rfl, rowFacts hP 1 _ rfl, rowFacts hP 2 _ rfl, rowFacts hP 3 _ rfl, rowFacts hP 4 _ rfl, rowFacts hP 5 _ rfl, rowFacts hP 6 _ rfl, rowFacts hP 7 _ rfl, rowFacts hP 8 _ rfl, rowFacts hP 9 _ rfl, rowFacts hP 10 _ rfl⟩
  have HA : Hid (∀ V, Below w1.heap.size w1 V → IsStrs V a names) := fun V hV => (ha.keep B1.out).keep hV
  have HB : Hid (∀ V, Below w1.heap.size w1 V → Below w.heap.size w V) := fun V hV => B1.out.trans (hV.mono B1.out.size)
  clear r0 ha z1 B1
  have PT : Hid (∀ V (t : Int) (b : ByteArray), Hid (Below w1.heap.size w1 V) → 0 ≤ t → t ≤ 255 → b.size ≤ 20000 → Calls Tryz.prog 57 #[.int .i64 t, .string b] V fun e W => e = .returned (.string (thingD t b)) ∧ Hid (Below w1.heap.size w1 W)) := fun V t b hV h0 h1 hb => by
    refine (specThing t b V h0 h1 hb).mono ?_
    rintro e W ⟨rfl, hW⟩
    exact ⟨rfl, hV.out.trans (hW.mono hV.out.size)⟩
  have PS : Hid (∀ V (b : ByteArray), Hid (Below w1.heap.size w1 V) → b.size ≤ 20000 → Calls Tryz.prog 61 #[.string b] V fun e W => e = .returned (.string (seqD b)) ∧ Hid (Below w1.heap.size w1 W)) := fun V b hV hb => by
    refine (specSeq b V hb).mono ?_
    rintro e W ⟨rfl, hW⟩
    exact ⟨rfl, hV.out.trans (hW.mono hV.out.size)⟩
  have PO : Hid (∀ V (x y z u : Int) (g : Nat), V.heap[g]? = some (.cells (lCells [x, y, z, u] ++ []).toArray 2 (0, 0)) → Hid (Below w1.heap.size w1 V) → arcsB [x, y, z, u] = true → Calls Tryz.prog 83 #[.slice (some ⟨g, 0, none⟩) 4 4] V fun e W => e = .returned (.string (oidT [x, y, z, u])) ∧ Hid (Below w1.heap.size w1 W)) := fun V x y z u g hg hV ha => by
    refine (specOid (some ⟨g, 0, none⟩) [x, y, z, u] 4 V ha (IsInts.row hg)).mono ?_
    rintro e W ⟨rfl, hW⟩
    exact ⟨rfl, hV.out.trans (hW.mono hV.out.size)⟩
  have PH : Hid (∀ V, Hid (Below w1.heap.size w1 V) → Calls Tryz.prog 85 #[.slice a nl cap] V fun e W => e = .returned (.string (seqD (hostsD names nl))) ∧ Hid (Below w1.heap.size w1 W)) := fun V hV => by
    refine (HHo.out V (HA.out V hV.out)).mono ?_
    rintro e W ⟨rfl, hW⟩
    exact ⟨rfl, hV.out.trans (hW.mono hV.out.size)⟩
  have AL : Hid (∀ V o, Hid (Below w1.heap.size w1 V) → Hid (Below w1.heap.size w1 (V.alloc o))) := fun V o h => h.out.alloc h.out.size o
  have DR : Hid (∀ V, Hid (Below w1.heap.size w1 V) → Hid (Below w1.heap.size w1 V.drew)) := fun V h => h.out.drew
  have I1 : Hid (Below w1.heap.size w1 w1) := Below.refl _ _
  clear HHo
  go_enter Tryz.func63, Tryz.ntmps63
  go_upto_region 2 with fail
  rw [← hw1]
  clear hw1
  obtain ⟨c0, c1, c2, c3, c4, c5, c6, c7, c8, c9, c10⟩ := HK.out w1 I1.out
  go_upto_if 7 with fail
  go_cut [3] from 4 (fun s3 wx => s3 = .string (namesD names) ∧ Below w1.heap.size w1 wx)
  case first =>
    by_cases hn : nl = 0
    · subst hn
      have HF : Hid (namesD names = ⟨#[]⟩) := HN0.out rfl
      go_wp2_with fail
      go_meet
      case rel => exact ⟨by rw [HF.out], I1.out⟩
    · have HF : Hid (namesD names = seqD (oidT [2, 5, 29, 17] ++ thingD 4 (seqD (hostsD names nl)))) := HN1.out hn
      have hni : (0 : Int) < (nl : Int) := by omega
      have y1 := arcs_lit arcs17
      have y2 := thingD_le 4 (seqD (hostsD names nl))
      have y3 := seqD_le (hostsD names nl)
      have y4 : (oidT [2, 5, 29, 17] ++ thingD 4 (seqD (hostsD names nl))).size ≤ 20000 := by rw [ByteArray.size_append]; omega
      have y5 : (seqD (hostsD names nl)).size ≤ 20000 := by omega
      have D1 : Hid (Below w1.heap.size w1 w1.drew) := DR.out _ I1
      have P0 : Hid (∀ V (g : Nat), V.heap[g]? = some (.cells #[.int .i64 2, .int .i64 5, .int .i64 29, .int .i64 17] 2 (0, 0)) → Hid (Below w1.heap.size w1 V) → Calls Tryz.prog 83 #[.slice (some ⟨g, 0, none⟩) 4 4] V fun e W => e = .returned (.string (oidT [2, 5, 29, 17])) ∧ Hid (Below w1.heap.size w1 W)) := fun V g hg hV => PO.out V 2 5 29 17 g hg hV arcs17
      have P3 : Hid (∀ V, Hid (Below w1.heap.size w1 V) → Calls Tryz.prog 57 #[.int .i64 4, .string (seqD (hostsD names nl))] V fun e W => e = .returned (.string (thingD 4 (seqD (hostsD names nl)))) ∧ Hid (Below w1.heap.size w1 W)) := fun V hV => PT.out V 4 _ hV (by omega) (by omega) y5
      have P4 : Hid (∀ V, Hid (Below w1.heap.size w1 V) → Calls Tryz.prog 61 #[.string (oidT [2, 5, 29, 17] ++ thingD 4 (seqD (hostsD names nl)))] V fun e W => e = .returned (.string (namesD names)) ∧ Hid (Below w1.heap.size w1 W)) := fun V hV => by rw [HF.out]; exact PS.out V _ hV y4
      have hadd : ¬ 9223372036854775807 < (oidT [2, 5, 29, 17]).size + (thingD 4 (seqD (hostsD names nl))).size := by omega
      clear y1 y2 y3 y4 y5 HF HM HN0 HN1 zN zH zC
      generalize thingD 4 (seqD (hostsD names nl)) = q3 at *
      generalize seqD (hostsD names nl) = q2 at *
      generalize oidT [2, 5, 29, 17] = q1 at *
      go_wp2_with fail
      go_region_held3 (fun V => V.cell? ⟨w.heap.size, 6, none⟩ = some (.slice a nl cap)) (first | assumption | exact (HK.out _ (Hid.out (by assumption))).2.2.2.2.2.2.1 | go_keep)
        (first
          | (go_at_call 83; refine (P0.out _ _ (heap_alloc_new _ _) (by first | assumption | exact DR.out _ (AL.out _ _ (by assumption)) | exact AL.out _ _ (by assumption))).mono ?_; rintro r V1 ⟨rfl, k1⟩)
          | (go_at_call 85; refine (PH.out _ (by assumption)).mono ?_; rintro r V2 ⟨rfl, k2⟩)
          | (go_at_call 57; refine (P3.out _ (by assumption)).mono ?_; rintro r V3 ⟨rfl, k3⟩)
          | (go_at_call 61; refine (P4.out _ (by assumption)).mono ?_; rintro r V4 ⟨rfl, k4⟩))
      go_wp2_with fail
      go_meet
      case rel => exact ⟨rfl, k4.out⟩
  case rest =>
    obtain ⟨rfl, hcut⟩ := hcut
    have J1 : Hid (Below w1.heap.size w1 wc) := hcut
    clear hcut c0 c1 c2 c3 c4 c5 c6 c7 c8 c9 c10 HN0 HN1 zH hl HNl HA I1
    generalize namesD names = N at *
    obtain ⟨c0, c1, c2, c3, c4, c5, c6, c7, c8, c9, c10⟩ := HK.out wc J1.out
    go_upto_if 17 with fail
    go_cut [3] from 4 (fun s3 wx => s3 = .string (N ++ caD ca) ∧ Below w1.heap.size w1 wx)
    case first =>
      cases ca with
      | false =>
        have HF : Hid (N ++ caD false = N) := by show N ++ (⟨#[]⟩ : ByteArray) = N; exact ByteArray.append_empty
        go_wp2_with fail
        go_meet
        case rel => exact ⟨by rw [HF.out], J1.out⟩
      | true =>
        have HF : Hid (N ++ caD true = N ++ caT) := rfl
        have x1 := arcs_lit arcs19
        have x2 := soD_le
        have x3 := seqD_le soD
        have x4 := thingD_le 4 (seqD soD)
        have P1 : Hid (∀ V, Hid (Below w1.heap.size w1 V) → Calls Tryz.prog 57 #[.int .i64 1, .string ⟨#[255]⟩] V fun e W => e = .returned (.string soD) ∧ Hid (Below w1.heap.size w1 W)) := fun V hV => PT.out V 1 ⟨#[255]⟩ hV (by omega) (by omega) (by show 1 ≤ 20000; omega)
        have P2 : Hid (∀ V, Hid (Below w1.heap.size w1 V) → Calls Tryz.prog 61 #[.string soD] V fun e W => e = .returned (.string (seqD soD)) ∧ Hid (Below w1.heap.size w1 W)) := fun V hV => PS.out V soD hV (by omega)
        have P3 : Hid (∀ V, Hid (Below w1.heap.size w1 V) → Calls Tryz.prog 57 #[.int .i64 4, .string (seqD soD)] V fun e W => e = .returned (.string (thingD 4 (seqD soD))) ∧ Hid (Below w1.heap.size w1 W)) := fun V hV => PT.out V 4 (seqD soD) hV (by omega) (by omega) (by omega)
        have P4 : Hid (∀ V, Hid (Below w1.heap.size w1 V) → Calls Tryz.prog 61 #[.string (oidT [2, 5, 29, 19] ++ soD ++ thingD 4 (seqD soD))] V fun e W => e = .returned (.string caT) ∧ Hid (Below w1.heap.size w1 W)) := fun V hV => by
          have h := PS.out V (oidT [2, 5, 29, 19] ++ soD ++ thingD 4 (seqD soD)) hV (by rw [ByteArray.size_append, ByteArray.size_append]; omega)
          have e : seqD (oidT [2, 5, 29, 19] ++ soD ++ thingD 4 (seqD soD)) = caT := by unfold caT; rw [ByteArray.append_assoc]
          rw [e] at h
          exact h
        have P0 : Hid (∀ V (g : Nat), V.heap[g]? = some (.cells #[.int .i64 2, .int .i64 5, .int .i64 29, .int .i64 19] 2 (0, 0)) → Hid (Below w1.heap.size w1 V) → Calls Tryz.prog 83 #[.slice (some ⟨g, 0, none⟩) 4 4] V fun e W => e = .returned (.string (oidT [2, 5, 29, 19])) ∧ Hid (Below w1.heap.size w1 W)) := fun V g hg hV => PO.out V 2 5 29 19 g hg hV arcs19
        generalize thingD 4 (seqD soD) = q4 at *
        generalize seqD soD = q3 at *
        generalize soD = q2 at *
        generalize oidT [2, 5, 29, 19] = q1 at *
        generalize caT = q5 at *
        clear HM PT PS PO PH
        go_wp2_with fail
        refine (P0.out _ _ (heap_alloc_new _ _) (AL.out _ _ J1)).mono ?_
        rintro r V1 ⟨rfl, k1⟩
        go_wp2_with fail
        refine (P1.out _ k1).mono ?_
        rintro r V2 ⟨rfl, k2⟩
        go_wp2_with fail
        refine (P1.out _ k2).mono ?_
        rintro r V3 ⟨rfl, k3⟩
        go_wp2_with fail
        refine (P2.out _ k3).mono ?_
        rintro r V4 ⟨rfl, k4⟩
        go_wp2_with fail
        refine (P3.out _ k4).mono ?_
        rintro r V5 ⟨rfl, k5⟩
        go_wp2_with fail
        refine (P4.out _ k5).mono ?_
        rintro r V6 ⟨rfl, k6⟩
        go_wp2_with fail
        go_meet
        case rel => exact ⟨by rw [HF.out], k6.out⟩
    case rest =>
      obtain ⟨rfl, hcut⟩ := hcut
      have J2 : Hid (Below w1.heap.size w1 wc) := hcut
      have hT : (N ++ caD ca).size ≤ 370 := by rw [ByteArray.size_append]; have := caD_le ca; omega
      clear hcut c0 c1 c2 c3 c4 c5 c6 c7 c8 c9 c10 J1
      generalize N ++ caD ca = T at *
      by_cases h0 : T.size = 0
      · have HF : Hid (M = ⟨#[]⟩) := by show _ = _; rw [HM.out, moreT, if_pos h0]
        have he := isEmpty_of h0
        go_upto_if 30 with fail
        try rw [he]
        go_wp2
        go_ret
        exact ⟨by rw [HF.out]; rfl, HB.out _ J2.out⟩
      · have HF : Hid (M = thingD 163 (seqD T)) := by show _ = _; rw [HM.out, moreT, if_neg h0]
        have he := isEmpty_not h0
        have x1 := seqD_le T
        go_upto_if 30 with fail
        try rw [he]
        go_wp2_with fail
        refine (PS.out _ _ J2 (by omega)).mono ?_
        rintro r V1 ⟨rfl, k1⟩
        go_wp2_with fail
        refine (PT.out _ 163 _ k1 (by omega) (by omega) (by omega)).mono ?_
        rintro r V2 ⟨rfl, k2⟩
        rw [← HF.out]
        go_wp2
        go_ret
        exact ⟨rfl, HB.out _ k2.out⟩
end Go.Proofs.YtkbmeenojclcmaaGreatDoor
namespace Go.Proofs.YtkbmeenojclcmaaGreatDoor
open Go.RowKit Go.Lib

theorem own_slice {w : World} {B e n : Nat} {v : Value} {xs : List Value} (h : w.ownsRow B e 1 v n xs) (hn : 0 < n) : ∃ g cap, v = .slice (some ⟨g, 0, none⟩) n cap := by
  rcases h.2 with ⟨_, h'⟩ | ⟨g, cap, _, h', _⟩
  · omega
  · exact ⟨g, cap, h'⟩
def sLen : Value → Nat
  | .slice _ n _ => n
  | _ => 0
set_option maxHeartbeats 1000000 in
set_option maxRecDepth 100000 in
theorem specBytes (n : Int) (w : World) (h0 : -9223372036854775808 ≤ n) (h1 : n ≤ 9223372036854775807) :
    Calls Tryz.prog 82 #[.int .i64 n] w fun e w' => e = .returned (.string (strOfNums (intL n))) ∧ Below w.heap.size w w' := by
  obtain ⟨i0, hi, hz0, hz1, hz2⟩ := info_parts infoByte
  have hF := fits7 h0 h1
  go_enter Tryz.func82, Tryz.ntmps82
  go_wp2_with fail
  go_loopw [3, 4] (fun b r wr => ∃ (m : Int) (f g c : Nat) (tl : List Int), Fits f m ∧ -9223372036854775808 ≤ m ∧ m ≤ 9223372036854775807 ∧ f + tl.length ≤ 7 ∧ b = .slice (some ⟨g, 0, none⟩) (tl.length + 1) c ∧ r = .int .i64 (m / 256) ∧
      wr.ownsRow w.heap.size 5 1 (.slice (some ⟨g, 0, none⟩) (tl.length + 1) c) (tl.length + 1) ((m % 256 :: tl).map (Value.int .u8)) ∧ Below w.heap.size w wr ∧ w.heap.size ≤ wr.heap.size ∧ intF f m ++ tl = intL n)
    (fun b _ _ => 10 - sLen b)
  case atStart =>
    exact ⟨n, 7, _, 1, [], hF, h0, h1, by simp, rfl, rfl, World.ownsRow_lit _ _ 1 (Nat.le_refl _) (by decide) rfl, (Below.refl _ _).alloc (Nat.le_refl _) _, by simp, by simp [intL]⟩
  case round =>
    obtain ⟨m, f, g, c, tl, hf, m0, m1, hlen, rfl, rfl, hown, hbel, hsz, heq⟩ := hrel
    have c0 : wr.cell? ⟨g, 0, none⟩ = some (.int .u8 (m % 256)) := by have := hown.cellAt 0 (by omega); simpa using this
    have HE : Hid (intF f m ++ tl = intL n) := heq
    have HF : Hid (Fits f m) := hf
    obtain ⟨q, hq⟩ : ∃ q, q = m / 256 := ⟨_, rfl⟩
    obtain ⟨r, hr⟩ : ∃ r, r = m % 256 := ⟨_, rfl⟩
    have q0 : -9223372036854775808 ≤ q := by omega
    have q1 : q ≤ 9223372036854775807 := by omega
    have r0 : 0 ≤ r := by omega
    have r1 : r < 256 := by omega
    have HM : Hid (q = m / 256 ∧ r = m % 256) := ⟨hq, hr⟩
    rw [← hq]
    rw [← hr] at c0 hown
    by_cases hst : -128 ≤ m ∧ m < 128
    · have HS : Hid (intL n = r :: tl) := by
        show _ = _
        rw [← HE.out, intF_last hst.1 hst.2, hr]; rfl
      have hcv := run_convert_own (P := Tryz.prog) (src := 94) (dst := 9) Tryz.underlying94 Tryz.underlying5 Tryz.underlying9 hown
      have hc : (q = 0 ∧ r < 128) ∨ (q = -1 ∧ 128 ≤ r) := by omega
      clear hq hr hst heq hf m0 m1 hF h0 h1 hown HE HF HM
      rcases hc with ⟨rfl, hc⟩ | ⟨rfl, hc⟩
      all_goals
        go_wp2
        go_ret
        exact ⟨by rw [HS.out]; rfl, hbel⟩
    · have hc : (q = 0 ∧ decide (r < 128) = false ∧ decide (128 ≤ r) = true) ∨ (q = -1 ∧ decide (r < 128) = true ∧ decide (128 ≤ r) = false) ∨ ((q == 0) = false ∧ (q == -1) = false) := by simp; omega
      have HN : Hid (¬(-128 ≤ m ∧ m < 128)) := hst
      have HSRC : Hid (∀ j u, ((r :: tl).map (Value.int .u8))[j]? = some u → wr.cell? ⟨g, j, none⟩ = some u) := fun j u hj => by
        rw [hown.cellAt j (by
          rcases Nat.lt_or_ge j (tl.length + 1) with h | h
          · omega
          · rw [List.getElem?_eq_none (by simpa using h)] at hj; cases hj)]
        exact hj
      clear hq hr hst heq hf m0 m1 hF h0 h1
      have hlt := (hown.lt g rfl).2
      rcases hc with ⟨rfl, hc, hc'⟩ | ⟨rfl, hc, hc'⟩ | ⟨hc, hc'⟩
      all_goals
        go_wp2_with (at_builtin; refine wpList_append_own _ rfl _ _ 94 rfl w.heap.size 5 i0 (.int .u8 0) 1 1 Tryz.underlying94 hi hz0 hz1 hz2 rfl (by decide) _ 1 _ rfl (World.ownsRow_lit _ _ 1 hsz (by decide) rfl) ⟨g, 0, none⟩ (tl.length + 1) c ((r :: tl).map (Value.int .u8)) rfl (by simp) ?c1 ?c2 ?c3 ?c4 ?c5 ?_)
        case c1 =>
          intro j u hj
          rw [Addr.add_lit, Nat.zero_add, World.cell?_alloc_lt _ _ ⟨g, j, none⟩ hlt]
          exact HSRC.out j u hj
        case c2 => intro u hu; exact oneCell_ints .u8 _ u hu
        case c3 => unfold maxLen; omega
        case c4 => omega
        case c5 => simp; omega
        intro v' w1 hown' hgrow hx
        obtain ⟨g', cap, rfl⟩ := own_slice hown' (by omega)
        have hb1 : Below w.heap.size w w1 := (hbel.alloc hsz _).grown hgrow (by simp; omega) (fun k hk => (World.ownsRow_lit (base := w.heap.size) (e := 5) (size := 1) wr #[.int .u8 0] 1 hsz (by decide) rfl).lt k hk |>.1)
        have hs1 : w.heap.size ≤ w1.heap.size := hb1.size
        have HO : Hid (w1.ownsRow w.heap.size 5 1 (.slice (some ⟨g', 0, none⟩) ((r :: tl).length + 1) cap) ((r :: tl).length + 1) (((m / 256) % 256 :: r :: tl).map (Value.int .u8))) := by
          show World.ownsRow _ _ _ _ _ _ _
          rw [← HM.out.1]
          have e1 : 1 + (tl.length + 1) = (r :: tl).length + 1 := by simp; omega
          rw [e1] at hown'
          simpa using hown'
        have hw : 1 + (tl.length + 1) = (r :: tl).length + 1 := by simp; omega
        rw [hw]
        clear hown' hgrow hx hown hbel hlt HSRC
        go_wp2
        go_roundw
        case rel =>
          obtain ⟨f', rfl, hf', he⟩ := intF_more HN.out HF.out
          have hq := HM.out.1
          refine ⟨m / 256, f', g', cap, r :: tl, hf', by omega, by omega, by simp; omega, rfl, ?_, HO.out, hb1, hs1, ?_⟩
          · first | (rw [← hq]; done) | (rw [← hq]; rfl)
          · rw [← HE.out, he, HM.out.2]; simp
        case measure => simp [sLen]; omega
end Go.Proofs.YtkbmeenojclcmaaGreatDoor
namespace Go.Proofs.YtkbmeenojclcmaaGreatDoor
open Go.RowKit Go.Lib

theorem specDerInt (n : Int) (w : World) (h0 : -9223372036854775808 ≤ n) (h1 : n ≤ 9223372036854775807) :
    Calls Tryz.prog 58 #[.int .i64 n] w fun e w' => e = .returned (.string (thingD 2 (strOfNums (intL n)))) ∧ Below w.heap.size w w' := by
  have hl := (intL_len n).2
  have HB : Hid (∀ v : World, Calls Tryz.prog 82 #[.int .i64 n] v fun e w' => e = .returned (.string (strOfNums (intL n))) ∧ Below v.heap.size v w') := fun v => specBytes n v h0 h1
  have hs : (strOfNums (intL n)).size ≤ 8 := by rw [strOfNums_size]; exact hl
  generalize strOfNums (intL n) = s at *
  go_enter Tryz.func58, Tryz.ntmps58
  go_wp2_with fail
  refine (HB.out _).mono ?_
  rintro e w1 ⟨rfl, hb1⟩
  go_wp2_with fail
  refine (specThing 2 s _ (by omega) (by omega) (by omega)).mono ?_
  rintro e w2 ⟨rfl, hb2⟩
  go_wp2
  go_ret
  exact ⟨rfl, hb1.trans (hb2.mono hb1.size)⟩
end Go.Proofs.YtkbmeenojclcmaaGreatDoor
