/- spec.l06Seq, spec.l06Name, walked. spec.l06Kind, walked. The specification's papers in bytes: spec.l06Seq, l06Kind, l06Name, l06Hosts, walked. The specification's papers in bytes: spec.l06More, walked. spec.l05Is, walked. spec.l06Time, spec.NameRight, walked. spec.l06Time, spec.l06Names, walked. spec.l06Right, walked. -/
import Derived.Test.YtjbjegmlpjiefaaGreatDoorCSg03
import Derived.Test.YtjbjegmlpjiefaaGreatDoorCSg06
import Derived.Deep.Cut
import Derived.Deep.RegionHeld3
import Derived.Test.YtjbjegmlpjiefaaGreatDoorCSg01
import Derived.Test.YtjbjegmlpjiefaaGreatDoorCSg02
import Derived.WalkLawsBesides
namespace Go.Proofs.YtjbjegmlpjiefaaGreatDoor
open Go.RowKit

theorem specSeq (b : ByteArray) (w : World) (hb : b.size ≤ 20000) :
    Calls Tryz.prog 42 #[.string b] w fun e w' => e = .returned (.string (seqD b)) ∧ Below w.heap.size w w' := by
  have H : Hid (Calls Tryz.prog 38 #[.int .i64 48, .string b] w fun e w' => e = .returned (.string (seqD b)) ∧ Below w.heap.size w w') := specThing 48 b w (by omega) (by omega) hb
  generalize seqD b = q at *
  go_enter Tryz.func42, Tryz.ntmps42
  go_wp2_with fail
  refine H.out.mono ?_
  rintro e w2 ⟨rfl, b2⟩
  have B2 : Hid (Below w.heap.size w w2) := b2
  clear b2
  go_wp2
  go_ret
  exact ⟨rfl, B2.out⟩
/-- Four arcs that were just laid. -/
theorem specOid4 (x y z u : Int) (w : World) (h : arcsB [x, y, z, u] = true) :
    Calls Tryz.prog 69 #[.slice (some ⟨w.heap.size, 0, none⟩) 4 4] (w.alloc (.cells #[.int .i64 x, .int .i64 y, .int .i64 z, .int .i64 u] 2 (0, 0))) fun e w' => e = .returned (.string (oidT [x, y, z, u])) ∧ Below w.heap.size w w' := by
  refine (specOid (some ⟨w.heap.size, 0, none⟩) [x, y, z, u] 4 _ h (IsInts.row (rest := []) (heap_alloc_new w _))).mono ?_
  rintro e w' ⟨rfl, hb⟩
  exact ⟨rfl, ((Below.refl _ w).alloc (Nat.le_refl _) _).trans (hb.mono (by simp))⟩
set_option maxHeartbeats 1000000 in
theorem specNameD (t : ByteArray) (w : World) (ht : t.size ≤ 4000) :
    Calls Tryz.prog 41 #[.string t] w fun e w' => e = .returned (.string (nameD t)) ∧ Below w.heap.size w w' := by
  have h1 := arcs_lit arcsName
  have h2 := thingD_le 12 t
  have H1 : Hid (Calls Tryz.prog 69 #[.slice (some ⟨w.heap.size, 0, none⟩) 4 4] (w.alloc (.cells #[.int .i64 2, .int .i64 5, .int .i64 4, .int .i64 3] 2 (0, 0))) fun e w' => e = .returned (.string (oidT [2, 5, 4, 3])) ∧ Below w.heap.size w w') := specOid4 2 5 4 3 w arcsName
  have H2 : Hid (∀ V, Calls Tryz.prog 38 #[.int .i64 12, .string t] V fun e w' => e = .returned (.string (thingD 12 t)) ∧ Below V.heap.size V w') := fun V => specThing 12 t V (by omega) (by omega) (by omega)
  have e3 : (oidT [2, 5, 4, 3] ++ thingD 12 t).size ≤ 4053 := by rw [ByteArray.size_append]; omega
  have H3 : Hid (∀ V, Calls Tryz.prog 42 #[.string (oidT [2, 5, 4, 3] ++ thingD 12 t)] V fun e w' => e = .returned (.string (seqD (oidT [2, 5, 4, 3] ++ thingD 12 t))) ∧ Below V.heap.size V w') := fun V => specSeq _ V (by omega)
  have e4 := seqD_le (oidT [2, 5, 4, 3] ++ thingD 12 t)
  have e5 := thingD_le 49 (seqD (oidT [2, 5, 4, 3] ++ thingD 12 t))
  have H4 : Hid (∀ V, Calls Tryz.prog 38 #[.int .i64 49, .string (seqD (oidT [2, 5, 4, 3] ++ thingD 12 t))] V fun e w' => e = .returned (.string (thingD 49 (seqD (oidT [2, 5, 4, 3] ++ thingD 12 t)))) ∧ Below V.heap.size V w') := fun V => specThing 49 _ V (by omega) (by omega) (by omega)
  have H5 : Hid (∀ V, Calls Tryz.prog 42 #[.string (thingD 49 (seqD (oidT [2, 5, 4, 3] ++ thingD 12 t)))] V fun e w' => e = .returned (.string (nameD t)) ∧ Below V.heap.size V w') := fun V => specSeq _ V (by omega)
  clear e3 e4 e5
  generalize nameD t = n at *
  generalize thingD 49 (seqD (oidT [2, 5, 4, 3] ++ thingD 12 t)) = q4 at *
  generalize seqD (oidT [2, 5, 4, 3] ++ thingD 12 t) = q3 at *
  obtain ⟨q, hq⟩ : ∃ q, oidT [2, 5, 4, 3] ++ thingD 12 t = q := ⟨_, rfl⟩
  rw [hq] at H3
  generalize oidT [2, 5, 4, 3] = q1 at *
  generalize thingD 12 t = q2 at *
  go_enter Tryz.func41, Tryz.ntmps41
  go_wp2_with fail
  refine H1.out.mono ?_
  rintro e w2 ⟨rfl, b2⟩
  have B2 : Hid (Below w.heap.size w w2) := b2
  clear b2
  go_wp2_with fail
  refine (H2.out _).mono ?_
  rintro e w3 ⟨rfl, b3⟩
  have B3 : Hid (Below w.heap.size w w3) := B2.out.trans (b3.mono B2.out.size)
  clear b3
  go_wp2_with fail
  refine (H3.out _).mono ?_
  rintro e w4 ⟨rfl, b4⟩
  have B4 : Hid (Below w.heap.size w w4) := B3.out.trans (b4.mono B3.out.size)
  clear b4
  go_wp2_with fail
  refine (H4.out _).mono ?_
  rintro e w5 ⟨rfl, b5⟩
  have B5 : Hid (Below w.heap.size w w5) := B4.out.trans (b5.mono B4.out.size)
  clear b5
  go_wp2_with fail
  refine (H5.out _).mono ?_
  rintro e w6 ⟨rfl, b6⟩
  have B6 : Hid (Below w.heap.size w w6) := B5.out.trans (b6.mono B5.out.size)
  clear b6
  go_wp2
  go_ret
  exact ⟨rfl, B6.out⟩
end Go.Proofs.YtjbjegmlpjiefaaGreatDoor
namespace Go.Proofs.YtjbjegmlpjiefaaGreatDoor
open Go.RowKit

theorem specKind (w : World) :
    Calls Tryz.prog 40 #[] w fun e w' => e = .returned (.string kindD) ∧ Below w.heap.size w w' := by
  have H1 : Hid (Calls Tryz.prog 69 #[.slice (some ⟨w.heap.size, 0, none⟩) 4 4] (w.alloc (.cells #[.int .i64 1, .int .i64 3, .int .i64 101, .int .i64 112] 2 (0, 0))) fun e w' => e = .returned (.string (oidT [1, 3, 101, 112])) ∧ Below w.heap.size w w') := specOid4 1 3 101 112 w arcsKind
  have H2 : Hid (∀ V, Calls Tryz.prog 42 #[.string (oidT [1, 3, 101, 112])] V fun e w' => e = .returned (.string kindD) ∧ Below V.heap.size V w') := fun V => specSeq _ V (by have := arcs_lit arcsKind; omega)
  generalize oidT [1, 3, 101, 112] = q at *
  generalize kindD = k at *
  go_enter Tryz.func40, Tryz.ntmps40
  go_wp2_with fail
  refine H1.out.mono ?_
  rintro e w2 ⟨rfl, b2⟩
  have B2 : Hid (Below w.heap.size w w2) := b2
  clear b2
  go_wp2_with fail
  refine (H2.out _).mono ?_
  rintro e w3 ⟨rfl, b3⟩
  have B3 : Hid (Below w.heap.size w w3) := B2.out.trans (b3.mono B2.out.size)
  clear b3
  go_wp2
  go_ret
  exact ⟨rfl, B3.out⟩
end Go.Proofs.YtjbjegmlpjiefaaGreatDoor
namespace Go.Proofs.YtjbjegmlpjiefaaGreatDoor
open Go.RowKit

set_option maxHeartbeats 1000000 in
set_option maxRecDepth 100000 in
theorem specHosts (a : Option Addr) (ss : List ByteArray) (c : Nat) (w : World) (hl : ss.length ≤ 5) (hs : ∀ i, i < ss.length → (tAt ss i).size ≤ 40) (ha : IsStrs w a ss) :
    Calls Tryz.prog 70 #[.slice a ss.length c] w fun e w' => e = .returned (.string (seqD (hostsD ss ss.length))) ∧ Below w.heap.size w w' := by
  have HS : Hid (∀ i, i < ss.length → (tAt ss i).size ≤ 40) := hs
  have HL : Hid (∀ k, k ≤ ss.length → (hostsD ss k).size ≤ 44 * k) := fun k hk => hostsD_le k (fun i hi => hs i (by omega))
  clear hs
  go_enter Tryz.func70, Tryz.ntmps70
  go_wp2
  go_loopw [3, 4] (fun t i wr => ∃ k : Nat, k ≤ ss.length ∧ i = .int .i64 k ∧ t = .string (hostsD ss k) ∧ Below w.heap.size w wr) (fun _ i _ => ss.length - (intOf i).toNat)
  case atStart => exact ⟨0, Nat.zero_le _, rfl, rfl, Below.refl _ _⟩
  case round =>
    obtain ⟨k, hk, rfl, rfl, hbr⟩ := hrel
    have HB : Hid (Below w.heap.size w wr) := hbr
    by_cases hlt : k < ss.length
    · obtain ⟨x, o, rfl, hc⟩ : ∃ x o, a = some ⟨x, o, none⟩ ∧ ∀ i, i < ss.length → wr.cell? ⟨x, o + i, none⟩ = some (.string (tAt ss i)) := by
        rcases ha.below hbr ha.lt with rfl | h
        · simp at hlt
        · exact h
      have hck := hc k hlt
      have hz := HS.out k hlt
      have HP : Hid (∀ V, Calls Tryz.prog 38 #[.int .i64 130, .string (tAt ss k)] V fun e w' => e = .returned (.string (thingD 130 (tAt ss k))) ∧ Below V.heap.size V w') := fun V => specThing 130 _ V (by omega) (by omega) (by omega)
      have he : hostsD ss k ++ thingD 130 (tAt ss k) = hostsD ss (k + 1) := rfl
      have a0 : (0 : Int) ≤ (k : Int) := by omega
      have b0 : (k : Int) < (ss.length : Int) := by omega
      have z0 := HL.out k (by omega)
      have z1 := thingD_le 130 (tAt ss k)
      have HR : Hid (∃ j : Nat, j ≤ ss.length ∧ Value.int .i64 ((k : Int) + 1) = .int .i64 (j : Int) ∧ Value.string (hostsD ss (k + 1)) = .string (hostsD ss j)) := ⟨k + 1, by omega, by congr 1, rfl⟩
      generalize hostsD ss (k + 1) = h1 at *
      generalize thingD 130 (tAt ss k) = h2 at *
      generalize tAt ss k = z at *
      clear hc ha hbr HS HL
      go_wp2_with fail
      refine (HP.out _).mono ?_
      rintro e w2 ⟨rfl, b2⟩
      have B2 : Hid (Below w.heap.size w w2) := HB.out.trans (b2.mono HB.out.size)
      clear b2
      go_wp2_with fail
      go_roundw
      case rel =>
        obtain ⟨j, j1, j2, j3⟩ := HR.out
        exact ⟨j, j1, by first | exact j2 | (rw [← j2]; simp; omega), j3, B2.out⟩
      case measure => simp [intOf]; omega
    · obtain rfl : k = ss.length := by omega
      have z0 := HL.out ss.length (Nat.le_refl _)
      have HP : Hid (∀ V, Calls Tryz.prog 42 #[.string (hostsD ss ss.length)] V fun e w' => e = .returned (.string (seqD (hostsD ss ss.length))) ∧ Below V.heap.size V w') := fun V => specSeq _ V (by omega)
      clear ha hbr HS HL
      go_wp2_with fail
      refine (HP.out _).mono ?_
      rintro e w2 ⟨rfl, b2⟩
      have B2 : Hid (Below w.heap.size w w2) := HB.out.trans (b2.mono HB.out.size)
      clear b2
      go_wp2
      go_ret
      exact ⟨rfl, B2.out⟩
end Go.Proofs.YtjbjegmlpjiefaaGreatDoor
namespace Go.Proofs.YtjbjegmlpjiefaaGreatDoor
open Go.RowKit

set_option maxHeartbeats 4000000 in
set_option maxRecDepth 100000 in
theorem specMoreD (c : Paper) (a : Option Addr) (cap : Nat) (w : World) (hl : c.names.length ≤ 5) (hs : ∀ i, i < c.names.length → (tAt c.names i).size ≤ 40) (ha : IsStrs w a c.names) :
    Calls Tryz.prog 43 #[c.val (.slice a c.names.length cap)] w fun e w' => e = .returned (.string (moreD c.names c.ca)) ∧ Below w.heap.size w w' := by
  obtain ⟨ser, iss, sub, fr, till, key, names, ca, sk, se, ss⟩ := c
  simp only at hl hs ha ⊢
  unfold Paper.val
  simp only
  have HHo : Hid (∀ V, IsStrs V a names → Calls Tryz.prog 70 #[.slice a names.length cap] V fun e w' => e = .returned (.string (seqD (hostsD names names.length))) ∧ Below V.heap.size V w') := fun V hV => specHosts a names cap V hl hs hV
  have zN := namesD_le hl hs
  have zC := caT_le
  have zH := hostsD_le (ss := names) names.length hs
  obtain ⟨M, hM⟩ : ∃ M, M = moreD names ca := ⟨_, rfl⟩
  rw [← hM]
  have HM : Hid (M = moreT (namesD names ++ caD ca)) := hM
  clear hM
  have HN0 : Hid (names.length = 0 → namesD names = ⟨#[]⟩) := fun h => if_pos h
  have HN1 : Hid (names.length ≠ 0 → namesD names = seqD (oidT [2, 5, 29, 17] ++ thingD 4 (seqD (hostsD names names.length)))) := fun h => if_neg h
  obtain ⟨nl, hnl⟩ : ∃ nl, nl = names.length := ⟨_, rfl⟩
  rw [← hnl] at hl HHo zH HN0 HN1 ⊢
  have HNl : Hid (nl = names.length) := hnl
  clear hnl hs
  obtain ⟨w1, hw1⟩ : ∃ w1, w1 = w.alloc (.cells #[.int .i64 ser, .string iss, .string sub, .int .i64 fr, .int .i64 till, .int .i64 key, .slice a nl cap, .bool ca, .int .i64 sk, .int .i64 se, .int .i64 ss] 30 (0, 0)) := ⟨_, rfl⟩
  have r0 : w1.heap[w.heap.size]? = some (.cells [Value.int .i64 ser, .string iss, .string sub, .int .i64 fr, .int .i64 till, .int .i64 key, .slice a nl cap, .bool ca, .int .i64 sk, .int .i64 se, .int .i64 ss].toArray 30 (0, 0)) := by rw [hw1]; exact heap_alloc_new w _
  have B1 : Hid (Below w.heap.size w w1) := by rw [hw1]; exact (Below.refl _ _).alloc (Nat.le_refl _) _
  have z1 : w.heap.size < w1.heap.size := by rw [hw1]; simp
  have HK : Hid (∀ V, Below w1.heap.size w1 V → V.cell? ⟨w.heap.size, 0, none⟩ = some (.int .i64 ser) ∧ V.cell? ⟨w.heap.size, 1, none⟩ = some (.string iss) ∧ V.cell? ⟨w.heap.size, 2, none⟩ = some (.string sub) ∧ V.cell? ⟨w.heap.size, 3, none⟩ = some (.int .i64 fr) ∧ V.cell? ⟨w.heap.size, 4, none⟩ = some (.int .i64 till) ∧ V.cell? ⟨w.heap.size, 5, none⟩ = some (.int .i64 key) ∧ V.cell? ⟨w.heap.size, 6, none⟩ = some (.slice a nl cap) ∧ V.cell? ⟨w.heap.size, 7, none⟩ = some (.bool ca) ∧ V.cell? ⟨w.heap.size, 8, none⟩ = some (.int .i64 sk) ∧ V.cell? ⟨w.heap.size, 9, none⟩ = some (.int .i64 se) ∧ V.cell? ⟨w.heap.size, 10, none⟩ = some (.int .i64 ss)) := fun V hV => by
    have hP := (hV.block _ z1).trans r0
    exact ⟨rowFacts hP 0 _ rfl, rowFacts hP 1 _ rfl, rowFacts hP 2 _ rfl, rowFacts hP 3 _ rfl, rowFacts hP 4 _ rfl, rowFacts hP 5 _ rfl, rowFacts hP 6 _ rfl, rowFacts hP 7 _ rfl, rowFacts hP 8 _ rfl, rowFacts hP 9 _ rfl, rowFacts hP 10 _ rfl⟩
  have HA : Hid (∀ V, Below w1.heap.size w1 V → IsStrs V a names) := fun V hV => (ha.keep B1.out).keep hV
  have HB : Hid (∀ V, Below w1.heap.size w1 V → Below w.heap.size w V) := fun V hV => B1.out.trans (hV.mono B1.out.size)
  clear r0 ha z1 B1
  have PT : Hid (∀ V (t : Int) (b : ByteArray), Hid (Below w1.heap.size w1 V) → 0 ≤ t → t ≤ 255 → b.size ≤ 20000 → Calls Tryz.prog 38 #[.int .i64 t, .string b] V fun e W => e = .returned (.string (thingD t b)) ∧ Hid (Below w1.heap.size w1 W)) := fun V t b hV h0 h1 hb => by
    refine (specThing t b V h0 h1 hb).mono ?_
    rintro e W ⟨rfl, hW⟩
    exact ⟨rfl, hV.out.trans (hW.mono hV.out.size)⟩
  have PS : Hid (∀ V (b : ByteArray), Hid (Below w1.heap.size w1 V) → b.size ≤ 20000 → Calls Tryz.prog 42 #[.string b] V fun e W => e = .returned (.string (seqD b)) ∧ Hid (Below w1.heap.size w1 W)) := fun V b hV hb => by
    refine (specSeq b V hb).mono ?_
    rintro e W ⟨rfl, hW⟩
    exact ⟨rfl, hV.out.trans (hW.mono hV.out.size)⟩
  have PO : Hid (∀ V (x y z u : Int) (g : Nat), V.heap[g]? = some (.cells (lCells [x, y, z, u] ++ []).toArray 2 (0, 0)) → Hid (Below w1.heap.size w1 V) → arcsB [x, y, z, u] = true → Calls Tryz.prog 69 #[.slice (some ⟨g, 0, none⟩) 4 4] V fun e W => e = .returned (.string (oidT [x, y, z, u])) ∧ Hid (Below w1.heap.size w1 W)) := fun V x y z u g hg hV ha => by
    refine (specOid (some ⟨g, 0, none⟩) [x, y, z, u] 4 V ha (IsInts.row hg)).mono ?_
    rintro e W ⟨rfl, hW⟩
    exact ⟨rfl, hV.out.trans (hW.mono hV.out.size)⟩
  have PH : Hid (∀ V, Hid (Below w1.heap.size w1 V) → Calls Tryz.prog 70 #[.slice a nl cap] V fun e W => e = .returned (.string (seqD (hostsD names nl))) ∧ Hid (Below w1.heap.size w1 W)) := fun V hV => by
    refine (HHo.out V (HA.out V hV.out)).mono ?_
    rintro e W ⟨rfl, hW⟩
    exact ⟨rfl, hV.out.trans (hW.mono hV.out.size)⟩
  have AL : Hid (∀ V o, Hid (Below w1.heap.size w1 V) → Hid (Below w1.heap.size w1 (V.alloc o))) := fun V o h => h.out.alloc h.out.size o
  have DR : Hid (∀ V, Hid (Below w1.heap.size w1 V) → Hid (Below w1.heap.size w1 V.drew)) := fun V h => h.out.drew
  have I1 : Hid (Below w1.heap.size w1 w1) := Below.refl _ _
  clear HHo
  go_enter Tryz.func43, Tryz.ntmps43
  go_upto_region 2 with fail
  rw [← hw1]
  clear hw1
  obtain ⟨c0, c1, c2, c3, c4, c5, c6, c7, c8, c9, c10⟩ := HK.out w1 I1.out
  go_upto_if 7 with fail
  go_cut [3] from 4 (fun s3 wx => s3 = .string (namesD names) ∧ Below w1.heap.size w1 wx)
  case first =>
    by_cases hn : nl = 0
    · subst hn
      have HF : Hid (namesD names = ⟨#[]⟩) := HN0.out rfl
      go_wp2_with fail
      go_meet
      case rel => exact ⟨by rw [HF.out], I1.out⟩
    · have HF : Hid (namesD names = seqD (oidT [2, 5, 29, 17] ++ thingD 4 (seqD (hostsD names nl)))) := HN1.out hn
      have hni : (0 : Int) < (nl : Int) := by omega
      have y1 := arcs_lit arcs17
      have y2 := thingD_le 4 (seqD (hostsD names nl))
      have y3 := seqD_le (hostsD names nl)
      have y4 : (oidT [2, 5, 29, 17] ++ thingD 4 (seqD (hostsD names nl))).size ≤ 20000 := by rw [ByteArray.size_append]; omega
      have y5 : (seqD (hostsD names nl)).size ≤ 20000 := by omega
      have D1 : Hid (Below w1.heap.size w1 w1.drew) := DR.out _ I1
      have P0 : Hid (∀ V (g : Nat), V.heap[g]? = some (.cells #[.int .i64 2, .int .i64 5, .int .i64 29, .int .i64 17] 2 (0, 0)) → Hid (Below w1.heap.size w1 V) → Calls Tryz.prog 69 #[.slice (some ⟨g, 0, none⟩) 4 4] V fun e W => e = .returned (.string (oidT [2, 5, 29, 17])) ∧ Hid (Below w1.heap.size w1 W)) := fun V g hg hV => PO.out V 2 5 29 17 g hg hV arcs17
      have P3 : Hid (∀ V, Hid (Below w1.heap.size w1 V) → Calls Tryz.prog 38 #[.int .i64 4, .string (seqD (hostsD names nl))] V fun e W => e = .returned (.string (thingD 4 (seqD (hostsD names nl)))) ∧ Hid (Below w1.heap.size w1 W)) := fun V hV => PT.out V 4 _ hV (by omega) (by omega) y5
      have P4 : Hid (∀ V, Hid (Below w1.heap.size w1 V) → Calls Tryz.prog 42 #[.string (oidT [2, 5, 29, 17] ++ thingD 4 (seqD (hostsD names nl)))] V fun e W => e = .returned (.string (namesD names)) ∧ Hid (Below w1.heap.size w1 W)) := fun V hV => by rw [HF.out]; exact PS.out V _ hV y4
      have hadd : ¬ 9223372036854775807 < (oidT [2, 5, 29, 17]).size + (thingD 4 (seqD (hostsD names nl))).size := by omega
      clear y1 y2 y3 y4 y5 HF HM HN0 HN1 zN zH zC
      generalize thingD 4 (seqD (hostsD names nl)) = q3 at *
      generalize seqD (hostsD names nl) = q2 at *
      generalize oidT [2, 5, 29, 17] = q1 at *
      go_wp2_with fail
      go_region_held3 (fun V => V.cell? ⟨w.heap.size, 6, none⟩ = some (.slice a nl cap)) (first | assumption | exact (HK.out _ (Hid.out (by assumption))).2.2.2.2.2.2.1 | go_keep)
        (first
          | (go_at_call 69; refine (P0.out _ _ (heap_alloc_new _ _) (by first | assumption | exact DR.out _ (AL.out _ _ (by assumption)) | exact AL.out _ _ (by assumption))).mono ?_; rintro r V1 ⟨rfl, k1⟩)
          | (go_at_call 70; refine (PH.out _ (by assumption)).mono ?_; rintro r V2 ⟨rfl, k2⟩)
          | (go_at_call 38; refine (P3.out _ (by assumption)).mono ?_; rintro r V3 ⟨rfl, k3⟩)
          | (go_at_call 42; refine (P4.out _ (by assumption)).mono ?_; rintro r V4 ⟨rfl, k4⟩))
      go_wp2_with fail
      go_meet
      case rel => exact ⟨rfl, k4.out⟩
  case rest =>
    obtain ⟨rfl, hcut⟩ := hcut
    have J1 : Hid (Below w1.heap.size w1 wc) := hcut
    clear hcut c0 c1 c2 c3 c4 c5 c6 c7 c8 c9 c10 HN0 HN1 zH hl HNl HA I1
    generalize namesD names = N at *
    obtain ⟨c0, c1, c2, c3, c4, c5, c6, c7, c8, c9, c10⟩ := HK.out wc J1.out
    go_upto_if 17 with fail
    go_cut [3] from 4 (fun s3 wx => s3 = .string (N ++ caD ca) ∧ Below w1.heap.size w1 wx)
    case first =>
      cases ca with
      | false =>
        have HF : Hid (N ++ caD false = N) := by show N ++ (⟨#[]⟩ : ByteArray) = N; exact ByteArray.append_empty
        go_wp2_with fail
        go_meet
        case rel => exact ⟨by rw [HF.out], J1.out⟩
      | true =>
        have HF : Hid (N ++ caD true = N ++ caT) := rfl
        have x1 := arcs_lit arcs19
        have x2 := soD_le
        have x3 := seqD_le soD
        have x4 := thingD_le 4 (seqD soD)
        have P1 : Hid (∀ V, Hid (Below w1.heap.size w1 V) → Calls Tryz.prog 38 #[.int .i64 1, .string ⟨#[255]⟩] V fun e W => e = .returned (.string soD) ∧ Hid (Below w1.heap.size w1 W)) := fun V hV => PT.out V 1 ⟨#[255]⟩ hV (by omega) (by omega) (by show 1 ≤ 20000; omega)
        have P2 : Hid (∀ V, Hid (Below w1.heap.size w1 V) → Calls Tryz.prog 42 #[.string soD] V fun e W => e = .returned (.string (seqD soD)) ∧ Hid (Below w1.heap.size w1 W)) := fun V hV => PS.out V soD hV (by omega)
        have P3 : Hid (∀ V, Hid (Below w1.heap.size w1 V) → Calls Tryz.prog 38 #[.int .i64 4, .string (seqD soD)] V fun e W => e = .returned (.string (thingD 4 (seqD soD))) ∧ Hid (Below w1.heap.size w1 W)) := fun V hV => PT.out V 4 (seqD soD) hV (by omega) (by omega) (by omega)
        have P4 : Hid (∀ V, Hid (Below w1.heap.size w1 V) → Calls Tryz.prog 42 #[.string (oidT [2, 5, 29, 19] ++ soD ++ thingD 4 (seqD soD))] V fun e W => e = .returned (.string caT) ∧ Hid (Below w1.heap.size w1 W)) := fun V hV => by
          have h := PS.out V (oidT [2, 5, 29, 19] ++ soD ++ thingD 4 (seqD soD)) hV (by rw [ByteArray.size_append, ByteArray.size_append]; omega)
          have e : seqD (oidT [2, 5, 29, 19] ++ soD ++ thingD 4 (seqD soD)) = caT := by unfold caT; rw [ByteArray.append_assoc]
          rw [e] at h
          exact h
        have P0 : Hid (∀ V (g : Nat), V.heap[g]? = some (.cells #[.int .i64 2, .int .i64 5, .int .i64 29, .int .i64 19] 2 (0, 0)) → Hid (Below w1.heap.size w1 V) → Calls Tryz.prog 69 #[.slice (some ⟨g, 0, none⟩) 4 4] V fun e W => e = .returned (.string (oidT [2, 5, 29, 19])) ∧ Hid (Below w1.heap.size w1 W)) := fun V g hg hV => PO.out V 2 5 29 19 g hg hV arcs19
        generalize thingD 4 (seqD soD) = q4 at *
        generalize seqD soD = q3 at *
        generalize soD = q2 at *
        generalize oidT [2, 5, 29, 19] = q1 at *
        generalize caT = q5 at *
        clear HM PT PS PO PH
        go_wp2_with fail
        refine (P0.out _ _ (heap_alloc_new _ _) (AL.out _ _ J1)).mono ?_
        rintro r V1 ⟨rfl, k1⟩
        go_wp2_with fail
        refine (P1.out _ k1).mono ?_
        rintro r V2 ⟨rfl, k2⟩
        go_wp2_with fail
        refine (P1.out _ k2).mono ?_
        rintro r V3 ⟨rfl, k3⟩
        go_wp2_with fail
        refine (P2.out _ k3).mono ?_
        rintro r V4 ⟨rfl, k4⟩
        go_wp2_with fail
        refine (P3.out _ k4).mono ?_
        rintro r V5 ⟨rfl, k5⟩
        go_wp2_with fail
        refine (P4.out _ k5).mono ?_
        rintro r V6 ⟨rfl, k6⟩
        go_wp2_with fail
        go_meet
        case rel => exact ⟨by rw [HF.out], k6.out⟩
    case rest =>
      obtain ⟨rfl, hcut⟩ := hcut
      have J2 : Hid (Below w1.heap.size w1 wc) := hcut
      have hT : (N ++ caD ca).size ≤ 370 := by rw [ByteArray.size_append]; have := caD_le ca; omega
      clear hcut c0 c1 c2 c3 c4 c5 c6 c7 c8 c9 c10 J1
      generalize N ++ caD ca = T at *
      by_cases h0 : T.size = 0
      · have HF : Hid (M = ⟨#[]⟩) := by show _ = _; rw [HM.out, moreT, if_pos h0]
        have he := isEmpty_of h0
        go_upto_if 30 with fail
        try rw [he]
        go_wp2
        go_ret
        exact ⟨by rw [HF.out]; rfl, HB.out _ J2.out⟩
      · have HF : Hid (M = thingD 163 (seqD T)) := by show _ = _; rw [HM.out, moreT, if_neg h0]
        have he := isEmpty_not h0
        have x1 := seqD_le T
        go_upto_if 30 with fail
        try rw [he]
        go_wp2_with fail
        refine (PS.out _ _ J2 (by omega)).mono ?_
        rintro r V1 ⟨rfl, k1⟩
        go_wp2_with fail
        refine (PT.out _ 163 _ k1 (by omega) (by omega) (by omega)).mono ?_
        rintro r V2 ⟨rfl, k2⟩
        rw [← HF.out]
        go_wp2
        go_ret
        exact ⟨rfl, HB.out _ k2.out⟩
end Go.Proofs.YtjbjegmlpjiefaaGreatDoor
namespace Go.Proofs.YtjbjegmlpjiefaaGreatDoor
open Go.RowKit Go.Lib

theorem specIs (n l h : Int) (w : World) :
    Calls Tryz.prog 28 #[.int .i64 n, .int .i64 l, .int .i64 h] w fun e w' => e = .returned (.bool (decide (l ≤ n) && decide (n ≤ h))) ∧ w' = w := by
  by_cases h1 : l ≤ n
  · go_enter Tryz.func28, Tryz.ntmps28
    go_wp2
    go_ret
    exact ⟨by simp [h1], rfl⟩
  · go_enter Tryz.func28, Tryz.ntmps28
    go_wp2
    go_ret
    exact ⟨by simp; omega, rfl⟩
end Go.Proofs.YtjbjegmlpjiefaaGreatDoor
namespace Go.Proofs.YtjbjegmlpjiefaaGreatDoor
open Go.RowKit

theorem specTime (n : Int) (w : World) :
    Calls Tryz.prog 30 #[.int .i64 n] w fun e w' => e = .returned (.bool (timeB n)) ∧ w' = w := by
  go_enter Tryz.func30, Tryz.ntmps30
  go_wp2_with fail
  refine (specIs n 0 1000000000 _).mono ?_
  rintro e w' ⟨rfl, rfl⟩
  go_wp2
  go_ret
  exact ⟨rfl, rfl⟩
theorem specNameB (s : ByteArray) (w : World) (hs : s.size ≤ maxLen) :
    Calls Tryz.prog 29 #[.string s] w fun e w' => e = .returned (.bool (nameB s)) ∧ w' = w :=
  (specName s w hs).mono fun _ _ h => ⟨ans_name h.1, h.2⟩
end Go.Proofs.YtjbjegmlpjiefaaGreatDoor
namespace Go.Proofs.YtjbjegmlpjiefaaGreatDoor
open Go.RowKit

set_option maxHeartbeats 1000000 in
set_option maxRecDepth 100000 in
theorem specNames (a : Option Addr) (ss : List ByteArray) (c : Nat) (w : World) (hl : ss.length ≤ 1048576) (hs : totS ss ss.length ≤ 1048576) (ha : IsStrs w a ss) :
    Calls Tryz.prog 32 #[.slice a ss.length c] w fun e w' => e = .returned (.bool (namesB ss)) ∧ Below w.heap.size w w' := by
  have HSz : Hid (∀ k, k < ss.length → (tAt ss k).size ≤ 1048576) := fun k hk => Nat.le_trans (totS_at ss hk) hs
  clear hs
  go_enter Tryz.func32, Tryz.ntmps32
  go_wp2
  go_loopw [3] (fun i wr => ∃ k : Nat, k ≤ ss.length ∧ i = .int .i64 k ∧ okTo ss k = true ∧ Below w.heap.size w wr) (fun i _ => ss.length - (intOf i).toNat)
  case atStart => exact ⟨0, Nat.zero_le _, rfl, rfl, Below.refl _ _⟩
  case round =>
    obtain ⟨k, hk, rfl, hok, hbr⟩ := hrel
    have HOk : Hid (okTo ss k = true) := hok
    have HB : Hid (Below w.heap.size w wr) := hbr
    clear hok
    by_cases hlt : k < ss.length
    · obtain ⟨x, o, rfl, hc⟩ : ∃ x o, a = some ⟨x, o, none⟩ ∧ ∀ i, i < ss.length → wr.cell? ⟨x, o + i, none⟩ = some (.string (tAt ss i)) := by
        rcases ha.below hbr ha.lt with rfl | h
        · simp at hlt
        · exact h
      have hck := hc k hlt
      have hz := HSz.out k hlt
      have HNm : Hid (∀ V : World, Calls Tryz.prog 29 #[.string (tAt ss k)] V fun e w' => e = .returned (.bool (nameB (tAt ss k))) ∧ w' = V) := fun V => specNameB _ V (by unfold maxLen; omega)
      clear hz
      have a0 : (0 : Int) ≤ (k : Int) := by omega
      have b0 : (k : Int) < (ss.length : Int) := by omega
      cases hn : nameB (tAt ss k) with
      | false =>
        have HF : Hid (namesB ss = false) := by show _ = _; rw [namesB, okTo_no (okN_not hn) hlt]; rfl
        rw [hn] at HNm
        generalize tAt ss k = z at *
        generalize ss.length = n at *
        clear hc ha hbr hn HSz
        go_wp2_with fail
        go_quiet ((go_at_call 29; exact Calls.quiet_of_same (HNm.out _)))
        go_wp2
        go_ret
        exact ⟨by rw [HF.out]; rfl, below_drewN HB.out _⟩
      | true =>
        rw [hn] at HNm
        by_cases h0 : k = 0
        · subst h0
          have HF : Hid (okN ss 0 = true) := okN_zero hn
          rw [Nat.add_zero] at hck
          generalize tAt ss 0 = z at *
          generalize ss.length = n at *
          clear hc ha hbr hn HSz
          go_wp2_with fail
          go_quiet ((go_at_call 29; exact Calls.quiet_of_same (HNm.out _)))
          go_wp2
          go_roundw
          case rel => exact ⟨1, by omega, by go_num, okTo_yes HOk.out HF.out, below_drewN HB.out _⟩
          case measure => simp [intOf]; omega
        · have hck1 := hc (k - 1) (by omega)
          have ek : ((k : Int) - 1) = ((k - 1 : Nat) : Int) := by omega
          have ew : IntKind.i64.wrap ((k : Int) - 1) = ((k - 1 : Nat) : Int) := by rw [IntKind.wrap_i64]; omega
          have a1 : (0 : Int) < (k : Int) := by omega
          have a2 : 0 < k := by omega
          have g1 : decide ((0 : Int) < (k : Int)) = true := decide_eq_true a1
          have b1 : ((k - 1 : Nat) : Int) < (ss.length : Int) := by omega
          have hbl := okN_more (ss := ss) (k := k) (by omega) hn
          cases hr : Op.bytesLess (tAt ss (k - 1)).toList (tAt ss k).toList with
          | false =>
            have HF : Hid (namesB ss = false) := by show _ = _; rw [namesB, okTo_no (hbl.trans hr) hlt]; rfl
            generalize tAt ss k = z at *
            generalize tAt ss (k - 1) = y at *
            generalize k - 1 = k1 at *
            generalize ss.length = n at *
            clear hc ha hbr hn HSz hbl
            go_wp2_with fail
            go_quiet ((go_at_call 29; exact Calls.quiet_of_same (HNm.out _)))
            go_wp2
            go_ret
            exact ⟨by rw [HF.out]; rfl, below_drewN HB.out _⟩
          | true =>
            have HF : Hid (okN ss k = true) := hbl.trans hr
            generalize tAt ss k = z at *
            generalize tAt ss (k - 1) = y at *
            generalize k - 1 = k1 at *
            generalize ss.length = n at *
            clear hc ha hbr hn HSz hbl
            go_wp2_with fail
            go_quiet ((go_at_call 29; exact Calls.quiet_of_same (HNm.out _)))
            go_wp2
            go_roundw
            case rel => exact ⟨k + 1, by omega, by go_num, okTo_yes HOk.out HF.out, below_drewN HB.out _⟩
            case measure => simp [intOf]; omega
    · obtain rfl : k = ss.length := by omega
      have HF : Hid (namesB ss = decide (ss.length ≤ 5)) := by show _ = _; rw [namesB, HOk.out]; rfl
      clear ha hbr
      by_cases h5 : ss.length ≤ 5
      · rw [decide_eq_true h5] at HF
        go_wp2
        go_ret
        exact ⟨by rw [HF.out]; first | rfl | (simp; omega), HB.out⟩
      · rw [decide_eq_false h5] at HF
        go_wp2
        go_ret
        exact ⟨by rw [HF.out]; first | rfl | (simp; omega), HB.out⟩
end Go.Proofs.YtjbjegmlpjiefaaGreatDoor
namespace Go.Proofs.YtjbjegmlpjiefaaGreatDoor
open Go.RowKit

set_option maxHeartbeats 2000000 in
set_option maxRecDepth 100000 in
theorem specPaper (c : Paper) (a : Option Addr) (cap : Nat) (w : World) (hi : c.issuer.size ≤ maxLen) (hs : c.subject.size ≤ maxLen) (hl : c.names.length ≤ 1048576) (ht : totS c.names c.names.length ≤ 1048576) (ha : IsStrs w a c.names) :
    Calls Tryz.prog 13 #[c.val (.slice a c.names.length cap)] w fun e w' => e = .returned (.bool (paperB c)) ∧ Below w.heap.size w w' := by
  obtain ⟨ser, iss, sub, fr, till, key, names, ca, sk, se, ss⟩ := c
  simp only at hi hs hl ht ha
  unfold Paper.val
  simp only
  obtain ⟨R, hR⟩ : ∃ R, R = paperB ⟨ser, iss, sub, fr, till, key, names, ca, sk, se, ss⟩ := ⟨_, rfl⟩
  rw [← hR]
  have HR : Hid (R = (decide (1 ≤ ser) && decide (ser ≤ 1000000000) && nameB iss && nameB sub && timeB fr && timeB till && decide (fr ≤ till) && rightG key && namesB names)) := hR
  clear hR
  obtain ⟨w1, hw1⟩ : ∃ w1, w1 = w.alloc (.cells #[.int .i64 ser, .string iss, .string sub, .int .i64 fr, .int .i64 till, .int .i64 key, .slice a names.length cap, .bool ca, .int .i64 sk, .int .i64 se, .int .i64 ss] 30 (0, 0)) := ⟨_, rfl⟩
  have hrow : w1.heap[w.heap.size]? = some (.cells [Value.int .i64 ser, .string iss, .string sub, .int .i64 fr, .int .i64 till, .int .i64 key, .slice a names.length cap, .bool ca, .int .i64 sk, .int .i64 se, .int .i64 ss].toArray 30 (0, 0)) := by rw [hw1]; exact heap_alloc_new w _
  have B1 : Hid (Below w.heap.size w w1) := by rw [hw1]; exact (Below.refl _ _).alloc (Nat.le_refl _) _
  have A1 : Hid (IsStrs w1 a names) := ha.keep B1.out
  have c0 := rowFacts hrow 0 _ rfl
  have c1 := rowFacts hrow 1 _ rfl
  have c2 := rowFacts hrow 2 _ rfl
  have c3 := rowFacts hrow 3 _ rfl
  have c4 := rowFacts hrow 4 _ rfl
  have c5 := rowFacts hrow 5 _ rfl
  have c6 := rowFacts hrow 6 _ rfl
  have HNm : Hid (∀ V, IsStrs V a names → Calls Tryz.prog 32 #[.slice a names.length cap] V fun e w' => e = .returned (.bool (namesB names)) ∧ Below V.heap.size V w') := fun V hV => specNames a names cap V hl ht hV
  have HRow : Hid (w1.heap[w.heap.size]? = some (.cells [Value.int .i64 ser, .string iss, .string sub, .int .i64 fr, .int .i64 till, .int .i64 key, .slice a names.length cap, .bool ca, .int .i64 sk, .int .i64 se, .int .i64 ss].toArray 30 (0, 0))) := hrow
  generalize names.length = nl at *
  clear hrow ha hl ht
  go_enter Tryz.func13, Tryz.ntmps13
  go_upto_region 1 with fail
  rw [← hw1]
  clear hw1
  go_wp2_with fail
  refine (specIs ser 1 1000000000 _).mono ?_
  rintro e w2 ⟨rfl, rfl⟩
  cases h1 : (decide (1 ≤ ser) && decide (ser ≤ 1000000000)) with
  | false =>
    have HF : Hid (R = false) := by show _ = _; rw [HR.out]; simp [h1]
    go_wp2
    go_ret
    exact ⟨by rw [HF.out]; rfl, B1.out⟩
  | true =>
  rw [h1] at HR
  go_wp2_with fail
  refine (specNameB iss _ hi).mono ?_
  rintro e w2 ⟨rfl, rfl⟩
  cases h3 : nameB iss with
  | false =>
    have HF : Hid (R = false) := by show _ = _; rw [HR.out]; simp [h3]
    go_wp2
    go_ret
    exact ⟨by rw [HF.out]; rfl, B1.out⟩
  | true =>
  rw [h3] at HR
  go_wp2_with fail
  refine (specNameB sub _ hs).mono ?_
  rintro e w2 ⟨rfl, rfl⟩
  cases h4 : nameB sub with
  | false =>
    have HF : Hid (R = false) := by show _ = _; rw [HR.out]; simp [h4]
    go_wp2
    go_ret
    exact ⟨by rw [HF.out]; rfl, B1.out⟩
  | true =>
  rw [h4] at HR
  go_wp2_with fail
  refine (specTime fr _).mono ?_
  rintro e w2 ⟨rfl, rfl⟩
  cases h5 : timeB fr with
  | false =>
    have HF : Hid (R = false) := by show _ = _; rw [HR.out]; simp [h5]
    go_wp2
    go_ret
    exact ⟨by rw [HF.out]; rfl, B1.out⟩
  | true =>
  rw [h5] at HR
  go_wp2_with fail
  refine (specTime till _).mono ?_
  rintro e w2 ⟨rfl, rfl⟩
  cases h6 : timeB till with
  | false =>
    have HF : Hid (R = false) := by show _ = _; rw [HR.out]; simp [h6]
    go_wp2
    go_ret
    exact ⟨by rw [HF.out]; rfl, B1.out⟩
  | true =>
  rw [h6] at HR
  by_cases h7 : fr ≤ till
  rotate_left
  · have h7' : till < fr := by omega
    have HF : Hid (R = false) := by show _ = _; rw [HR.out]; simp [h7]
    go_wp2
    go_ret
    exact ⟨by rw [HF.out]; rfl, B1.out⟩
  rw [decide_eq_true h7] at HR
  go_wp2_with fail
  refine (specGroupRight key _).mono ?_
  rintro e w2 ⟨rfl, rfl⟩
  cases h8 : rightG key with
  | false =>
    have HF : Hid (R = false) := by show _ = _; rw [HR.out]; simp [h8]
    go_wp2
    go_ret
    exact ⟨by rw [HF.out]; rfl, B1.out⟩
  | true =>
  rw [h8] at HR
  have HF : Hid (R = namesB names) := by show _ = _; rw [HR.out]; simp
  go_wp2_with fail
  refine (HNm.out _ A1.out).mono ?_
  rintro e w4 ⟨rfl, b4⟩
  rw [← HF.out]
  have B4 : Hid (Below w.heap.size w w4) := B1.out.trans (b4.mono B1.out.size)
  clear b4
  go_wp2
  go_ret
  exact ⟨rfl, B4.out⟩
end Go.Proofs.YtjbjegmlpjiefaaGreatDoor
