/- spec.l06Body, walked. spec.SecretRight, walked. The numbers of the rounds, walked: spec.l02Keys. A block taken into a state, walked: spec.l02Block. -/
import Derived.Test.YtegmmaomaegjjaaGreatDoorPT06
import Derived.Test.YtegmmaomaegjjaaGreatDoorPT07
import Derived.Test.YtegmmaomaegjjaaGreatDoorPT02
import Derived.Test.YtegmmaomaegjjaaGreatDoorPT04
import Derived.Deep.RegionHeld3
import Derived.Deep.AppendLies
namespace Go.Proofs.YtegmmaomaegjjaaGreatDoor
open Go.RowKit

set_option maxHeartbeats 4000000 in
set_option maxRecDepth 100000 in
theorem specBody (c : Paper) (a : Option Addr) (cap : Nat) (w : World) (h : PFits c) (ha : IsStrs w a c.names) :
    Calls Tryz.prog 54 #[c.val (.slice a c.names.length cap)] w fun e w' => e = .returned (.string (bodyD c)) ∧ Below w.heap.size w w' := by
  have HMo : Hid (∀ V, IsStrs V a c.names → Calls Tryz.prog 92 #[c.val (.slice a c.names.length cap)] V fun e w' => e = .returned (.string (moreD c.names c.ca)) ∧ Below V.heap.size V w') := fun V hV => specMoreD c a cap V h.len h.each hV
  have zM := moreD_le h.len h.each c.ca
  have zi := h.iss
  have zs := h.sub
  have hser : -9223372036854775808 ≤ c.serial ∧ c.serial ≤ 9223372036854775807 := by have := h.ser0; have := h.ser1; omega
  have hfr : -9223372036854775808 ≤ c.fr ∧ c.fr ≤ 9223372036854775807 := by have := h.fr0; have := h.fr1; omega
  have htl : -9223372036854775808 ≤ c.till ∧ c.till ≤ 9223372036854775807 := by have := h.till0; have := h.till1; omega
  have hkey : -9223372036854775808 ≤ c.key ∧ c.key ≤ 9223372036854775807 := by have := h.key0; have := h.key1; omega
  obtain ⟨R, hR⟩ : ∃ R, R = bodyD c := ⟨_, rfl⟩
  rw [← hR]
  have HR : Hid (R = bodyD c) := hR
  clear hR h
  obtain ⟨ser, iss, sub, fr, till, key, names, ca, sk, se, ss⟩ := c
  unfold Paper.val at *
  unfold bodyD keyD at HR
  simp only at HMo zM zi zs hser hfr htl hkey ha HR ⊢
  generalize moreD names ca = m at *
  generalize names.length = nl at *
  obtain ⟨w1, hw1⟩ : ∃ w1, w1 = w.alloc (.cells #[.int .i64 ser, .string iss, .string sub, .int .i64 fr, .int .i64 till, .int .i64 key, .slice a nl cap, .bool ca, .int .i64 sk, .int .i64 se, .int .i64 ss] 27 (0, 0)) := ⟨_, rfl⟩
  have r0 : w1.heap[w.heap.size]? = some (.cells [Value.int .i64 ser, .string iss, .string sub, .int .i64 fr, .int .i64 till, .int .i64 key, .slice a nl cap, .bool ca, .int .i64 sk, .int .i64 se, .int .i64 ss].toArray 27 (0, 0)) := by rw [hw1]; exact heap_alloc_new w _
  have B1 : Hid (Below w.heap.size w w1) := by rw [hw1]; exact (Below.refl _ _).alloc (Nat.le_refl _) _
  have z1 : w.heap.size < w1.heap.size := by rw [hw1]; simp
  have HK : Hid (∀ V, Below w1.heap.size w1 V → V.cell? ⟨w.heap.size, 0, none⟩ = some (.int .i64 ser) ∧ V.cell? ⟨w.heap.size, 1, none⟩ = some (.string iss) ∧ V.cell? ⟨w.heap.size, 2, none⟩ = some (.string sub) ∧ V.cell? ⟨w.heap.size, 3, none⟩ = some (.int .i64 fr) ∧ V.cell? ⟨w.heap.size, 4, none⟩ = some (.int .i64 till) ∧ V.cell? ⟨w.heap.size, 5, none⟩ = some (.int .i64 key) ∧ V.cell? ⟨w.heap.size, 6, none⟩ = some (.slice a nl cap) ∧ V.cell? ⟨w.heap.size, 7, none⟩ = some (.bool ca) ∧ V.cell? ⟨w.heap.size, 8, none⟩ = some (.int .i64 sk) ∧ V.cell? ⟨w.heap.size, 9, none⟩ = some (.int .i64 se) ∧ V.cell? ⟨w.heap.size, 10, none⟩ = some (.int .i64 ss)) := fun V hV => by
    have hP := (hV.block _ z1).trans r0
    exact ⟨rowFacts hP 0 _ rfl, rowFacts hP 1 _ rfl, rowFacts hP 2 _ rfl, rowFacts hP 3 _ rfl, rowFacts hP 4 _ rfl, rowFacts hP 5 _ rfl, rowFacts hP 6 _ rfl, rowFacts hP 7 _ rfl, rowFacts hP 8 _ rfl, rowFacts hP 9 _ rfl, rowFacts hP 10 _ rfl⟩
  have HA : Hid (∀ V, Below w1.heap.size w1 V → IsStrs V a names) := fun V hV => (ha.keep B1.out).keep hV
  have HB : Hid (∀ V, Below w1.heap.size w1 V → Below w.heap.size w V) := fun V hV => B1.out.trans (hV.mono B1.out.size)
  clear r0 ha z1 B1
  have PT : Hid (∀ V (t : Int) (b : ByteArray), Hid (Below w1.heap.size w1 V) → 0 ≤ t → t ≤ 255 → b.size ≤ 20000 → Calls Tryz.prog 87 #[.int .i64 t, .string b] V fun e W => e = .returned (.string (thingD t b)) ∧ Hid (Below w1.heap.size w1 W)) := fun V t b hV h0 h1 hb => by
    refine (specThing t b V h0 h1 hb).mono ?_
    rintro e W ⟨rfl, hW⟩
    exact ⟨rfl, hV.out.trans (hW.mono hV.out.size)⟩
  have PS : Hid (∀ V (b : ByteArray), Hid (Below w1.heap.size w1 V) → b.size ≤ 20000 → Calls Tryz.prog 91 #[.string b] V fun e W => e = .returned (.string (seqD b)) ∧ Hid (Below w1.heap.size w1 W)) := fun V b hV hb => by
    refine (specSeq b V hb).mono ?_
    rintro e W ⟨rfl, hW⟩
    exact ⟨rfl, hV.out.trans (hW.mono hV.out.size)⟩
  have PI : Hid (∀ V (n : Int), Hid (Below w1.heap.size w1 V) → -9223372036854775808 ≤ n ∧ n ≤ 9223372036854775807 → Calls Tryz.prog 88 #[.int .i64 n] V fun e W => e = .returned (.string (intD n)) ∧ Hid (Below w1.heap.size w1 W)) := fun V n hV hn => by
    refine (specDerInt n V hn.1 hn.2).mono ?_
    rintro e W ⟨rfl, hW⟩
    exact ⟨rfl, hV.out.trans (hW.mono hV.out.size)⟩
  have PK : Hid (∀ V, Hid (Below w1.heap.size w1 V) → Calls Tryz.prog 89 #[] V fun e W => e = .returned (.string (kindD)) ∧ Hid (Below w1.heap.size w1 W)) := fun V hV => by
    refine (specKind V).mono ?_
    rintro e W ⟨rfl, hW⟩
    exact ⟨rfl, hV.out.trans (hW.mono hV.out.size)⟩
  have PN : Hid (∀ V (b : ByteArray), Hid (Below w1.heap.size w1 V) → b.size ≤ 40 → Calls Tryz.prog 90 #[.string b] V fun e W => e = .returned (.string (nameD b)) ∧ Hid (Below w1.heap.size w1 W)) := fun V b hV hb => by
    refine (specNameD b V (by omega)).mono ?_
    rintro e W ⟨rfl, hW⟩
    exact ⟨rfl, hV.out.trans (hW.mono hV.out.size)⟩
  have PP : Hid (∀ V (n : Int), Hid (Below w1.heap.size w1 V) → -9223372036854775808 ≤ n ∧ n ≤ 9223372036854775807 → Calls Tryz.prog 85 #[.int .i64 n] V fun e W => e = .returned (.string (putS n)) ∧ Hid (Below w1.heap.size w1 W)) := fun V n hV hn => by
    refine (specPut n V hn.1 hn.2).mono ?_
    rintro e W ⟨rfl, hW⟩
    exact ⟨rfl, hV.out.trans (hW.mono hV.out.size)⟩
  have PM : Hid (∀ V, Hid (Below w1.heap.size w1 V) → Calls Tryz.prog 92 #[.agg #[.int .i64 ser, .string iss, .string sub, .int .i64 fr, .int .i64 till, .int .i64 key, .slice a nl cap, .bool ca, .int .i64 sk, .int .i64 se, .int .i64 ss]] V fun e W => e = .returned (.string (m)) ∧ Hid (Below w1.heap.size w1 W)) := fun V hV => by
    refine (HMo.out V (HA.out V hV.out)).mono ?_
    rintro e W ⟨rfl, hW⟩
    exact ⟨rfl, hV.out.trans (hW.mono hV.out.size)⟩
  have DR : Hid (∀ V, Hid (Below w1.heap.size w1 V) → Hid (Below w1.heap.size w1 V.drew)) := fun V h => h.out.drew
  have I1 : Hid (Below w1.heap.size w1 w1) := Below.refl _ _
  have D1 : Hid (Below w1.heap.size w1 w1.drew) := DR.out _ I1
  have y1 := intD_le 2
  have y2 := intD_le ser
  have y3 := kindD_le
  have y4 := nameD_le iss
  have y5 := nameD_le sub
  have y6 := intD_le fr
  have y7 := intD_le till
  have y8 := putS_size key
  have y9 := thingD_le 160 (intD 2)
  have b2 : (intD 2).size ≤ 20000 := by omega
  obtain ⟨p1, e1⟩ : ∃ q, thingD 160 (intD 2) = q := ⟨_, rfl⟩
  rw [e1] at y9 HR
  obtain ⟨x1, q1⟩ : ∃ q, p1 ++ intD ser = q := ⟨_, rfl⟩
  have s1 : x1.size ≤ 100 := by rw [← q1, ByteArray.size_append]; omega
  obtain ⟨x2, q2⟩ : ∃ q, x1 ++ kindD = q := ⟨_, rfl⟩
  have s2 : x2.size ≤ 200 := by rw [← q2, ByteArray.size_append]; omega
  obtain ⟨x3, q3⟩ : ∃ q, x2 ++ nameD iss = q := ⟨_, rfl⟩
  have s3 : x3.size ≤ 400 := by rw [← q3, ByteArray.size_append]; omega
  obtain ⟨v1, g1⟩ : ∃ q, intD fr ++ intD till = q := ⟨_, rfl⟩
  have t1 : v1.size ≤ 20000 := by rw [← g1, ByteArray.size_append]; omega
  have t1' : v1.size ≤ 24 := by rw [← g1, ByteArray.size_append]; omega
  have u1 := seqD_le v1
  obtain ⟨x4, q4⟩ : ∃ q, x3 ++ seqD v1 = q := ⟨_, rfl⟩
  have s4 : x4.size ≤ 500 := by rw [← q4, ByteArray.size_append]; omega
  obtain ⟨x5, q5⟩ : ∃ q, x4 ++ nameD sub = q := ⟨_, rfl⟩
  have s5 : x5.size ≤ 700 := by rw [← q5, ByteArray.size_append]; omega
  obtain ⟨v2, g2⟩ : ∃ q, (⟨#[0]⟩ : ByteArray) ++ putS key = q := ⟨_, rfl⟩
  have t2 : v2.size ≤ 20000 := by rw [← g2, ByteArray.size_append]; show 1 + _ ≤ _; omega
  have t2' : v2.size ≤ 11 := by rw [← g2, ByteArray.size_append]; show 1 + _ ≤ _; omega
  have u2 := thingD_le 3 v2
  obtain ⟨v3, g3⟩ : ∃ q, kindD ++ thingD 3 v2 = q := ⟨_, rfl⟩
  have t3 : v3.size ≤ 20000 := by rw [← g3, ByteArray.size_append]; omega
  have t3' : v3.size ≤ 68 := by rw [← g3, ByteArray.size_append]; omega
  have u3 := seqD_le v3
  obtain ⟨x6, q6⟩ : ∃ q, x5 ++ seqD v3 = q := ⟨_, rfl⟩
  have s6 : x6.size ≤ 900 := by rw [← q6, ByteArray.size_append]; omega
  obtain ⟨x7, q7⟩ : ∃ q, x6 ++ m = q := ⟨_, rfl⟩
  have s7 : x7.size ≤ 20000 := by rw [← q7, ByteArray.size_append]; omega
  have HRR : Hid (seqD x7 = R) := by
    show _ = _
    rw [HR.out, g2, g3, ← q7, ← q6, ← q5, ← q4, ← q3, ← q2, ← q1, g1]
    simp only [ByteArray.append_assoc]
  have a1 : ¬ 9223372036854775807 < p1.size + (intD ser).size := by omega
  have a2 : ¬ 9223372036854775807 < x1.size + kindD.size := by omega
  have a3 : ¬ 9223372036854775807 < x2.size + (nameD iss).size := by omega
  have a4 : ¬ 9223372036854775807 < (intD fr).size + (intD till).size := by omega
  have a5 : ¬ 9223372036854775807 < x3.size + (seqD v1).size := by omega
  have a6 : ¬ 9223372036854775807 < x4.size + (nameD sub).size := by omega
  have a7 : ¬ 9223372036854775807 < (⟨#[0]⟩ : ByteArray).size + (putS key).size := by show ¬ _ < 1 + _; omega
  have a7' : ¬ 9223372036854775807 < 1 + (putS key).size := by omega
  have a8 : ¬ 9223372036854775807 < kindD.size + (thingD 3 v2).size := by omega
  have a9 : ¬ 9223372036854775807 < x5.size + (seqD v3).size := by omega
  have a10 : x6.size + m.size ≤ 9223372036854775807 := by omega
  have P160 : Hid (∀ V, Hid (Below w1.heap.size w1 V) → Calls Tryz.prog 87 #[.int .i64 160, .string (intD 2)] V fun e W => e = .returned (.string (p1)) ∧ Hid (Below w1.heap.size w1 W)) := fun V hV => by rw [← e1]; exact PT.out V 160 _ hV (by omega) (by omega) b2
  have P3 : Hid (∀ V, Hid (Below w1.heap.size w1 V) → Calls Tryz.prog 87 #[.int .i64 3, .string v2] V fun e W => e = .returned (.string (thingD 3 v2)) ∧ Hid (Below w1.heap.size w1 W)) := fun V hV => PT.out V 3 _ hV (by omega) (by omega) t2
  have PIser : -9223372036854775808 ≤ (2 : Int) ∧ (2 : Int) ≤ 9223372036854775807 := by omega
  clear HR y1 y2 y3 y4 y5 y6 y7 y8 y9 b2 s1 s2 s3 s4 s5 s6 u1 u2 u3 t1' t2' t3' PT HMo zM e1
  go_enter Tryz.func54, Tryz.ntmps54
  go_upto_region 1 with fail
  rw [← hw1]
  clear hw1
  obtain ⟨c0, c1, c2, c3, c4, c5, c6, c7, c8, c9, c10⟩ := HK.out w1 I1.out
  go_cut [3] from 4 (fun s3 wx => s3 = .string x3 ∧ Below w1.heap.size w1 wx)
  case first =>
    clear q4 q5 q6 q7 g1 g2 g3 a4 a5 a6 a7 a7' a8 a9 a10 t1 t2 t3 s7
    go_region_held3 (fun V => V.cell? ⟨w.heap.size, 0, none⟩ = some (.int .i64 ser) ∧ V.cell? ⟨w.heap.size, 1, none⟩ = some (.string iss)) (first | (refine ⟨?_, ?_⟩ <;> assumption) | exact ⟨(HK.out _ (Hid.out (by assumption))).1, (HK.out _ (Hid.out (by assumption))).2.1⟩)
      (first
        | (go_at_call 88; refine (PI.out _ _ (by assumption) (by assumption)).mono ?_; rintro r V1 ⟨rfl, k1⟩)
        | (go_at_call 87; refine (P160.out _ (by assumption)).mono ?_; rintro r V2 ⟨rfl, k2⟩)
        | (go_at_call 89; refine (PK.out _ (by assumption)).mono ?_; rintro r V3 ⟨rfl, k3⟩)
        | (go_at_call 90; refine (PN.out _ _ (by assumption) (by assumption)).mono ?_; rintro r V4 ⟨rfl, k4⟩))
    go_wp2_with fail
    go_meet
    case rel => exact ⟨rfl, k4.out⟩
  case rest =>
    obtain ⟨rfl, hcut⟩ := hcut
    have J1 : Hid (Below w1.heap.size w1 wc) := hcut
    have D2 : Hid (Below w1.heap.size w1 wc.drew) := DR.out _ J1
    clear hcut c0 c1 c2 c3 c4 c5 c6 c7 c8 c9 c10 q1 q2 q3 a1 a2 a3 D1 I1 P160 PIser
    obtain ⟨c0, c1, c2, c3, c4, c5, c6, c7, c8, c9, c10⟩ := HK.out wc J1.out
    go_upto_region 2 with fail
    go_cut [3] from 4 (fun s3 wx => s3 = .string x6 ∧ Below w1.heap.size w1 wx)
    case first =>
      clear q7 a10 s7
      go_region_held3 (fun V => V.cell? ⟨w.heap.size, 2, none⟩ = some (.string sub) ∧ V.cell? ⟨w.heap.size, 3, none⟩ = some (.int .i64 fr) ∧ V.cell? ⟨w.heap.size, 4, none⟩ = some (.int .i64 till) ∧ V.cell? ⟨w.heap.size, 5, none⟩ = some (.int .i64 key)) (first | (refine ⟨?_, ?_, ?_, ?_⟩ <;> assumption) | exact ⟨(HK.out _ (Hid.out (by assumption))).2.2.1, (HK.out _ (Hid.out (by assumption))).2.2.2.1, (HK.out _ (Hid.out (by assumption))).2.2.2.2.1, (HK.out _ (Hid.out (by assumption))).2.2.2.2.2.1⟩)
        (first
          | (go_at_call 88; refine (PI.out _ _ (by assumption) (by assumption)).mono ?_; rintro r V1 ⟨rfl, k1⟩)
          | (go_at_call 91; refine (PS.out _ _ (by assumption) (by assumption)).mono ?_; rintro r V2 ⟨rfl, k2⟩)
          | (go_at_call 90; refine (PN.out _ _ (by assumption) (by assumption)).mono ?_; rintro r V3 ⟨rfl, k3⟩)
          | (go_at_call 89; refine (PK.out _ (by assumption)).mono ?_; rintro r V4 ⟨rfl, k4⟩)
          | (go_at_call 85; refine (PP.out _ _ (by assumption) (by assumption)).mono ?_; rintro r V5 ⟨rfl, k5⟩)
          | (go_at_call 87; refine (P3.out _ (by assumption)).mono ?_; rintro r V6 ⟨rfl, k6⟩))
      go_wp2_with fail
      go_meet
      case rel => exact ⟨rfl, Hid.out (by assumption)⟩
    case rest =>
      obtain ⟨rfl, hcut⟩ := hcut
      have J2 : Hid (Below w1.heap.size w1 wc) := hcut
      clear hcut c0 c1 c2 c3 c4 c5 c6 c7 c8 c9 c10 J1 D2 q4 q5 q6 g1 g2 g3 a4 a5 a6 a7 a7' a8 a9 t1 t2 t3 P3 PP PN PK PI
      obtain ⟨c0, c1, c2, c3, c4, c5, c6, c7, c8, c9, c10⟩ := HK.out wc J2.out
      go_wp2_with fail
      refine (PM.out _ J2).mono ?_
      rintro r V1 ⟨rfl, k1⟩
      clear c0 c1 c2 c3 c4 c5 c6 c7 c8 c9 c10
      go_wp2_with fail
      refine (PS.out _ x7 k1 s7).mono ?_
      rintro r V2 ⟨rfl, k2⟩
      rw [HRR.out]
      go_wp2
      go_ret
      exact ⟨rfl, HB.out _ k2.out⟩
end Go.Proofs.YtegmmaomaegjjaaGreatDoor
namespace Go.Proofs.YtegmmaomaegjjaaGreatDoor
open Go.RowKit

theorem specSecret (x : Int) (w : World) :
    Calls Tryz.prog 47 #[.int .i64 x] w fun e w' => e = .returned (.bool (secB x)) ∧ w' = w := by
  by_cases h1 : 1 ≤ x
  · by_cases h2 : x < 1073741789
    · have e : secB x = true := decide_eq_true ⟨h1, h2⟩
      rw [e]
      go_enter Tryz.func47, Tryz.ntmps47
      go_wp2
      go_ret
      exact ⟨rfl, rfl⟩
    · have e : secB x = false := decide_eq_false (by omega)
      rw [e]
      go_enter Tryz.func47, Tryz.ntmps47
      go_wp2
      go_ret
      exact ⟨rfl, rfl⟩
  · have e : secB x = false := decide_eq_false (by omega)
    rw [e]
    go_enter Tryz.func47, Tryz.ntmps47
    go_wp2
    go_ret
    exact ⟨rfl, rfl⟩
end Go.Proofs.YtegmmaomaegjjaaGreatDoor
namespace Go.Proofs.YtegmmaomaegjjaaGreatDoor
open Go.RowKit

def keyV : List Value := keyL.map fun n : Nat => Value.int .u32 (n : Int)
theorem key_at (k : Nat) (h : k < 64) : keyV[k]? = some (.int .u32 (uI (kAt k))) := by
  unfold keyV
  have hl : k < keyL.length := h
  rw [List.getElem?_map, List.getElem?_eq_getElem hl]
  have hb : ∀ n ∈ keyL, n < 4294967296 := by decide
  have := hb _ (List.getElem_mem hl)
  unfold kAt uI
  rw [BitVec.toNat_ofNat, List.getD, List.getElem?_eq_getElem hl]
  simp only [Option.map_some, Option.getD_some]
  rw [Nat.mod_eq_of_lt (by simpa using this)]
set_option maxRecDepth 100000 in
theorem specKeys (w : World) :
    Calls Tryz.prog 150 #[] w fun e w' => e = .returned (.slice (some ⟨w.heap.size, 0, none⟩) 64 64) ∧ w'.heap[w.heap.size]? = some (.cells keyV.toArray 119 (0, 0)) ∧ Below w.heap.size w w' := by
  go_enter Tryz.func150, Tryz.ntmps150
  go_wp2
  go_ret
  exact ⟨rfl, heap_alloc_new _ _, (Below.refl _ _).alloc (Nat.le_refl _) _⟩
theorem add_row (s T : St) (j : Nat) (h : j < 8) : (s.add T).row.getD j 0 = s.row.getD j 0 + T.row.getD j 0 := by
  rcases (by omega : j = 0 ∨ j = 1 ∨ j = 2 ∨ j = 3 ∨ j = 4 ∨ j = 5 ∨ j = 6 ∨ j = 7) with rfl | rfl | rfl | rfl | rfl | rfl | rfl | rfl <;> rfl
theorem iCells_take (s : St) (j : Nat) (h : j < 8) : (iCells s).take (j + 1) = (iCells s).take j ++ [.int .i64 (uI (s.row.getD j 0))] := by
  have e := iCells_at s j h
  have hl : j < (iCells s).length := h
  rw [List.getElem?_eq_getElem hl] at e
  rw [List.take_succ_eq_append_getElem hl, Option.some.inj e]
theorem infoWord : (Tryz.prog.info? 119).map (fun i => (i.zero, i.size, i.bytes)) = some (some (.int .u32 0), 1, 4) := by kernel_rfl
end Go.Proofs.YtegmmaomaegjjaaGreatDoor
namespace Go.Proofs.YtegmmaomaegjjaaGreatDoor
open Go.RowKit

theorem set_keep {w : World} {g k a b : Nat} {va vb v0 : Value} (h1 : w.cell? ⟨g, a, none⟩ = some va) (h2 : w.cell? ⟨g, b, none⟩ = some vb) (hc : w.cell? ⟨g, k, none⟩ = some v0) (hz : w.frozen? ⟨g, k, none⟩ = false) (na : k ≠ a) (nb : k ≠ b) (X : Value) :
    (w.setCell ⟨g, k, none⟩ X).cell? ⟨g, a, none⟩ = some va ∧ (w.setCell ⟨g, k, none⟩ X).cell? ⟨g, b, none⟩ = some vb ∧ (∃ v, (w.setCell ⟨g, k, none⟩ X).cell? ⟨g, k, none⟩ = some v) ∧ (w.setCell ⟨g, k, none⟩ X).frozen? ⟨g, k, none⟩ = false :=
  ⟨by rw [World.cell?_setCell_other _ _ _ _ (by simp)]; exact h1, by rw [World.cell?_setCell_other _ _ _ _ (by simp)]; exact h2, ⟨X, World.cell?_setCell_same _ _ _ hc⟩, by rw [World.frozen?_setCell]; exact hz⟩
theorem made1 (w : World) (o : Obj) : ((w.alloc o).alloc (.cells #[] 2 (0, 0))).ownsRow (w.heap.size + 1) 2 1 (.slice (some ⟨w.heap.size + 1, 0, none⟩) 0 0) 0 [] := by
  have h := World.ownsRow_made (base := w.heap.size + 1) (e := 2) (size := 1) (w.alloc o) #[] 0 (by simp) (Nat.zero_le _) rfl
  rw [show (w.alloc o).heap.size = w.heap.size + 1 from by simp] at h
  exact h
set_option maxHeartbeats 2000000 in
set_option maxRecDepth 100000 in
theorem specBlock (s : St) (t : ByteArray) (w : World) (gs cap : Nat) (ht : t.size = 64) (hst : w.rangeAt gs 0 (iCells s)) :
    Calls Tryz.prog 136 #[.slice (some ⟨gs, 0, none⟩) 8 cap, .string t] w
      fun e w' => ∃ v, e = .returned v ∧ w'.ownsRow w.heap.size 2 1 v 8 (iCells (blk s (wordAt t 0))) ∧ Below w.heap.size w w' := by
  obtain ⟨iw, hiw, hw0, hw1, hw2⟩ := info_parts infoWord
  have hgsl : gs < w.heap.size := World.block_lt_of_cell? w _ (hst 0 _ rfl)
  have HST : Hid (w.rangeAt gs 0 (iCells s)) := hst
  clear hst
  go_enter Tryz.func136, Tryz.ntmps136
  go_wp2_with (at_make; refine wpList_make_full _ rfl _ _ 147 rfl w.heap.size 119 iw (.int .u32 0) 1 Tryz.underlying147 hiw hw0 hw1 .i64 .i64 _ _ 64 rfl rfl ?c1 ?c2 ?c3 ?c4 ?c5 ?_)
  case c1 => omega
  case c2 => omega
  case c3 => rw [hw2]; omega
  case c4 => unfold maxLen; omega
  case c5 => exact Nat.le_refl _
  intro w1 hown hgrow
  have hB1 : Below w.heap.size w w1 := (Below.refl _ w).grown hgrow (Nat.le_refl _) (fun k hk => by cases hk)
  obtain ⟨hrow, hlen⟩ := rowOf hown rfl
  generalize (madeCells #[Value.int IntKind.u32 0] 64).toList = L0 at hrow hlen
  have HR0 : Hid (w1.heap[w.heap.size]? = some (.cells L0.toArray 119 (0, 0))) := hrow
  have HL0 : Hid (L0.length = 64) := hlen
  have HB1 : Hid (Below w.heap.size w w1) := hB1
  clear hown hgrow hrow hlen hB1
  go_wp2_with fail
  go_loopw [6] (fun i wr => ∃ (k : Nat) (L : List Value), k ≤ 16 ∧ i = .int .i64 k ∧ L.length = 64 ∧ wr.heap[w.heap.size]? = some (.cells L.toArray 119 (0, 0)) ∧ (∀ j, j < k → L[j]? = some (.int .u32 (uI (wAt (wordAt t 0) j)))) ∧ Below w.heap.size w wr)
    (fun i _ => 16 - (intOf i).toNat)
  case atStart => exact ⟨0, L0, Nat.zero_le _, rfl, HL0.out, HR0.out, fun j hj => by omega, HB1.out⟩
  case round =>
    clear HL0 HR0 HB1
    obtain ⟨k, L, hk, rfl, hL, hg, hv, hb⟩ := hrel
    by_cases hlt : k < 16
    · have hc := rowFacts hg k L[k] (List.getElem?_eq_getElem (by omega))
      have hz := frozen_of_row wr _ k _ _ hg
      have HV : Hid (∀ x, x = uI (wAt (wordAt t 0) k) → ∀ j, j < k + 1 → (L.set k (.int .u32 x))[j]? = some (.int .u32 (uI (wAt (wordAt t 0) j)))) := fun x hx => by
        subst hx
        exact words_set (by omega) hv
      have HG : Hid (∀ x, (wr.setCell ⟨w.heap.size, k, none⟩ x).heap[w.heap.size]? = some (.cells (L.set k x).toArray 119 (0, 0))) := fun x => rowSet x hg
      have HL : Hid (∀ x, (L.set k x).length = 64) := fun x => by simpa using hL
      have HW : Hid (bits BinOp.or IntKind.u32 (bits BinOp.or IntKind.u32 (bits BinOp.or IntKind.u32 (uI (bU (byteAt t (4 * k))) * 16777216 % 4294967296) (uI (bU (byteAt t (4 * k + 1))) * 65536 % 4294967296)) (uI (bU (byteAt t (4 * k + 2))) * 256 % 4294967296)) (uI (bU (byteAt t (4 * k + 3)))) = uI (wAt (wordAt t 0) k)) := by
        show _ = _
        rw [uI_shl24, uI_shl16, uI_shl8, uI_or, uI_or, uI_or, wAt_low _ hlt]
        unfold wordAt
        rw [Nat.zero_add]
      have HBB : Hid (Below w.heap.size w wr) := hb
      generalize L[k] = v0 at hc
      clear hv hg hL hb
      go_wp2_with fail
      have i0 := idxB t (4 * k) (by omega) (4 * (k : Int)) (by omega)
      have i1 := idxB t (4 * k + 1) (by omega) (4 * (k : Int) + 1) (by omega)
      have i2 := idxB t (4 * k + 2) (by omega) (4 * (k : Int) + 2) (by omega)
      have i3 := idxB t (4 * k + 3) (by omega) (4 * (k : Int) + 3) (by omega)
      have fw := uI_wrap
      go_region
      clear i0 i1 i2 i3 fw hc hz
      go_wp2
      go_roundw
      case rel => exact ⟨k + 1, _, by omega, by go_num, HL.out _, HG.out _, HV.out _ HW.out, (HBB.out.setCell (by simp) _).drew⟩
      case measure => simp [intOf]; omega
    · have h16 : k = 16 := by omega
      have HV : Hid (∀ j, j < 16 → L[j]? = some (.int .u32 (uI (wAt (wordAt t 0) j)))) := fun j hj => hv j (by omega)
      have HG : Hid (wr.heap[w.heap.size]? = some (.cells L.toArray 119 (0, 0))) := hg
      have HL : Hid (L.length = 64) := hL
      have HBB : Hid (Below w.heap.size w wr) := hb
      clear hv hg hL hb h16
      go_wp2_with fail
      go_loopw [7] (fun i wr => ∃ (k : Nat) (L : List Value), 16 ≤ k ∧ k ≤ 64 ∧ i = .int .i64 k ∧ L.length = 64 ∧ wr.heap[w.heap.size]? = some (.cells L.toArray 119 (0, 0)) ∧ (∀ j, j < k → L[j]? = some (.int .u32 (uI (wAt (wordAt t 0) j)))) ∧ Below w.heap.size w wr)
        (fun i _ => 64 - (intOf i).toNat)
      case atStart => exact ⟨16, L, by omega, by omega, rfl, HL.out, HG.out, HV.out, HBB.out⟩
      case round =>
        clear HV HG HL HBB L hlt hk
        obtain ⟨k, L, hk0, hk, rfl, hL, hg, hv, hb⟩ := hrel
        by_cases hlt : k < 64
        · have hc := rowFacts hg k L[k] (List.getElem?_eq_getElem (by omega))
          have hz := frozen_of_row wr _ k _ _ hg
          have h16 := rowFacts hg (k - 16) _ (hv (k - 16) (by omega))
          have h15 := rowFacts hg (k - 15) _ (hv (k - 15) (by omega))
          have h7 := rowFacts hg (k - 7) _ (hv (k - 7) (by omega))
          have h2 := rowFacts hg (k - 2) _ (hv (k - 2) (by omega))
          have HV : Hid (∀ x, x = uI (wAt (wordAt t 0) k) → ∀ j, j < k + 1 → (L.set k (.int .u32 x))[j]? = some (.int .u32 (uI (wAt (wordAt t 0) j)))) := fun x hx => by
            subst hx
            exact words_set (by omega) hv
          have HG : Hid (∀ x, (wr.setCell ⟨w.heap.size, k, none⟩ x).heap[w.heap.size]? = some (.cells (L.set k x).toArray 119 (0, 0))) := fun x => rowSet x hg
          have HL : Hid (∀ x, (L.set k x).length = 64) := fun x => by simpa using hL
          have HBB : Hid (∀ x, Below w.heap.size w (wr.setCell ⟨w.heap.size, k, none⟩ x)) := fun x => hb.setCell (Nat.le_refl _) x
          generalize L[k] = v0 at hc
          clear hv hg hL hb
          go_wp2_with fail




          have e16 : IntKind.i64.wrap ((k : Int) - 16) = (k : Int) - 16 := by rw [IntKind.wrap_i64]; omega
          have e7 : IntKind.i64.wrap ((k : Int) - 7) = (k : Int) - 7 := by rw [IntKind.wrap_i64]; omega
          have a16 : (0 : Int) ≤ (k : Int) - 16 := by omega
          have b16 : (k : Int) - 16 < 64 := by omega
          have a7 : (0 : Int) ≤ (k : Int) - 7 := by omega
          have b7 : (k : Int) - 7 < 64 := by omega
          have t16 : ((k : Int) - 16).toNat = k - 16 := by omega
          have t7 : ((k : Int) - 7).toNat = k - 7 := by omega
          have a0 : (0 : Int) ≤ (k : Int) := by omega
          have b0 : (k : Int) < 64 := by omega
          have b80 : k < 80 := by omega
          have B80 : (k : Int) < 80 := by omega
          have b71 : k < 71 := by omega
          have B71 : (k : Int) < 71 := by omega
          have g7 : 7 ≤ k := by omega
          have G7 : (7 : Int) ≤ (k : Int) := by omega
          have G16 : (16 : Int) ≤ (k : Int) := by omega
          have KS : Hid (∀ X, (wr.setCell ⟨w.heap.size, k, none⟩ X).drew.cell? ⟨w.heap.size, k - 16, none⟩ = some (.int .u32 (uI (wAt (wordAt t 0) (k - 16)))) ∧ (wr.setCell ⟨w.heap.size, k, none⟩ X).drew.cell? ⟨w.heap.size, k - 7, none⟩ = some (.int .u32 (uI (wAt (wordAt t 0) (k - 7)))) ∧ (∃ v, (wr.setCell ⟨w.heap.size, k, none⟩ X).drew.cell? ⟨w.heap.size, k, none⟩ = some v) ∧ (wr.setCell ⟨w.heap.size, k, none⟩ X).drew.frozen? ⟨w.heap.size, k, none⟩ = false) :=
            fun X => set_keep h16 h7 hc hz (by omega) (by omega) X
          go_region_held3 (fun w' => w'.cell? ⟨w.heap.size, k - 16, none⟩ = some (.int .u32 (uI (wAt (wordAt t 0) (k - 16)))) ∧ w'.cell? ⟨w.heap.size, k - 7, none⟩ = some (.int .u32 (uI (wAt (wordAt t 0) (k - 7)))) ∧ (∃ v, w'.cell? ⟨w.heap.size, k, none⟩ = some v) ∧ w'.frozen? ⟨w.heap.size, k, none⟩ = false) (first | exact KS.out _ | go_keep)
            (first | (go_at_call 149; refine (specTurnI _ _ _ (by decide) (by decide)).mono ?_; rintro e w' ⟨rfl, rfl⟩))
          clear hc hz KS h16 h15 h7 h2 e16 e7 a16 b16 a7 b7 t16 t7 a0 b0 b80 B80 b71 B71 g7 G7 G16
          go_wp2
          go_roundw
          case rel =>
            refine ⟨k + 1, _, by omega, by omega, by go_num, HL.out _, HG.out _, HV.out _ ?_, (HBB.out _).drew⟩
            simp only [uI_xor, uI_shr3, uI_shr10]
            rw [wAt_high _ hk0]
            rfl
          case measure => simp [intOf]; omega
        · have HV : Hid (∀ j, j < 64 → L[j]? = some (.int .u32 (uI (wAt (wordAt t 0) j)))) := fun j hj => hv j (by omega)
          have HG : Hid (wr.heap[w.heap.size]? = some (.cells L.toArray 119 (0, 0))) := hg
          have HBB : Hid (Below w.heap.size w wr) := hb
          have s0 := hb.cell (p := ⟨gs, 0, none⟩) hgsl
          have s1 := hb.cell (p := ⟨gs, 1, none⟩) hgsl
          have s2 := hb.cell (p := ⟨gs, 2, none⟩) hgsl
          have s3 := hb.cell (p := ⟨gs, 3, none⟩) hgsl
          have s4 := hb.cell (p := ⟨gs, 4, none⟩) hgsl
          have s5 := hb.cell (p := ⟨gs, 5, none⟩) hgsl
          have s6 := hb.cell (p := ⟨gs, 6, none⟩) hgsl
          have s7 := hb.cell (p := ⟨gs, 7, none⟩) hgsl
          rw [HST.out 0 (.int .i64 (uI s.a)) rfl] at s0
          rw [HST.out 1 (.int .i64 (uI s.b)) rfl] at s1
          rw [HST.out 2 (.int .i64 (uI s.c)) rfl] at s2
          rw [HST.out 3 (.int .i64 (uI s.d)) rfl] at s3
          rw [HST.out 4 (.int .i64 (uI s.e)) rfl] at s4
          rw [HST.out 5 (.int .i64 (uI s.f)) rfl] at s5
          rw [HST.out 6 (.int .i64 (uI s.g)) rfl] at s6
          rw [HST.out 7 (.int .i64 (uI s.h)) rfl] at s7
          have fa := uI_wrap s.a
          have fb := uI_wrap s.b
          have fc := uI_wrap s.c
          have fd := uI_wrap s.d
          have fe := uI_wrap s.e
          have ff := uI_wrap s.f
          have fg := uI_wrap s.g
          have fh := uI_wrap s.h
          clear hv hg hb hL
          go_wp2_with fail
          go_quiet (fail)
          go_wp2_with fail
          go_quiet (fail)
          go_wp2_with fail
          generalize hwd : wr.drewN _ = wd
          have HBd : Hid (Below w.heap.size w wd) := by rw [← hwd]; exact below_drewN HBB.out _
          have HGd : Hid (wd.heap[w.heap.size]? = some (.cells L.toArray 119 (0, 0))) := by rw [← hwd]; exact HG.out
          clear hwd s0 s1 s2 s3 s4 s5 s6 s7 fa fb fc fd fe ff fg fh HBB HG hlt hk hk0
          refine (specKeys wd).mono ?_
          rintro e w3 ⟨rfl, hgk, hbk⟩
          have HGk : Hid (w3.heap[wd.heap.size]? = some (.cells keyV.toArray 119 (0, 0))) := hgk
          have HGw : Hid (w3.heap[w.heap.size]? = some (.cells L.toArray 119 (0, 0))) := by
            show _ = _
            rw [hbk.block _ (heap_lt HGd.out), HGd.out]
          have HB3 : Hid (Below w.heap.size w w3) := HBd.out.trans (hbk.mono HBd.out.size)
          have HS3 : Hid (w.heap.size ≤ wd.heap.size) := HBd.out.size
          clear hgk hbk HBd HGd
          go_wp2_with fail
          go_loopw [10, 11, 12, 13, 14, 15, 16, 17, 19] (fun va vb vc vd ve vf vg vh i wr => ∃ (k : Nat) (T : St), k ≤ 64 ∧ T = rnds s (wordAt t 0) k ∧ va = .int .u32 (uI T.a) ∧ vb = .int .u32 (uI T.b) ∧ vc = .int .u32 (uI T.c) ∧ vd = .int .u32 (uI T.d) ∧ ve = .int .u32 (uI T.e) ∧ vf = .int .u32 (uI T.f) ∧ vg = .int .u32 (uI T.g) ∧ vh = .int .u32 (uI T.h) ∧ i = .int .i64 k ∧ Below w3.heap.size w3 wr)
            (fun _ _ _ _ _ _ _ _ i _ => 64 - (intOf i).toNat)
          case atStart => exact ⟨0, s, by omega, rfl, rfl, rfl, rfl, rfl, rfl, rfl, rfl, rfl, rfl, Below.refl _ _⟩
          case round =>
            obtain ⟨k, T, hk, hT, rfl, rfl, rfl, rfl, rfl, rfl, rfl, rfl, rfl, hbr⟩ := hrel
            have HT : Hid (T = rnds s (wordAt t 0) k) := hT
            clear hT
            by_cases hlt : k < 64
            · have ck := rowFacts HGk.out k _ (key_at k hlt)
              have cw := rowFacts HGw.out k _ (HV.out k hlt)
              rw [← hbr.cell (p := ⟨wd.heap.size, k, none⟩) (heap_lt HGk.out)] at ck
              rw [← hbr.cell (p := ⟨w.heap.size, k, none⟩) (heap_lt HGw.out)] at cw
              have HBR : Hid (Below w3.heap.size w3 wr) := hbr
              generalize hK : kAt k = K at ck
              generalize hX : wAt (wordAt t 0) k = X at cw
              have HK : Hid (kAt k = K) := hK
              have HX : Hid (wAt (wordAt t 0) k = X) := hX
              clear hbr hK hX
              go_wp2_with fail
              have fx := uI_xor
              have fa := uI_and
              have fn := uI_not'
              have fp := uI_add
              have fq := uI_add'
              go_quiet (exact (specTurnI _ _ _ (by decide) (by decide)).mono (fun _ _ h => ⟨h.1, _, h.2⟩))
              go_wp2_with fail
              iterate 3
                refine (specTurnI _ _ _ (by decide) (by decide)).mono ?_
                rintro e w' ⟨rfl, rfl⟩
                go_wp2_with fail
              refine ⟨⟨k + 1, rnd T (K + X), by omega, by rw [rnds, ← HT.out, HK.out, HX.out], ?_, rfl, rfl, rfl, ?_, rfl, rfl, rfl, by go_num, below_drewN HBR.out _⟩, by simp [intOf]; omega⟩
              · rw [BitVec.add_assoc _ K X]; rfl
              · rw [BitVec.add_assoc _ K X]; rfl
            · have h64 : T = rnds s (wordAt t 0) 64 := by rw [HT.out, show k = 64 by omega]
              have HT2 : Hid (blk s (wordAt t 0) = s.add T) := by show _ = _; rw [h64]; rfl
              have HBR : Hid (Below w3.heap.size w3 wr) := hbr
              clear hbr HT h64
              go_wp2_with fail
              rename World => wq
              obtain ⟨il, hil, hl0, hl1, hl2⟩ := info_parts infoLong
              have HBW : Hid (Below w.heap.size w wq) := HB3.out.trans (HBR.out.mono HB3.out.size)
              go_loopw [23, 24] (fun o i wx => ∃ j : Nat, j ≤ 8 ∧ i = .int .i64 j ∧ wx.ownsRow (wq.heap.size + 1) 2 1 o j ((iCells (s.add T)).take j) ∧ Below (wq.heap.size + 1) (wq.alloc (.cells (uCells T).toArray 119 (0, 0))) wx ∧ wq.heap.size + 1 ≤ wx.heap.size)
                (fun _ i _ => 8 - (intOf i).toNat)
              case atStart => exact ⟨0, Nat.zero_le _, rfl, made1 wq _, (Below.refl _ (wq.alloc (.cells (uCells T).toArray 119 (0, 0)))).alloc (by simp) _, by simp⟩
              case round =>
                obtain ⟨j, hj, rfl, hown, hbx, hsx⟩ := hrel
                by_cases hj8 : j < 8
                · have cs : wr.cell? ⟨gs, j, none⟩ = some (.int .i64 (uI (s.row.getD j 0))) := by
                    have h1 := HBW.out.size
                    rw [hbx.cell (p := ⟨gs, j, none⟩) (by show gs < _; omega), World.cell?_alloc_lt _ _ _ (by show gs < _; omega), HBW.out.cell (p := ⟨gs, j, none⟩) hgsl]
                    have := HST.out j _ (iCells_at s j hj8)
                    rwa [Nat.zero_add] at this
                  have cv : wr.cell? ⟨wq.heap.size, j, none⟩ = some (.int .u32 (uI (T.row.getD j 0))) := by
                    rw [hbx.cell (p := ⟨wq.heap.size, j, none⟩) (by show wq.heap.size < _; omega)]
                    exact rowFacts (heap_alloc_new wq _) j _ (row_at T j hj8)
                  have HTK : Hid ((iCells (s.add T)).take (j + 1) = (iCells (s.add T)).take j ++ [.int .i64 (uI (s.row.getD j 0 + T.row.getD j 0))]) := by
                    show _ = _
                    rw [iCells_take _ j hj8, add_row s T j hj8]
                  generalize s.row.getD j 0 = x at cs HTK
                  generalize T.row.getD j 0 = y at cv HTK
                  generalize (iCells (s.add T)).take j = R at hown HTK
                  have f1 := uI_wrap x
                  have f2 := uI_add x y
                  have f3 := uI_add' x y
                  have f4 := uI_i64 (x + y)
                  have a0 : (0 : Int) ≤ (j : Int) := by omega
                  have b0 : (j : Int) < 8 := by omega
                  have HBX : Hid (Below (wq.heap.size + 1) (wq.alloc (.cells (uCells T).toArray 119 (0, 0))) wr) := hbx
                  clear hbx
                  go_wp2_with fail
                  go_region_law ((refine step_append_lies _ (by rfl) _ _ _ (by rfl) (wq.heap.size + 1) 2 il _ 1 8 Tryz.underlying28 hil hl0 hl1 hl2 rfl (by omega) _ _ _ (by rfl) ((hown.alloc _).drew) ⟨wr.heap.size, 0, none⟩ 1 1 [.int .i64 (uI (x + y))] (by rfl) (by rfl) (World.news_of_block (cs := #[.int .i64 (uI (x + y))]) (t := 2) (fr := (0, 0)) (heap_alloc_new wr _)) (by simp [Value.oneCell']) (by omega) (by unfold maxLen; omega) (by omega) (by simp; omega) (wr.heap.size + 1) (by simp) ?_; intro gg cap w6 hown1 hgrow hat hlt1))
                  all_goals
                    have hb6 : Below (wq.heap.size + 1) (wq.alloc (.cells (uCells T).toArray 119 (0, 0))) w6 := ((HBX.out.alloc hsx _).drew).grown hgrow (by simp; omega) (fun j hj => (hown.lt j hj).1)
                    have hs6 : wq.heap.size + 1 ≤ w6.heap.size := by have := hb6.size; simpa using this
                    have ho6 : w6.ownsRow (wq.heap.size + 1) 2 1 (.slice (some ⟨gg, 0, none⟩) (j + 1) cap) (j + 1) ((iCells (s.add T)).take (j + 1)) := by
                      rw [HTK.out]
                      exact hown1
                    have HB6 : Hid (Below (wq.heap.size + 1) (wq.alloc (.cells (uCells T).toArray 119 (0, 0))) w6) := hb6
                    have HO6 : Hid (w6.ownsRow (wq.heap.size + 1) 2 1 (.slice (some ⟨gg, 0, none⟩) (j + 1) cap) (j + 1) ((iCells (s.add T)).take (j + 1))) := ho6
                    clear hown1 hgrow hat hlt1 hown cs cv f1 f2 f3 f4 hb6 ho6
                    go_wp2
                    go_roundw
                    case rel => exact ⟨j + 1, by omega, by go_num, HO6.out, HB6.out, hs6⟩
                    case measure => simp [intOf]; omega
                · have h8 : (iCells (s.add T)).take j = iCells (blk s (wordAt t 0)) := by rw [show j = 8 by omega, HT2.out]; rfl
                  rw [h8] at hown
                  have hj9 : j = 8 := by omega
                  have h1 := HBW.out.size
                  have HO : Hid (wr.ownsRow w.heap.size 2 1 u23 8 (iCells (blk s (wordAt t 0)))) := by
                    show _ ∧ _
                    rw [hj9] at hown
                    refine ⟨hown.1, ?_⟩
                    rcases hown.2 with h | ⟨g, c, cur, h, hb, hr⟩
                    · exact .inl h
                    · exact .inr ⟨g, c, cur, h, by omega, hr⟩
                  have HB9 : Hid (Below w.heap.size w wr) := (HBW.out.alloc h1 _).trans (hbx.mono (by omega))
                  clear hown hbx h8 hj9
                  go_wp2
                  go_ret
                  exact ⟨_, rfl, HO.out, HB9.out⟩
end Go.Proofs.YtegmmaomaegjjaaGreatDoor
