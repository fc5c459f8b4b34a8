/- The specification's side of what is asked for: spec.l07Body, l07Form, l07Right, l07Bytes, CsrBytes, walked. spec.l07Right, spec.CsrBytes, walked. FnExactNameRight, walks: 'impl.NameRight' answers true just where the text is a right name; the law. impl.isTime, isSerial, NameRight, walked. -/
import Derived.Test.YthofeoelndplpaaGreatDoorABy05
import Derived.Test.YthofeoelndplpaaGreatDoorABy06
import Derived.Test.YthofeoelndplpaaGreatDoorABy02
import Derived.Test.YthofeoelndplpaaGreatDoorABy08
import Derived.Deep.Cut
import Derived.Deep.RegionHeld3
import Derived.Test.YthofeoelndplpaaGreatDoorABy01
import Derived.WalkLawsBesides
namespace Go.Proofs.YthofeoelndplpaaGreatDoor
open Go.RowKit

set_option linter.unusedSimpArgs false in
set_option maxHeartbeats 4000000 in
set_option maxRecDepth 100000 in
theorem specAskD (c : Ask) (a : Option Addr) (cap : Nat) (w : World) (hk : -9223372036854775808 ≤ c.key ∧ c.key ≤ 9223372036854775807) (hl : c.names.length ≤ 5) (hs : ∀ i, i < c.names.length → (tAt c.names i).size ≤ 40) (ha : IsStrs w a c.names) :
    Calls Tryz.prog 33 #[c.val (.slice a c.names.length cap)] w fun e w' => e = .returned (.string (askD c)) ∧ Below w.heap.size w w' := by
  have y1 := putS_size c.key
  have y2 := intD_le 0
  have y3 := hosts_le hl hs
  have y4 := askK_le c.key
  have HH : Hid (∀ V, IsStrs V a c.names → Calls Tryz.prog 67 #[.slice a c.names.length cap] V fun e w' => e = .returned (.string (seqD (hostsD c.names c.names.length))) ∧ Below V.heap.size V w') := fun V hV => specHosts a c.names cap V hl hs hV
  obtain ⟨R, hR⟩ : ∃ R, R = askD c := ⟨_, rfl⟩
  rw [← hR]
  have hR' : R = seqD (intD 0 ++ (thingD 3 (⟨#[0]⟩ ++ putS c.key) ++ seqD (hostsD c.names c.names.length))) := hR
  clear hR hl hs
  obtain ⟨key, names, sk, se, ss⟩ := c
  unfold Ask.val
  simp only at y1 y3 y4 HH hR' hk ha ⊢
  generalize seqD (hostsD names names.length) = G at *
  generalize names.length = nl at *
  obtain ⟨x1, q1⟩ : ∃ q, (⟨#[0]⟩ : ByteArray) ++ putS key = q := ⟨_, rfl⟩
  have s1 : x1.size ≤ 11 := by rw [← q1, ByteArray.size_append]; show 1 + _ ≤ _; omega
  rw [q1] at hR' y4
  obtain ⟨T, qT⟩ : ∃ q, q = thingD 3 x1 := ⟨_, rfl⟩
  rw [← qT] at hR' y4
  obtain ⟨I, qI⟩ : ∃ q, q = intD 0 := ⟨_, rfl⟩
  rw [← qI] at hR' y2
  obtain ⟨x2, q2⟩ : ∃ q, I ++ T = q := ⟨_, rfl⟩
  have s2 : x2.size ≤ 40 := by rw [← q2, ByteArray.size_append]; omega
  obtain ⟨x3, q3⟩ : ∃ q, x2 ++ G = q := ⟨_, rfl⟩
  have s3 : x3.size ≤ 300 := by rw [← q3, ByteArray.size_append]; omega
  have e3 : R = seqD x3 := by rw [hR', ← q3, ← q2, ByteArray.append_assoc]
  have a1 : ¬ 9223372036854775807 < (⟨#[0]⟩ : ByteArray).size + (putS key).size := by show ¬ _ < 1 + _; omega
  have a1' : ¬ 9223372036854775807 < 1 + (putS key).size := by omega
  have a2 : ¬ 9223372036854775807 < I.size + T.size := by omega
  have a3 : ¬ 9223372036854775807 < x2.size + G.size := by omega
  obtain ⟨w1, hw1⟩ : ∃ w1, w1 = w.alloc (.cells #[.int .i64 key, .slice a nl cap, .int .i64 sk, .int .i64 se, .int .i64 ss] 27 (0, 0)) := ⟨_, rfl⟩
  have r0 : w1.heap[w.heap.size]? = some (.cells [Value.int .i64 key, .slice a nl cap, .int .i64 sk, .int .i64 se, .int .i64 ss].toArray 27 (0, 0)) := by rw [hw1]; exact heap_alloc_new w _
  have B1 : Hid (Below w.heap.size w w1) := by rw [hw1]; exact (Below.refl _ _).alloc (Nat.le_refl _) _
  have z1 : w.heap.size < w1.heap.size := by rw [hw1]; simp
  have HK : Hid (∀ V, Below w1.heap.size w1 V → V.cell? ⟨w.heap.size, 0, none⟩ = some (.int .i64 key) ∧ V.cell? ⟨w.heap.size, 1, none⟩ = some (.slice a nl cap) ∧ V.cell? ⟨w.heap.size, 2, none⟩ = some (.int .i64 sk) ∧ V.cell? ⟨w.heap.size, 3, none⟩ = some (.int .i64 se) ∧ V.cell? ⟨w.heap.size, 4, none⟩ = some (.int .i64 ss)) := fun V hV => by
    have hP := (hV.block _ z1).trans r0
    exact ⟨rowFacts hP 0 _ rfl, rowFacts hP 1 _ rfl, rowFacts hP 2 _ rfl, rowFacts hP 3 _ rfl, rowFacts hP 4 _ rfl⟩
  have HA : Hid (∀ V, Below w1.heap.size w1 V → IsStrs V a names) := fun V hV => (ha.keep B1.out).keep hV
  have HB : Hid (∀ V, Below w1.heap.size w1 V → Below w.heap.size w V) := fun V hV => B1.out.trans (hV.mono B1.out.size)
  have I1 : Hid (Below w1.heap.size w1 w1) := Below.refl _ _
  have D1 : Hid (Below w1.heap.size w1 w1.drew) := I1.out.drew
  clear r0 z1 B1 ha
  have P1 : Hid (∀ V, Hid (Below w1.heap.size w1 V) → Calls Tryz.prog 62 #[.int .i64 key] V fun e W => e = .returned (.string (putS key)) ∧ Hid (Below w1.heap.size w1 W)) := fun V hV => (specPut key V hk.1 hk.2).mono fun e W h => ⟨h.1, hV.out.trans (h.2.mono hV.out.size)⟩
  have P2 : Hid (∀ V, Hid (Below w1.heap.size w1 V) → Calls Tryz.prog 66 #[.int .i64 3, .string x1] V fun e W => e = .returned (.string T) ∧ Hid (Below w1.heap.size w1 W)) := fun V hV => by
    rw [qT]
    exact (specThing 3 x1 V (by omega) (by omega) (by omega)).mono fun e W h => ⟨h.1, hV.out.trans (h.2.mono hV.out.size)⟩
  have P3 : Hid (∀ V, Hid (Below w1.heap.size w1 V) → Calls Tryz.prog 65 #[.int .i64 0] V fun e W => e = .returned (.string I) ∧ Hid (Below w1.heap.size w1 W)) := fun V hV => by
    rw [qI]
    exact (specDerInt 0 V (by omega) (by omega)).mono fun e W h => ⟨h.1, hV.out.trans (h.2.mono hV.out.size)⟩
  have P4 : Hid (∀ V, Hid (Below w1.heap.size w1 V) → Calls Tryz.prog 67 #[.slice a nl cap] V fun e W => e = .returned (.string G) ∧ Hid (Below w1.heap.size w1 W)) := fun V hV => (HH.out V (HA.out V hV.out)).mono fun e W h => ⟨h.1, hV.out.trans (h.2.mono hV.out.size)⟩
  have P5 : Hid (∀ V, Hid (Below w1.heap.size w1 V) → Calls Tryz.prog 64 #[.string x3] V fun e W => e = .returned (.string R) ∧ Hid (Below w1.heap.size w1 W)) := fun V hV => by
    rw [e3]
    exact (specSeq x3 V (by omega)).mono fun e W h => ⟨h.1, hV.out.trans (h.2.mono hV.out.size)⟩
  clear y1 y2 y3 y4 s1 s2 s3 hR' e3 qT qI HH HA hk
  obtain ⟨c0, c1, c2, c3, c4⟩ := HK.out w1 I1.out
  go_enter Tryz.func33, Tryz.ntmps33
  go_upto_region 1 with fail
  rw [← hw1]
  clear hw1
  go_region_held3 (fun V => V.cell? ⟨w.heap.size, 0, none⟩ = some (.int .i64 key) ∧ V.cell? ⟨w.heap.size, 1, none⟩ = some (.slice a nl cap) ∧ V.cell? ⟨w.heap.size, 2, none⟩ = some (.int .i64 sk) ∧ V.cell? ⟨w.heap.size, 3, none⟩ = some (.int .i64 se) ∧ V.cell? ⟨w.heap.size, 4, none⟩ = some (.int .i64 ss)) (first | (refine ⟨?_, ?_, ?_, ?_, ?_⟩ <;> assumption) | exact HK.out _ (Hid.out (by assumption)))
    (first
      | (go_at_call 62; refine (P1.out _ (by assumption)).mono ?_; rintro r V1 ⟨rfl, k1⟩)
      | (go_at_call 66; refine (P2.out _ (by assumption)).mono ?_; rintro r V2 ⟨rfl, k2⟩)
      | (go_at_call 65; refine (P3.out _ (by assumption)).mono ?_; rintro r V3 ⟨rfl, k3⟩)
      | (go_at_call 67; refine (P4.out _ (by assumption)).mono ?_; rintro r V4 ⟨rfl, k4⟩)
      | (go_at_call 64; refine (P5.out _ (by assumption)).mono ?_; rintro r V5 ⟨rfl, k5⟩))
  go_wp2
  go_ret
  exact ⟨rfl, HB.out _ k5.out⟩
set_option linter.unusedSimpArgs false in
set_option maxHeartbeats 4000000 in
set_option maxRecDepth 100000 in
theorem specForm (c : Ask) (a : Option Addr) (cap : Nat) (w : World) (hl : c.names.length ≤ 1048576) (ht : totS c.names c.names.length ≤ 1048576) (ha : IsStrs w a c.names) :
    Calls Tryz.prog 73 #[c.val (.slice a c.names.length cap)] w fun e w' => e = .returned (.bool (formB c)) ∧ Below w.heap.size w w' := by
  have HNm : Hid (∀ V, IsStrs V a c.names → Calls Tryz.prog 30 #[.slice a c.names.length cap] V fun e w' => e = .returned (.bool (namesB c.names)) ∧ Below V.heap.size V w') := fun V hV => specNames a c.names cap V hl ht hV
  obtain ⟨R, hR⟩ : ∃ R, R = formB c := ⟨_, rfl⟩
  rw [← hR]
  have HR : Hid (R = (rightG c.key && namesB c.names && decide (0 < c.names.length) && sigRB c.sk c.se c.ss && decide (c.sk = c.key))) := hR
  clear hR ht
  obtain ⟨key, names, sk, se, ss⟩ := c
  unfold Ask.val
  simp only at HNm HR hl ha ⊢
  obtain ⟨N, hN⟩ : ∃ N, N = namesB names := ⟨_, rfl⟩
  rw [← hN] at HNm HR
  clear hN
  generalize names.length = nl at *
  obtain ⟨w1, hw1⟩ : ∃ w1, w1 = w.alloc (.cells #[.int .i64 key, .slice a nl cap, .int .i64 sk, .int .i64 se, .int .i64 ss] 27 (0, 0)) := ⟨_, rfl⟩
  have r0 : w1.heap[w.heap.size]? = some (.cells [Value.int .i64 key, .slice a nl cap, .int .i64 sk, .int .i64 se, .int .i64 ss].toArray 27 (0, 0)) := by rw [hw1]; exact heap_alloc_new w _
  have B1 : Hid (Below w.heap.size w w1) := by rw [hw1]; exact (Below.refl _ _).alloc (Nat.le_refl _) _
  have z1 : w.heap.size < w1.heap.size := by rw [hw1]; simp
  have HK : Hid (∀ V, Below w1.heap.size w1 V → V.cell? ⟨w.heap.size, 0, none⟩ = some (.int .i64 key) ∧ V.cell? ⟨w.heap.size, 1, none⟩ = some (.slice a nl cap) ∧ V.cell? ⟨w.heap.size, 2, none⟩ = some (.int .i64 sk) ∧ V.cell? ⟨w.heap.size, 3, none⟩ = some (.int .i64 se) ∧ V.cell? ⟨w.heap.size, 4, none⟩ = some (.int .i64 ss)) := fun V hV => by
    have hP := (hV.block _ z1).trans r0
    exact ⟨rowFacts hP 0 _ rfl, rowFacts hP 1 _ rfl, rowFacts hP 2 _ rfl, rowFacts hP 3 _ rfl, rowFacts hP 4 _ rfl⟩
  have HA : Hid (∀ V, Below w1.heap.size w1 V → IsStrs V a names) := fun V hV => (ha.keep B1.out).keep hV
  have HB : Hid (∀ V, Below w1.heap.size w1 V → Below w.heap.size w V) := fun V hV => B1.out.trans (hV.mono B1.out.size)
  have I1 : Hid (Below w1.heap.size w1 w1) := Below.refl _ _
  have D1 : Hid (Below w1.heap.size w1 w1.drew) := I1.out.drew
  clear r0 z1 B1 ha
  obtain ⟨c0, c1, c2, c3, c4⟩ := HK.out w1 I1.out
  go_enter Tryz.func73, Tryz.ntmps73
  go_upto_region 1 with fail
  rw [← hw1]
  clear hw1
  go_wp2_with fail
  refine (specGroupRight key _).mono ?_
  rintro e w2 ⟨rfl, h2w⟩
  subst w2
  cases h1 : rightG key with
  | false =>
    have HF : Hid (R = false) := by show _ = _; rw [HR.out, h1]; rfl
    go_wp2
    go_ret
    exact ⟨by rw [HF.out]; rfl, HB.out _ I1.out⟩
  | true =>
  rw [h1] at HR
  go_wp2_with fail
  refine (HNm.out _ (HA.out _ I1.out)).mono ?_
  rintro e w2 ⟨rfl, b2⟩
  have K2 : Hid (Below w1.heap.size w1 w2) := b2
  clear b2 c0 c1 c2 c3 c4
  obtain ⟨c0, c1, c2, c3, c4⟩ := HK.out w2 K2.out
  cases N with
  | false =>
    have HF : Hid (R = false) := by show _ = _; rw [HR.out]; rfl
    go_wp2
    go_ret
    exact ⟨by rw [HF.out]; rfl, HB.out _ K2.out⟩
  | true =>
  by_cases h3 : 0 < nl
  rotate_left
  · have HF : Hid (R = false) := by show _ = _; rw [HR.out, decide_eq_false h3]; rfl
    have h3' : nl = 0 := by omega
    subst h3'
    go_wp2
    go_ret
    exact ⟨by rw [HF.out]; rfl, HB.out _ K2.out⟩
  rw [decide_eq_true h3] at HR
  go_wp2_with fail
  refine (specSigRight sk se ss _).mono ?_
  rintro e w3 ⟨rfl, b3⟩
  have K3 : Hid (Below w1.heap.size w1 w3) := K2.out.trans (b3.mono K2.out.size)
  clear b3 c0 c1 c2 c3 c4
  obtain ⟨c0, c1, c2, c3, c4⟩ := HK.out w3 K3.out
  cases h4 : sigRB sk se ss with
  | false =>
    have HF : Hid (R = false) := by show _ = _; rw [HR.out, h4]; rfl
    go_wp2
    go_ret
    exact ⟨by rw [HF.out]; rfl, HB.out _ K3.out⟩
  | true =>
  rw [h4] at HR
  by_cases h5 : sk = key
  · have HF : Hid (R = true) := by show _ = _; rw [HR.out, decide_eq_true h5]; rfl
    subst h5
    go_wp2
    go_ret
    exact ⟨by rw [HF.out]; simp, HB.out _ K3.out⟩
  · have HF : Hid (R = false) := by show _ = _; rw [HR.out, decide_eq_false h5]; rfl
    go_wp2
    go_ret
    exact ⟨by rw [HF.out]; simp [h5], HB.out _ K3.out⟩
set_option linter.unusedSimpArgs false in
set_option maxHeartbeats 4000000 in
set_option maxRecDepth 100000 in
theorem specAskY (c : Ask) (a : Option Addr) (cap : Nat) (w : World) (hk : -9223372036854775808 ≤ c.key ∧ c.key ≤ 9223372036854775807) (hse : -9223372036854775808 ≤ c.se ∧ c.se ≤ 9223372036854775807) (hss : -9223372036854775808 ≤ c.ss ∧ c.ss ≤ 9223372036854775807) (hl : c.names.length ≤ 5) (hs : ∀ i, i < c.names.length → (tAt c.names i).size ≤ 40) (ha : IsStrs w a c.names) :
    Calls Tryz.prog 42 #[c.val (.slice a c.names.length cap)] w fun e w' => e = .returned (.string (askY c)) ∧ Below w.heap.size w w' := by
  have y1 := putS_size c.se
  have y2 := putS_size c.ss
  have y3 : (askD c).size ≤ 300 := by
    have y1 := intD_le 0
    have y2 := askK_le c.key
    have y3 := hosts_le hl hs
    have z := seqD_le (intD 0 ++ (thingD 3 (⟨#[0]⟩ ++ putS c.key) ++ seqD (hostsD c.names c.names.length)))
    simp only [ByteArray.size_append] at z
    unfold askD
    omega
  have HH : Hid (∀ V, IsStrs V a c.names → Calls Tryz.prog 33 #[c.val (.slice a c.names.length cap)] V fun e w' => e = .returned (.string (askD c)) ∧ Below V.heap.size V w') := fun V hV => specAskD c a cap V hk hl hs hV
  obtain ⟨R, hR⟩ : ∃ R, R = askY c := ⟨_, rfl⟩
  rw [← hR]
  have hR' : R = seqD (askD c ++ thingD 3 (⟨#[0]⟩ ++ putS c.se ++ putS c.ss)) := hR
  generalize askD c = D at *
  clear hR hl hs
  obtain ⟨key, names, sk, se, ss⟩ := c
  unfold Ask.val at *
  simp only at y1 y2 HH hR' hse hss ha ⊢
  generalize names.length = nl at *
  obtain ⟨x1, q1⟩ : ∃ q, (⟨#[0]⟩ : ByteArray) ++ putS se = q := ⟨_, rfl⟩
  have s1 : x1.size ≤ 11 := by rw [← q1, ByteArray.size_append]; show 1 + _ ≤ _; omega
  rw [q1] at hR'
  obtain ⟨x2, q2⟩ : ∃ q, x1 ++ putS ss = q := ⟨_, rfl⟩
  have s2 : x2.size ≤ 21 := by rw [← q2, ByteArray.size_append]; omega
  rw [q2] at hR'
  have yT := thingD_le 3 x2
  obtain ⟨T, qT⟩ : ∃ q, q = thingD 3 x2 := ⟨_, rfl⟩
  rw [← qT] at hR' yT
  obtain ⟨x3, q3⟩ : ∃ q, D ++ T = q := ⟨_, rfl⟩
  have s3 : x3.size ≤ 400 := by rw [← q3, ByteArray.size_append]; omega
  rw [q3] at hR'
  have a1 : ¬ 9223372036854775807 < (⟨#[0]⟩ : ByteArray).size + (putS se).size := by show ¬ _ < 1 + _; omega
  have a1' : ¬ 9223372036854775807 < 1 + (putS se).size := by omega
  have a2 : ¬ 9223372036854775807 < x1.size + (putS ss).size := by omega
  have a3 : ¬ 9223372036854775807 < D.size + T.size := by omega
  obtain ⟨w1, hw1⟩ : ∃ w1, w1 = w.alloc (.cells #[.int .i64 key, .slice a nl cap, .int .i64 sk, .int .i64 se, .int .i64 ss] 27 (0, 0)) := ⟨_, rfl⟩
  have r0 : w1.heap[w.heap.size]? = some (.cells [Value.int .i64 key, .slice a nl cap, .int .i64 sk, .int .i64 se, .int .i64 ss].toArray 27 (0, 0)) := by rw [hw1]; exact heap_alloc_new w _
  have B1 : Hid (Below w.heap.size w w1) := by rw [hw1]; exact (Below.refl _ _).alloc (Nat.le_refl _) _
  have z1 : w.heap.size < w1.heap.size := by rw [hw1]; simp
  have HK : Hid (∀ V, Below w1.heap.size w1 V → V.cell? ⟨w.heap.size, 0, none⟩ = some (.int .i64 key) ∧ V.cell? ⟨w.heap.size, 1, none⟩ = some (.slice a nl cap) ∧ V.cell? ⟨w.heap.size, 2, none⟩ = some (.int .i64 sk) ∧ V.cell? ⟨w.heap.size, 3, none⟩ = some (.int .i64 se) ∧ V.cell? ⟨w.heap.size, 4, none⟩ = some (.int .i64 ss)) := fun V hV => by
    have hP := (hV.block _ z1).trans r0
    exact ⟨rowFacts hP 0 _ rfl, rowFacts hP 1 _ rfl, rowFacts hP 2 _ rfl, rowFacts hP 3 _ rfl, rowFacts hP 4 _ rfl⟩
  have HA : Hid (∀ V, Below w1.heap.size w1 V → IsStrs V a names) := fun V hV => (ha.keep B1.out).keep hV
  have HB : Hid (∀ V, Below w1.heap.size w1 V → Below w.heap.size w V) := fun V hV => B1.out.trans (hV.mono B1.out.size)
  have I1 : Hid (Below w1.heap.size w1 w1) := Below.refl _ _
  have D1 : Hid (Below w1.heap.size w1 w1.drew) := I1.out.drew
  clear r0 z1 B1 ha
  have P1 : Hid (∀ V (n : Int), Hid (Below w1.heap.size w1 V) → -9223372036854775808 ≤ n ∧ n ≤ 9223372036854775807 → Calls Tryz.prog 62 #[.int .i64 n] V fun e W => e = .returned (.string (putS n)) ∧ Hid (Below w1.heap.size w1 W)) := fun V n hV hn => (specPut n V hn.1 hn.2).mono fun e W h => ⟨h.1, hV.out.trans (h.2.mono hV.out.size)⟩
  have P2 : Hid (∀ V, Hid (Below w1.heap.size w1 V) → Calls Tryz.prog 66 #[.int .i64 3, .string x2] V fun e W => e = .returned (.string T) ∧ Hid (Below w1.heap.size w1 W)) := fun V hV => by
    rw [qT]
    exact (specThing 3 x2 V (by omega) (by omega) (by omega)).mono fun e W h => ⟨h.1, hV.out.trans (h.2.mono hV.out.size)⟩
  have P4 : Hid (∀ V, Hid (Below w1.heap.size w1 V) → Calls Tryz.prog 33 #[.agg #[.int .i64 key, .slice a nl cap, .int .i64 sk, .int .i64 se, .int .i64 ss]] V fun e W => e = .returned (.string D) ∧ Hid (Below w1.heap.size w1 W)) := fun V hV => (HH.out V (HA.out V hV.out)).mono fun e W h => ⟨h.1, hV.out.trans (h.2.mono hV.out.size)⟩
  have P5 : Hid (∀ V, Hid (Below w1.heap.size w1 V) → Calls Tryz.prog 64 #[.string x3] V fun e W => e = .returned (.string R) ∧ Hid (Below w1.heap.size w1 W)) := fun V hV => by
    rw [hR']
    exact (specSeq x3 V (by omega)).mono fun e W h => ⟨h.1, hV.out.trans (h.2.mono hV.out.size)⟩
  clear y1 y2 y3 yT s1 s2 s3 hR' qT HH HA hk
  obtain ⟨c0, c1, c2, c3, c4⟩ := HK.out w1 I1.out
  go_enter Tryz.func42, Tryz.ntmps42
  go_upto_region 1 with fail
  rw [← hw1]
  clear hw1
  go_region_held3 (fun V => V.cell? ⟨w.heap.size, 0, none⟩ = some (.int .i64 key) ∧ V.cell? ⟨w.heap.size, 1, none⟩ = some (.slice a nl cap) ∧ V.cell? ⟨w.heap.size, 2, none⟩ = some (.int .i64 sk) ∧ V.cell? ⟨w.heap.size, 3, none⟩ = some (.int .i64 se) ∧ V.cell? ⟨w.heap.size, 4, none⟩ = some (.int .i64 ss)) (first | (refine ⟨?_, ?_, ?_, ?_, ?_⟩ <;> assumption) | exact HK.out _ (Hid.out (by assumption)))
    (first
      | (go_at_call 62; refine (P1.out _ _ (by assumption) (by assumption)).mono ?_; rintro r V1 ⟨rfl, k1⟩)
      | (go_at_call 66; refine (P2.out _ (by assumption)).mono ?_; rintro r V2 ⟨rfl, k2⟩)
      | (go_at_call 33; refine (P4.out _ (by assumption)).mono ?_; rintro r V4 ⟨rfl, k4⟩)
      | (go_at_call 64; refine (P5.out _ (by assumption)).mono ?_; rintro r V5 ⟨rfl, k5⟩))
  go_wp2
  go_ret
  exact ⟨rfl, HB.out _ k5.out⟩
end Go.Proofs.YthofeoelndplpaaGreatDoor
namespace Go.Proofs.YthofeoelndplpaaGreatDoor
open Go.RowKit

set_option linter.unusedSimpArgs false in
set_option maxHeartbeats 4000000 in
set_option maxRecDepth 100000 in
theorem specAskR (c : Ask) (a : Option Addr) (cap : Nat) (w : World) (hl : c.names.length ≤ 1048576) (ht : totS c.names c.names.length ≤ 1048576) (ha : IsStrs w a c.names) :
    Calls Tryz.prog 41 #[c.val (.slice a c.names.length cap)] w fun e w' => e = .returned (.bool (askR c)) ∧ Below w.heap.size w w' := by
  have HP : Hid (∀ V, IsStrs V a c.names → Calls Tryz.prog 73 #[c.val (.slice a c.names.length cap)] V fun e w' => e = .returned (.bool (formB c)) ∧ Below V.heap.size V w') := fun V hV => specForm c a cap V hl ht hV
  have HQ : Hid (formB c = true → ∀ V, IsStrs V a c.names → Calls Tryz.prog 33 #[c.val (.slice a c.names.length cap)] V fun e w' => e = .returned (.string (askD c)) ∧ Below V.heap.size V w') := fun h V hV => by
    obtain ⟨f1, f2, f3, f4⟩ := ask_fits (formB_ask h)
    exact specAskD c a cap V (by omega) f2 f4 hV
  have HZ : Hid (formB c = true → (askD c).size ≤ 255) := fun h => askD_le (formB_ask h)
  have HG : Hid (askR c = (formB c && sigCB c.sk c.se c.ss (askD c))) := rfl
  generalize askR c = R at *
  generalize formB c = P at *
  generalize askD c = D at *
  clear hl ht
  obtain ⟨key, names, sk, se, ss⟩ := c
  unfold Ask.val at *
  simp only at HP HQ HG ha ⊢
  generalize names.length = nl at *
  obtain ⟨w1, hw1⟩ : ∃ w1, w1 = w.alloc (.cells #[.int .i64 key, .slice a nl cap, .int .i64 sk, .int .i64 se, .int .i64 ss] 27 (0, 0)) := ⟨_, rfl⟩
  have r0 : w1.heap[w.heap.size]? = some (.cells [Value.int .i64 key, .slice a nl cap, .int .i64 sk, .int .i64 se, .int .i64 ss].toArray 27 (0, 0)) := by rw [hw1]; exact heap_alloc_new w _
  have B1 : Hid (Below w.heap.size w w1) := by rw [hw1]; exact (Below.refl _ _).alloc (Nat.le_refl _) _
  have z1 : w.heap.size < w1.heap.size := by rw [hw1]; simp
  have HK : Hid (∀ V, Below w1.heap.size w1 V → V.cell? ⟨w.heap.size, 0, none⟩ = some (.int .i64 key) ∧ V.cell? ⟨w.heap.size, 1, none⟩ = some (.slice a nl cap) ∧ V.cell? ⟨w.heap.size, 2, none⟩ = some (.int .i64 sk) ∧ V.cell? ⟨w.heap.size, 3, none⟩ = some (.int .i64 se) ∧ V.cell? ⟨w.heap.size, 4, none⟩ = some (.int .i64 ss)) := fun V hV => by
    have hP := (hV.block _ z1).trans r0
    exact ⟨rowFacts hP 0 _ rfl, rowFacts hP 1 _ rfl, rowFacts hP 2 _ rfl, rowFacts hP 3 _ rfl, rowFacts hP 4 _ rfl⟩
  have HA : Hid (∀ V, Below w1.heap.size w1 V → IsStrs V a names) := fun V hV => (ha.keep B1.out).keep hV
  have HB : Hid (∀ V, Below w1.heap.size w1 V → Below w.heap.size w V) := fun V hV => B1.out.trans (hV.mono B1.out.size)
  have I1 : Hid (Below w1.heap.size w1 w1) := Below.refl _ _
  have D1 : Hid (Below w1.heap.size w1 w1.drew) := I1.out.drew
  clear r0 z1 B1 ha
  have PC : Hid (∀ V, Hid (Below w1.heap.size w1 V) → Calls Tryz.prog 73 #[.agg #[.int .i64 key, .slice a nl cap, .int .i64 sk, .int .i64 se, .int .i64 ss]] V fun e W => e = .returned (.bool P) ∧ Hid (Below w1.heap.size w1 W)) := fun V hV => (HP.out V (HA.out V hV.out)).mono fun e W h => ⟨h.1, hV.out.trans (h.2.mono hV.out.size)⟩
  clear HP
  go_enter Tryz.func41, Tryz.ntmps41
  go_upto_region 1 with fail
  rw [← hw1]
  clear hw1
  obtain ⟨c0, c1, c2, c3, c4⟩ := HK.out w1 I1.out
  cases P with
  | false =>
    have HF : Hid (R = false) := HG.out
    refine wp_region_held_drew (S := fun V => V.cell? ⟨w.heap.size, 0, none⟩ = some (.int .i64 key) ∧ V.cell? ⟨w.heap.size, 1, none⟩ = some (.slice a nl cap) ∧ V.cell? ⟨w.heap.size, 2, none⟩ = some (.int .i64 sk) ∧ V.cell? ⟨w.heap.size, 3, none⟩ = some (.int .i64 se) ∧ V.cell? ⟨w.heap.size, 4, none⟩ = some (.int .i64 ss)) (by kernel_rfl) ?_ (fun hHeld => ?_)
    · exact HK.out _ D1.out
    refine wpAnyH_take (i := 0) (oi := ⟨some 3, _, _, _, _, _⟩) (v := ?_) rfl (by kernel_rfl) (by kernel_rfl) (by kernel_rfl) (fun _ _ _ h => h) (Or.inl ⟨by kernel_rfl, ?_⟩) (by assumption) ?_
    rotate_left
    · (intro w hSw; (try dsimp only at hSw); go_simp; try with_reducible rfl)
    (try simp only [Act.put, List.setIfInBounds_toArray, List.set_cons_zero, List.set_cons_succ])
    refine wpAnyH_ready (rs := [1]) (by kernel_rfl) (by simp) ?_
    refine AllReadyH.cons (o := ⟨some 4, _, _, _, _, _⟩) rfl (fun K hK => ?_) AllReadyH.nil
    go_simp
    refine (PC.out _ D1).mono ?_
    rintro r V1 ⟨rfl, k1⟩
    refine hK.out _ _ ?_ (fun hHeld => ?_)
    · exact HK.out _ k1.out
    clear hK K
    (try simp only [Act.put, List.setIfInBounds_toArray, List.set_cons_zero, List.set_cons_succ])
    refine wpAnyH_take (i := 2) (oi := ⟨some 5, _, _, _, _, _⟩) (v := ?_) rfl (by kernel_rfl) (by kernel_rfl) (by kernel_rfl) (fun _ _ _ h => h) (Or.inl ⟨by kernel_rfl, ?_⟩) (by assumption) ?_
    rotate_left
    · (intro w hSw; (try dsimp only at hSw); go_simp; try with_reducible rfl)
    (try simp only [Act.put, List.setIfInBounds_toArray, List.set_cons_zero, List.set_cons_succ])
    refine wpAnyH_take (i := 3) (oi := ⟨some 6, _, _, _, _, _⟩) (v := undef) rfl (by kernel_rfl) (by kernel_rfl) (by kernel_rfl) (fun _ _ _ h => h) (Or.inr ⟨by kernel_rfl, rfl⟩) (by assumption) ?_
    (try simp only [Act.put, List.setIfInBounds_toArray, List.set_cons_zero, List.set_cons_succ])
    refine wpAnyH_take (i := 4) (oi := ⟨some 7, _, _, _, _, _⟩) (v := undef) rfl (by kernel_rfl) (by kernel_rfl) (by kernel_rfl) (fun _ _ _ h => h) (Or.inr ⟨by kernel_rfl, rfl⟩) (by assumption) ?_
    (try simp only [Act.put, List.setIfInBounds_toArray, List.set_cons_zero, List.set_cons_succ])
    refine wpAnyH_take (i := 5) (oi := ⟨some 8, _, _, _, _, _⟩) (v := undef) rfl (by kernel_rfl) (by kernel_rfl) (by kernel_rfl) (fun _ _ _ h => h) (Or.inr ⟨by kernel_rfl, rfl⟩) (by assumption) ?_
    (try simp only [Act.put, List.setIfInBounds_toArray, List.set_cons_zero, List.set_cons_succ])
    refine wpAnyH_take (i := 6) (oi := ⟨some 9, _, _, _, _, _⟩) (v := undef) rfl (by kernel_rfl) (by kernel_rfl) (by kernel_rfl) (fun _ _ _ h => h) (Or.inr ⟨by kernel_rfl, rfl⟩) (by assumption) ?_
    (try simp only [Act.put, List.setIfInBounds_toArray, List.set_cons_zero, List.set_cons_succ])
    refine wpAnyH_take (i := 7) (oi := ⟨some 10, _, _, _, _, _⟩) (v := undef) rfl (by kernel_rfl) (by kernel_rfl) (by kernel_rfl) (fun _ _ _ h => h) (Or.inr ⟨by kernel_rfl, rfl⟩) (by assumption) ?_
    (try simp only [Act.put, List.setIfInBounds_toArray, List.set_cons_zero, List.set_cons_succ])
    refine wpAnyH_take (i := 8) (oi := ⟨some 11, _, _, _, _, _⟩) (v := ?_) rfl (by kernel_rfl) (by kernel_rfl) (by kernel_rfl) (fun _ _ _ h => h) (Or.inl ⟨by kernel_rfl, ?_⟩) (by assumption) ?_
    rotate_left
    · (intro w hSw; (try dsimp only at hSw); go_simp; try with_reducible rfl)
    (try simp only [Act.put, List.setIfInBounds_toArray, List.set_cons_zero, List.set_cons_succ])
    refine wpAnyH_take (i := 9) (oi := ⟨some 2, _, _, _, _, _⟩) (v := ?_) rfl (by kernel_rfl) (by kernel_rfl) (by kernel_rfl) (fun _ _ _ h => h) (Or.inl ⟨by kernel_rfl, ?_⟩) (by assumption) ?_
    rotate_left
    · (intro w hSw; (try dsimp only at hSw); go_simp; try with_reducible rfl)
    (try simp only [Act.put, List.setIfInBounds_toArray, List.set_cons_zero, List.set_cons_succ])
    refine wpAnyH_done (by kernel_rfl) ?_ _
    go_wp2
    go_ret
    exact ⟨by rw [HF.out]; rfl, HB.out _ k1.out⟩
  | true =>
    have hR : R = sigCB sk se ss D := by rw [HG.out]; simp
    have zD := HZ.out rfl
    have Q1 := HQ.out rfl
    have PB : Hid (∀ V, Hid (Below w1.heap.size w1 V) → Calls Tryz.prog 33 #[.agg #[.int .i64 key, .slice a nl cap, .int .i64 sk, .int .i64 se, .int .i64 ss]] V fun e W => e = .returned (.string D) ∧ Hid (Below w1.heap.size w1 W)) := fun V hV => (Q1 V (HA.out V hV.out)).mono fun e W h => ⟨h.1, hV.out.trans (h.2.mono hV.out.size)⟩
    have PG : Hid (∀ V, Hid (Below w1.heap.size w1 V) → Calls Tryz.prog 57 #[.agg #[.int .i64 sk, .int .i64 se, .int .i64 ss], .string D] V fun e W => e = .returned (.bool R) ∧ Hid (Below w1.heap.size w1 W)) := fun V hV => by
      rw [hR]
      exact (specSigCheck sk se ss D V (by unfold maxLen; omega)).mono fun e W h => ⟨h.1, hV.out.trans (h.2.mono hV.out.size)⟩
    clear hR zD Q1 HQ HZ HG HA
    go_region_held3 (fun V => V.cell? ⟨w.heap.size, 0, none⟩ = some (.int .i64 key) ∧ V.cell? ⟨w.heap.size, 1, none⟩ = some (.slice a nl cap) ∧ V.cell? ⟨w.heap.size, 2, none⟩ = some (.int .i64 sk) ∧ V.cell? ⟨w.heap.size, 3, none⟩ = some (.int .i64 se) ∧ V.cell? ⟨w.heap.size, 4, none⟩ = some (.int .i64 ss)) (first | (refine ⟨?_, ?_, ?_, ?_, ?_⟩ <;> assumption) | exact HK.out _ (Hid.out (by assumption)))
      (first
        | (go_at_call 73; refine (PC.out _ (by assumption)).mono ?_; rintro r V1 ⟨rfl, k1⟩)
        | (go_at_call 33; refine (PB.out _ (by assumption)).mono ?_; rintro r V2 ⟨rfl, k2⟩)
        | (go_at_call 57; refine (PG.out _ (by assumption)).mono ?_; rintro r V3 ⟨rfl, k3⟩))
    go_wp2
    go_ret
    exact ⟨rfl, HB.out _ k3.out⟩
set_option linter.unusedSimpArgs false in
set_option maxHeartbeats 4000000 in
set_option maxRecDepth 100000 in
theorem specCsrBytes (c : Ask) (a : Option Addr) (cap : Nat) (w : World) (hl : c.names.length ≤ 1048576) (ht : totS c.names c.names.length ≤ 1048576) (ha : IsStrs w a c.names) :
    Calls Tryz.prog 17 #[c.val (.slice a c.names.length cap)] w fun e w' => e = .returned (.string (csrBytesD c)) ∧ Below w.heap.size w w' := by
  have HP : Hid (∀ V, IsStrs V a c.names → Calls Tryz.prog 41 #[c.val (.slice a c.names.length cap)] V fun e w' => e = .returned (.bool (askR c)) ∧ Below V.heap.size V w') := fun V hV => specAskR c a cap V hl ht hV
  have HN : Hid (askR c = false → csrBytesD c = ⟨#[]⟩) := fun h => by show (if _ then _ else _) = _; rw [if_neg (by rw [h]; simp)]
  have HQ : Hid (askR c = true → ∀ V, IsStrs V a c.names → Calls Tryz.prog 42 #[c.val (.slice a c.names.length cap)] V fun e w' => e = .returned (.string (csrBytesD c)) ∧ Below V.heap.size V w') := fun h V hV => by
    have hf : formB c = true := by unfold askR at h; rw [Bool.and_eq_true] at h; exact h.1
    obtain ⟨f1, f2, f3, f4⟩ := ask_fits (formB_ask hf)
    obtain ⟨g1, g2, g3⟩ := sigRB_lt (formB_sig hf)
    have := specAskY c a cap V (by omega) (by omega) (by omega) f2 f4 hV
    rw [show csrBytesD c = askY c from if_pos h]
    exact this
  generalize csrBytesD c = R at *
  generalize askR c = P at *
  clear hl ht
  obtain ⟨key, names, sk, se, ss⟩ := c
  unfold Ask.val at *
  simp only at HP HQ ha ⊢
  generalize names.length = nl at *
  obtain ⟨w1, hw1⟩ : ∃ w1, w1 = w.alloc (.cells #[.int .i64 key, .slice a nl cap, .int .i64 sk, .int .i64 se, .int .i64 ss] 27 (0, 0)) := ⟨_, rfl⟩
  have r0 : w1.heap[w.heap.size]? = some (.cells [Value.int .i64 key, .slice a nl cap, .int .i64 sk, .int .i64 se, .int .i64 ss].toArray 27 (0, 0)) := by rw [hw1]; exact heap_alloc_new w _
  have B1 : Hid (Below w.heap.size w w1) := by rw [hw1]; exact (Below.refl _ _).alloc (Nat.le_refl _) _
  have z1 : w.heap.size < w1.heap.size := by rw [hw1]; simp
  have HK : Hid (∀ V, Below w1.heap.size w1 V → V.cell? ⟨w.heap.size, 0, none⟩ = some (.int .i64 key) ∧ V.cell? ⟨w.heap.size, 1, none⟩ = some (.slice a nl cap) ∧ V.cell? ⟨w.heap.size, 2, none⟩ = some (.int .i64 sk) ∧ V.cell? ⟨w.heap.size, 3, none⟩ = some (.int .i64 se) ∧ V.cell? ⟨w.heap.size, 4, none⟩ = some (.int .i64 ss)) := fun V hV => by
    have hP := (hV.block _ z1).trans r0
    exact ⟨rowFacts hP 0 _ rfl, rowFacts hP 1 _ rfl, rowFacts hP 2 _ rfl, rowFacts hP 3 _ rfl, rowFacts hP 4 _ rfl⟩
  have HA : Hid (∀ V, Below w1.heap.size w1 V → IsStrs V a names) := fun V hV => (ha.keep B1.out).keep hV
  have HB : Hid (∀ V, Below w1.heap.size w1 V → Below w.heap.size w V) := fun V hV => B1.out.trans (hV.mono B1.out.size)
  have I1 : Hid (Below w1.heap.size w1 w1) := Below.refl _ _
  have D1 : Hid (Below w1.heap.size w1 w1.drew) := I1.out.drew
  clear r0 z1 B1 ha
  go_enter Tryz.func17, Tryz.ntmps17
  go_upto_region 1 with fail
  rw [← hw1]
  clear hw1
  obtain ⟨c0, c1, c2, c3, c4⟩ := HK.out w1 I1.out
  go_wp2_with fail
  refine (HP.out _ (HA.out _ I1.out)).mono ?_
  rintro e w2 ⟨rfl, b2⟩
  have K2 : Hid (Below w1.heap.size w1 w2) := b2
  clear b2 c0 c1 c2 c3 c4
  cases P with
  | false =>
    have HF : Hid (R = ⟨#[]⟩) := HN.out rfl
    go_wp2
    go_ret
    exact ⟨by rw [HF.out]; rfl, HB.out _ K2.out⟩
  | true =>
  have Q1 := HQ.out rfl
  have HQ' : Hid _ := Q1
  clear Q1 HQ HP HN
  obtain ⟨c0, c1, c2, c3, c4⟩ := HK.out w2 K2.out
  go_wp2_with fail
  refine (HQ'.out _ (HA.out _ K2.out)).mono ?_
  rintro e w3 ⟨rfl, b3⟩
  have K3 : Hid (Below w1.heap.size w1 w3) := K2.out.trans (b3.mono K2.out.size)
  clear b3
  go_wp2
  go_ret
  exact ⟨rfl, HB.out _ K3.out⟩
end Go.Proofs.YthofeoelndplpaaGreatDoor
namespace Go.Proofs.YthofeoelndplpaaGreatDoor
open Go.RowKit

theorem isLetter (n : Int) (w : World) : Calls Tryz.prog 126 #[.int .u8 n] w fun e w' => e = .returned (.bool (decide (97 ≤ n) && decide (n ≤ 122))) ∧ w' = w := by
  by_cases h1 : 97 ≤ n
  · by_cases h2 : n ≤ 122
    all_goals
      go_enter Tryz.func126, Tryz.ntmps126
      go_wp2
      go_ret
      exact ⟨by simp [h1, h2], rfl⟩
  · go_enter Tryz.func126, Tryz.ntmps126
    go_wp2
    go_ret
    exact ⟨by simp; omega, rfl⟩
theorem isDigit (n : Int) (w : World) : Calls Tryz.prog 127 #[.int .u8 n] w fun e w' => e = .returned (.bool (decide (48 ≤ n) && decide (n ≤ 57))) ∧ w' = w := by
  by_cases h1 : 48 ≤ n
  · by_cases h2 : n ≤ 57
    all_goals
      go_enter Tryz.func127, Tryz.ntmps127
      go_wp2
      go_ret
      exact ⟨by simp [h1, h2], rfl⟩
  · go_enter Tryz.func127, Tryz.ntmps127
    go_wp2
    go_ret
    exact ⟨by simp; omega, rfl⟩

set_option maxHeartbeats 1000000 in
theorem implName (s : ByteArray) (w : World) (hs : s.size ≤ maxLen) :
    Calls Tryz.prog 107 #[.string s] w fun e w' => AnsB (NameOk s) e ∧ w' = w := by
  unfold maxLen at hs
  by_cases h1 : s.size < 1
  · go_enter Tryz.func107, Tryz.ntmps107
    go_wp2
    go_ret
    exact ⟨AnsB.no (fun h => by have := h.1; omega) rfl, rfl⟩
  by_cases h2 : 40 < s.size
  · go_enter Tryz.func107, Tryz.ntmps107
    go_wp2
    go_ret
    exact ⟨AnsB.no (fun h => by have := h.2.1; omega) rfl, rfl⟩
  have hp : 0 < s.size := by omega
  by_cases h3 : OkAt s 0 hp
  rotate_left
  · rcases cls (s[0].toNat : Int) with ⟨c, e1, e2, e3, e4, e5⟩ | ⟨c, e1, e2, e3, e4, e5⟩ | ⟨c, e1, e2, e3, e4, e5⟩ | ⟨c, e1, e2, e3, e4, e5⟩ | ⟨c, e1, e2, e3, e4, e5⟩ | ⟨c, e1, e2, e3, e4, e5⟩ | ⟨c, e1, e2, e3, e4, e5⟩
    all_goals
      first
        | (exfalso; exact h3 (by unfold OkAt OkN; omega))
        | (go_enter Tryz.func107, Tryz.ntmps107
           go_wp2
           go_ret
           exact ⟨AnsB.no (name_no s 0 hp h3) rfl, rfl⟩)
  have hc : 97 ≤ (s[0].toNat : Int) ∧ (s[0].toNat : Int) ≤ 122 := by unfold OkAt OkN at h3; omega
  obtain ⟨c1, c2⟩ := hc
  have H3 : Hid (OkAt s 0 hp) := h3
  clear h3
  go_enter Tryz.func107, Tryz.ntmps107
  go_wp2
  go_loop [3] (fun i => ∃ k : Nat, 1 ≤ k ∧ k ≤ s.size ∧ i = .int .i64 k ∧ OkTo s k) (fun i => s.size - (intOf i).toNat)
  case atStart => exact ⟨1, by omega, by omega, rfl, okTo_succ s 0 hp (okTo_zero s) H3.out⟩
  case round =>
    obtain ⟨k, hk1, hk, rfl, hok⟩ := hrel
    have HO : Hid (OkTo s k) := hok
    clear hok
    by_cases hlt : k < s.size
    · rcases cls (s[k].toNat : Int) with ⟨c, e1, e2, e3, e4, e5⟩ | ⟨c, e1, e2, e3, e4, e5⟩ | ⟨c, e1, e2, e3, e4, e5⟩ | ⟨c, e1, e2, e3, e4, e5⟩ | ⟨c, e1, e2, e3, e4, e5⟩ | ⟨c, e1, e2, e3, e4, e5⟩ | ⟨c, e1, e2, e3, e4, e5⟩
      all_goals
        go_wp2
        first
          | (go_ret; exact ⟨AnsB.no (name_no s k hlt (by unfold OkAt OkN; omega)) rfl, rfl⟩)
          | exact ⟨⟨k + 1, by omega, by omega, by go_num, okTo_succ s k hlt HO.out (by unfold OkAt OkN; omega)⟩, by simp [intOf]; omega⟩
    · go_wp2
      go_ret
      have e : k = s.size := by omega
      have hf := HO.out
      rw [e] at hf
      exact ⟨AnsB.yes ⟨by omega, by omega, hf⟩ rfl, rfl⟩
end Go.Proofs.YthofeoelndplpaaGreatDoor
namespace Go.Proofs.YthofeoelndplpaaGreatDoor
open Go.RowKit

theorem implTime (n : Int) (w : World) :
    Calls Tryz.prog 108 #[.int .i64 n] w fun e w' => e = .returned (.bool (timeB n)) ∧ w' = w := by
  by_cases h0 : 0 ≤ n
  · by_cases h1 : n ≤ 1000000000
    · have HF : Hid (timeB n = true) := by show _ = _; simp [timeB, h0, h1]
      go_enter Tryz.func108, Tryz.ntmps108
      go_wp2
      go_ret
      exact ⟨by rw [HF.out]; rfl, rfl⟩
    · have HF : Hid (timeB n = false) := by show _ = _; simp [timeB, h1]
      go_enter Tryz.func108, Tryz.ntmps108
      go_wp2
      go_ret
      exact ⟨by rw [HF.out]; rfl, rfl⟩
  · have HF : Hid (timeB n = false) := by show _ = _; simp [timeB, h0]
    go_enter Tryz.func108, Tryz.ntmps108
    go_wp2
    go_ret
    exact ⟨by rw [HF.out]; rfl, rfl⟩
theorem implSerial (n : Int) (w : World) :
    Calls Tryz.prog 128 #[.int .i64 n] w fun e w' => e = .returned (.bool (serB n)) ∧ w' = w := by
  by_cases h0 : 1 ≤ n
  · by_cases h1 : n ≤ 1000000000
    · have HF : Hid (serB n = true) := by show _ = _; simp [serB, h0, h1]
      go_enter Tryz.func128, Tryz.ntmps128
      go_wp2
      go_ret
      exact ⟨by rw [HF.out]; rfl, rfl⟩
    · have HF : Hid (serB n = false) := by show _ = _; simp [serB, h1]
      go_enter Tryz.func128, Tryz.ntmps128
      go_wp2
      go_ret
      exact ⟨by rw [HF.out]; rfl, rfl⟩
  · have HF : Hid (serB n = false) := by show _ = _; simp [serB, h0]
    go_enter Tryz.func128, Tryz.ntmps128
    go_wp2
    go_ret
    exact ⟨by rw [HF.out]; rfl, rfl⟩
theorem implNameB (s : ByteArray) (w : World) (hs : s.size ≤ maxLen) :
    Calls Tryz.prog 107 #[.string s] w fun e w' => e = .returned (.bool (nameB s)) ∧ w' = w :=
  (implName s w hs).mono fun _ _ h => ⟨ans_name h.1, h.2⟩
end Go.Proofs.YthofeoelndplpaaGreatDoor
